/-
  A cache that nobody made: what its methods answer.
-/
import Derived.Test.YtdjebcfpodfhhaaChA
namespace Go.Proofs.Ytdjebcfpodfhhaa
open Go Go.RowKit

theorem run_equalIn_nil_pointer {P : Program} (w : World) (d : Nat) (t te : TypeId) (p : Option Addr) (h : P.underlying t = some (.pointer te)) :
    (Op.equalIn (d + 1) t (.pointer none) (.pointer p)).run P w = .ok p.isNone w := by
  cases p <;> simp [Op.equalIn, run_underlying h]
theorem run_eql_nil_pointer {P : Program} (w : World) (t te : TypeId) (p : Option Addr) (h : P.underlying t = some (.pointer te)) :
    (binOp .eql t (.pointer none) (.pointer p)).run P w = .ok (.bool p.isNone) w := by
  simp only [binOp]
  simp [Op.equal, Op.maxDepth, run_equalIn_nil_pointer w 9999 t te p h]
/-- No cache, or one that nobody made. -/
def NotMade (w : World) (v : Value) : Prop := v = .pointer none ∨ ∃ b, v = .pointer (some ⟨b, 0, none⟩) ∧ b < w.heap.size ∧ w.cell? ⟨b, 0, none⟩ = some (.pointer none)
theorem NotMade.alloc {w : World} {v : Value} (h : NotMade w v) (o : Obj) : NotMade (w.alloc o) v := by
  rcases h with h | ⟨b, h, hl, hc⟩
  · exact .inl h
  · exact .inr ⟨b, h, by simp; omega, by rw [World.cell?_alloc_lt _ _ _ hl]; exact hc⟩
/-- A call that answers and leaves the world as it is. -/
abbrev Says (f : Nat) (args : Array Value) (w : World) (v : Value) : Prop := Calls Try.prog f args w fun e w' => e = .returned v ∧ w = w'
/-- A call that answers and makes new blocks at most. -/
abbrev Tells (f : Nat) (args : Array Value) (w : World) (v : Value) : Prop := Calls Try.prog f args w fun e w' => e = .returned v ∧ Below w.heap.size w w'
set_option maxRecDepth 100000 in
theorem made_no (w : World) (v : Value) (h : NotMade w v) : Says 29 #[v] w (.bool false) := by
  rcases h with rfl | ⟨b, rfl, -, hb⟩
  · go_enter Try.func29, Try.ntmps29
    go_wp2_with fail
    go_ret
    exact ⟨rfl, rfl⟩
  · have q := fun W : World => run_eql_nil_pointer W 24 _ (some ⟨b, 0, none⟩) Try.underlying24
    go_enter Try.func29, Try.ntmps29
    go_wp2_with fail
    go_ret
    exact ⟨rfl, rfl⟩
set_option maxRecDepth 100000 in
theorem room_no (w : World) (v : Value) (h : NotMade w v) : Says 16 #[v] w (.int .i64 0) := by
  have HM := Lib.hid (made_no w v h)
  clear h
  go_enter Try.func16, Try.ntmps16
  go_wp2_with fail
  refine HM.out.mono ?_
  rintro e w1 ⟨rfl, rfl⟩
  go_wp2_with fail
  go_ret
  exact ⟨rfl, rfl⟩
set_option maxRecDepth 100000 in
theorem keys_no (w : World) (v : Value) (h : NotMade w v) : Says 13 #[v] w (.slice none 0 0) := by
  have HM := Lib.hid (made_no w v h)
  clear h
  go_enter Try.func13, Try.ntmps13
  go_wp2_with fail
  refine HM.out.mono ?_
  rintro e w1 ⟨rfl, rfl⟩
  go_wp2_with fail
  go_ret
  exact ⟨rfl, rfl⟩
set_option maxRecDepth 100000 in
theorem stats_no (w : World) (v : Value) (h : NotMade w v) : Tells 15 #[v] w (.agg #[.int .i64 0, .int .i64 0, .int .i64 0]) := by
  have HM := Lib.hid (made_no (w.alloc (.cells #[.int .i64 0, .int .i64 0, .int .i64 0] 42)) v (h.alloc _))
  clear h
  go_enter Try.func15, Try.ntmps15
  go_wp2_with fail
  refine HM.out.mono ?_
  rintro e w1 ⟨rfl, rfl⟩
  go_wp2_with fail
  exact bodyPost_ret (v := .agg #[.int .i64 0, .int .i64 0, .int .i64 0]) (by simp [results, Try.results15, go_sem]) rfl ⟨rfl, by simp [Below.refl, Below.alloc]⟩
set_option maxRecDepth 100000 in
theorem put_no (w : World) (v : Value) (r : ByteArray) (i : Int) (p : Value) (h : NotMade w v) : Tells 17 #[v, .agg #[.string r, .int .i64 i], p] w (.tuple #[]) := by
  have HM := Lib.hid (made_no (w.alloc (.cells #[.string r, .int .i64 i] 33)) v (h.alloc _))
  clear h
  go_enter Try.func17, Try.ntmps17
  go_wp2_with fail
  refine HM.out.mono ?_
  rintro e w1 ⟨rfl, rfl⟩
  go_wp2_with fail
  exact bodyPost_ret (v := .tuple #[]) (by simp [results, Try.results17, go_sem]) rfl ⟨rfl, (Below.refl _ _).alloc (Nat.le_refl _) _⟩
set_option maxRecDepth 100000 in
theorem get_no (w : World) (v : Value) (r : ByteArray) (i : Int) (h : NotMade w v) : Tells 20 #[v, .agg #[.string r, .int .i64 i]] w (.tuple #[.slice none 0 0, .bool false]) := by
  have HM := Lib.hid (made_no (w.alloc (.cells #[.string r, .int .i64 i] 33)) v (h.alloc _))
  clear h
  go_enter Try.func20, Try.ntmps20
  go_wp2_with fail
  refine HM.out.mono ?_
  rintro e w1 ⟨rfl, rfl⟩
  go_wp2_with fail
  go_ret2
  exact ⟨rfl, (Below.refl _ _).alloc (Nat.le_refl _) _⟩
set_option maxRecDepth 100000 in
theorem drop_no (w : World) (v : Value) (s : ByteArray) (h : NotMade w v) : Tells 19 #[v, .string s] w (.int .i64 0) := by
  obtain ⟨q, rfl⟩ : ∃ q, v = .pointer q := by
    rcases h with rfl | ⟨b, rfl, -, -⟩
    · exact ⟨_, rfl⟩
    · exact ⟨_, rfl⟩
  have h1 := (h.alloc (.cells #[.pointer q] 24)).alloc (.cells #[.string s] 9)
  have HM := Lib.hid (made_no _ _ h1)
  clear h h1
  go_enter Try.func19, Try.ntmps19
  go_wp2_with fail
  refine HM.out.mono ?_
  rintro e w1 ⟨rfl, rfl⟩
  go_wp2_with fail
  go_ret
  exact ⟨rfl, ((Below.refl _ _).alloc (Nat.le_refl _) _).alloc (by simp) _⟩
end Go.Proofs.Ytdjebcfpodfhhaa
