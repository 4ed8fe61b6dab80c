/-
  A disk that nobody made: what its methods answer.
-/
import Derived.Test.YtnmeehhjfcciiaaRows
import Derived.WalkKit
import Derived.WalkSpells
import Derived.WalkLawsBesides
import Derived.Lib.Hide
namespace Go.Proofs.Ytnmeehhjfcciiaa
open Go Go.RowKit

theorem run_equalIn_nil_pointer {P : Program} (w : World) (d : Nat) (t te : TypeId) (p : Option Addr) (h : P.underlying t = some (.pointer te)) :
    (Op.equalIn (d + 1) t (.pointer none) (.pointer p)).run P w = .ok p.isNone w := by
  cases p <;> simp [Op.equalIn, run_underlying h]
theorem run_eql_nil_pointer {P : Program} (w : World) (t te : TypeId) (p : Option Addr) (h : P.underlying t = some (.pointer te)) :
    (binOp .eql t (.pointer none) (.pointer p)).run P w = .ok (.bool p.isNone) w := by
  simp only [binOp]
  simp [Op.equal, Op.maxDepth, run_equalIn_nil_pointer w 9999 t te p h]
/-- No disk, or one that nobody made. -/
def NotMade (w : World) (v : Value) : Prop := v = .pointer none ∨ ∃ b, v = .pointer (some ⟨b, 0, none⟩) ∧ b < w.heap.size ∧ w.cell? ⟨b, 0, none⟩ = some (.pointer none)
theorem NotMade.alloc {w : World} {v : Value} (h : NotMade w v) (o : Obj) : NotMade (w.alloc o) v := by
  rcases h with h | ⟨b, h, hl, hc⟩
  · exact .inl h
  · exact .inr ⟨b, h, by simp; omega, by rw [World.cell?_alloc_lt _ _ _ hl]; exact hc⟩
/-- A call that answers and leaves the world as it is. -/
abbrev Says (f : Nat) (args : Array Value) (w : World) (v : Value) : Prop := Calls Try.prog f args w fun e w' => e = .returned v ∧ w = w'
set_option maxRecDepth 100000 in
theorem made_no (w : World) (v : Value) (h : NotMade w v) : Says 32 #[v] w (.bool false) := by
  rcases h with rfl | ⟨b, rfl, -, hb⟩
  · go_enter Try.func32, Try.ntmps32
    go_wp2_with fail
    go_ret
    exact ⟨rfl, rfl⟩
  · have q := fun W : World => run_eql_nil_pointer W 30 _ (some ⟨b, 0, none⟩) Try.underlying30
    go_enter Try.func32, Try.ntmps32
    go_wp2_with fail
    go_ret
    exact ⟨rfl, rfl⟩
theorem down_no (w : World) (v : Value) (h : NotMade w v) : Says 43 #[v] w (.bool false) := by
  have HM := Lib.hid (made_no w v h)
  clear h
  go_enter Try.func43, Try.ntmps43
  go_wp2_with fail
  refine HM.out.mono ?_
  rintro e w1 ⟨rfl, rfl⟩
  go_wp2_with fail
  first | go_ret | go_ret2 | go_ret3
  exact ⟨rfl, rfl⟩
theorem ready_no (w : World) (v : Value) (h : NotMade w v) : Says 21 #[v] w (.int .i64 4) := by
  have HM := Lib.hid (made_no w v h)
  clear h
  go_enter Try.func21, Try.ntmps21
  go_wp2_with fail
  refine HM.out.mono ?_
  rintro e w1 ⟨rfl, rfl⟩
  go_wp2_with fail
  first | go_ret | go_ret2 | go_ret3
  exact ⟨rfl, rfl⟩
theorem fuse_no (w : World) (v : Value) (n : Value) (h : NotMade w v) : Says 13 #[v, n] w (.int .i64 4) := by
  have HM := Lib.hid (made_no w v h)
  clear h
  go_enter Try.func13, Try.ntmps13
  go_wp2_with fail
  refine HM.out.mono ?_
  rintro e w1 ⟨rfl, rfl⟩
  go_wp2_with fail
  first | go_ret | go_ret2 | go_ret3
  exact ⟨rfl, rfl⟩
theorem used_no (w : World) (v : Value) (h : NotMade w v) : Says 26 #[v] w (.tuple #[.int .i64 0, .int .i64 0]) := by
  have HM := Lib.hid (made_no w v h)
  clear h
  go_enter Try.func26, Try.ntmps26
  go_wp2_with fail
  refine HM.out.mono ?_
  rintro e w1 ⟨rfl, rfl⟩
  go_wp2_with fail
  first | go_ret | go_ret2 | go_ret3
  exact ⟨rfl, rfl⟩
theorem loose_no (w : World) (v : Value) (h : NotMade w v) : Says 14 #[v] w (.tuple #[.int .i64 0, .int .i64 0, .int .i64 0]) := by
  have HM := Lib.hid (made_no w v h)
  clear h
  go_enter Try.func14, Try.ntmps14
  go_wp2_with fail
  refine HM.out.mono ?_
  rintro e w1 ⟨rfl, rfl⟩
  go_wp2_with fail
  first | go_ret | go_ret2 | go_ret3
  exact ⟨rfl, rfl⟩
theorem create_no (w : World) (v : Value) (s : Value) (h : NotMade w v) : Says 6 #[v, s] w (.int .i64 4) := by
  have HM := Lib.hid (ready_no w v h)
  clear h
  go_enter Try.func6, Try.ntmps6
  go_wp2_with fail
  refine HM.out.mono ?_
  rintro e w1 ⟨rfl, rfl⟩
  go_wp2_with fail
  first | go_ret | go_ret2 | go_ret3
  exact ⟨rfl, rfl⟩
theorem write_no (w : World) (v : Value) (s a b : Value) (h : NotMade w v) : Says 7 #[v, s, a, b] w (.int .i64 4) := by
  have HM := Lib.hid (ready_no w v h)
  clear h
  go_enter Try.func7, Try.ntmps7
  go_wp2_with fail
  refine HM.out.mono ?_
  rintro e w1 ⟨rfl, rfl⟩
  go_wp2_with fail
  first | go_ret | go_ret2 | go_ret3
  exact ⟨rfl, rfl⟩
theorem sync_no (w : World) (v : Value) (s : Value) (h : NotMade w v) : Says 8 #[v, s] w (.int .i64 4) := by
  have HM := Lib.hid (ready_no w v h)
  clear h
  go_enter Try.func8, Try.ntmps8
  go_wp2_with fail
  refine HM.out.mono ?_
  rintro e w1 ⟨rfl, rfl⟩
  go_wp2_with fail
  first | go_ret | go_ret2 | go_ret3
  exact ⟨rfl, rfl⟩
theorem rename_no (w : World) (v : Value) (s a : Value) (h : NotMade w v) : Says 11 #[v, s, a] w (.int .i64 4) := by
  have HM := Lib.hid (ready_no w v h)
  clear h
  go_enter Try.func11, Try.ntmps11
  go_wp2_with fail
  refine HM.out.mono ?_
  rintro e w1 ⟨rfl, rfl⟩
  go_wp2_with fail
  first | go_ret | go_ret2 | go_ret3
  exact ⟨rfl, rfl⟩
theorem delete_no (w : World) (v : Value) (s : Value) (h : NotMade w v) : Says 12 #[v, s] w (.int .i64 4) := by
  have HM := Lib.hid (ready_no w v h)
  clear h
  go_enter Try.func12, Try.ntmps12
  go_wp2_with fail
  refine HM.out.mono ?_
  rintro e w1 ⟨rfl, rfl⟩
  go_wp2_with fail
  first | go_ret | go_ret2 | go_ret3
  exact ⟨rfl, rfl⟩
theorem syncdir_no (w : World) (v : Value) (h : NotMade w v) : Says 9 #[v] w (.int .i64 4) := by
  have HM := Lib.hid (ready_no w v h)
  clear h
  go_enter Try.func9, Try.ntmps9
  go_wp2_with fail
  refine HM.out.mono ?_
  rintro e w1 ⟨rfl, rfl⟩
  go_wp2_with fail
  first | go_ret | go_ret2 | go_ret3
  exact ⟨rfl, rfl⟩
theorem read_no (w : World) (v : Value) (s a b : Value) (h : NotMade w v) : Says 16 #[v, s, a, b] w (.tuple #[.slice none 0 0, .int .i64 4]) := by
  have HM := Lib.hid (made_no w v h)
  clear h
  go_enter Try.func16, Try.ntmps16
  go_wp2_with fail
  refine HM.out.mono ?_
  rintro e w1 ⟨rfl, rfl⟩
  go_wp2_with fail
  first | go_ret | go_ret2 | go_ret3
  exact ⟨rfl, rfl⟩
theorem size_no (w : World) (v : Value) (s : Value) (h : NotMade w v) : Says 17 #[v, s] w (.tuple #[.int .i64 0, .int .i64 4]) := by
  have HM := Lib.hid (made_no w v h)
  clear h
  go_enter Try.func17, Try.ntmps17
  go_wp2_with fail
  refine HM.out.mono ?_
  rintro e w1 ⟨rfl, rfl⟩
  go_wp2_with fail
  first | go_ret | go_ret2 | go_ret3
  exact ⟨rfl, rfl⟩
theorem lose_no (w : World) (v : Value) (cs : Array Value) (h : NotMade w v) : Calls Try.prog 15 #[v, .agg cs] w fun e w' => e = .returned (.tuple #[.pointer none, .int .i64 4]) ∧ w' = w.alloc (.cells cs 26) := by
  have HM := Lib.hid (made_no (w.alloc (.cells cs 26)) v (h.alloc _))
  clear h
  go_enter Try.func15, Try.ntmps15
  go_wp2_with fail
  refine HM.out.mono ?_
  rintro e w1 ⟨rfl, rfl⟩
  go_wp2_with fail
  go_ret2
  exact ⟨rfl, rfl⟩
end Go.Proofs.Ytnmeehhjfcciiaa
