/-
  A disk that nobody made: what its methods answer.
  Maps whose elements are any values: the library's word for a map, with a reader that keeps the very value.
  A new disk: empty, New. What a disk is made of.
-/
import Derived.Test.YtdjhfcopnhcljaaGreatDoorRows
import Derived.WalkKit
import Derived.WalkSpells
import Derived.WalkLawsBesides
import Derived.Lib.Hide
import Derived.Maps.OwnSet
import Derived.Maps.OwnOps
import Derived.Maps.RangeWalk
import Derived.Below
import Derived.LaidEqlPtr
namespace Go.Proofs.YtdjhfcopnhcljaaGreatDoor
section
open Go Go.RowKit

theorem run_equalIn_nil_pointer {P : Program} (w : World) (d : Nat) (t te : TypeId) (p : Option Addr) (h : P.underlying t = some (.pointer te)) :
    (Op.equalIn (d + 1) t (.pointer none) (.pointer p)).run P w = .ok p.isNone w := by
  cases p <;> simp [Op.equalIn, run_underlying h]
theorem run_eql_nil_pointer {P : Program} (w : World) (t te : TypeId) (p : Option Addr) (h : P.underlying t = some (.pointer te)) :
    (binOp .eql t (.pointer none) (.pointer p)).run P w = .ok (.bool p.isNone) w := by
  simp only [binOp]
  simp [Op.equal, Op.maxDepth, run_equalIn_nil_pointer w 9999 t te p h]
/-- No disk, or one that nobody made. -/
def NotMade (w : World) (v : Value) : Prop := v = .pointer none ∨ ∃ b, v = .pointer (some ⟨b, 0, none⟩) ∧ b < w.heap.size ∧ w.cell? ⟨b, 0, none⟩ = some (.pointer none)
theorem NotMade.alloc {w : World} {v : Value} (h : NotMade w v) (o : Obj) : NotMade (w.alloc o) v := by
  rcases h with h | ⟨b, h, hl, hc⟩
  · exact .inl h
  · exact .inr ⟨b, h, by simp; omega, by rw [World.cell?_alloc_lt _ _ _ hl]; exact hc⟩
/-- A call that answers and leaves the world as it is. -/
abbrev Says (f : Nat) (args : Array Value) (w : World) (v : Value) : Prop := Calls Tryz.prog f args w fun e w' => e = .returned v ∧ w = w'
set_option maxRecDepth 100000 in
theorem made_no (w : World) (v : Value) (h : NotMade w v) : Says 83 #[v] w (.bool false) := by
  rcases h with rfl | ⟨b, rfl, -, hb⟩
  · go_enter Tryz.func83, Tryz.ntmps83
    go_wp2_with fail
    go_ret
    exact ⟨rfl, rfl⟩
  · have q := fun W : World => run_eql_nil_pointer W 43 _ (some ⟨b, 0, none⟩) Tryz.underlying43
    go_enter Tryz.func83, Tryz.ntmps83
    go_wp2_with fail
    go_ret
    exact ⟨rfl, rfl⟩
theorem down_no (w : World) (v : Value) (h : NotMade w v) : Says 118 #[v] w (.bool false) := by
  have HM := Lib.hid (made_no w v h)
  clear h
  go_enter Tryz.func118, Tryz.ntmps118
  go_wp2_with fail
  refine HM.out.mono ?_
  rintro e w1 ⟨rfl, rfl⟩
  go_wp2_with fail
  first | go_ret | go_ret2 | go_ret3
  exact ⟨rfl, rfl⟩
theorem ready_no (w : World) (v : Value) (h : NotMade w v) : Says 57 #[v] w (.int .i64 4) := by
  have HM := Lib.hid (made_no w v h)
  clear h
  go_enter Tryz.func57, Tryz.ntmps57
  go_wp2_with fail
  refine HM.out.mono ?_
  rintro e w1 ⟨rfl, rfl⟩
  go_wp2_with fail
  first | go_ret | go_ret2 | go_ret3
  exact ⟨rfl, rfl⟩
theorem used_no (w : World) (v : Value) (h : NotMade w v) : Says 123 #[v] w (.tuple #[.int .i64 0, .int .i64 0]) := by
  have HM := Lib.hid (made_no w v h)
  clear h
  go_enter Tryz.func123, Tryz.ntmps123
  go_wp2_with fail
  refine HM.out.mono ?_
  rintro e w1 ⟨rfl, rfl⟩
  go_wp2_with fail
  first | go_ret | go_ret2 | go_ret3
  exact ⟨rfl, rfl⟩
theorem loose_no (w : World) (v : Value) (h : NotMade w v) : Says 29 #[v] w (.tuple #[.int .i64 0, .int .i64 0, .int .i64 0]) := by
  have HM := Lib.hid (made_no w v h)
  clear h
  go_enter Tryz.func29, Tryz.ntmps29
  go_wp2_with fail
  refine HM.out.mono ?_
  rintro e w1 ⟨rfl, rfl⟩
  go_wp2_with fail
  first | go_ret | go_ret2 | go_ret3
  exact ⟨rfl, rfl⟩
theorem create_no (w : World) (v : Value) (s : Value) (h : NotMade w v) : Says 22 #[v, s] w (.int .i64 4) := by
  have HM := Lib.hid (ready_no w v h)
  clear h
  go_enter Tryz.func22, Tryz.ntmps22
  go_wp2_with fail
  refine HM.out.mono ?_
  rintro e w1 ⟨rfl, rfl⟩
  go_wp2_with fail
  first | go_ret | go_ret2 | go_ret3
  exact ⟨rfl, rfl⟩
theorem write_no (w : World) (v : Value) (s a b : Value) (h : NotMade w v) : Says 70 #[v, s, a, b] w (.int .i64 4) := by
  have HM := Lib.hid (ready_no w v h)
  clear h
  go_enter Tryz.func70, Tryz.ntmps70
  go_wp2_with fail
  refine HM.out.mono ?_
  rintro e w1 ⟨rfl, rfl⟩
  go_wp2_with fail
  first | go_ret | go_ret2 | go_ret3
  exact ⟨rfl, rfl⟩
theorem sync_no (w : World) (v : Value) (s : Value) (h : NotMade w v) : Says 71 #[v, s] w (.int .i64 4) := by
  have HM := Lib.hid (ready_no w v h)
  clear h
  go_enter Tryz.func71, Tryz.ntmps71
  go_wp2_with fail
  refine HM.out.mono ?_
  rintro e w1 ⟨rfl, rfl⟩
  go_wp2_with fail
  first | go_ret | go_ret2 | go_ret3
  exact ⟨rfl, rfl⟩
theorem read_no (w : World) (v : Value) (s a b : Value) (h : NotMade w v) : Says 78 #[v, s, a, b] w (.tuple #[.slice none 0 0, .int .i64 4]) := by
  have HM := Lib.hid (made_no w v h)
  clear h
  go_enter Tryz.func78, Tryz.ntmps78
  go_wp2_with fail
  refine HM.out.mono ?_
  rintro e w1 ⟨rfl, rfl⟩
  go_wp2_with fail
  first | go_ret | go_ret2 | go_ret3
  exact ⟨rfl, rfl⟩
theorem size_no (w : World) (v : Value) (s : Value) (h : NotMade w v) : Says 77 #[v, s] w (.tuple #[.int .i64 0, .int .i64 4]) := by
  have HM := Lib.hid (made_no w v h)
  clear h
  go_enter Tryz.func77, Tryz.ntmps77
  go_wp2_with fail
  refine HM.out.mono ?_
  rintro e w1 ⟨rfl, rfl⟩
  go_wp2_with fail
  first | go_ret | go_ret2 | go_ret3
  exact ⟨rfl, rfl⟩
end
section
open Go Go.RowKit Go.Maps

def heldE (v : Value) : Option (DataW Value × List MemPlace) := some (.held v, [])
theorem heldE_inv {v : Value} {y : DataW Value × List MemPlace} (h : heldE v = some y) : y = (.held v, []) := (Option.some.inj h).symm
/-- Block b is a map of at most n entries: just those of D. -/
def MapAt (w : World) (P : Program) (k : TypeId) (b n : Nat) (D : DataW Value) : Prop := w.ownsMap P k heldE b n D
section
variable {P : Program} (w : World) {ops : Array Oper} {rest : List Oper} {o : Oper} {a : Act} {Q : Exit → Act → World → Prop}
theorem wpList_lookup_any (hg : o.guard = none) (m x : Operand) (t : TypeId) (hop : o.op = Op.lookup t m x false)
    (k e : TypeId) (K : Keyed P k) (ht : P.underlying t = some (.map k e)) (z v : Value) (hz : (zeroValue e).run P w = .ok z w) (b n : Nat) (D : DataW Value)
    (hm : a.eval m = .map (some b)) (hown : MapAt w P k b n D) (key : Value) (kl : Lit) (hx : a.eval x = key) (hkey : keyOf P k key = some kl) (hat : D.atKey kl (.held z) = .held v)
    (hK : wpList P ops Q rest (a.put o.dst v) w) : wpList P ops Q (o :: rest) a w := by
  refine wpList_plain hg fun K' hK' => ?_
  obtain ⟨u, ps, hrun, hu⟩ := World.ownsMap.lookup hown K ht hz (zd := .held z) (zp := []) rfl hkey
  have := heldE_inv hu
  rw [hat] at this
  injection this with this _
  injection this with this
  subst this
  unfold Oper.wp
  simp [execOp, hop, hm, hx, hrun, Result.andThen]
  exact hK' _ _ hK
theorem wpList_lookup_ok_any (hg : o.guard = none) (m x : Operand) (t : TypeId) (hop : o.op = Op.lookup t m x true)
    (k e : TypeId) (K : Keyed P k) (ht : P.underlying t = some (.map k e)) (z v : Value) (hz : (zeroValue e).run P w = .ok z w) (b n : Nat) (D : DataW Value)
    (hm : a.eval m = .map (some b)) (hown : MapAt w P k b n D) (key : Value) (kl : Lit) (hx : a.eval x = key) (hkey : keyOf P k key = some kl) (hat : D.atKey kl (.held z) = .held v) (c : Bool) (hc : Maps.has D kl = c)
    (hK : wpList P ops Q rest (a.put o.dst (.tuple #[v, .bool c])) w) : wpList P ops Q (o :: rest) a w := by
  refine wpList_plain hg fun K' hK' => ?_
  obtain ⟨u, ps, hrun, hu⟩ := World.ownsMap.look_ok hown K ht hz (zd := .held z) (zp := []) rfl hkey
  have := heldE_inv hu
  rw [hat] at this
  injection this with this _
  injection this with this
  subst this hc
  unfold Oper.wp
  simp [execOp, hop, hm, hx, hrun, Result.andThen]
  exact hK' _ _ hK
theorem wpList_store_any (hg : o.guard = none) (m x v : Operand) (t : TypeId) (hop : o.op = Op.mapUpdate t m x v)
    (k e : TypeId) (K : Keyed P k) (ht : P.underlying t = some (.map k e)) (b n : Nat) (D : DataW Value)
    (hm : a.eval m = .map (some b)) (hown : MapAt w P k b n D) (hn : n < maxLen) (key val : Value) (kl : Lit) (hx : a.eval x = key) (hv : a.eval v = val) (hkey : keyOf P k key = some kl)
    (hK : ∀ w', MapAt w' P k b (n + 1) (D.put kl (.held val)) → w.grownBy w' (some b) → wpList P ops Q rest (a.put o.dst undef) w') : wpList P ops Q (o :: rest) a w :=
  wpList_mapUpdate_own w hg m x v t hop k e K ht heldE b n D hm hown hn key val kl hx hv hkey (.held val) [] rfl hK
end
theorem MapAt.made (w : World) (P : Program) (k : TypeId) : MapAt (w.alloc (.map #[] 0)) P k w.heap.size 0 (.map []) := World.ownsMap_made w P k heldE
theorem MapAt.kept {w w' : World} {P : Program} {k b n : Nat} {D : DataW Value} {row : Option Nat} (h : MapAt w P k b n D) (hg : w.grownBy w' row) (hne : some b ≠ row) : MapAt w' P k b n D := World.ownsMap.kept h hg hne
theorem MapAt.alloc {w : World} {P : Program} {k b n : Nat} {D : DataW Value} (h : MapAt w P k b n D) (o : Obj) : MapAt (w.alloc o) P k b n D := World.ownsMap.alloc h o
theorem MapAt.setCell {w : World} {P : Program} {k b n : Nat} {D : DataW Value} (h : MapAt w P k b n D) {a : Addr} (ha : b ≠ a.block) (u : Value) : MapAt (w.setCell a u) P k b n D := World.ownsMap.setCell h ha u
theorem MapAt.lt {w : World} {P : Program} {k b n : Nat} {D : DataW Value} (h : MapAt w P k b n D) : b < w.heap.size := World.ownsMap.lt h
theorem MapAt.below {w w' : World} {P : Program} {k b n m : Nat} {D : DataW Value} (h : MapAt w P k b n D) (hb : Below m w w') (hl : b < m) : MapAt w' P k b n D := by
  obtain ⟨es, c, h1, h2⟩ := h
  exact ⟨es, c, (hb.block b hl).trans h1, h2⟩
theorem run_update_any {P : Program} (w : World) {t k e : TypeId} (K : Keyed P k) (ht : P.underlying t = some (.map k e)) {b n : Nat} {D : DataW Value} (hown : MapAt w P k b n D) (hn : n < maxLen) {key val : Value} {kl : Lit} (hkey : keyOf P k key = some kl) :
    ∃ w', (Instr.mapUpdate t (.map (some b)) key val).run P w = .ok () w' ∧ MapAt w' P k b (n + 1) (D.put kl (.held val)) ∧ w.grownBy w' (some b) :=
  World.ownsMap.update hown K ht hn hkey rfl
theorem own_blockD {w : World} {B : Nat} {e : TypeId} {s n : Nat} {v : Value} {xs : List Value} (h : w.ownsRow B e s v n xs) : ∀ j, v.ownBlock = some j → B ≤ j ∧ ∃ cur, w.heap[j]? = some (.cells cur e (0, 0)) := by
  intro j hj
  rcases h.2 with ⟨rfl, -⟩ | ⟨g, cap, cur, rfl, hB', hg', -⟩
  · cases hj
  · cases hj
    exact ⟨hB', cur, hg'⟩
end
section
open Go Go.RowKit Go.Maps

/-- The cells of a disk that was made. -/
def DkAt (w : World) (d : Nat) (room next : Int) (F O D X : Nat) (chg : Value) (fused : Bool) (left : Int) : Prop :=
  w.heap[d]? = some (.cells #[.pointer (some ⟨d, 0, none⟩), .int .i64 room, .int .i64 next, .map (some F), .map (some O), .map (some D), .map (some X), chg, .bool fused, .int .i64 left] 132 (0, 0))
/-- A disk that has just been made, and nothing else. -/
structure NewDk (w w' : World) (room : Int) : Prop where
  below : Below w.heap.size w w'
  size : w'.heap.size = w.heap.size + 5
  disk : DkAt w' (w.heap.size + 4) room 0 w.heap.size (w.heap.size + 1) (w.heap.size + 2) (w.heap.size + 3) (.slice none 0 0) false 0
  files : MapAt w' Tryz.prog 3 w.heap.size 0 (.map [])
  olds : MapAt w' Tryz.prog 225 (w.heap.size + 1) 0 (.map [])
  dir : MapAt w' Tryz.prog 9 (w.heap.size + 2) 0 (.map [])
  fixed : MapAt w' Tryz.prog 9 (w.heap.size + 3) 0 (.map [])
theorem newDk_mk (w : World) (room : Int) : NewDk w (((((w.alloc (.map #[] 0)).alloc (.map #[] 0)).alloc (.map #[] 0)).alloc (.map #[] 0)).alloc (.cells #[.pointer (some ⟨w.heap.size + 1 + 1 + 1 + 1, 0, none⟩), .int .i64 room, .int .i64 0, .map (some w.heap.size), .map (some (w.heap.size + 1)), .map (some (w.heap.size + 1 + 1)), .map (some (w.heap.size + 1 + 1 + 1)), .slice none 0 0, .bool false, .int .i64 0] 132)) room := by
  have m0 : MapAt (w.alloc (.map #[] 0)) Tryz.prog 3 w.heap.size 0 (.map []) := MapAt.made w _ _
  have m1 : MapAt ((w.alloc (.map #[] 0)).alloc (.map #[] 0)) Tryz.prog 225 (w.heap.size + 1) 0 (.map []) := by simpa using MapAt.made (w.alloc (.map #[] 0)) Tryz.prog 225
  have m2 : MapAt (((w.alloc (.map #[] 0)).alloc (.map #[] 0)).alloc (.map #[] 0)) Tryz.prog 9 (w.heap.size + 2) 0 (.map []) := by simpa using MapAt.made ((w.alloc (.map #[] 0)).alloc (.map #[] 0)) Tryz.prog 9
  have m3 : MapAt ((((w.alloc (.map #[] 0)).alloc (.map #[] 0)).alloc (.map #[] 0)).alloc (.map #[] 0)) Tryz.prog 9 (w.heap.size + 3) 0 (.map []) := by simpa using MapAt.made (((w.alloc (.map #[] 0)).alloc (.map #[] 0)).alloc (.map #[] 0)) Tryz.prog 9
  refine ⟨?_, by simp, ?_, (((m0.alloc _).alloc _).alloc _).alloc _, ((m1.alloc _).alloc _).alloc _, (m2.alloc _).alloc _, m3.alloc _⟩
  · exact (((((Below.refl _ _).alloc (Nat.le_refl _) _).alloc (by simp) _).alloc (by simp; omega) _).alloc (by simp; omega) _).alloc (by simp; omega) _
  · have h := heap_alloc_new ((((w.alloc (.map #[] 0)).alloc (.map #[] 0)).alloc (.map #[] 0)).alloc (.map #[] 0)) (.cells #[.pointer (some ⟨w.heap.size + 1 + 1 + 1 + 1, 0, none⟩), .int .i64 room, .int .i64 0, .map (some w.heap.size), .map (some (w.heap.size + 1)), .map (some (w.heap.size + 1 + 1)), .map (some (w.heap.size + 1 + 1 + 1)), .slice none 0 0, .bool false, .int .i64 0] 132)
    have e : ((((w.alloc (.map #[] 0)).alloc (.map #[] 0)).alloc (.map #[] 0)).alloc (.map #[] 0)).heap.size = w.heap.size + 4 := by simp
    rw [e] at h
    exact h
set_option maxRecDepth 100000 in
theorem empty_any (w : World) (room : Int) : Calls Tryz.prog 56 #[.int .i64 room] w fun e w' => e = .returned (.pointer (some ⟨w.heap.size + 4, 0, none⟩)) ∧ NewDk w w' room := by
  have hmm := @run_makeMap Tryz.prog
  go_enter Tryz.func56, Tryz.ntmps56
  go_wp2_with fail
  go_ret
  exact ⟨by simp, newDk_mk w room⟩
set_option maxRecDepth 100000 in
theorem new_any (w : World) (room : Int) (h1 : 1 ≤ room) (h2 : room ≤ 1048576) : Calls Tryz.prog 20 #[.int .i64 room] w fun e w' => e = .returned (.tuple #[.pointer (some ⟨w.heap.size + 4, 0, none⟩), .int .i64 0]) ∧ NewDk w w' room := by
  have HE := Lib.hid (empty_any w room)
  have h1' : ¬ room < 1 := by omega
  have h2' : ¬ (1048576 : Int) < room := by omega
  go_enter Tryz.func20, Tryz.ntmps20
  go_wp2_with fail
  refine HE.out.mono ?_
  rintro e w1 ⟨rfl, hn⟩
  have HN := Lib.hid hn
  clear hn
  go_wp2_with fail
  go_ret2
  exact ⟨rfl, HN.out⟩
end
end Go.Proofs.YtdjhfcopnhcljaaGreatDoor
