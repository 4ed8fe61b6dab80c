/-
  The document's reader of tokens in memory: here, next, fault.
-/
import Derived.Test.YtnbaemfkpfmheaaGreatDoorG01
import Derived.Test.YtnbaemfkpfmheaaGreatDoorLxW
import Derived.Deep.QuietTactic
import Derived.BigQuiet
import Derived.Laws.Unary
namespace Go.Proofs.YtnbaemfkpfmheaaGreatDoor
open Go Go.RowKit

/-- The reader's block. -/
def RdAt (W : World) (b : Nat) (v : Value) (i e : Nat) (bad : Bool) (p : Nat) : Prop := W.heap[b]? = some (.cells #[v, .int .i64 i, .int .i64 e, .bool bad, .int .i64 p] 62 (0, 0))
theorem RdAt.cells {W : World} {b : Nat} {v : Value} {i e p : Nat} {bad : Bool} (h : RdAt W b v i e bad p) : W.cell? ⟨b, 0, none⟩ = some v ∧ W.cell? ⟨b, 1, none⟩ = some (.int .i64 i) ∧ W.cell? ⟨b, 2, none⟩ = some (.int .i64 e) ∧ W.cell? ⟨b, 3, none⟩ = some (.bool bad) ∧ W.cell? ⟨b, 4, none⟩ = some (.int .i64 p) :=
  ⟨cell_of_row _ _ 0 _ _ (0, 0) h, cell_of_row _ _ 1 _ _ (0, 0) h, cell_of_row _ _ 2 _ _ (0, 0) h, cell_of_row _ _ 3 _ _ (0, 0) h, cell_of_row _ _ 4 _ _ (0, 0) h⟩
/-- The heap stands; coins may be drawn. -/
structure Still (W W' : World) : Prop where
  below : Below W.heap.size W W'
  heap : W'.heap = W.heap
  drawn : ∃ n, W' = W.drewN n
theorem Still.drewN (W : World) (n : Nat) : Still W (W.drewN n) := ⟨⟨rfl, rfl, rfl, Nat.le_refl _, fun _ _ => rfl⟩, rfl, n, rfl⟩
theorem Still.refl (W : World) : Still W W := ⟨Below.refl _ _, rfl, 0, rfl⟩
theorem Still.trans {W W' W'' : World} (h : Still W W') (h' : Still W' W'') : Still W W'' := ⟨h.1.trans (h'.1.mono (by rw [h.2]; exact Nat.le_refl _)), h'.2.trans h.2, by
  obtain ⟨n, rfl⟩ := h.3
  obtain ⟨m, rfl⟩ := h'.3
  exact ⟨n + m, World.drewN_drewN _ _ _⟩⟩
theorem Still.two (W : World) (n m : Nat) : Still W ((W.drewN n).drewN m) := (Still.drewN W n).trans (Still.drewN _ m)
/-- Where the next token stands. -/
def hereL (L : List Wd) (i e : Nat) : Nat := match L[i]? with | some w => w.pos | none => e
set_option maxRecDepth 100000 in
theorem rhere_any {S : Nat → Prop} {b : Nat} {v : Value} {L : List Wd} {i e p : Nat} {bad : Bool} (W : World) (hv : WIn S W v L) (h : RdAt W b v i e bad p) (hi : i ≤ L.length) :
    Calls Tryz.prog 87 #[.pointer (some ⟨b, 0, none⟩)] W fun x w' => x = .returned (.int .i64 (hereL L i e)) ∧ Still W w' := by
  obtain ⟨c0, c1, c2, c3, c4⟩ := h.cells
  rcases Nat.lt_or_ge i L.length with hlt | hge
  · obtain ⟨bq, off, cq, rfl, h1, h2, hbl, -, hat⟩ := hv.at_ (by omega)
    obtain ⟨a0, a1, a2, a3, a4, a5⟩ := hat i hlt
    have e0 : hereL L i e = L[i].pos := by unfold hereL; rw [List.getElem?_eq_getElem hlt]
    rw [e0]
    generalize L[i] = X at a0 a1 a2 a3 a4 a5
    have hlt' : (i : Int) < (L.length : Int) := by omega
    clear hat e0 hv
    go_enter Tryz.func87, Tryz.ntmps87
    go_wp2_with fail
    go_quiet (fail)
    go_wp2_with fail
    all_goals (try go_quiet (fail))
    all_goals (go_wp2_with fail)
    all_goals (go_ret; exact ⟨rfl, by first | exact Still.two _ _ _ | exact Still.drewN _ _ | exact Still.refl _⟩)
  · obtain rfl : i = L.length := by omega
    have e0 : hereL L L.length e = e := by unfold hereL; rw [List.getElem?_eq_none (Nat.le_refl _)]
    rw [e0]
    obtain ⟨q, cq, rfl, h1, h2, -⟩ := hv
    go_enter Tryz.func87, Tryz.ntmps87
    go_wp2_with fail
    go_quiet (fail)
    go_wp2_with fail
    all_goals (try go_quiet (fail))
    all_goals (go_wp2_with fail)
    all_goals (go_ret; exact ⟨rfl, by first | exact Still.two _ _ _ | exact Still.drewN _ _ | exact Still.refl _⟩)
/-- Is the next token of this kind, with this text (none: any)? -/
def nextL (L : List Wd) (i : Nat) (k : Int) (T : List UInt8) : Bool := match L[i]? with | some w => w.kind == k && (T == [] || w.text == T) | none => false
set_option maxHeartbeats 1000000 in
set_option maxRecDepth 100000 in
theorem rnext_any {S : Nat → Prop} {b : Nat} {v : Value} {L : List Wd} {i e p : Nat} {bad : Bool} (W : World) (hv : WIn S W v L) (h : RdAt W b v i e bad p) (hi : i ≤ L.length) (k : Int) (T : List UInt8) :
    Calls Tryz.prog 24 #[.pointer (some ⟨b, 0, none⟩), .int .i64 k, .string ⟨T.toArray⟩] W fun x w' => x = .returned (.bool (!bad && nextL L i k T)) ∧ Still W w' := by
  obtain ⟨c0, c1, c2, c3, c4⟩ := h.cells
  rcases Nat.lt_or_ge i L.length with hlt | hge
  · obtain ⟨bq, off, cq, rfl, h1, h2, hbl, -, hat⟩ := hv.at_ (by omega)
    obtain ⟨a0, a1, a2, a3, a4, a5⟩ := hat i hlt
    have e0 : nextL L i k T = (L[i].kind == k && (T == [] || L[i].text == T)) := by unfold nextL; rw [List.getElem?_eq_getElem hlt]
    rw [e0]
    generalize L[i] = X at a0 a1 a2 a3 a4 a5
    have hlt' : (i : Int) < (L.length : Int) := by omega
    have s1 : ((⟨T.toArray⟩ : ByteArray).toList == (⟨#[]⟩ : ByteArray).toList) = (T == []) := by rw [Lib.toList_data, Lib.toList_data]
    have s2 : ((⟨X.text.toArray⟩ : ByteArray).toList == (⟨T.toArray⟩ : ByteArray).toList) = (X.text == T) := by rw [Lib.toList_data, Lib.toList_data]
    clear hat e0 hv
    cases bad <;> cases hk : (X.kind == k) <;> cases ht : (T == []) <;> cases hx : (X.text == T)
    all_goals
      rw [ht] at s1
      rw [hx] at s2
      go_enter Tryz.func24, Tryz.ntmps24
      go_wp2_with fail
      go_quiet (fail)
      go_wp2_with fail
      go_ret
      exact ⟨congrArg (fun z => Ending.returned (.bool z)) (by simp_all), by first | exact Still.two _ _ _ | exact Still.drewN _ _ | exact Still.refl _⟩
  · obtain rfl : i = L.length := by omega
    have e0 : nextL L L.length k T = false := by unfold nextL; rw [List.getElem?_eq_none (Nat.le_refl _)]
    rw [e0, Bool.and_false]
    obtain ⟨q, cq, rfl, h1, h2, -⟩ := hv
    cases bad
    all_goals
      go_enter Tryz.func24, Tryz.ntmps24
      go_wp2_with fail
      go_quiet (fail)
      go_wp2_with fail
      go_ret
      exact ⟨congrArg (fun z => Ending.returned (.bool z)) (by simp_all), by first | exact Still.two _ _ _ | exact Still.drewN _ _ | exact Still.refl _⟩
end Go.Proofs.YtnbaemfkpfmheaaGreatDoor
