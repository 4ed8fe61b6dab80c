/-
  Small facts that every walk of a seat uses, and the seven ways of the document's Compare at two values.
-/
import Derived.Test.YtnbaemfkpfmheaaGreatDoorRows
import Derived.Test.YtnbaemfkpfmheaaGreatDoorOrd
import Derived.WalkKit
import Derived.WalkSpells
import Derived.WalkLawsBesides
import Derived.Lib.Hide
import Derived.BigQuiet
import Derived.Deep.QuietTactic
namespace Go.Proofs.YtnbaemfkpfmheaaGreatDoor
open Go Go.RowKit

theorem bcell {W w1 : World} (hb : Below W.heap.size W w1) : (∀ b o, b < W.heap.size → w1.cell? ⟨b, o, none⟩ = W.cell? ⟨b, o, none⟩) ∧ (∀ b o, b < W.heap.size → w1.frozen? ⟨b, o, none⟩ = W.frozen? ⟨b, o, none⟩) :=
  ⟨fun b o h => hb.cell (p := ⟨b, o, none⟩) h, fun b o h => hb.frozen (p := ⟨b, o, none⟩) h⟩
theorem ret_int {k : IntKind} {a b : Int} (h : a = b) : Ending.returned (.int k a) = .returned (.int k b) := by rw [h]

theorem way1 {k n : Int} {s : ByteArray} {k' n' : Int} {s' : ByteArray} (h : k = k') (g : n = n') (f : s.toList = s'.toList) : (0 : Int) = cmpV k n s k' n' s' := ((cmpV_zero _ _ _ _ _ _).2 ⟨h, g, str_ext f⟩).symm
theorem way2 {k n : Int} {s : ByteArray} {k' n' : Int} {s' : ByteArray} (h : k = k') (g : n = n') (f : Op.bytesLess s.toList s'.toList = true) : (-1 : Int) = cmpV k n s k' n' s' := ((cmpV_lt _ _ _ _ _ _).2 (.inr ⟨h, .inr ⟨g, f⟩⟩)).symm
theorem way3 {k n : Int} {s : ByteArray} {k' n' : Int} {s' : ByteArray} (h : k = k') (g : n = n') (e : ¬s.toList = s'.toList) (f : Op.bytesLess s.toList s'.toList = false) : (1 : Int) = cmpV k n s k' n' s' := by
  subst h g
  unfold cmpV
  rw [cmpI_self, if_pos rfl, cmpI_self, if_pos rfl]
  exact (cmpS_gt f (by simpa using e)).symm
theorem way4 {k n : Int} {s : ByteArray} {k' n' : Int} {s' : ByteArray} (h : k = k') (e : ¬n = n') (g : n' ≤ n) : (1 : Int) = cmpV k n s k' n' s' := by
  subst h
  unfold cmpV
  rw [cmpI_self, if_pos rfl, cmpI_gt (by omega)]; rfl
theorem way5 {k n : Int} {s : ByteArray} {k' n' : Int} {s' : ByteArray} (h : k = k') (g : n < n') : (-1 : Int) = cmpV k n s k' n' s' := ((cmpV_lt _ _ _ _ _ _).2 (.inr ⟨h, .inl g⟩)).symm
theorem way6 {k n : Int} {s : ByteArray} {k' n' : Int} {s' : ByteArray} (e : ¬k = k') (g : k' ≤ k) : (1 : Int) = cmpV k n s k' n' s' := by
  unfold cmpV
  rw [cmpI_gt (by omega)]; rfl
theorem way7 {k n : Int} {s : ByteArray} {k' n' : Int} {s' : ByteArray} (h : k < k') : (-1 : Int) = cmpV k n s k' n' s' := ((cmpV_lt _ _ _ _ _ _).2 (.inl h)).symm

end Go.Proofs.YtnbaemfkpfmheaaGreatDoor
