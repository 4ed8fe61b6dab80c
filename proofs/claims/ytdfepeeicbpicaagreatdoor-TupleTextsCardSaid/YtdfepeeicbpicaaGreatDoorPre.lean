/-
  tuple.prefix: the first values of a tuple.
-/
import Derived.Test.YtdfepeeicbpicaaGreatDoorTupC
import Derived.IntWalk
namespace Go.Proofs.YtdfepeeicbpicaaGreatDoor
open Go Go.RowKit

/-- A tuple in the memory whose capacity is no less than its length. -/
def TupCap (n₀ : Nat) (w : World) (v : Value) (T : List V3) : Prop := TupIn n₀ w v T ∧ ∃ p l cap, v = .slice p l cap ∧ l ≤ cap
theorem CellsAt.take {W : World} {b off : Nat} {T : List V3} (h : CellsAt W b off T) (n : Nat) : CellsAt W b off (T.take n) := fun j hj => by
  have hj' : j < T.length := by simp at hj; omega
  simpa using h j hj'
theorem TupIn.take {n₀ : Nat} {w : World} {p : Option Addr} {cap : Nat} {T : List V3} (h : TupIn n₀ w (.slice p T.length cap) T) (n : Nat) : TupIn n₀ w (.slice p (min n T.length) cap) (T.take n) := by
  obtain ⟨p', cap', e, l, h⟩ := h
  injection e with e1 _ e3
  subst e1 e3
  refine ⟨p, cap, by simp, by simp; omega, ?_⟩
  rcases h with rfl | ⟨b, off, rfl, hb, hc⟩
  · exact .inl (by simp)
  · exact .inr ⟨b, off, rfl, hb, hc.take n⟩
