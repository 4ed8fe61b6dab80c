/-
  Words for tuples in memory: a world that has grown, cells that hold a row of values, a slice value that reads as one.
-/
import Derived.Test.YtcfnpbmkcdmafaaCmp0
import Derived.Test.YtcfnpbmkcdmafaaTupP
import Derived.Outline
import Derived.Sort.Grow
import Derived.LoopTactic
namespace Go.Proofs.Ytcfnpbmkcdmafaa
open Go Go.RowKit

/-- The world has grown: some draws on, new blocks behind it; nothing else has turned. -/
def Grown (w w' : World) : Prop := ∃ (q : Nat) (os : Array Obj), w' = Sort.grow (w.drewN q) os
theorem Grown.refl (w : World) : Grown w w := ⟨0, #[], by rw [Sort.grow_empty]; rfl⟩
theorem Grown.trans {a b c : World} (h : Grown a b) (h' : Grown b c) : Grown a c := by
  obtain ⟨q, os, rfl⟩ := h
  obtain ⟨q', os', rfl⟩ := h'
  refine ⟨q + q', os ++ os', ?_⟩
  rw [← Sort.grow_grow, ← World.drewN_drewN]
  rfl
theorem Grown.alloc {a b : World} (h : Grown a b) (o : Obj) : Grown a (b.alloc o) := h.trans ⟨0, #[o], by rw [Sort.alloc_eq_grow]; rfl⟩
theorem Grown.drew {a b : World} (h : Grown a b) : Grown a b.drew := h.trans ⟨1, #[], by rw [Sort.grow_empty]; rfl⟩
theorem Grown.below {a b : World} (h : Grown a b) : Below a.heap.size a b := by
  obtain ⟨q, os, rfl⟩ := h
  exact ⟨rfl, rfl, rfl, by show a.heap.size ≤ (a.heap ++ os).size; rw [Array.size_append]; omega, fun j hj => Array.getElem?_append_left hj⟩
theorem Grown.size {a b : World} (h : Grown a b) : a.heap.size ≤ b.heap.size := h.below.size

/-- The cells from a place on hold a row of values. -/
def CellsAt (W : World) (b off : Nat) (T : List V3) : Prop :=
  ∀ j (h : j < T.length), W.cell? ⟨b, off + j * 3, none⟩ = some (.int .i64 T[j].k) ∧ W.cell? ⟨b, off + j * 3 + 1, none⟩ = some (.int .i64 T[j].n) ∧ W.cell? ⟨b, off + j * 3 + 2, none⟩ = some (.string T[j].s)
/-- A slice value reads as a row of values, in a block below n₀. -/
def TupIn (n₀ : Nat) (W : World) (v : Value) (T : List V3) : Prop :=
  ∃ p cap, v = .slice p T.length cap ∧ T.length ≤ 1000000 ∧ (T = [] ∨ ∃ b off, p = some ⟨b, off, none⟩ ∧ b < n₀ ∧ CellsAt W b off T)
theorem CellsAt.below {n₀ : Nat} {W W' : World} {b off : Nat} {T : List V3} (h : CellsAt W b off T) (hb : Below n₀ W W') (hl : b < n₀) : CellsAt W' b off T := fun j hj =>
  ⟨(hb.cell (p := ⟨b, off + j * 3, none⟩) hl).trans (h j hj).1, (hb.cell (p := ⟨b, off + j * 3 + 1, none⟩) hl).trans (h j hj).2.1, (hb.cell (p := ⟨b, off + j * 3 + 2, none⟩) hl).trans (h j hj).2.2⟩
theorem TupIn.below {n₀ : Nat} {W W' : World} {v : Value} {T : List V3} (h : TupIn n₀ W v T) (hb : Below n₀ W W') : TupIn n₀ W' v T := by
  obtain ⟨p, cap, rfl, hl, h⟩ := h
  refine ⟨p, cap, rfl, hl, ?_⟩
  rcases h with h | ⟨b, off, rfl, hlt, hc⟩
  · exact .inl h
  · exact .inr ⟨b, off, rfl, hlt, hc.below hb hlt⟩
theorem TupIn.mono {n₀ n₁ : Nat} {W : World} {v : Value} {T : List V3} (h : TupIn n₀ W v T) (hn : n₀ ≤ n₁) : TupIn n₁ W v T := by
  obtain ⟨p, cap, rfl, hl, h⟩ := h
  refine ⟨p, cap, rfl, hl, ?_⟩
  rcases h with h | ⟨b, off, rfl, hlt, hc⟩
  · exact .inl h
  · exact .inr ⟨b, off, rfl, by omega, hc⟩
end Go.Proofs.Ytcfnpbmkcdmafaa
