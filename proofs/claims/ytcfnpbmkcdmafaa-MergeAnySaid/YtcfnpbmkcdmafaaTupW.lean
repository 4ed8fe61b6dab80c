/-
  Wide tuples and entries in memory.
-/
import Derived.Test.YtcfnpbmkcdmafaaTupB
namespace Go.Proofs.Ytcfnpbmkcdmafaa
open Go Go.RowKit

/-- A slice value reads as a tuple, in a block of S. -/
def TupS (S : Nat → Prop) (W : World) (v : Value) (T : List V3) : Prop :=
  ∃ p cap, v = .slice p T.length cap ∧ T.length ≤ 4398046510976 ∧ (T = [] ∨ ∃ b off, p = some ⟨b, off, none⟩ ∧ S b ∧ CellsAt W b off T)
/-- The cells of entries. -/
def CellsQ (W : World) (b off : Nat) (Q : List (Value × (List V3 × Int))) : Prop := ∀ j q, Q[j]? = some q → W.cell? ⟨b, off + j * 2, none⟩ = some q.1 ∧ W.cell? ⟨b, off + j * 2 + 1, none⟩ = some (.int .i64 q.2.2)
/-- A slice value reads as entries, in blocks of S. -/
def EntS (S : Nat → Prop) (W : World) (v : Value) (E : List (List V3 × Int)) : Prop :=
  ∃ p cap Q, Q.map (·.2) = E ∧ v = .slice p Q.length cap ∧ Q.length ≤ 100 ∧ (∀ q ∈ Q, TupS S W q.1 q.2.1) ∧ (Q = [] ∨ ∃ b off, p = some ⟨b, off, none⟩ ∧ S b ∧ CellsQ W b off Q)
theorem TupS.same {S S' : Nat → Prop} {W W' : World} {v : Value} {T : List V3} (h : TupS S W v T) (hS : ∀ k, S k → S' k) (hb : ∀ b o, S b → W'.cell? ⟨b, o, none⟩ = W.cell? ⟨b, o, none⟩) : TupS S' W' v T := by
  obtain ⟨p, cap, rfl, hl, h⟩ := h
  refine ⟨p, cap, rfl, hl, ?_⟩
  rcases h with h | ⟨b, off, rfl, hlt, hc⟩
  · exact .inl h
  · refine .inr ⟨b, off, rfl, hS _ hlt, fun j hj => ?_⟩
    rw [hb b _ hlt, hb b _ hlt, hb b _ hlt]
    exact hc j hj
theorem EntS.same {S S' : Nat → Prop} {W W' : World} {v : Value} {E : List (List V3 × Int)} (h : EntS S W v E) (hS : ∀ k, S k → S' k) (hb : ∀ b o, S b → W'.cell? ⟨b, o, none⟩ = W.cell? ⟨b, o, none⟩) : EntS S' W' v E := by
  obtain ⟨p, cap, Q, hQ, rfl, hl, ht, h⟩ := h
  refine ⟨p, cap, Q, hQ, rfl, hl, fun q hq => (ht q hq).same hS hb, ?_⟩
  rcases h with h | ⟨b, off, rfl, hlt, hc⟩
  · exact .inl h
  · exact .inr ⟨b, off, rfl, hS _ hlt, fun j q hj => ⟨(hb b _ hlt).trans (hc j q hj).1, (hb b _ hlt).trans (hc j q hj).2⟩⟩
theorem lt_of_cell {W : World} {b o : Nat} {u : Value} (h : W.cell? ⟨b, o, none⟩ = some u) : b < W.heap.size := by
  by_cases hb : b < W.heap.size
  · exact hb
  · have : W.heap[b]? = none := Array.getElem?_eq_none (by omega)
    simp [World.cell?, this] at h
theorem TupS.inside {S : Nat → Prop} {W : World} {v : Value} {T : List V3} (h : TupS S W v T) : TupS (fun k => S k ∧ k < W.heap.size) W v T := by
  obtain ⟨p, cap, rfl, hl, h⟩ := h
  refine ⟨p, cap, rfl, hl, ?_⟩
  by_cases hT : T = []
  · exact .inl hT
  · rcases h with h | ⟨b, off, rfl, hlt, hc⟩
    · exact absurd h hT
    · have h0 : 0 < T.length := List.length_pos_iff.2 hT
      exact .inr ⟨b, off, rfl, ⟨hlt, lt_of_cell (hc 0 h0).1⟩, hc⟩
theorem EntS.inside {S : Nat → Prop} {W : World} {v : Value} {E : List (List V3 × Int)} (h : EntS S W v E) : EntS (fun k => S k ∧ k < W.heap.size) W v E := by
  obtain ⟨p, cap, Q, hQ, rfl, hl, ht, h⟩ := h
  refine ⟨p, cap, Q, hQ, rfl, hl, fun q hq => (ht q hq).inside, ?_⟩
  cases Q with
  | nil => exact .inl rfl
  | cons q Q =>
    rcases h with h | ⟨b, off, rfl, hlt, hc⟩
    · cases h
    · exact .inr ⟨b, off, rfl, ⟨hlt, lt_of_cell (hc 0 q rfl).1⟩, hc⟩
end Go.Proofs.Ytcfnpbmkcdmafaa
