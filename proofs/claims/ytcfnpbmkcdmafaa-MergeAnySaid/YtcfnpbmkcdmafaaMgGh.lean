/-
  What is known of a cursor behind another one; small words on rows.
-/
import Derived.Test.YtcfnpbmkcdmafaaMgS
namespace Go.Proofs.Ytcfnpbmkcdmafaa
open Go Go.RowKit Go.Shelf

/-- The cursor behind another one: it tells L, and its blocks are those that it had or new ones. -/
def Gh (b : Nat) (W0 : World) (Y0 : Nat → Prop) : (Nat → Prop) → List Th → World → Prop := fun Yc L w => ∃ Z, MadeAt Tt b Z L w ∧ (∀ k, k < W0.heap.size → ¬ Y0 k → ¬ Z k) ∧ ∀ k, Z k → Yc k
theorem MadeAt.ghost {G : (Nat → Prop) → List Th → World → Prop} {b : Nat} {Y : Nat → Prop} {L : List Th} {w : World} (h : MadeAt G b Y L w) : ∃ Y0, (∀ k, Y0 k → Y k) ∧ G Y0 L w := by
  obtain ⟨-, -, -, h⟩ := h
  rcases h with ⟨fv, k, lb, Y0, -, -, hy, h⟩ | ⟨-, rfl, ⟨k, lb, Y0, hy, h⟩ | h⟩
  · obtain ⟨Y1, h1, h2⟩ := h.ghost
    exact ⟨Y1, fun k e => (hy k (h1 k e)).1, h2⟩
  · obtain ⟨Y1, h1, h2⟩ := h.ghost
    exact ⟨Y1, fun k e => (hy k (h1 k e)).1, h2⟩
  · exact ⟨Y, fun _ e => e, h _ _ _⟩
theorem made_over {b r : Nat} {Y : Nat → Prop} {L : List Th} {W : World} {t : TypeId} (h : MadeAt Tt b Y L W) (hr : W.heap[r]? = some (.cells #[nextV b] t (0, 0))) (hn : ¬ Y r) : MadeAt (Gh b W Y) r (fun k => k = r ∨ Y k) L W := by
  have hl := (Array.getElem?_eq_some_iff.1 hr).1
  refine ⟨?_, .inl rfl, ⟨t, 1, by decide, _, hr, rfl⟩, .inl ⟨nextV b, _, _, Y, cell_of_row _ _ 0 _ _ (0, 0) hr, .next b, fun x e => ⟨.inr e, fun e' => hn (e' ▸ e)⟩, ?_⟩⟩
  · rintro k (rfl | e)
    · exact hl
    · exact h.inside k e
  · refine ⟨h.inside, fun Z L w => MadeAt Tt b Z L w ∧ W.heap.size ≤ w.heap.size ∧ ∀ k, k < W.heap.size → ¬ Y k → ¬ Z k, Y, fun _ e => e, ⟨h, Nat.le_refl _, fun k _ e => e⟩, fun Z L w hj => ⟨hj.1.inside, Z, hj.1, hj.2.2, fun _ e => e⟩, fun Z L w w' hj hs hb => ⟨hj.1.keep hs hb, Nat.le_trans hj.2.1 hs, hj.2.2⟩, fun Z L w hj => ?_⟩
    refine (next_any hj.1).mono ?_
    rintro e w' ⟨rfl, hu, Z', hs, hm⟩
    refine ⟨rfl, hu, Z', hs, hm, Nat.le_trans hj.2.1 hu.size, fun k hk hny hz => ?_⟩
    rcases hs k hz with e | e
    · exact hj.2.2 k hk hny e
    · have := hj.2.1; omega
theorem ThIn.up {w W : World} {v : Value} {L : List Th} (h : ThIn (fun b => b < w.heap.size) w v L) (hb : Below w.heap.size w W) : ThIn (fun b => b < w.heap.size) W v L := h.keep hb.size (fun k e _ => ⟨e, hb.block k e⟩)
theorem OwnTh.below {B : Nat} {w w' : World} {v : Value} {L : List Th} (h : OwnTh B w v L) (hb : Below w.heap.size w w') : OwnTh B w' v L := h.keep fun k e => hb.block k (h.lt k e).2
theorem only_len {σ : Type} (step : σ → Th → Bool × σ) : ∀ (s : σ) (L : List Th), (onlyL step s L).length ≤ L.length
  | _, [] => Nat.le_refl _
  | s, x :: r => by
    unfold onlyL
    split
    · have := only_len step (step s x).2 r; simp only [List.length_cons]; omega
    · have := only_len step (step s x).2 r; simp only [List.length_cons]; omega
end Go.Proofs.Ytcfnpbmkcdmafaa
