/-
  Words for the document's Merge: heads, what is left, the best one.
-/
import Derived.Test.YtlccleafjpeccaaMhB
namespace Go.Proofs.Ytlccleafjpeccaa
open Go Go.RowKit Go.Shelf

/-- What is left of rows behind their heads. -/
def lefts (LL : List (List Th)) (H : List Nat) : List (List Th) := List.zipWith (fun L h => L.drop h) LL H
theorem lefts_len {LL : List (List Th)} {H : List Nat} (h : H.length = LL.length) : (lefts LL H).length = LL.length := by unfold lefts; rw [List.length_zipWith]; omega
theorem lefts_at {LL : List (List Th)} {H : List Nat} {n : Nat} (hn : n < LL.length) (hn' : n < H.length) : (lefts LL H)[n]? = some (LL[n].drop H[n]) := by
  unfold lefts
  rw [List.getElem?_zipWith, List.getElem?_eq_getElem hn, List.getElem?_eq_getElem hn']
theorem lefts_zero (LL : List (List Th)) : lefts LL (List.replicate LL.length 0) = LL := by
  induction LL with
  | nil => rfl
  | cons L r ih =>
    unfold lefts at ih ⊢
    rw [List.length_cons, List.replicate_succ, List.zipWith_cons_cons, ih, List.drop_zero]
theorem lefts_set : ∀ {LL : List (List Th)} {H : List Nat} (m : Nat) (_ : H.length = LL.length) (hm : m < H.length), lefts LL (H.set m (H[m] + 1)) = (lefts LL H).set m ((lefts LL H).getD m []).tail
  | [], H, m, h, hm => by rw [List.length_nil] at h; omega
  | L :: LL, [], m, h, hm => by simp at hm
  | L :: LL, a :: H, 0, h, hm => by
    unfold lefts
    simp [List.getD]
  | L :: LL, a :: H, m + 1, h, hm => by
    have ih := lefts_set (LL := LL) (H := H) m (by simpa using h) (by simpa using hm)
    unfold lefts at ih ⊢
    simp only [List.set_cons_succ, List.getElem_cons_succ, List.zipWith_cons_cons, ih]
    simp [List.getD]
theorem len_le_tot : ∀ (LL : List (List Th)) (m : Nat) (hm : m < LL.length), LL[m].length ≤ tot LL
  | [], m, hm => by simp at hm
  | L :: r, 0, _ => by simp [tot]
  | L :: r, m + 1, hm => by
    have := len_le_tot r m (by simpa using hm)
    simp only [tot, List.getElem_cons_succ, List.map_cons, List.sum_cons] at this ⊢
    omega
theorem tot_le : ∀ (LL : List (List Th)) (m : Nat), (∀ L ∈ LL, L.length ≤ m) → tot LL ≤ LL.length * m
  | [], m, _ => by simp [tot]
  | L :: r, m, h => by
    have h1 := tot_le r m (fun M e => h M (List.mem_cons_of_mem _ e))
    have h2 := h L (List.mem_cons_self ..)
    simp only [tot, List.map_cons, List.sum_cons, List.length_cons] at h1 ⊢
    rw [Nat.add_mul]; omega
/-- The index that Merge keeps. -/
def bestI : Option (Nat × Th) → Int
  | none => -1
  | some (m, _) => m
theorem tot_lefts_le : ∀ (LL : List (List Th)) (H : List Nat), tot (lefts LL H) ≤ tot LL
  | [], H => by cases H <;> simp [lefts, tot]
  | L :: LL, [] => by simp [lefts, tot]
  | L :: LL, a :: H => by
    have := tot_lefts_le LL H
    unfold lefts at this ⊢
    simp only [tot, List.zipWith_cons_cons, List.map_cons, List.sum_cons, List.length_drop] at this ⊢
    omega
theorem mergeL_len (Ls : List (List Th)) : (mergeL Ls).length = tot Ls := by
  have : ∀ n (Ls : List (List Th)), tot Ls = n → (mergeL Ls).length = n := by
    intro n
    induction n with
    | zero =>
      intro Ls h
      rcases hb : bestN Ls Ls.length with _ | ⟨m, y⟩
      · rw [mergeL_none hb]; rfl
      · obtain ⟨r, hr, -⟩ := mergeL_some hb
        have := tot_set hr
        omega
    | succ n ih =>
      intro Ls h
      rcases hb : bestN Ls Ls.length with _ | ⟨m, y⟩
      · exfalso
        have hall : ∀ k, k ≤ Ls.length → bestN Ls k = none → ∀ i, i < k → ∃ hi : i < Ls.length, Ls[i] = [] := by
          intro k
          induction k with
          | zero => intro _ _ i hi; omega
          | succ k ih2 =>
            intro hk hb i hi
            have hkl : k < Ls.length := by omega
            unfold bestN at hb
            rw [List.getElem?_eq_getElem hkl] at hb
            rcases hl : Ls[k] with _ | ⟨x, r⟩
            · rw [hl] at hb
              by_cases e : i = k
              · subst e; exact ⟨hkl, hl⟩
              · exact ih2 (by omega) hb i (by omega)
            · rw [hl] at hb
              simp only at hb
              split at hb
              · cases hb
              · split at hb <;> cases hb
        have hz : ∀ (Ms : List (List Th)), (∀ i (hi : i < Ms.length), Ms[i] = []) → tot Ms = 0 := by
          intro Ms
          induction Ms with
          | nil => intro _; rfl
          | cons M r ih3 =>
            intro hM
            have h0 := hM 0 (by simp)
            simp at h0
            have := ih3 (fun i hi => by have := hM (i + 1) (by simpa using hi); simpa using this)
            simp only [tot, List.map_cons, List.sum_cons] at this ⊢
            rw [h0, this]; rfl
        have := hz Ls (fun i hi => (hall Ls.length (Nat.le_refl _) hb i hi).2)
        omega
      · obtain ⟨r, hr, e⟩ := mergeL_some hb
        have := tot_set hr
        rw [e, List.length_cons, ih _ (by omega)]
  exact this _ Ls rfl
theorem lefts_hd {LL : List (List Th)} {H : List Nat} (h : H.length = LL.length) {k m : Nat} {y : Th} (hb : bestN (lefts LL H) k = some (m, y)) : ∃ (h1 : m < LL.length) (h2 : m < H.length) (h3 : H[m] < LL[m].length), m < k ∧ y = LL[m][H[m]] := by
  obtain ⟨hmk, r, hr⟩ := bestN_some hb
  have h1 : m < LL.length := by
    have := (List.getElem?_eq_some_iff.1 hr).1
    rwa [lefts_len h] at this
  have h2 : m < H.length := by omega
  rw [lefts_at (LL := LL) h1 h2] at hr
  injection hr with hr
  have h3 : H[m] < LL[m].length := by
    have e := congrArg List.length hr
    simp at e; omega
  rw [List.drop_eq_getElem_cons h3] at hr
  injection hr with e1 e2
  exact ⟨h1, h2, h3, hmk, e1.symm⟩
def lenV : Value → Nat
  | .slice _ n _ => n
  | _ => 0
theorem OwnTh.lenV {B : Nat} {w : World} {v : Value} {L : List Th} (h : OwnTh B w v L) : lenV v = L.length := by
  rcases h.2 with ⟨rfl, e⟩ | ⟨g, cap, cur, rfl, -⟩
  · exact e.symm
  · rfl
/-- The heads in memory. -/
def headsA (H : List Nat) : Array Value := (H.map fun n : Nat => Value.int .i64 (n : Int)).toArray
theorem heads_at {w : World} {b : Nat} {H : List Nat} (h : w.heap[b]? = some (.cells (headsA H) 3 (0, 0))) {n : Nat} (hn : n < H.length) : w.cell? ⟨b, n, none⟩ = some (.int .i64 (H[n] : Int)) := by
  rw [cell_of_row _ _ n _ _ (0, 0) h]
  unfold headsA
  simp [hn]
theorem heads_set (H : List Nat) (m k : Nat) : (headsA H).setIfInBounds m (.int .i64 (k : Int)) = headsA (H.set m k) := by
  unfold headsA
  simp [List.map_set]
/-- What the loops of the document's Merge keep. -/
def RmJ (LL : List (List Th)) (w : World) (H : List Nat) (P : List Th) (v : Value) (W : World) : Prop :=
  H.length = LL.length ∧ mergeL LL = P ++ mergeL (lefts LL H) ∧ OwnTh (w.heap.size + 1) W v P ∧ W.heap[w.heap.size]? = some (.cells (headsA H) 3 (0, 0)) ∧ Below w.heap.size w W
theorem RmJ.below {LL : List (List Th)} {w : World} {H : List Nat} {P : List Th} {v : Value} {W W' : World} (h : RmJ LL w H P v W) (hb : Below W.heap.size W W') : RmJ LL w H P v W' := by
  obtain ⟨h1, h2, h3, h4, h5⟩ := h
  exact ⟨h1, h2, h3.below hb, (hb.block _ (Array.getElem?_eq_some_iff.1 h4).1).trans h4, h5.trans (hb.mono h5.size)⟩
/-- The best one has been put behind what has come. -/
theorem RmJ.step {LL : List (List Th)} {w : World} {H : List Nat} {P : List Th} {v v' : Value} {W W' : World} {m : Nat} {y : Th} (h : RmJ LL w H P v W) (hb : bestN (lefts LL H) LL.length = some (m, y)) (ho : OwnTh (w.heap.size + 1) W' v' (P ++ [y])) (hg : W.grownBy W' v.ownBlock) (hm : m < H.length) :
    RmJ LL w (H.set m (H[m] + 1)) (P ++ [y]) v' (W'.setCell ⟨w.heap.size, m, none⟩ (.int .i64 ((H[m] + 1 : Nat) : Int))) := by
  obtain ⟨h1, h2, h3, h4, h5⟩ := h
  have hl := lefts_len h1
  obtain ⟨r, hr, he⟩ := mergeL_some (Ls := lefts LL H) (by rw [hl]; exact hb)
  have hz : w.heap.size < W.heap.size := (Array.getElem?_eq_some_iff.1 h4).1
  have h4' : W'.heap[w.heap.size]? = some (.cells (headsA H) 3 (0, 0)) := (hg.block _ hz (fun e => by have := (h3.lt _ e.symm).1; omega)).trans h4
  refine ⟨by rw [List.length_set]; exact h1, ?_, ?_, ?_, ?_⟩
  · rw [h2, he, lefts_set m h1 hm, List.append_assoc]
    simp [List.getD, hr]
  · exact ho.keep (fun k e => Below.heap_setCell _ _ _ _ (by have := (ho.lt k e).1; show k ≠ w.heap.size; omega))
  · rw [Go.heap_setCell_same _ _ _ _ _ _ h4', heads_set]
  · exact (h5.grown hg h5.size (fun k e => by have := (h3.lt k e).1; omega)).setCell (Nat.le_refl _) _
/-- The same, as the walk sees it. -/
theorem RmJ.put {LL : List (List Th)} {w : World} {H : List Nat} {P : List Th} {v v' : Value} {W W' : World} {m a : Nat} {y : Th} (h : RmJ LL w H P v W) (hm : m < H.length) (ha : a = H[m]) (hb : bestN (lefts LL H) LL.length = some (m, y)) {o : Obj} (ho : OwnTh (w.heap.size + 1) W' v' (P ++ [y])) (hg : (W.alloc o).grownBy W' v.ownBlock) :
    W'.cell? ⟨w.heap.size, m, none⟩ = some (.int .i64 (a : Int)) ∧ W'.frozen? ⟨w.heap.size, m, none⟩ = false ∧ RmJ LL w (H.set m (a + 1)) (P ++ [y]) v' (W'.setCell ⟨w.heap.size, m, none⟩ (.int .i64 ((a : Int) + 1))) ∧ lenV v' = P.length + 1 := by
  have h0 := h.below (below_new' W o)
  subst ha
  have hh : W'.heap[w.heap.size]? = some (.cells (headsA H) 3 (0, 0)) := (hg.block _ (Array.getElem?_eq_some_iff.1 h0.2.2.2.1).1 (fun e => by have := (h0.2.2.1.lt _ e.symm).1; omega)).trans h0.2.2.2.1
  have h1 := h0.step hb ho hg hm
  refine ⟨heads_at hh hm, frozen_of_row _ _ _ _ _ hh, ?_, ?_⟩
  · rw [show ((H[m] : Int) + 1) = ((H[m] + 1 : Nat) : Int) by simp]; exact h1
  · rw [ho.lenV]; simp
end Go.Proofs.Ytlccleafjpeccaa
