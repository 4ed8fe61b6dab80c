/-
  Words for MergeSets: what a row has behind a filter; the sets of the law.
-/
import Derived.Test.YtlccleafjpeccaaMhS
import Derived.Test.YtlccleafjpeccaaMhM
namespace Go.Proofs.Ytlccleafjpeccaa
open Go Go.RowKit Go.Shelf

def setL (A0 : List Th) : List Th := onceL (mergeL [mergeL (oneL (A0.take 30))])
theorem setL_facts (A0 : List Th) : Strict (setL A0) ∧ (setL A0).length ≤ 30 ∧ (mergeL (oneL (A0.take 30))).length ≤ 30 := by
  have h1 : tot (oneL (A0.take 30)) ≤ 30 := by
    have := tot_le (oneL (A0.take 30)) 1 (fun M hM => by unfold oneL at hM; obtain ⟨x, -, rfl⟩ := List.mem_map.1 hM; simp)
    have e : (oneL (A0.take 30)).length ≤ 30 := by unfold oneL; rw [List.length_map, List.length_take]; omega
    omega
  have h2 : (mergeL (oneL (A0.take 30))).length ≤ 30 := by rw [mergeL_len]; exact h1
  have h3 := (merge_rise _ (oneL (A0.take 30)) rfl (fun i L hi => by
    unfold oneL at hi
    rw [List.getElem?_map] at hi
    obtain ⟨x, -, rfl⟩ := Option.map_eq_some_iff.1 hi
    exact List.pairwise_singleton _ _)).1
  unfold setL
  rw [merge_one]
  exact ⟨(once_strict _ none h3 (fun y hy => by cases hy)).1, Nat.le_trans (only_len _ _ _) h2, h2⟩
theorem strict_rise {L : List Th} (h : Strict L) : Rise L := h.imp fun h => Int.le_of_lt h
theorem filter_at {p : Th → Bool} {A : List Th} {n : Nat} (h : n < A.length) (hp : p A[n] = true) : (A.filter p)[((A.take n).filter p).length]? = some A[n] ∧ ((A.take (n + 1)).filter p).length = ((A.take n).filter p).length + 1 := by
  have e : A = A.take n ++ A[n] :: A.drop (n + 1) := by rw [← List.drop_eq_getElem_cons h, List.take_append_drop]
  constructor
  · have e2 : A.filter p = (A.take n).filter p ++ A[n] :: (A.drop (n + 1)).filter p := by
      conv => lhs; rw [e]
      rw [List.filter_append, List.filter_cons, if_pos hp]
    rw [e2, List.getElem?_append_right (Nat.le_refl _), Nat.sub_self]
    rfl
  · rw [List.take_succ_eq_append_getElem h, List.filter_append, List.filter_cons, if_pos hp]
    simp
theorem filter_not {p : Th → Bool} {A : List Th} {n : Nat} (h : n < A.length) (hp : p A[n] = false) : (A.take (n + 1)).filter p = (A.take n).filter p := by
  rw [List.take_succ_eq_append_getElem h, List.filter_append, List.filter_cons, if_neg (by rw [hp]; simp)]
  simp
set_option maxHeartbeats 1000000 in
theorem eqTh_run (x : Th) (W : World) : (binOp .eql 28 (.agg #[.int .i8 x.1, .int .i64 x.2]) (.agg #[.int .i8 x.1, .int .i64 x.2])).run Try.prog W = .ok (.bool true) W := by
  rw [run_eql_struct]
  simp [go_sem]
abbrev pT (B : List Th) (t : Bool) : Th → Bool := fun x => hasB B x == t
/-- What the outer loop of MergeSets counts. -/
def SsJ (A B : List Th) (Wz : World) (n ci ck : Nat) (W : World) : Prop := ci = ((A.take n).filter (pT B true)).length ∧ ck = ((A.take n).filter (pT B false)).length ∧ Below Wz.heap.size Wz W
theorem SsJ.hit {A B : List Th} {Wz : World} {n ci ck : Nat} {W : World} {x : Th} (h : SsJ A B Wz n ci ck W) (hn : n < A.length) (hx : x = A[n]) (hp : hasB B x = true) : (A.filter (pT B true))[ci]? = some x ∧ SsJ A B Wz (n + 1) (ci + 1) ck W := by
  obtain ⟨rfl, rfl, h3⟩ := h
  subst hx
  obtain ⟨g1, g2⟩ := filter_at (p := pT B true) hn (by show (hasB B A[n] == true) = true; rw [hp]; rfl)
  exact ⟨g1, g2.symm, by rw [filter_not (p := pT B false) hn (by show (hasB B A[n] == false) = false; rw [hp]; rfl)], h3⟩
theorem SsJ.miss {A B : List Th} {Wz : World} {n ci ck : Nat} {W : World} {x : Th} (h : SsJ A B Wz n ci ck W) (hn : n < A.length) (hx : x = A[n]) (hp : hasB B x = false) : (A.filter (pT B false))[ck]? = some x ∧ SsJ A B Wz (n + 1) ci (ck + 1) W := by
  obtain ⟨rfl, rfl, h3⟩ := h
  subst hx
  obtain ⟨g1, g2⟩ := filter_at (p := pT B false) hn (by show (hasB B A[n] == false) = true; rw [hp]; rfl)
  exact ⟨g1, by rw [filter_not (p := pT B true) hn (by show (hasB B A[n] == true) = false; rw [hp]; rfl)], g2.symm, h3⟩
theorem SsJ.below {A B : List Th} {Wz : World} {n ci ck : Nat} {W W' : World} (h : SsJ A B Wz n ci ck W) (hb : Below W.heap.size W W') : SsJ A B Wz n ci ck W' := ⟨h.1, h.2.1, h.2.2.trans (hb.mono h.2.2.size)⟩
/-- A thing in a row that is read. -/
theorem ThIn.cell_at {S : Nat → Prop} {w : World} {v : Value} {L : List Th} (h : ThIn S w v L) {j : Nat} {x : Th} (hj : L[j]? = some x) : ∃ b off cap, v = .slice (some ⟨b, off, none⟩) L.length cap ∧ b < w.heap.size ∧ w.cell? ⟨b, off + j * 2, none⟩ = some (.int .i8 x.1) ∧ w.cell? ⟨b, off + j * 2 + 1, none⟩ = some (.int .i64 x.2) := by
  obtain ⟨hl, hx⟩ := List.getElem?_eq_some_iff.1 hj
  obtain ⟨p, c, rfl, -, -, h⟩ := h
  rcases h with h | ⟨b, off, rfl, -, hb, h⟩
  · rw [h] at hl; simp at hl
  · have := h j hl
    rw [hx] at this
    exact ⟨b, off, c, rfl, hb, this.1, this.2⟩
end Go.Proofs.Ytlccleafjpeccaa
