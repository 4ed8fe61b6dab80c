/-
  Contract of the laws' own 'one'; tuple.Sorted at the three tuples that 'awake' hands it.
-/
import Derived.Test.YtdfepeeicbpicaaGreatDoorTupX
import Derived.Test.YtdfepeeicbpicaaGreatDoorAwP
namespace Go.Proofs.YtdfepeeicbpicaaGreatDoor
open Go Go.RowKit

/-- A tuple of an int. -/
def oneT (n : Int) : List V3 := [⟨1, n, ⟨#[]⟩⟩]
set_option maxHeartbeats 400000 in
theorem onet_any (n : Int) (w : World) :
    Calls Tryz.prog 24 #[.int .i64 n] w fun e w' => e = .returned (.slice (some ⟨w.heap.size, 0, none⟩) 1 1) ∧ w.alloc (.cells #[.int .i64 1, .int .i64 n, .string ⟨#[]⟩] 37) = w' := by
  go_enter Tryz.func24, Tryz.ntmps24
  go_wp2_with fail
  go_ret
  exact ⟨rfl, rfl⟩
theorem one_in (n : Int) (w : World) : TupIn (w.heap.size + 1) (w.alloc (.cells #[.int .i64 1, .int .i64 n, .string ⟨#[]⟩] 37)) (.slice (some ⟨w.heap.size, 0, none⟩) 1 1) (oneT n) := by
  refine ⟨_, _, rfl, by simp [oneT], .inr ⟨w.heap.size, 0, rfl, by omega, ?_⟩⟩
  intro j hj
  obtain rfl : j = 0 := by simp [oneT] at hj; omega
  refine ⟨?_, ?_, ?_⟩ <;> (rw [cell_of_row _ w.heap.size _ _ 37 (0, 0) (heap_alloc_new w _)]; rfl)
theorem cmp_two_one : cmpT (oneT 2) (oneT 1) = 1 := by decide
/-- What Sorted leaves of 2, 1, 2: a row of its own of two tuples, the first reads 1. -/
def ThreeEnd (w : World) (e : Ending) (w' : World) : Prop :=
  ∃ (g cap : Nat) (q1 : Value), e = .returned (.slice (some ⟨g, 0, none⟩) 2 cap) ∧ w'.cell? ⟨g, 0, none⟩ = some q1 ∧ w.heap.size ≤ g ∧ g < w'.heap.size ∧ TupIn w'.heap.size w' q1 (oneT 1) ∧ Below w.heap.size w w'
theorem ownT_in {D : Nat} {W : World} {y : Value × List V3} (h : OwnT D W y) : TupIn W.heap.size W y.1 y.2 := by
  obtain ⟨hr, hne, hl⟩ := h
  obtain ⟨g, cap, hv⟩ := own_form hr (List.length_pos_iff.2 hne)
  have hg := hr.lt g (by rw [hv]; rfl)
  refine ⟨_, cap, hv, hl, .inr ⟨g, 0, rfl, hg.2, ?_⟩⟩
  rw [hv] at hr
  have hc := cellsT_len y.2
  intro j hj
  have at_ : ∀ k, k < 3 → W.cell? ⟨g, 0 + j * 3 + k, none⟩ = (cellsT y.2)[j * 3 + k]? := fun k hk => by
    rw [show 0 + j * 3 + k = j * 3 + k by omega]
    exact hr.cellAt (j * 3 + k) (by omega)
  have val : ∀ (T : List V3) (j : Nat) (hj : j < T.length), (cellsT T)[j * 3 + 0]? = some (.int .i64 T[j].k) ∧ (cellsT T)[j * 3 + 1]? = some (.int .i64 T[j].n) ∧ (cellsT T)[j * 3 + 2]? = some (.string T[j].s) := by
    intro T
    induction T with
    | nil => intro j hj; simp at hj
    | cons x r ih =>
      intro j hj
      have e : cellsT (x :: r) = .int .i64 x.k :: .int .i64 x.n :: .string x.s :: cellsT r := rfl
      cases j with
      | zero => rw [e]; exact ⟨rfl, rfl, rfl⟩
      | succ i =>
        have hi : i < r.length := by simpa using hj
        rw [e, show (i + 1) * 3 + 0 = (i * 3 + 0) + 3 by omega, show (i + 1) * 3 + 1 = (i * 3 + 1) + 3 by omega, show (i + 1) * 3 + 2 = (i * 3 + 2) + 3 by omega]
        exact ih i hi
  obtain ⟨v0, v1, v2⟩ := val y.2 j hj
  exact ⟨(at_ 0 (by omega)).trans v0, (at_ 1 (by omega)).trans v1, (at_ 2 (by omega)).trans v2⟩
set_option maxHeartbeats 400000 in
theorem sorted_three (w : World) (n₀ b : Nat) (x y z : Value) (hx : TupIn n₀ w x (oneT 2)) (hy : TupIn n₀ w y (oneT 1)) (hz : TupIn n₀ w z (oneT 2)) (hb : b < w.heap.size) (hn : n₀ ≤ w.heap.size)
    (c0 : w.cell? ⟨b, 0, none⟩ = some x) (c1 : w.cell? ⟨b, 1, none⟩ = some y) (c2 : w.cell? ⟨b, 2, none⟩ = some z) :
    Calls Tryz.prog 23 #[.slice (some ⟨b, 0, none⟩) 3 3] w (ThreeEnd w) := by
  have h := sorted_any w n₀ b 0 3 [(x, oneT 2), (y, oneT 1), (z, oneT 2)] (by
      intro u hu
      simp only [List.mem_cons, List.not_mem_nil, or_false] at hu
      rcases hu with rfl | rfl | rfl
      · exact hx
      · exact hy
      · exact hz) (by
      intro u hu
      simp only [List.mem_cons, List.not_mem_nil, or_false] at hu
      rcases hu with rfl | rfl | rfl <;> simp [oneT]) (by
      intro j hj
      match j, hj with
      | 0, _ => exact c0
      | 1, _ => exact c1
      | 2, _ => exact c2) hb (by simp) (by simp) hn
  refine Calls.mono h ?_
  rintro e w' ⟨P', hperm, hsort, v, Q, rfl, hown, hq, hall, hB⟩
  obtain ⟨p, q, r, rfl, ep, eq, er⟩ := three_sorted (fun x : Value × List V3 => x.2) (oneT 2) (oneT 1) cmp_two_one P' (hperm.map _) hsort
  have hd : (dedup likeT [p, q, r]).map (fun x => x.2) = [oneT 1, oneT 2] := by
    have l1 : likeT q p = false := by
      unfold likeT
      rw [show q.2 = oneT 2 from eq, show p.2 = oneT 1 from ep, cmp_two_one]
      rfl
    have l2 : likeT r q = true := by
      unfold likeT
      rw [show r.2 = oneT 2 from er, show q.2 = oneT 2 from eq, cmpT_self]
      rfl
    simp only [dedup, keptFrom, l1, l2, if_true, Bool.false_eq_true, if_false, List.map_cons, List.map_nil]
    rw [show p.2 = oneT 1 from ep, show q.2 = oneT 2 from eq]
  rw [hd] at hq
  have hl : Q.length = 2 := by simpa using congrArg List.length hq
  obtain ⟨a, b2, rfl⟩ : ∃ a b2, Q = [a, b2] := by
    clear hq hown hall hd
    match Q, hl with
    | [a, b2], _ => exact ⟨a, b2, rfl⟩
  simp only [List.map_cons, List.map_nil, List.cons.injEq, and_true] at hq
  obtain ⟨g, cap, rfl⟩ := own_form hown (by simp)
  have hg := hown.lt g rfl
  refine ⟨g, cap, a.1, rfl, ?_, hg.1, hg.2, ?_, hB⟩
  · have := hown.cellAt 0 (by simp)
    simpa using this
  · have := ownT_in (hall a (by simp))
    rwa [hq.1] at this
end Go.Proofs.YtdfepeeicbpicaaGreatDoor
