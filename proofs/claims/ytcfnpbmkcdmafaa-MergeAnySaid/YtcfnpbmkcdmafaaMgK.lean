/-
  Contract of the closure of merge.Merge.
-/
import Derived.Test.YtcfnpbmkcdmafaaMgJ
namespace Go.Proofs.Ytcfnpbmkcdmafaa
open Go Go.RowKit Go.Shelf

def tot (Ls : List (List Th)) : Nat := (Ls.map List.length).sum
theorem tot_set : ∀ {Ls : List (List Th)} {m : Nat} {y : Th} {r : List Th}, Ls[m]? = some (y :: r) → tot (Ls.set m r) + 1 = tot Ls
  | [], m, y, r, h => by simp at h
  | L :: Ls, 0, y, r, h => by
    simp at h
    subst h
    simp [tot]; omega
  | L :: Ls, m + 1, y, r, h => by
    have := tot_set (Ls := Ls) (m := m) (by simpa using h)
    simp only [tot, List.set_cons_succ, List.map_cons, List.sum_cons] at this ⊢
    omega
def mergeF : Nat → List (List Th) → List Th
  | 0, _ => []
  | f + 1, Ls => match bestN Ls Ls.length with
    | none => []
    | some (m, y) => y :: mergeF f (Ls.set m (Ls.getD m []).tail)
/-- What several merged tell. -/
def mergeL (Ls : List (List Th)) : List Th := mergeF (tot Ls) Ls
theorem mergeL_none {Ls : List (List Th)} (h : bestN Ls Ls.length = none) : mergeL Ls = [] := by
  unfold mergeL
  cases tot Ls with
  | zero => rfl
  | succ f => unfold mergeF; rw [h]
theorem mergeL_some {Ls : List (List Th)} {m : Nat} {y : Th} (h : bestN Ls Ls.length = some (m, y)) : ∃ r, Ls[m]? = some (y :: r) ∧ mergeL Ls = y :: mergeL (Ls.set m r) := by
  obtain ⟨-, r, hr⟩ := bestN_some h
  refine ⟨r, hr, ?_⟩
  have ht := tot_set hr
  unfold mergeL
  rw [← ht]
  conv => lhs; unfold mergeF
  rw [h]
  simp only [List.getD, hr, Option.getD_some, List.tail_cons]
/-- What the closure of Merge keeps. -/
def MrJ (cc cs : Nat) (Y : Nat → Prop) (M : List Th) (w : World) : Prop :=
  (∀ k, Y k → k < w.heap.size) ∧ Y cc ∧ Y cs ∧ w.cell? ⟨cc, 0, none⟩ = some cmpFn ∧
  ∃ (v : Value) (Q : List SrcQ) (Yq : Nat → Prop), w.cell? ⟨cs, 0, none⟩ = some v ∧ PtrIn (fun k => Y k ∧ ¬ Yq k) w v (Q.map (·.1)) ∧ Srcs Q Yq w ∧ (∀ k, Yq k → Y k ∧ k ≠ cc ∧ k ≠ cs) ∧ M = mergeL (leftQ Q) ∧ Q.length ≤ 1000
theorem MrJ.keep {cc cs : Nat} {Y : Nat → Prop} {M : List Th} {w w' : World} (h : MrJ cc cs Y M w) (hs : w.heap.size ≤ w'.heap.size) (hb : ∀ b, Y b → w'.heap[b]? = w.heap[b]?) : MrJ cc cs Y M w' := by
  obtain ⟨h1, h2, h3, h4, v, Q, Yq, h5, h6, h7, h8, h9⟩ := h
  exact ⟨fun k e => Nat.lt_of_lt_of_le (h1 k e) hs, h2, h3, (World.cell?_of_block (a := ⟨cc, 0, none⟩) (hb cc h2)).trans h4, v, Q, Yq, (World.cell?_of_block (a := ⟨cs, 0, none⟩) (hb cs h3)).trans h5,
    h6.keep hs (fun k e _ => ⟨e, hb k e.1⟩), h7.keep hs (fun k e => hb k (h8 k e).1), h8, h9⟩
theorem MrJ.step {cc cs : Nat} {Y Yq Yq' : Nat → Prop} {w w' : World} {v : Value} {Q Q' : List SrcQ} (h1 : ∀ k, Y k → k < w.heap.size) (h2 : Y cc) (h3 : Y cs) (h4 : w.cell? ⟨cc, 0, none⟩ = some cmpFn) (h5 : w.cell? ⟨cs, 0, none⟩ = some v) (h6 : PtrIn (fun k => Y k ∧ ¬ Yq k) w v (Q.map (·.1)))
    (h8 : ∀ k, Yq k → Y k ∧ k ≠ cc ∧ k ≠ cs) (hu : Upd (allOf Yq) w w') (hs : Srcs Q' Yq' w') (hq : Q'.map (·.1) = Q.map (·.1)) (hY : ∀ k, Yq' k → Yq k ∨ (w.heap.size ≤ k ∧ k < w'.heap.size)) (hQ : Q'.length ≤ 1000) :
    MrJ cc cs (More w.heap.size w'.heap.size Y) (mergeL (leftQ Q')) w' := by
  have off : ∀ k, k < w.heap.size → ¬ Yq k → w'.heap[k]? = w.heap[k]? := fun k hk hn => hu.block k hk (fun _ e => hn e)
  have nc : ¬ Yq cc := fun e => (h8 cc e).2.1 rfl
  have ns : ¬ Yq cs := fun e => (h8 cs e).2.2 rfl
  have h6' := h6.keep (w' := w') (S' := fun k => More w.heap.size w'.heap.size Y k ∧ ¬ Yq' k) hu.size (fun k e hk => ⟨⟨.inl e.1, fun e' => by
    rcases hY k e' with e'' | e''
    · exact e.2 e''
    · omega⟩, off k hk e.2⟩)
  refine ⟨?_, .inl h2, .inl h3, (World.cell?_of_block (a := ⟨cc, 0, none⟩) (off cc (h1 cc h2) nc)).trans h4, v, Q', Yq', (World.cell?_of_block (a := ⟨cs, 0, none⟩) (off cs (h1 cs h3) ns)).trans h5, by rw [hq]; exact h6', hs, fun k e => ?_, rfl, hQ⟩
  · rintro k (e | e)
    · exact Nat.lt_of_lt_of_le (h1 k e) hu.size
    · exact e.2
  · rcases hY k e with e' | e'
    · exact ⟨.inl (h8 k e').1, (h8 k e').2⟩
    · exact ⟨.inr e', fun e'' => by have := h1 cc h2; omega, fun e'' => by have := h1 cs h3; omega⟩
theorem neqSrc_nil (W : World) : (binOp .neq 87 (.pointer none) (.pointer none)).run Try.prog W = .ok (.bool false) W := by kernel_rfl
theorem neqSrc_ptr (s : Nat) (W : World) : (binOp .neq 87 (.pointer (some ⟨s, 0, none⟩)) (.pointer none)).run Try.prog W = .ok (.bool true) W := by kernel_rfl
theorem leftQ_pk (Q : List SrcQ) : leftQ (Q.map pkQ) = leftQ Q := by unfold leftQ; rw [List.map_map]; rfl
theorem fstQ_pk (Q : List SrcQ) : (Q.map pkQ).map (·.1) = Q.map (·.1) := by rw [List.map_map]; rfl
theorem leftQ_len (Q : List SrcQ) : (leftQ Q).length = Q.length := List.length_map _
set_option maxRecDepth 100000 in
set_option maxHeartbeats 2000000 in
theorem merge1_any {cc cs : Nat} {Y : Nat → Prop} {M : List Th} {w : World} (h : MrJ cc cs Y M w) : Calls Try.prog 52 #[.pointer (some ⟨cc, 0, none⟩), .pointer (some ⟨cs, 0, none⟩)] w (TellEnd Y M (MrJ cc cs) w) := by
  have HI := Lib.hid h.1
  have h' := h.keep (w' := w.alloc (.cells #[.int .i8 0, .int .i64 0] 28)) (by simp) (fun b e => Below.heap_alloc _ _ _ (by have := h.1 b e; omega))
  have hl1 := h.1 cc h.2.1
  have hl2 := h.1 cs h.2.2.1
  obtain ⟨h1, h2, h3, h4, v, Q, Yq, h5, h6, h7, h8, rfl, h9⟩ := h'
  have HN := Lib.hid neqSrc_nil
  have q1 := neqSrc_nil
  have q2 := neqSrc_ptr
  have HC := Lib.hid (least_any h7 h6 (fun k e => e.2) h9)
  have HL := Lib.hid (fun w' Q' Yq' => MrJ.step (w' := w') (Q' := Q') (Yq' := Yq') h1 h2 h3 h4 h5 h6 h8)
  have H8 := Lib.hid h8
  have H9 := Lib.hid h9
  obtain ⟨p, c, rfl, -, -, -⟩ := h6
  rw [List.length_map] at h5 HC
  clear h h1 h2 h3 h7 h8 h9
  rw [World.cell?_alloc_lt _ _ _ hl1] at h4
  rw [World.cell?_alloc_lt _ _ _ hl2] at h5
  rcases hbn : bestN (leftQ Q) Q.length with _ | ⟨m, y⟩
  · have HB := Lib.hid hbn
    go_enter Try.func52, Try.ntmps52
    go_wp2_with fail
    refine HC.out.mono ?_
    rintro e w1 ⟨rfl, hu, hs⟩
    rw [HB.out]
    have hj := HL.out w1 _ _ hu hs (fstQ_pk Q) (fun k e => e) (by simpa using H9.out)
    rw [leftQ_pk] at hj
    have hm0 := mergeL_none (Ls := leftQ Q) (by rw [leftQ_len]; exact HB.out)
    have hc1 := upd_cell HI.out (hu.allMono fun k e => (H8.out k e).1)
    have HQ := Lib.hid (told_after (P := MrJ cc cs) MrJ.keep (.int .i8 0) (.int .i64 0) HI.out (hu.allMono fun k e => (H8.out k e).1) (fun k e => e.imp_right fun e => e.1) hj)
    have HN2 := Lib.hid (cells_set2 hc1 (.int .i8 0) (.int .i64 0))
    have c0 := cell_of_row w1 w.heap.size 0 _ _ (0, 0) hc1
    have c1 := cell_of_row w1 w.heap.size 1 _ _ (0, 0) hc1
    have f0 := frozen_of_row w1 w.heap.size 0 _ _ hc1
    have f1 := frozen_of_row w1 w.heap.size 1 _ _ hc1
    have HM := Lib.hid hm0
    unfold bestV
    clear hu hs hj hm0 hc1 hbn
    go_wp2_with fail
    obtain ⟨n0, n1⟩ := HN2.out
    refine bodyPost_ret (v := .tuple #[.agg #[.int .i8 0, .int .i64 0], .bool false]) (by simp [results, Try.results52, go_sem, n0, n1]) rfl ⟨by rw [HM.out]; rfl, ?_⟩
    rw [HM.out] at HQ ⊢
    exact HQ.out
  · have HB := Lib.hid hbn
    clear hbn
    go_enter Try.func52, Try.ntmps52
    go_wp2_with fail
    refine HC.out.mono ?_
    rintro e w1 ⟨rfl, hu, hs⟩
    rw [HB.out]
    obtain ⟨r, hr, hm1⟩ := mergeL_some (Ls := leftQ Q) (by rw [leftQ_len]; exact HB.out)
    have hmQ : m < Q.length := by
      have := (List.getElem?_eq_some_iff.1 hr).1
      rwa [leftQ_len] at this
    have hQm : Q[m].2.2 = y :: r := by
      unfold leftQ at hr
      rw [List.getElem?_map, List.getElem?_eq_getElem hmQ] at hr
      simpa using hr
    obtain ⟨Yi, g1, g2, g3⟩ := hs.at_ m (by simpa using hmQ)
    have hpk : (Q.map pkQ)[m]'(by simpa using hmQ) = pkQ Q[m] := List.getElem_map _
    rw [hpk] at g1 g3
    obtain ⟨s, hs0⟩ : ∃ s, s = Q[m].1 := ⟨_, rfl⟩
    have hpk1 : (pkQ Q[m]).1 = s := hs0.symm
    have hpk2 : (pkQ Q[m]).2.2 = y :: r := hQm
    rw [hpk1, hpk2] at g1
    rw [hpk1] at g3
    have HT := Lib.hid (take_any g1)
    have hbv : bestV (Q.map (·.1)) (some (m, y)) = .pointer (some ⟨s, 0, none⟩) := by unfold bestV; simp [List.getD, hmQ, hs0]
    rw [hbv]
    clear hbv g1
    have HG := Lib.hid (And.intro hu (And.intro hr (And.intro hm1 (And.intro hs0 (And.intro hmQ g3)))))
    clear hu hs hr hm1 hs0 hQm g2 g3 hpk hpk1 hpk2
    have HmQ := Lib.hid hmQ
    go_wp2_with fail
    refine HT.out.mono ?_
    rintro e w2 ⟨rfl, hu2, Y2, hs2, hsrc2⟩
    have hjj : MrJ cc cs (More (w.alloc (.cells #[.int .i8 0, .int .i64 0] 28)).heap.size w2.heap.size Y) (mergeL ((leftQ Q).set m r)) w2 ∧ Upd (allOf Yq) (w.alloc (.cells #[.int .i8 0, .int .i64 0] 28)) w2 := by
      obtain ⟨hu, hr, hm1, hs0, -, g3⟩ := HG.out
      obtain ⟨k1, k2⟩ := g3 w2 false Y2 r hu2 hs2 hsrc2
      have hu3 := hu.then k1 (fun x _ hx e => by
        rcases e with e | e
        · exact e
        · omega)
      have e1 : leftQ ((Q.map pkQ).set m (s, false, r)) = (leftQ Q).set m r := by
        unfold leftQ
        rw [List.map_set, List.map_map]
        rfl
      have e2 : ((Q.map pkQ).set m (s, false, r)).map (·.1) = Q.map (·.1) := by
        rw [List.map_set, fstQ_pk]
        refine List.ext_getElem (by simp) (fun i h1 h2 => ?_)
        rw [List.getElem_set]
        split
        · rename_i e; subst e; simp [hs0]
        · rfl
      have := HL.out w2 _ _ hu3 k2 e2 (fun k e => by
        rcases e with (e | e) | e
        · exact .inl e
        · exact .inr ⟨e.1, Nat.lt_of_lt_of_le e.2 hu2.size⟩
        · exact .inr ⟨Nat.le_trans hu.size e.1, e.2⟩) (by simpa using H9.out)
      rw [e1] at this
      exact ⟨this, hu3⟩
    obtain ⟨hj, hu⟩ := hjj
    have hc1 := upd_cell HI.out (hu.allMono fun k e => (H8.out k e).1)
    have HQ := Lib.hid (told_after (P := MrJ cc cs) MrJ.keep (.int .i8 y.1) (.int .i64 y.2) HI.out (hu.allMono fun k e => (H8.out k e).1) (fun k e => e.imp_right fun e => e.1) hj)
    have HN2 := Lib.hid (cells_set2 hc1 (.int .i8 y.1) (.int .i64 y.2))
    have c0 := cell_of_row w2 w.heap.size 0 _ _ (0, 0) hc1
    have c1 := cell_of_row w2 w.heap.size 1 _ _ (0, 0) hc1
    have f0 := frozen_of_row w2 w.heap.size 0 _ _ hc1
    have f1 := frozen_of_row w2 w.heap.size 1 _ _ hc1
    have HM := Lib.hid HG.out.2.2.1
    unfold headV
    clear hu hj hc1 hu2 hs2 hsrc2 HG
    go_wp2_with fail
    obtain ⟨n0, n1⟩ := HN2.out
    refine bodyPost_ret (v := .tuple #[.agg #[.int .i8 y.1, .int .i64 y.2], .bool true]) (by simp [results, Try.results52, go_sem, n0, n1]) rfl ⟨by rw [HM.out]; rfl, ?_⟩
    rw [HM.out]
    exact HQ.out
/-- The closure of Merge tells what its sources tell, merged. -/
theorem MrJ.tells {cc cs : Nat} {Y : Nat → Prop} {M : List Th} {w : World} (h : MrJ cc cs Y M w) : Tells 52 #[.pointer (some ⟨cc, 0, none⟩), .pointer (some ⟨cs, 0, none⟩)] Tt Y M w :=
  ⟨h.1, MrJ cc cs, Y, fun _ e => e, h, fun _ _ _ h => ⟨h.1, trivial⟩, fun _ _ _ _ h => h.keep, fun _ _ _ h => merge1_any h⟩
end Go.Proofs.Ytcfnpbmkcdmafaa
