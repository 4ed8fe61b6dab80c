/-
  Sums of rows in order: what they have, and that they hang on no order of the rows. No memory is named here.
-/
import Derived.Test.YtcfnpbmkcdmafaaMdYB
namespace Go.Proofs.Ytcfnpbmkcdmafaa
open Go Go.RowKit Go.Shelf

abbrev RiseC (M : List Ct) : Prop := M.Pairwise fun x y => cmpT x.1 y.1 ≤ 0
abbrev StrictC (M : List Ct) : Prop := M.Pairwise fun x y => cmpT x.1 y.1 < 0
def In64 (n : Int) : Prop := -9223372036854775808 ≤ n ∧ n ≤ 9223372036854775807
def AllI (M : List Ct) : Prop := ∀ x ∈ M, In64 x.2
/-- What like ones have together. -/
def cnt (t : List V3) : List Ct → Int
  | [] => 0
  | x :: r => (if cmpT x.1 t = 0 then x.2 else 0) + cnt t r
def cntR (t : List V3) (LL : List (List Ct)) : Int := (LL.map (cnt t)).sum
theorem bestC_min {Ls : List (List Ct)} : ∀ {n m : Nat} {y : Ct}, bestC Ls n = some (m, y) → ∀ (k : Nat) (x : Ct) (r : List Ct), k < n → Ls[k]? = some (x :: r) → cmpT y.1 x.1 ≤ 0
  | 0, _, _, h => by cases h
  | n + 1, m, y, h => by
    intro k x r hk hx
    rcases hl : Ls[n]? with _ | ⟨_ | ⟨x', r'⟩⟩
    · have : bestC Ls (n + 1) = bestC Ls n := by conv => lhs; unfold bestC; rw [hl]
      rw [this] at h
      by_cases e : k = n
      · subst e; rw [hx] at hl; cases hl
      · exact bestC_min h k x r (by omega) hx
    · rw [bestC_miss hl] at h
      by_cases e : k = n
      · subst e; rw [hx] at hl; cases hl
      · exact bestC_min h k x r (by omega) hx
    · rw [bestC_hit hl] at h
      rcases hb : bestC Ls n with _ | ⟨m', y'⟩
      · rw [hb] at h
        injection h with h; injection h with h1 h2
        subst h2
        by_cases e : k = n
        · subst e; rw [hx] at hl; injection hl with hl; injection hl with hl _; subst hl; exact Int.le_of_eq (cmpT_self _)
        · exfalso
          have hall : ∀ q, q ≤ n → bestC Ls q = none → ∀ i, i < q → ∀ z s, Ls[i]? ≠ some (z :: s) := by
            intro q
            induction q with
            | zero => intro _ _ i hi; omega
            | succ q ih =>
              intro hq hbq i hi z s hz
              rcases hl2 : Ls[q]? with _ | ⟨_ | ⟨x2, r2⟩⟩
              · have e2 : bestC Ls (q + 1) = bestC Ls q := by conv => lhs; unfold bestC; rw [hl2]
                rw [e2] at hbq
                by_cases e3 : i = q
                · subst e3; rw [hz] at hl2; cases hl2
                · exact ih (by omega) hbq i (by omega) z s hz
              · rw [bestC_miss hl2] at hbq
                by_cases e3 : i = q
                · subst e3; rw [hz] at hl2; cases hl2
                · exact ih (by omega) hbq i (by omega) z s hz
              · rw [bestC_hit hl2] at hbq
                rcases hb3 : bestC Ls q with _ | ⟨m3, y3⟩
                · rw [hb3] at hbq; cases hbq
                · rw [hb3] at hbq
                  simp only at hbq
                  split at hbq <;> cases hbq
          exact hall n (Nat.le_refl _) hb k (by omega) x r hx
      · rw [hb] at h
        simp only at h
        have ih := bestC_min hb
        split at h
        · rename_i hc
          injection h with h; injection h with h1 h2
          subst h2
          by_cases e : k = n
          · subst e; rw [hx] at hl; injection hl with hl; injection hl with hl _; subst hl; exact Int.le_of_eq (cmpT_self _)
          · exact cmpT_trans _ _ _ (Int.le_of_lt hc) (ih k x r (by omega) hx)
        · rename_i hc
          injection h with h; injection h with h1 h2
          subst h2
          by_cases e : k = n
          · subst e
            rw [hx] at hl; injection hl with hl; injection hl with hl _; subst hl
            rw [cmpT_neg]; omega
          · exact ih k x r (by omega) hx
theorem merge_riseC : ∀ (n : Nat) (Ls : List (List Ct)), totC Ls = n → (∀ (i : Nat) (L : List Ct), Ls[i]? = some L → RiseC L) → RiseC (mergeLC Ls) ∧ ∀ z ∈ mergeLC Ls, ∃ (i : Nat) (L : List Ct), Ls[i]? = some L ∧ z ∈ L := by
  intro n
  induction n with
  | zero =>
    intro Ls h _
    have := mergeLC_len Ls
    rw [h] at this
    rw [List.eq_nil_of_length_eq_zero this]
    exact ⟨List.Pairwise.nil, fun z hz => by cases hz⟩
  | succ n ih =>
    intro Ls h hR
    rcases hb : bestC Ls Ls.length with _ | ⟨m, y⟩
    · rw [mergeLC_none hb]
      exact ⟨List.Pairwise.nil, fun z hz => by cases hz⟩
    · obtain ⟨r, hr, e⟩ := mergeLC_some hb
      have ht := totC_set hr
      have hget : ∀ (i : Nat) (L : List Ct), (Ls.set m r)[i]? = some L → (i = m ∧ L = r) ∨ (i ≠ m ∧ Ls[i]? = some L) := fun i L hi => by
        by_cases e : i = m
        · subst e
          have hlt := (List.getElem?_eq_some_iff.1 hr).1
          rw [List.getElem?_set_self hlt] at hi
          injection hi with hi
          exact .inl ⟨rfl, hi.symm⟩
        · rw [List.getElem?_set_ne (Ne.symm e)] at hi
          exact .inr ⟨e, hi⟩
      have hyr := hR m _ hr
      obtain ⟨h1, h2⟩ := ih (Ls.set m r) (by omega) (fun i L hi => by
        rcases hget i L hi with ⟨-, rfl⟩ | ⟨-, hi⟩
        · exact (List.pairwise_cons.1 hyr).2
        · exact hR i L hi)
      rw [e]
      refine ⟨List.pairwise_cons.2 ⟨fun z hz => ?_, h1⟩, fun z hz => ?_⟩
      · obtain ⟨i, L, hi, hzL⟩ := h2 z hz
        rcases hget i L hi with ⟨-, rfl⟩ | ⟨-, hi⟩
        · exact (List.pairwise_cons.1 hyr).1 z hzL
        · rcases L with _ | ⟨x, s⟩
          · cases hzL
          · have hm := bestC_min hb i x s (List.getElem?_eq_some_iff.1 hi).1 hi
            rcases List.mem_cons.1 hzL with rfl | hz'
            · exact hm
            · exact cmpT_trans _ _ _ hm ((List.pairwise_cons.1 (hR i _ hi)).1 z hz')
      · rcases List.mem_cons.1 hz with rfl | hz
        · exact ⟨m, _, hr, List.mem_cons_self ..⟩
        · obtain ⟨i, L, hi, hzL⟩ := h2 z hz
          rcases hget i L hi with ⟨-, rfl⟩ | ⟨-, hi⟩
          · exact ⟨m, _, hr, List.mem_cons_of_mem _ hzL⟩
          · exact ⟨i, L, hi, hzL⟩
theorem cntR_set (t : List V3) : ∀ {Ls : List (List Ct)} {m : Nat} {y : Ct} {r : List Ct}, Ls[m]? = some (y :: r) → cntR t (Ls.set m r) + (if cmpT y.1 t = 0 then y.2 else 0) = cntR t Ls
  | [], m, y, r, h => by simp at h
  | L :: Ls, 0, y, r, h => by
    simp at h
    subst h
    simp only [cntR, List.set_cons_zero, List.map_cons, List.sum_cons, cnt]
    omega
  | L :: Ls, m + 1, y, r, h => by
    have := cntR_set t (Ls := Ls) (m := m) (by simpa using h)
    simp only [cntR, List.set_cons_succ, List.map_cons, List.sum_cons] at this ⊢
    omega
theorem cntR_zero (t : List V3) : ∀ (Ls : List (List Ct)), totC Ls = 0 → cntR t Ls = 0
  | [], _ => rfl
  | L :: Ls, h => by
    simp only [totC, List.map_cons, List.sum_cons] at h
    have := cntR_zero t Ls (by unfold totC; omega)
    obtain rfl := List.eq_nil_of_length_eq_zero (show L.length = 0 by omega)
    simp only [cntR, List.map_cons, List.sum_cons, cnt] at this ⊢
    omega
theorem cnt_merge (t : List V3) : ∀ (n : Nat) (Ls : List (List Ct)), totC Ls = n → cnt t (mergeLC Ls) = cntR t Ls := by
  intro n
  induction n with
  | zero =>
    intro Ls h
    have := mergeLC_len Ls
    rw [h] at this
    rw [List.eq_nil_of_length_eq_zero this, cntR_zero t Ls h]
    rfl
  | succ n ih =>
    intro Ls h
    rcases hb : bestC Ls Ls.length with _ | ⟨m, y⟩
    · have := mergeLC_len Ls
      rw [mergeLC_none hb, h] at this
      simp at this
    · obtain ⟨r, hr, e⟩ := mergeLC_some hb
      have ht := totC_set hr
      have hc := cntR_set t hr
      rw [e, cnt, ih _ (by omega)]
      omega
theorem cnt_above (t : List V3) : ∀ (M : List Ct), (∀ y ∈ M, cmpT t y.1 < 0) → cnt t M = 0
  | [], _ => rfl
  | y :: M, h => by
    have h0 := h y (List.mem_cons_self ..)
    have := cnt_above t M (fun z hz => h z (List.mem_cons_of_mem _ hz))
    rw [cnt, if_neg (by rw [cmpT_neg]; omega), this]
    rfl
theorem cnt_filter (t : List V3) : ∀ (M : List Ct), cnt t (M.filter pN0) = cnt t M
  | [] => rfl
  | y :: M => by
    have ih := cnt_filter t M
    by_cases h : y.2 = 0
    · have hp : pN0 y = false := by unfold pN0; simpa using h
      rw [List.filter_cons, hp, cnt, h]
      simp only [Bool.false_eq_true, if_false, ite_self]
      omega
    · have hp : pN0 y = true := by unfold pN0; simpa using h
      rw [List.filter_cons, if_pos hp, cnt, cnt, ih]
/-- The head of a sum: like ones are added, what is left stands behind. -/
theorem sumHead_has : ∀ (M : List Ct) (x : Ct), RiseC (x :: M) → In64 x.2 → AllI M →
    (sumHead x M).1.1 = x.1 ∧ In64 (sumHead x M).1.2 ∧ wrap64 (sumHead x M).1.2 = wrap64 (x.2 + cnt x.1 M) ∧ RiseC (sumHead x M).2 ∧ (∀ y ∈ (sumHead x M).2, y ∈ M ∧ cmpT x.1 y.1 < 0) ∧ ∀ t, cmpT x.1 t ≠ 0 → cnt t (sumHead x M).2 = cnt t M
  | [], x, _, hx, _ => by
    refine ⟨rfl, hx, ?_, List.Pairwise.nil, fun y hy => (by cases hy), fun _ _ => rfl⟩
    show wrap64 x.2 = wrap64 (x.2 + 0)
    rw [Int.add_zero]
  | y :: M, x, h, hx, hM => by
    obtain ⟨h1, h2⟩ := List.pairwise_cons.1 h
    obtain ⟨h3, h4⟩ := List.pairwise_cons.1 h2
    have hM' : AllI M := fun z hz => hM z (List.mem_cons_of_mem _ hz)
    unfold sumHead
    by_cases e : cmpT y.1 x.1 = 0
    · rw [if_pos e]
      have exy : y.1 = x.1 := (cmpT_zero _ _).1 e
      have hx2 : In64 (wrap64 (x.2 + y.2)) := by unfold In64 wrap64; omega
      obtain ⟨g1, g2, g3, g4, g5, g6⟩ := sumHead_has M (x.1, wrap64 (x.2 + y.2)) (List.pairwise_cons.2 ⟨fun z hz => h1 z (List.mem_cons_of_mem _ hz), h4⟩) hx2 hM'
      refine ⟨g1, g2, ?_, g4, fun z hz => ⟨List.mem_cons_of_mem _ (g5 z hz).1, (g5 z hz).2⟩, fun t ht => ?_⟩
      · have g3' : wrap64 (sumHead (x.1, wrap64 (x.2 + y.2)) M).1.2 = wrap64 (wrap64 (x.2 + y.2) + cnt x.1 M) := g3
        rw [g3', cnt, if_pos e]
        unfold wrap64
        omega
      · rw [g6 t ht, cnt, if_neg (by rw [exy]; exact ht), Int.zero_add]
    · rw [if_neg e]
      have hlt : cmpT x.1 y.1 < 0 := by
        have a := h1 y (List.mem_cons_self ..)
        have b := cmpT_neg x.1 y.1
        omega
      have hab : ∀ z ∈ y :: M, cmpT x.1 z.1 < 0 := fun z hz => by
        rcases List.mem_cons.1 hz with rfl | hz
        · exact hlt
        · exact cmpT_trans_lt _ _ _ hlt (h3 z hz)
      refine ⟨rfl, hx, ?_, h2, fun z hz => ⟨hz, hab z hz⟩, fun _ _ => rfl⟩
      rw [cnt_above x.1 (y :: M) hab, Int.add_zero]
theorem wrap64_eq {a b : Int} (ha : In64 a) (hb : In64 b) (h : wrap64 a = wrap64 b) : a = b := by
  unfold In64 at ha hb
  unfold wrap64 at h
  omega
theorem sumL_has : ∀ (n : Nat) (M : List Ct), M.length ≤ n → RiseC M → AllI M → StrictC (sumL M) ∧ AllI (sumL M) ∧ (∀ z ∈ sumL M, ∃ y ∈ M, z.1 = y.1) ∧ ∀ t, wrap64 (cnt t (sumL M)) = wrap64 (cnt t M) := by
  intro n
  induction n with
  | zero =>
    intro M hl _ _
    obtain rfl := List.eq_nil_of_length_eq_zero (Nat.le_zero.1 hl)
    exact ⟨List.Pairwise.nil, fun z hz => by simp [sumL, sumF] at hz, fun z hz => by simp [sumL, sumF] at hz, fun _ => rfl⟩
  | succ n ih =>
    intro M hl hR hI
    rcases M with _ | ⟨x, M⟩
    · exact ⟨List.Pairwise.nil, fun z hz => by simp [sumL, sumF] at hz, fun z hz => by simp [sumL, sumF] at hz, fun _ => rfl⟩
    · have hI' : AllI M := fun z hz => hI z (List.mem_cons_of_mem _ hz)
      obtain ⟨g1, g2, g3, g4, g5, g6⟩ := sumHead_has M x hR (hI x (List.mem_cons_self ..)) hI'
      have hlen := sumHead_len x M
      obtain ⟨i1, i2, i3, i4⟩ := ih (sumHead x M).2 (by simp at hl; omega) g4 (fun z hz => hI' z (g5 z hz).1)
      rw [sumL_cons]
      refine ⟨List.pairwise_cons.2 ⟨fun z hz => ?_, i1⟩, fun z hz => ?_, fun z hz => ?_, fun t => ?_⟩
      · obtain ⟨y, hy, e⟩ := i3 z hz
        rw [g1, e]
        exact (g5 y hy).2
      · rcases List.mem_cons.1 hz with rfl | hz
        · exact g2
        · exact i2 z hz
      · rcases List.mem_cons.1 hz with rfl | hz
        · exact ⟨x, List.mem_cons_self .., g1⟩
        · obtain ⟨y, hy, e⟩ := i3 z hz
          exact ⟨y, List.mem_cons_of_mem _ (g5 y hy).1, e⟩
      · have i4t := i4 t
        rw [cnt, cnt, g1]
        by_cases e : cmpT x.1 t = 0
        · obtain rfl : x.1 = t := (cmpT_zero _ _).1 e
          rw [cnt_above x.1 (sumHead x M).2 (fun y hy => (g5 y hy).2)] at i4t
          rw [if_pos e, if_pos e]
          unfold wrap64 at g3 i4t ⊢
          omega
        · rw [g6 t e] at i4t
          rw [if_neg e, if_neg e]
          unfold wrap64 at i4t ⊢
          omega
/-- What sums of rows in order have. -/
theorem sumsL_has (LL : List (List Ct)) (hR : ∀ L ∈ LL, RiseC L) (hI : ∀ L ∈ LL, AllI L) : StrictC (sumsL LL) ∧ AllI (sumsL LL) ∧ (∀ z ∈ sumsL LL, z.2 ≠ 0) ∧ ∀ t, wrap64 (cnt t (sumsL LL)) = wrap64 (cntR t LL) := by
  obtain ⟨m1, m2⟩ := merge_riseC _ LL rfl (fun i L h => hR L (List.mem_of_getElem? h))
  have m3 : AllI (mergeLC LL) := fun z hz => by
    obtain ⟨i, L, h, hz'⟩ := m2 z hz
    exact hI L (List.mem_of_getElem? h) z hz'
  obtain ⟨s1, s2, -, s4⟩ := sumL_has _ (mergeLC LL) (Nat.le_refl _) m1 m3
  unfold sumsL
  refine ⟨s1.filter _, fun z hz => s2 z (List.mem_filter.1 hz).1, fun z hz => ?_, fun t => ?_⟩
  · have := (List.mem_filter.1 hz).2
    unfold pN0 at this
    simpa using this
  · rw [cnt_filter, s4, cnt_merge t _ LL rfl]
/-- Two rows in order that have the same are the same. -/
theorem strict_eq : ∀ (R R' : List Ct), StrictC R → StrictC R' → AllI R → AllI R' → (∀ z ∈ R, z.2 ≠ 0) → (∀ z ∈ R', z.2 ≠ 0) → (∀ t, wrap64 (cnt t R) = wrap64 (cnt t R')) → R = R'
  | [], [], _, _, _, _, _, _, _ => rfl
  | [], y :: r', _, h', _, i', _, z', h => by
    exfalso
    have e := h y.1
    rw [cnt, cnt, if_pos (cmpT_self _), cnt_above y.1 r' (List.pairwise_cons.1 h').1, Int.add_zero] at e
    exact z' y (List.mem_cons_self ..) (wrap64_eq (by unfold In64; omega) (i' y (List.mem_cons_self ..)) e).symm
  | x :: r, [], h0, _, i, _, z, _, h => by
    exfalso
    have e := h x.1
    rw [cnt, cnt, if_pos (cmpT_self _), cnt_above x.1 r (List.pairwise_cons.1 h0).1, Int.add_zero] at e
    exact z x (List.mem_cons_self ..) (wrap64_eq (i x (List.mem_cons_self ..)) (by unfold In64; omega) e)
  | x :: r, y :: r', h0, h', i, i', z, z', h => by
    obtain ⟨a1, a2⟩ := List.pairwise_cons.1 h0
    obtain ⟨b1, b2⟩ := List.pairwise_cons.1 h'
    have ix := i x (List.mem_cons_self ..)
    have iy := i' y (List.mem_cons_self ..)
    have i0 : In64 0 := by unfold In64; omega
    by_cases c : cmpT x.1 y.1 < 0
    · exfalso
      have e := h x.1
      rw [cnt, if_pos (cmpT_self _), cnt_above x.1 r a1, Int.add_zero, cnt_above x.1 (y :: r') (fun w hw => by
        rcases List.mem_cons.1 hw with rfl | hw
        · exact c
        · exact cmpT_trans_lt _ _ _ c (Int.le_of_lt (b1 w hw)))] at e
      exact z x (List.mem_cons_self ..) (wrap64_eq ix i0 e)
    · by_cases c' : cmpT y.1 x.1 < 0
      · exfalso
        have e := h y.1
        rw [cnt_above y.1 (x :: r) (fun w hw => by
          rcases List.mem_cons.1 hw with rfl | hw
          · exact c'
          · exact cmpT_trans_lt _ _ _ c' (Int.le_of_lt (a1 w hw))), cnt, if_pos (cmpT_self _), cnt_above y.1 r' b1, Int.add_zero] at e
        exact z' y (List.mem_cons_self ..) (wrap64_eq i0 iy e).symm
      · have exy : x.1 = y.1 := by
          have := cmpT_neg x.1 y.1
          exact (cmpT_zero _ _).1 (by omega)
        have e := h x.1
        rw [cnt, if_pos (cmpT_self _), cnt_above x.1 r a1, Int.add_zero, cnt, if_pos (by rw [exy]; exact cmpT_self _), cnt_above x.1 r' (by rw [exy]; exact b1), Int.add_zero] at e
        have e2 : x.2 = y.2 := wrap64_eq ix iy e
        have et : r = r' := strict_eq r r' a2 b2 (fun w hw => i w (List.mem_cons_of_mem _ hw)) (fun w hw => i' w (List.mem_cons_of_mem _ hw)) (fun w hw => z w (List.mem_cons_of_mem _ hw)) (fun w hw => z' w (List.mem_cons_of_mem _ hw)) (fun t => by
          have ht := h t
          by_cases ct : cmpT x.1 t = 0
          · obtain rfl : x.1 = t := (cmpT_zero _ _).1 ct
            rw [cnt_above x.1 r a1, cnt_above x.1 r' (by rw [exy]; exact b1)]
          · rw [cnt, if_neg ct, cnt, if_neg (by rw [← exy]; exact ct), Int.zero_add, Int.zero_add] at ht
            exact ht)
        rw [et, show x = y from Prod.ext exy e2]
theorem cntR_append (t : List V3) (A B : List (List Ct)) : cntR t (A ++ B) = cntR t A + cntR t B := by
  unfold cntR
  rw [List.map_append, List.sum_append]
theorem cntR_reverse (t : List V3) : ∀ (A : List (List Ct)), cntR t A.reverse = cntR t A
  | [] => rfl
  | L :: A => by
    rw [List.reverse_cons, cntR_append, cntR_reverse t A]
    simp only [cntR, List.map_cons, List.map_nil, List.sum_cons, List.sum_nil]
    omega
/-- The sums hang on no order of the rows. -/
theorem sums_reverse (LL : List (List Ct)) (hR : ∀ L ∈ LL, RiseC L) (hI : ∀ L ∈ LL, AllI L) : sumsL LL.reverse = sumsL LL := by
  obtain ⟨a1, a2, a3, a4⟩ := sumsL_has LL hR hI
  obtain ⟨b1, b2, b3, b4⟩ := sumsL_has LL.reverse (fun L h => hR L (List.mem_reverse.1 h)) (fun L h => hI L (List.mem_reverse.1 h))
  exact strict_eq _ _ b1 a1 b2 a2 b3 a3 (fun t => by rw [a4, b4, cntR_reverse])
/-- Nor on which were added up first. -/
theorem sums_parts (LL : List (List Ct)) (n : Nat) (hR : ∀ L ∈ LL, RiseC L) (hI : ∀ L ∈ LL, AllI L) : sumsL [sumsL (LL.take n), sumsL (LL.drop n)] = sumsL LL := by
  obtain ⟨a1, a2, a3, a4⟩ := sumsL_has LL hR hI
  obtain ⟨b1, b2, -, b4⟩ := sumsL_has (LL.take n) (fun L h => hR L (List.mem_of_mem_take h)) (fun L h => hI L (List.mem_of_mem_take h))
  obtain ⟨c1, c2, -, c4⟩ := sumsL_has (LL.drop n) (fun L h => hR L (List.mem_of_mem_drop h)) (fun L h => hI L (List.mem_of_mem_drop h))
  have two : ∀ (p : List Ct → Prop), p (sumsL (LL.take n)) → p (sumsL (LL.drop n)) → ∀ L ∈ [sumsL (LL.take n), sumsL (LL.drop n)], p L := fun p h1 h2 L hL => by
    rcases List.mem_cons.1 hL with rfl | hL
    · exact h1
    · rw [List.mem_singleton.1 hL]; exact h2
  obtain ⟨d1, d2, d3, d4⟩ := sumsL_has [sumsL (LL.take n), sumsL (LL.drop n)] (two RiseC (b1.imp fun h => Int.le_of_lt h) (c1.imp fun h => Int.le_of_lt h)) (two AllI b2 c2)
  refine strict_eq _ _ d1 a1 d2 a2 d3 a3 (fun t => ?_)
  have e := cntR_append t (LL.take n) (LL.drop n)
  rw [List.take_append_drop] at e
  have b := b4 t
  have c := c4 t
  rw [a4, d4, e]
  simp only [cntR, List.map_cons, List.map_nil, List.sum_cons, List.sum_nil] at b c ⊢
  unfold wrap64 at b c ⊢
  omega
end Go.Proofs.Ytcfnpbmkcdmafaa
