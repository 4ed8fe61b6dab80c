/-
  Rows in order: what a merge of them, Once, Both and Less have.
-/
import Derived.Test.YtlccleafjpeccaaMhD
import Derived.Test.YtlccleafjpeccaaMhF
namespace Go.Proofs.Ytlccleafjpeccaa
open Go Go.RowKit Go.Shelf

abbrev Rise (L : List Th) : Prop := L.Pairwise fun x y => x.1 ≤ y.1
abbrev Strict (L : List Th) : Prop := L.Pairwise fun x y => x.1 < y.1
theorem cmp_lt (x y : Th) : cmpT2 x y < 0 ↔ x.1 < y.1 := by
  unfold cmpT2
  constructor
  · intro h
    split at h
    · assumption
    · split at h <;> omega
  · intro h
    rw [if_pos h]; omega
theorem cmp_eq (x y : Th) : cmpT2 x y = 0 ↔ x.1 = y.1 := by
  unfold cmpT2
  constructor
  · intro h
    split at h
    · omega
    · split at h <;> omega
  · intro h
    rw [if_neg (by omega), if_neg (by omega)]
theorem bestN_min {Ls : List (List Th)} : ∀ {n m : Nat} {y : Th}, bestN Ls n = some (m, y) → ∀ (k : Nat) (x : Th) (r : List Th), k < n → Ls[k]? = some (x :: r) → y.1 ≤ x.1
  | 0, _, _, h => by cases h
  | n + 1, m, y, h => by
    intro k x r hk hx
    rcases hl : Ls[n]? with _ | ⟨_ | ⟨x', r'⟩⟩
    · have : bestN Ls (n + 1) = bestN Ls n := by conv => lhs; unfold bestN; rw [hl]
      rw [this] at h
      by_cases e : k = n
      · subst e; rw [hx] at hl; cases hl
      · exact bestN_min h k x r (by omega) hx
    · rw [bestN_miss hl] at h
      by_cases e : k = n
      · subst e; rw [hx] at hl; cases hl
      · exact bestN_min h k x r (by omega) hx
    · rw [bestN_hit hl] at h
      rcases hb : bestN Ls n with _ | ⟨m', y'⟩
      · rw [hb] at h
        injection h with h; injection h with h1 h2
        subst h2
        by_cases e : k = n
        · subst e; rw [hx] at hl; injection hl with hl; injection hl with hl _; subst hl; exact Int.le_refl _
        · exfalso
          have hall : ∀ q, q ≤ n → bestN Ls q = none → ∀ i, i < q → ∀ z s, Ls[i]? ≠ some (z :: s) := by
            intro q
            induction q with
            | zero => intro _ _ i hi; omega
            | succ q ih =>
              intro hq hbq i hi z s hz
              rcases hl2 : Ls[q]? with _ | ⟨_ | ⟨x2, r2⟩⟩
              · have e2 : bestN Ls (q + 1) = bestN Ls q := by conv => lhs; unfold bestN; rw [hl2]
                rw [e2] at hbq
                by_cases e3 : i = q
                · subst e3; rw [hz] at hl2; cases hl2
                · exact ih (by omega) hbq i (by omega) z s hz
              · rw [bestN_miss hl2] at hbq
                by_cases e3 : i = q
                · subst e3; rw [hz] at hl2; cases hl2
                · exact ih (by omega) hbq i (by omega) z s hz
              · rw [bestN_hit hl2] at hbq
                rcases hb3 : bestN Ls q with _ | ⟨m3, y3⟩
                · rw [hb3] at hbq; cases hbq
                · rw [hb3] at hbq
                  simp only at hbq
                  split at hbq <;> cases hbq
          exact hall n (Nat.le_refl _) hb k (by omega) x r hx
      · rw [hb] at h
        simp only at h
        have ih := bestN_min hb
        split at h
        · rename_i hc
          injection h with h; injection h with h1 h2
          subst h2
          by_cases e : k = n
          · subst e; rw [hx] at hl; injection hl with hl; injection hl with hl _; subst hl; exact Int.le_refl _
          · have := ih k x r (by omega) hx
            have := (cmp_lt _ _).1 hc
            omega
        · rename_i hc
          injection h with h; injection h with h1 h2
          subst h2
          by_cases e : k = n
          · subst e
            rw [hx] at hl; injection hl with hl; injection hl with hl _; subst hl
            have := mt (cmp_lt _ _).2 hc
            omega
          · exact ih k x r (by omega) hx
theorem merge_rise : ∀ (n : Nat) (Ls : List (List Th)), tot Ls = n → (∀ (i : Nat) (L : List Th), Ls[i]? = some L → Rise L) → Rise (mergeL Ls) ∧ ∀ z ∈ mergeL Ls, ∃ (i : Nat) (L : List Th), Ls[i]? = some L ∧ z ∈ L := by
  intro n
  induction n with
  | zero =>
    intro Ls h _
    have := mergeL_len Ls
    rw [h] at this
    rw [List.eq_nil_of_length_eq_zero this]
    exact ⟨List.Pairwise.nil, fun z hz => by cases hz⟩
  | succ n ih =>
    intro Ls h hR
    rcases hb : bestN Ls Ls.length with _ | ⟨m, y⟩
    · rw [mergeL_none hb]
      exact ⟨List.Pairwise.nil, fun z hz => by cases hz⟩
    · obtain ⟨r, hr, e⟩ := mergeL_some hb
      have ht := tot_set hr
      have hget : ∀ (i : Nat) (L : List Th), (Ls.set m r)[i]? = some L → (i = m ∧ L = r) ∨ (i ≠ m ∧ Ls[i]? = some L) := fun i L hi => by
        by_cases e : i = m
        · subst e
          have hlt := (List.getElem?_eq_some_iff.1 hr).1
          rw [List.getElem?_set_self hlt] at hi
          injection hi with hi
          exact .inl ⟨rfl, hi.symm⟩
        · rw [List.getElem?_set_ne (Ne.symm e)] at hi
          exact .inr ⟨e, hi⟩
      have hyr := hR m _ hr
      obtain ⟨h1, h2⟩ := ih (Ls.set m r) (by omega) (fun i L hi => by
        rcases hget i L hi with ⟨-, rfl⟩ | ⟨-, hi⟩
        · exact (List.pairwise_cons.1 hyr).2
        · exact hR i L hi)
      rw [e]
      refine ⟨List.pairwise_cons.2 ⟨fun z hz => ?_, h1⟩, fun z hz => ?_⟩
      · obtain ⟨i, L, hi, hzL⟩ := h2 z hz
        rcases hget i L hi with ⟨-, rfl⟩ | ⟨-, hi⟩
        · exact (List.pairwise_cons.1 hyr).1 z hzL
        · rcases L with _ | ⟨x, s⟩
          · cases hzL
          · have hm := bestN_min hb i x s (List.getElem?_eq_some_iff.1 hi).1 hi
            rcases List.mem_cons.1 hzL with rfl | hz'
            · exact hm
            · exact Int.le_trans hm ((List.pairwise_cons.1 (hR i _ hi)).1 z hz')
      · rcases List.mem_cons.1 hz with rfl | hz
        · exact ⟨m, _, hr, List.mem_cons_self ..⟩
        · obtain ⟨i, L, hi, hzL⟩ := h2 z hz
          rcases hget i L hi with ⟨-, rfl⟩ | ⟨-, hi⟩
          · exact ⟨m, _, hr, List.mem_cons_of_mem _ hzL⟩
          · exact ⟨i, L, hi, hzL⟩
theorem merge_one : ∀ (L : List Th), mergeL [L] = L
  | [] => mergeL_none rfl
  | x :: r => by
    obtain ⟨s, hs, e⟩ := mergeL_some (Ls := [x :: r]) (m := 0) (y := x) rfl
    simp at hs
    subst hs
    rw [e, List.set_cons_zero, merge_one r]
theorem once_strict : ∀ (L : List Th) (s : Option Th), Rise L → (∀ y, s = some y → ∀ z ∈ L, y.1 ≤ z.1) → Strict (onlyL onStep s L) ∧ ∀ y, s = some y → ∀ z ∈ onlyL onStep s L, y.1 < z.1
  | [], s, _, _ => ⟨List.Pairwise.nil, fun _ _ z hz => by cases hz⟩
  | x :: r, s, h, hs => by
    obtain ⟨h1, h2⟩ := List.pairwise_cons.1 h
    have hcase : onStep s x = (true, some x) ∨ (∃ y, s = some y ∧ y.1 = x.1 ∧ onStep s x = (false, some y)) := by
      rcases s with _ | y
      · exact .inl rfl
      · unfold onStep
        simp only
        by_cases e : cmpT2 x y = 0
        · rw [if_pos e]
          exact .inr ⟨y, rfl, ((cmp_eq x y).1 e).symm, rfl⟩
        · rw [if_neg e]
          exact .inl rfl
    rcases hcase with e | ⟨y, rfl, hy, e⟩
    · have e2 : onlyL onStep s (x :: r) = x :: onlyL onStep (some x) r := by
        conv => lhs; unfold onlyL
        rw [e]; rfl
      rw [e2]
      obtain ⟨g1, g2⟩ := once_strict r (some x) h2 (fun y hy z hz => by cases hy; exact h1 z hz)
      refine ⟨List.pairwise_cons.2 ⟨g2 x rfl, g1⟩, fun y hy z hz => ?_⟩
      have hyx := hs y hy x (List.mem_cons_self ..)
      have hne : y.1 ≠ x.1 := fun hxy => by
        subst hy
        unfold onStep at e
        simp only at e
        rw [if_pos ((cmp_eq x y).2 hxy.symm)] at e
        cases e
      rcases List.mem_cons.1 hz with rfl | hz
      · omega
      · have := g2 x rfl z hz; omega
    · have e2 : onlyL onStep (some y) (x :: r) = onlyL onStep (some y) r := by
        conv => lhs; unfold onlyL
        rw [e]; rfl
      rw [e2]
      exact once_strict r (some y) h2 (fun y' hy' z hz => hs y' hy' z (List.mem_cons_of_mem _ hz))
/-- Has a row the like of a thing? -/
def hasB (B : List Th) (x : Th) : Bool := B.any fun b => cmpT2 x b == 0
theorem skip_props : ∀ (B : List Th) (x : Th), Rise B → Rise (skipL B x) ∧ likeB (skipL B x) x = hasB B x ∧ ∀ z : Th, x.1 ≤ z.1 → hasB (skipL B x) z = hasB B z
  | [], x, _ => ⟨List.Pairwise.nil, rfl, fun _ _ => rfl⟩
  | b :: r, x, h => by
    obtain ⟨h1, h2⟩ := List.pairwise_cons.1 h
    by_cases hc : cmpT2 b x < 0
    · have e : skipL (b :: r) x = skipL r x := by conv => lhs; unfold skipL; rw [if_pos hc]
      have hb := (cmp_lt b x).1 hc
      obtain ⟨g1, g2, g3⟩ := skip_props r x h2
      have hh : ∀ z : Th, x.1 ≤ z.1 → hasB (b :: r) z = hasB r z := fun z hz => by
        unfold hasB
        have : (cmpT2 z b == 0) = false := by
          simp only [beq_eq_false_iff_ne, ne_eq, cmp_eq]
          omega
        rw [List.any_cons, this, Bool.false_or]
      rw [e]
      exact ⟨g1, by rw [g2, hh x (Int.le_refl _)], fun z hz => by rw [g3 z hz, hh z hz]⟩
    · have e : skipL (b :: r) x = b :: r := by conv => lhs; unfold skipL; rw [if_neg hc]
      have hb := mt (cmp_lt b x).2 hc
      rw [e]
      refine ⟨h, ?_, fun z hz => rfl⟩
      show decide (cmpT2 b x = 0) = hasB (b :: r) x
      unfold hasB
      rw [List.any_cons]
      by_cases e0 : b.1 = x.1
      · have a1 : cmpT2 b x = 0 := (cmp_eq b x).2 e0
        have a2 : cmpT2 x b = 0 := (cmp_eq x b).2 e0.symm
        rw [a1, a2]; rfl
      · have a1 : ¬ cmpT2 b x = 0 := mt (cmp_eq b x).1 e0
        have a2 : (cmpT2 x b == 0) = false := by
          simp only [beq_eq_false_iff_ne, ne_eq, cmp_eq]
          omega
        have a3 : r.any (fun b => cmpT2 x b == 0) = false := by
          rw [List.any_eq_false]
          intro z hz
          have := h1 z hz
          simp only [beq_iff_eq, cmp_eq]
          omega
        rw [decide_eq_false a1, a2, a3]; rfl
theorem among_filter (there : Bool) : ∀ (A B : List Th), Rise A → Rise B → onlyL (amStep there) B A = A.filter fun x => hasB B x == there
  | [], _, _, _ => rfl
  | x :: r, B, hA, hB => by
    obtain ⟨h1, h2⟩ := List.pairwise_cons.1 hA
    obtain ⟨g1, g2, g3⟩ := skip_props B x hB
    have ih := among_filter there r (skipL B x) h2 g1
    have ef : (r.filter fun z => hasB (skipL B x) z == there) = r.filter fun z => hasB B z == there := by
      apply List.filter_congr
      intro z hz
      rw [g3 z (h1 z hz)]
    conv => lhs; unfold onlyL
    unfold amStep at ih ⊢
    simp only [g2]
    rw [List.filter_cons]
    by_cases e : (hasB B x == there) = true
    · rw [if_pos e, if_pos e, ih, ef]
    · rw [if_neg e, if_neg e, ih, ef]
end Go.Proofs.Ytlccleafjpeccaa
