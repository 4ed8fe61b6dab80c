/-
  Rows with marks in order: what a merge of them has.
-/
import Derived.Test.YtlccleafjpeccaaMhM
namespace Go.Proofs.Ytlccleafjpeccaa
open Go Go.RowKit Go.Shelf

def lexLt (x y : Th) : Prop := x.1 < y.1 ∨ (x.1 = y.1 ∧ x.2 < y.2)
theorem bestN_none {Ls : List (List Th)} : ∀ {n : Nat}, bestN Ls n = none → ∀ i, i < n → ∀ z s, Ls[i]? ≠ some (z :: s)
  | 0, _ => fun i hi => by omega
  | q + 1, hbq => fun i hi z s hz => by
    rcases hl2 : Ls[q]? with _ | ⟨_ | ⟨x2, r2⟩⟩
    · have e2 : bestN Ls (q + 1) = bestN Ls q := by conv => lhs; unfold bestN; rw [hl2]
      rw [e2] at hbq
      by_cases e3 : i = q
      · subst e3; rw [hz] at hl2; cases hl2
      · exact bestN_none hbq i (by omega) z s hz
    · rw [bestN_miss hl2] at hbq
      by_cases e3 : i = q
      · subst e3; rw [hz] at hl2; cases hl2
      · exact bestN_none hbq i (by omega) z s hz
    · rw [bestN_hit hl2] at hbq
      rcases hb3 : bestN Ls q with _ | ⟨m3, y3⟩
      · rw [hb3] at hbq; cases hbq
      · rw [hb3] at hbq
        simp only at hbq
        split at hbq <;> cases hbq
theorem bestN_first {Ls : List (List Th)} : ∀ {n m : Nat} {y : Th}, bestN Ls n = some (m, y) → ∀ (k : Nat) (x : Th) (r : List Th), k < m → Ls[k]? = some (x :: r) → y.1 < x.1
  | 0, _, _, h => by cases h
  | n + 1, m, y, h => by
    intro k x r hk hx
    rcases hl : Ls[n]? with _ | ⟨_ | ⟨x', r'⟩⟩
    · have : bestN Ls (n + 1) = bestN Ls n := by conv => lhs; unfold bestN; rw [hl]
      rw [this] at h
      exact bestN_first h k x r hk hx
    · rw [bestN_miss hl] at h
      exact bestN_first h k x r hk hx
    · rw [bestN_hit hl] at h
      rcases hb : bestN Ls n with _ | ⟨m', y'⟩
      · rw [hb] at h
        injection h with h; injection h with h1 h2
        exact absurd hx (bestN_none hb k (by omega) x r)
      · rw [hb] at h
        simp only at h
        split at h
        · rename_i hc
          injection h with h; injection h with h1 h2
          subst h2
          have := bestN_min hb k x r (by omega) hx
          have := (cmp_lt _ _).1 hc
          omega
        · injection h with h; injection h with h1 h2
          subst h1 h2
          exact bestN_first hb k x r hk hx
/-- Rows in order, the marks of one ahead of those of the next. -/
def Rows2 (Ls : List (List Th)) : Prop := (∀ (i : Nat) (L : List Th), Ls[i]? = some L → L.Pairwise lexLt) ∧ ∀ (i j : Nat) (L M : List Th), i < j → Ls[i]? = some L → Ls[j]? = some M → ∀ x ∈ L, ∀ z ∈ M, x.2 < z.2
theorem merge_lex : ∀ (n : Nat) (Ls : List (List Th)), tot Ls = n → Rows2 Ls → (mergeL Ls).Pairwise lexLt ∧ ∀ z ∈ mergeL Ls, ∃ (i : Nat) (L : List Th), Ls[i]? = some L ∧ z ∈ L := by
  intro n
  induction n with
  | zero =>
    intro Ls h _
    have := mergeL_len Ls
    rw [h] at this
    rw [List.eq_nil_of_length_eq_zero this]
    exact ⟨List.Pairwise.nil, fun z hz => by cases hz⟩
  | succ n ih =>
    intro Ls h hR
    rcases hb : bestN Ls Ls.length with _ | ⟨m, y⟩
    · rw [mergeL_none hb]
      exact ⟨List.Pairwise.nil, fun z hz => by cases hz⟩
    · obtain ⟨r, hr, e⟩ := mergeL_some hb
      have ht := tot_set hr
      have hget : ∀ (i : Nat) (L : List Th), (Ls.set m r)[i]? = some L → (i = m ∧ L = r) ∨ (i ≠ m ∧ Ls[i]? = some L) := fun i L hi => by
        by_cases e : i = m
        · subst e
          have hlt := (List.getElem?_eq_some_iff.1 hr).1
          rw [List.getElem?_set_self hlt] at hi
          injection hi with hi
          exact .inl ⟨rfl, hi.symm⟩
        · rw [List.getElem?_set_ne (Ne.symm e)] at hi
          exact .inr ⟨e, hi⟩
      have hyr := hR.1 m _ hr
      have hold : ∀ (i : Nat) (L : List Th), (Ls.set m r)[i]? = some L → ∃ M, Ls[i]? = some M ∧ ∀ z ∈ L, z ∈ M := fun i L hi => by
        rcases hget i L hi with ⟨rfl, rfl⟩ | ⟨-, hi⟩
        · exact ⟨_, hr, fun z hz => List.mem_cons_of_mem _ hz⟩
        · exact ⟨_, hi, fun z hz => hz⟩
      obtain ⟨h1, h2⟩ := ih (Ls.set m r) (by omega) ⟨fun i L hi => by
        rcases hget i L hi with ⟨-, rfl⟩ | ⟨-, hi⟩
        · exact (List.pairwise_cons.1 hyr).2
        · exact hR.1 i L hi, fun i j L M hij hi hj x hx z hz => by
        obtain ⟨L', hL', g1⟩ := hold i L hi
        obtain ⟨M', hM', g2⟩ := hold j M hj
        exact hR.2 i j L' M' hij hL' hM' x (g1 x hx) z (g2 z hz)⟩
      rw [e]
      refine ⟨List.pairwise_cons.2 ⟨fun z hz => ?_, h1⟩, fun z hz => ?_⟩
      · obtain ⟨i, L, hi, hzL⟩ := h2 z hz
        rcases hget i L hi with ⟨-, rfl⟩ | ⟨hne, hi⟩
        · exact (List.pairwise_cons.1 hyr).1 z hzL
        · rcases L with _ | ⟨x, s⟩
          · cases hzL
          · have hxz : x.1 ≤ z.1 := by
              rcases List.mem_cons.1 hzL with rfl | hz'
              · exact Int.le_refl _
              · rcases (List.pairwise_cons.1 (hR.1 i _ hi)).1 z hz' with h | h
                · exact Int.le_of_lt h
                · exact Int.le_of_eq h.1
            by_cases him : i < m
            · have := bestN_first hb i x s him hi
              exact .inl (by omega)
            · have hm := bestN_min hb i x s (List.getElem?_eq_some_iff.1 hi).1 hi
              have hmk := hR.2 m i _ _ (by omega) hr hi y (List.mem_cons_self ..) z hzL
              by_cases hlt : y.1 < z.1
              · exact .inl hlt
              · exact .inr ⟨by omega, hmk⟩
      · rcases List.mem_cons.1 hz with rfl | hz
        · exact ⟨m, _, hr, List.mem_cons_self ..⟩
        · obtain ⟨i, L, hi, hzL⟩ := h2 z hz
          obtain ⟨M, hM, g⟩ := hold i L hi
          exact ⟨i, M, hM, g z hzL⟩
theorem flatten_set : ∀ {Ls : List (List Th)} {m : Nat} {y : Th} {r : List Th}, Ls[m]? = some (y :: r) → Ls.flatten.Perm (y :: (Ls.set m r).flatten)
  | [], m, y, r, h => by simp at h
  | L :: Ls, 0, y, r, h => by
    simp at h
    subst h
    simp
  | L :: Ls, m + 1, y, r, h => by
    have ih := flatten_set (Ls := Ls) (m := m) (by simpa using h)
    simp only [List.flatten_cons, List.set_cons_succ]
    exact (ih.append_left L).trans List.perm_middle
theorem merge_perm : ∀ (n : Nat) (Ls : List (List Th)), tot Ls = n → (mergeL Ls).Perm Ls.flatten := by
  intro n
  induction n with
  | zero =>
    intro Ls h
    have := mergeL_len Ls
    rw [h] at this
    rw [List.eq_nil_of_length_eq_zero this]
    have h2 : Ls.flatten.length = 0 := by rw [List.length_flatten]; exact h
    rw [List.eq_nil_of_length_eq_zero h2]
  | succ n ih =>
    intro Ls h
    rcases hb : bestN Ls Ls.length with _ | ⟨m, y⟩
    · exfalso
      have := mergeL_len Ls
      rw [mergeL_none hb, h] at this
      simp at this
    · obtain ⟨r, hr, e⟩ := mergeL_some hb
      have ht := tot_set hr
      rw [e]
      exact ((ih (Ls.set m r) (by omega)).cons y).trans (flatten_set hr).symm
/-- A row with its marks. -/
def markR (i : Nat) (L : List Th) : List Th := L.mapIdx fun k x => (x.1, ((i * 30 + k : Nat) : Int))
def markL (Ls : List (List Th)) : List (List Th) := Ls.mapIdx markR
theorem markR_len (i : Nat) (L : List Th) : (markR i L).length = L.length := by unfold markR; simp
theorem markR_at (i : Nat) (L : List Th) (a : Nat) (ha : a < (markR i L).length) (ha' : a < L.length) : (markR i L)[a] = (L[a].1, ((i * 30 + a : Nat) : Int)) := List.getElem_mapIdx ..
theorem markL_at {Ls : List (List Th)} {i : Nat} {L : List Th} (h : (markL Ls)[i]? = some L) : ∃ M, Ls[i]? = some M ∧ L = markR i M := by
  unfold markL at h
  rw [List.getElem?_mapIdx] at h
  obtain ⟨M, hM, rfl⟩ := Option.map_eq_some_iff.1 h
  exact ⟨M, hM, rfl⟩
theorem markR_mem {i : Nat} {L : List Th} {x : Th} (h : x ∈ markR i L) : ∃ (k : Nat) (hk : k < L.length), x = (L[k].1, ((i * 30 + k : Nat) : Int)) := by
  unfold markR at h
  obtain ⟨k, hk, e⟩ := List.mem_mapIdx.1 h
  exact ⟨k, hk, e.symm⟩
theorem mark_rows {Ls : List (List Th)} (hR : ∀ (i : Nat) (L : List Th), Ls[i]? = some L → Rise L) (hl : ∀ L ∈ Ls, L.length ≤ 30) : Rows2 (markL Ls) := by
  refine ⟨fun i L h => ?_, fun i j L M hij hi hj x hx z hz => ?_⟩
  · obtain ⟨M, hM, rfl⟩ := markL_at h
    have hr := hR i M hM
    have hr := List.pairwise_iff_getElem.1 hr
    rw [List.pairwise_iff_getElem]
    intro a b ha hb hab
    have ha' := ha
    have hb' := hb
    rw [markR_len] at ha' hb'
    rw [markR_at i M a ha ha', markR_at i M b hb hb']
    have := hr a b ha' hb' hab
    unfold lexLt
    simp only
    by_cases e : (M[a]).1 < (M[b]).1
    · exact .inl e
    · exact .inr ⟨by omega, by omega⟩
  · obtain ⟨L', hL', rfl⟩ := markL_at hi
    obtain ⟨M', hM', rfl⟩ := markL_at hj
    obtain ⟨k, hk, rfl⟩ := markR_mem hx
    obtain ⟨q, hq, rfl⟩ := markR_mem hz
    have := hl L' (List.mem_of_getElem? hL')
    simp only
    omega
theorem marks_nodup {Ls : List (List Th)} (h : Rows2 Ls) (hm : ∀ (i : Nat) (L : List Th), Ls[i]? = some L → L.Pairwise fun x y => x.2 < y.2) : (Ls.flatten.map (·.2)).Nodup := by
  have hp : Ls.flatten.Pairwise fun x y => x.2 < y.2 := by
    rw [List.pairwise_flatten]
    refine ⟨fun L hL => ?_, ?_⟩
    · obtain ⟨i, hi⟩ := List.getElem?_of_mem hL
      exact hm i L hi
    · rw [List.pairwise_iff_getElem]
      intro a b ha hb hab x hx z hz
      exact h.2 a b _ _ hab (List.getElem?_eq_getElem ha) (List.getElem?_eq_getElem hb) x hx z hz
  unfold List.Nodup
  rw [List.pairwise_map]
  exact hp.imp fun h => by omega
theorem markR_marks (i : Nat) (L : List Th) : (markR i L).Pairwise fun x y => x.2 < y.2 := by
  rw [List.pairwise_iff_getElem]
  intro a b ha hb hab
  have ha' := ha
  have hb' := hb
  rw [markR_len] at ha' hb'
  rw [markR_at i L a ha ha', markR_at i L b hb hb']
  simp only
  omega
/-- All that MergeOrder asks of the merge of rising rows with marks. -/
theorem order_facts {Ls : List (List Th)} (hR : ∀ (i : Nat) (L : List Th), Ls[i]? = some L → Rise L) (hl : ∀ L ∈ Ls, L.length ≤ 30) : (mergeL (markL Ls)).Pairwise lexLt ∧ ((mergeL (markL Ls)).map (·.2)).Nodup ∧ ∀ x ∈ (markL Ls).flatten, x.2 ∈ (mergeL (markL Ls)).map (·.2) := by
  have h2 := mark_rows hR hl
  have hp := merge_perm _ (markL Ls) rfl
  have hn := marks_nodup h2 (fun i L h => by obtain ⟨M, -, rfl⟩ := markL_at h; exact markR_marks i M)
  refine ⟨(merge_lex _ _ rfl h2).1, ((hp.map (·.2)).nodup_iff).2 hn, fun x hx => ?_⟩
  exact List.mem_map_of_mem (hp.symm.subset hx)
end Go.Proofs.Ytlccleafjpeccaa
