/-
  Plain facts on the words of a text: they cover it; words with blanks between them have these words; a gap more changes no word. No program is named here.
-/
import Derived.Test.YtnbaemfkpfmheaaGreatDoorLxP
namespace Go.Proofs.YtnbaemfkpfmheaaGreatDoor
open Go

section
variable {V : List UInt8 → Option VL}
theorem lexG_nil (p : Nat) : lexG V [] p = ([], none) := by rw [lexG]
theorem lexG_bad {c : UInt8} {r : List UInt8} (h : tokL V (c :: r) = none) (p : Nat) : lexG V (c :: r) p = ([], some p) := by
  rw [lexG, h]
theorem drop_cons_pos {c : UInt8} {r : List UInt8} {n : Nat} (h : 1 ≤ n) : (c :: r).drop n = r.drop (n - 1) := by
  obtain ⟨m, rfl⟩ : ∃ m, n = m + 1 := ⟨n - 1, by omega⟩
  rfl
theorem lexG_tok {c : UInt8} {r : List UInt8} {k : Int} {n : Nat} {v : VL} (h : tokL V (c :: r) = some (k, n, v)) (p : Nat) :
    lexG V (c :: r) p = (⟨k, (c :: r).take n, v, p⟩ :: (lexS V ((c :: r).drop n) (p + n)).1, (lexS V ((c :: r).drop n) (p + n)).2) := by
  have h1 := (tok_len h).1
  rw [lexG, h]
  simp only [lexS, drop_cons_pos h1]
theorem lexS_end {l : List UInt8} (h : l.drop (skC false l) = []) (p : Nat) : lexS V l p = ([], none) := by
  unfold lexS
  rw [h, lexG_nil]
theorem lexS_at {l : List UInt8} {c : UInt8} {r : List UInt8} (h : l.drop (skC false l) = c :: r) (p : Nat) : lexS V l p = lexG V (c :: r) (p + skC false l) := by
  unfold lexS
  rw [h]
theorem lexS_solid {c : UInt8} {r : List UInt8} (h : solid c) (p : Nat) : lexS V (c :: r) p = lexG V (c :: r) p := by
  have := skC_solid (r := r) h
  rw [lexS_at (c := c) (r := r) (by rw [this]; rfl), this]
  rfl
/-- A text that has words: its first one, if it has any. -/
theorem lexS_cases {l : List UInt8} {p : Nat} (h : (lexS V l p).2 = none) :
    (l.drop (skC false l) = [] ∧ lexS V l p = ([], none)) ∨ ∃ c r k n v, l.drop (skC false l) = c :: r ∧ solid c ∧ tokL V (c :: r) = some (k, n, v) ∧ 1 ≤ n ∧ n ≤ r.length + 1 ∧ l.length = skC false l + (r.length + 1) ∧
      lexS V l p = (⟨k, (c :: r).take n, v, p + skC false l⟩ :: (lexS V ((c :: r).drop n) (p + skC false l + n)).1, (lexS V ((c :: r).drop n) (p + skC false l + n)).2) ∧ (lexS V ((c :: r).drop n) (p + skC false l + n)).2 = none := by
  cases e : l.drop (skC false l) with
  | nil => exact .inl ⟨rfl, lexS_end e p⟩
  | cons c r =>
    right
    cases ht : tokL V (c :: r) with
    | none =>
      rw [lexS_at e, lexG_bad ht] at h
      cases h
    | some q =>
      obtain ⟨k, n, v⟩ := q
      obtain ⟨h1, h2, -⟩ := tok_len ht
      have hl : (l.drop (skC false l)).length = r.length + 1 := by rw [e]; rfl
      rw [List.length_drop] at hl
      have hle := skC_le false l
      have e1 := lexS_at (V := V) e p
      rw [lexG_tok ht] at e1
      rw [e1] at h
      exact ⟨c, r, k, n, v, rfl, (skC_stop _ _ _ _ e).1, ht, h1, h2, by omega, e1, h⟩

/-! The place hangs on nothing -/
theorem lexS_shift : ∀ (N : Nat) (l : List UInt8) (p p' : Nat), l.length ≤ N → (lexS V l p).2 = none → (lexS V l p').2 = none ∧ (lexS V l p').1.map Wd.key = (lexS V l p).1.map Wd.key := by
  intro N
  induction N with
  | zero =>
    intro l p p' hl h
    obtain rfl : l = [] := List.eq_nil_of_length_eq_zero (by omega)
    rw [lexS_end (by simp [skC]) p, lexS_end (by simp [skC]) p']
    exact ⟨rfl, rfl⟩
  | succ N ih =>
    intro l p p' hl h
    rcases lexS_cases h with ⟨e, e1⟩ | ⟨c, r, k, n, v, e, hs, ht, h1, h2, h3, e1, h4⟩
    · rw [e1, lexS_end e p']
      exact ⟨rfl, rfl⟩
    · have i := ih ((c :: r).drop n) (p + skC false l + n) (p' + skC false l + n) (by rw [List.length_drop, List.length_cons]; omega) h4
      rw [e1, lexS_at e, lexG_tok ht]
      exact ⟨i.1, by simp only [List.map_cons, i.2]; rfl⟩

/-! The words cover the text -/
/-- Words stand in s at their places from e on, gaps between. -/
def Cov (s : List UInt8) : Nat → List Wd → Prop
  | e, [] => e ≤ s.length ∧ skC false (s.drop e) = s.length - e
  | e, w :: ws => e ≤ w.pos ∧ 1 ≤ w.text.length ∧ w.pos + w.text.length ≤ s.length ∧ (s.drop w.pos).take w.text.length = w.text ∧ skC false ((s.drop e).take (w.pos - e)) = w.pos - e ∧ Cov s (w.pos + w.text.length) ws
theorem lexS_cov : ∀ (N : Nat) (s : List UInt8) (e : Nat), s.length - e ≤ N → e ≤ s.length → (lexS V (s.drop e) e).2 = none → Cov s e (lexS V (s.drop e) e).1 := by
  intro N
  induction N with
  | zero =>
    intro s e hl he h
    have e0 : s.drop e = [] := List.drop_eq_nil_iff.2 (by omega)
    rw [e0, lexS_end (by simp [skC])]
    refine ⟨he, ?_⟩
    rw [e0]
    simp [skC]
    omega
  | succ N ih =>
    intro s e hl he h
    rcases lexS_cases h with ⟨e0, e1⟩ | ⟨c, r, k, n, v, e0, hs, ht, h1, h2, h3, e1, h4⟩
    · rw [e1]
      refine ⟨he, ?_⟩
      rw [skC_drop_ge e0, List.length_drop]
    · have hdr : (c :: r).drop n = s.drop (e + skC false (s.drop e) + n) := by rw [← e0, List.drop_drop, List.drop_drop]; congr 1; omega
      rw [List.length_drop] at h3
      have i := ih s (e + skC false (s.drop e) + n) (by omega) (by omega) (by rw [← hdr]; exact h4)
      have htl : ((c :: r).take n).length = n := by rw [List.length_take, List.length_cons]; omega
      rw [e1]
      refine ⟨by show e ≤ e + _; omega, by rw [htl]; exact h1, by rw [htl]; show e + _ + n ≤ _; omega, ?_, ?_, ?_⟩
      · rw [htl]
        show (s.drop (e + skC false (s.drop e))).take n = _
        rw [← List.drop_drop, e0]
      · show skC false ((s.drop e).take (e + skC false (s.drop e) - e)) = e + skC false (s.drop e) - e
        rw [show e + skC false (s.drop e) - e = skC false (s.drop e) by omega]
        exact skC_take false (s.drop e)
      · rw [htl]
        show Cov s (e + skC false (s.drop e) + n) _
        rw [hdr]
        exact i

/-! Words with blanks between them -/
/-- Texts with blanks between. -/
def joinB : List (List UInt8) → List UInt8
  | [] => []
  | t :: ts => t ++ (if ts = [] then [] else 32 :: joinB ts)
variable (hV : ∀ r, quoEnd r = none → V (34 :: r) = none)
include hV
theorem lexS_join : ∀ (N : Nat) (l : List UInt8) (p : Nat), l.length ≤ N → (lexS V l p).2 = none → ∀ q, (lexS V (joinB ((lexS V l p).1.map Wd.text)) q).2 = none ∧ (lexS V (joinB ((lexS V l p).1.map Wd.text)) q).1.map Wd.key = (lexS V l p).1.map Wd.key := by
  intro N
  induction N with
  | zero =>
    intro l p hl h q
    obtain rfl : l = [] := List.eq_nil_of_length_eq_zero (by omega)
    rw [lexS_end (l := []) (by simp [skC]) p]
    have e0 := lexS_end (V := V) (l := []) (by simp [skC]) q
    exact ⟨by show (lexS V [] q).2 = none; rw [e0], by show (lexS V [] q).1.map Wd.key = []; rw [e0]; rfl⟩
  | succ N ih =>
    intro l p hl h q
    rcases lexS_cases h with ⟨e, e1⟩ | ⟨c, r, k, n, v, e, hs, ht, h1, h2, h3, e1, h4⟩
    · rw [e1]
      have e0 := lexS_end (V := V) (l := []) (by simp [skC]) q
      exact ⟨by show (lexS V [] q).2 = none; rw [e0], by show (lexS V [] q).1.map Wd.key = []; rw [e0]; rfl⟩
    · have i := ih ((c :: r).drop n) (p + skC false l + n) (by rw [List.length_drop, List.length_cons]; omega) h4
      rw [e1]
      simp only [List.map_cons]
      generalize (lexS V ((c :: r).drop n) (p + skC false l + n)).1 = ws at i
      have htl : ((c :: r).take n).length = n := by rw [List.length_take, List.length_cons]; omega
      obtain ⟨m, rfl⟩ : ∃ m, n = m + 1 := ⟨n - 1, by omega⟩
      obtain ⟨y, hy, hsep, hrest⟩ : ∃ y, joinB ((c :: r).take (m + 1) :: ws.map Wd.text) = (c :: r).take (m + 1) ++ y ∧ sepO y.head? ∧ ∀ x, (lexS V y x).2 = none ∧ (lexS V y x).1.map Wd.key = ws.map Wd.key := by
        refine ⟨_, rfl, ?_, ?_⟩
        · by_cases hw : ws.map Wd.text = []
          · rw [if_pos hw]; exact .inl rfl
          · rw [if_neg hw]; exact .inr (.inl rfl)
        · intro x
          by_cases hw : ws.map Wd.text = []
          · have hw0 : ws = [] := by simpa using hw
            subst hw0
            rw [if_pos hw, lexS_end (l := []) (by simp [skC]) x]
            exact ⟨rfl, rfl⟩
          · rw [if_neg hw]
            have es : skC false (32 :: joinB (ws.map Wd.text)) = skC false (joinB (ws.map Wd.text)) + 1 := by
              conv => lhs; unfold skC
              rw [if_neg (by decide), if_neg (by decide), if_pos (by decide)]
            have := i (x + 1)
            unfold lexS at this ⊢
            rw [es, List.drop_succ_cons, show x + (skC false (joinB (ws.map Wd.text)) + 1) = x + 1 + skC false (joinB (ws.map Wd.text)) by omega]
            exact this
      rw [hy]
      have ht' := tok_local hV ht (y := y) (.inr hsep)
      have ec : (c :: r).take (m + 1) ++ y = c :: (r.take m ++ y) := rfl
      have ed : (c :: (r.take m ++ y)).drop (m + 1) = y := by rw [← ec, List.drop_left' htl]
      have et : (c :: (r.take m ++ y)).take (m + 1) = (c :: r).take (m + 1) := by rw [← ec, List.take_left' htl]
      rw [ec] at ht' ⊢
      rw [lexS_solid hs, lexG_tok ht', ed, et]
      have := hrest (q + (m + 1))
      exact ⟨this.1, by simp only [List.map_cons, this.2]; rfl⟩

/-! A gap more -/
theorem lexS_behind (y : List UInt8) (hy : sepO y.head?) (hg : ∀ b, skC b y = y.length) : ∀ (N : Nat) (l : List UInt8) (p : Nat), l.length ≤ N → (lexS V l p).2 = none → lexS V (l ++ y) p = lexS V l p := by
  intro N
  have done : ∀ (l : List UInt8) (p : Nat), l.drop (skC false l) = [] → lexS V (l ++ y) p = lexS V l p := by
    intro l p e
    rw [lexS_end e p, lexS_end]
    rw [skC_full_append _ _ _ (skC_drop_ge e), hg, ← List.length_append]
    exact List.drop_length
  induction N with
  | zero =>
    intro l p hl h
    obtain rfl : l = [] := List.eq_nil_of_length_eq_zero (by omega)
    exact done [] p (by simp [skC])
  | succ N ih =>
    intro l p hl h
    rcases lexS_cases h with ⟨e, e1⟩ | ⟨c, r, k, n, v, e, hs, ht, h1, h2, h3, e1, h4⟩
    · exact done l p e
    · have i := ih ((c :: r).drop n) (p + skC false l + n) (by rw [List.length_drop, List.length_cons]; omega) h4
      have el : l ++ y = l.take (skC false l) ++ c :: (r ++ y) := by
        rw [← List.cons_append, ← e, ← List.append_assoc, List.take_append_drop]
      have hsk : skC false (l ++ y) = skC false l := by rw [el]; exact skC_ahead e
      have hlen : (l.take (skC false l)).length = skC false l := by rw [List.length_take]; omega
      have hd : (l ++ y).drop (skC false (l ++ y)) = c :: (r ++ y) := by rw [hsk, el, List.drop_left' hlen]
      have htl : ((c :: r).take n).length = n := by rw [List.length_take, List.length_cons]; omega
      have ec : c :: (r ++ y) = (c :: r).take n ++ ((c :: r).drop n ++ y) := by rw [← List.append_assoc, List.take_append_drop]; rfl
      have hloc : Loc ((c :: r).drop n) ((c :: r).drop n ++ y) := by
        cases (c :: r).drop n with
        | nil => exact .inr hy
        | cons a b => exact .inl rfl
      have ht' := tok_local hV ht hloc
      rw [← ec] at ht'
      rw [lexS_at hd, hsk, lexG_tok ht', e1]
      have et : (c :: (r ++ y)).take n = (c :: r).take n := by rw [ec, List.take_left' htl]
      have ed : (c :: (r ++ y)).drop n = (c :: r).drop n ++ y := by rw [ec, List.drop_left' htl]
      rw [et, ed, i]
theorem lexS_more (y : List UInt8) (hy : sepO y.head?) (hne : y ≠ []) (hg : skC false y = y.length) (hst : stC false y = false) :
    ∀ (N : Nat) (l : List UInt8) (p i : Nat) (w : Wd), l.length ≤ N → (lexS V l p).2 = none → (lexS V l p).1[i]? = some w →
      p ≤ w.pos ∧ w.pos - p ≤ l.length ∧ ∀ q, (lexS V (l.take (w.pos - p) ++ y ++ l.drop (w.pos - p)) q).2 = none ∧ (lexS V (l.take (w.pos - p) ++ y ++ l.drop (w.pos - p)) q).1.map Wd.key = (lexS V l p).1.map Wd.key := by
  intro N
  induction N with
  | zero =>
    intro l p i w hl h hw
    obtain rfl : l = [] := List.eq_nil_of_length_eq_zero (by omega)
    rw [lexS_end (l := []) (by simp [skC]) p] at hw
    simp at hw
  | succ N ih =>
    intro l p i w hl h hw
    rcases lexS_cases h with ⟨e, e1⟩ | ⟨c, r, k, n, v, e, hs, ht, h1, h2, h3, e1, h4⟩
    · rw [e1] at hw
      simp at hw
    · have hlen : (l.take (skC false l)).length = skC false l := by rw [List.length_take]; omega
      have hfull : skC false (l.take (skC false l)) = (l.take (skC false l)).length := by rw [skC_take, hlen]
      have hstop := skC_stop _ _ _ _ e
      cases i with
      | zero =>
        rw [e1] at hw
        obtain rfl : _ = w := by simpa using hw
        show p ≤ p + skC false l ∧ p + skC false l - p ≤ l.length ∧ _
        refine ⟨by omega, by omega, fun q => ?_⟩
        show (lexS V (l.take (p + skC false l - p) ++ y ++ l.drop (p + skC false l - p)) q).2 = none ∧ _
        rw [show p + skC false l - p = skC false l by omega, e]
        have hsk : skC false (l.take (skC false l) ++ y ++ c :: r) = skC false l + y.length := by
          rw [List.append_assoc, skC_full_append _ _ _ hfull, hstop.2, skC_full_append _ _ _ hg, hst, skC_solid hs, hlen]
          omega
        have hd : (l.take (skC false l) ++ y ++ c :: r).drop (skC false (l.take (skC false l) ++ y ++ c :: r)) = c :: r := by
          rw [hsk, List.drop_left' (by rw [List.length_append, hlen])]
        rw [lexS_at hd, lexG_tok ht, e1]
        have := lexS_shift (V := V) _ ((c :: r).drop n) _ (q + skC false (l.take (skC false l) ++ y ++ c :: r) + n) (Nat.le_refl _) h4
        exact ⟨this.1, by simp only [List.map_cons, this.2]; rfl⟩
      | succ i =>
        rw [e1] at hw
        have hw' : (lexS V ((c :: r).drop n) (p + skC false l + n)).1[i]? = some w := by simpa using hw
        obtain ⟨a1, a2, a3⟩ := ih ((c :: r).drop n) (p + skC false l + n) i w (by rw [List.length_drop, List.length_cons]; omega) h4 hw'
        rw [List.length_drop, List.length_cons] at a2
        refine ⟨by omega, by omega, fun q => ?_⟩
        obtain ⟨d, hd⟩ : ∃ d, d = w.pos - (p + skC false l + n) := ⟨_, rfl⟩
        rw [← hd] at a2 a3
        have hwd : w.pos - p = skC false l + (n + d) := by omega
        rw [hwd]
        have htl : ((c :: r).take n).length = n := by rw [List.length_take, List.length_cons]; omega
        have etake : l.take (skC false l + (n + d)) = l.take (skC false l) ++ ((c :: r).take n ++ ((c :: r).drop n).take d) := by
          rw [List.take_add, e, List.take_add]
        have edrop : l.drop (skC false l + (n + d)) = ((c :: r).drop n).drop d := by
          rw [← List.drop_drop, e, ← List.drop_drop]
        rw [etake, edrop]
        obtain ⟨m, rfl⟩ : ∃ m, n = m + 1 := ⟨n - 1, by omega⟩
        have eX : l.take (skC false l) ++ ((c :: r).take (m + 1) ++ ((c :: r).drop (m + 1)).take d) ++ y ++ ((c :: r).drop (m + 1)).drop d =
            l.take (skC false l) ++ c :: (r.take m ++ (((c :: r).drop (m + 1)).take d ++ y ++ ((c :: r).drop (m + 1)).drop d)) := by
          simp only [List.append_assoc, List.take_succ_cons, List.cons_append]
        rw [eX]
        generalize hR : ((c :: r).drop (m + 1)).take d ++ y ++ ((c :: r).drop (m + 1)).drop d = R at a3
        have hloc : Loc ((c :: r).drop (m + 1)) R := by
          rw [← hR]
          cases d with
          | zero =>
            right
            cases y with
            | nil => exact absurd rfl hne
            | cons a b => exact hy
          | succ d =>
            left
            cases hD : (c :: r).drop (m + 1) with
            | nil =>
              have := congrArg List.length hD
              simp at this
              omega
            | cons a b => rfl
        have ht' := tok_local hV ht hloc
        have ec : (c :: r).take (m + 1) ++ R = c :: (r.take m ++ R) := rfl
        rw [ec] at ht'
        have hsk : skC false (l.take (skC false l) ++ c :: (r.take m ++ R)) = skC false l := skC_ahead e
        have hdd : (l.take (skC false l) ++ c :: (r.take m ++ R)).drop (skC false (l.take (skC false l) ++ c :: (r.take m ++ R))) = c :: (r.take m ++ R) := by
          rw [hsk, List.drop_left' hlen]
        rw [lexS_at hdd, hsk, lexG_tok ht', e1]
        have et : (c :: (r.take m ++ R)).take (m + 1) = (c :: r).take (m + 1) := by rw [← ec, List.take_left' htl]
        have ed : (c :: (r.take m ++ R)).drop (m + 1) = R := by rw [← ec, List.drop_left' htl]
        rw [et, ed]
        have := a3 (q + skC false l + (m + 1))
        exact ⟨this.1, by simp only [List.map_cons, this.2]; rfl⟩
end
end Go.Proofs.YtnbaemfkpfmheaaGreatDoor
