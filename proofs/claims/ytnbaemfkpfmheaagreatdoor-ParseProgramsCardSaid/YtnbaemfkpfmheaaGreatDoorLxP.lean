/-
  The words of a text, as plain functions over lists of bytes: gaps, what a token is, the row of tokens. No program is named here.
-/
import Derived.Lib.Strings
namespace Go.Proofs.YtnbaemfkpfmheaaGreatDoor
open Go

/-- A value: its kind, its number, its symbol. -/
abbrev VL := Int × Int × ByteArray
/-- The zero value. -/
def zeroL : VL := (0, 0, ⟨#[]⟩)
/-- A token: its kind, its bytes, its value, its place. -/
structure Wd where
  kind : Int
  text : List UInt8
  val : VL
  pos : Nat
/-- All of it but the place. -/
def Wd.key (w : Wd) : Int × List UInt8 × VL := (w.kind, w.text, w.val)

/-- What a byte is in names and ints. -/
def cls (c : UInt8) : Nat :=
  if 48 ≤ c.toNat ∧ c.toNat ≤ 57 then 4 else if 65 ≤ c.toNat ∧ c.toNat ≤ 90 then 2 else if c.toNat = 95 then 8 else if 97 ≤ c.toNat ∧ c.toNat ≤ 122 then 1 else 0
def inB (c : UInt8) : Bool := cls c != 0
def isDig (c : UInt8) : Bool := cls c == 4
def isBlank (c : UInt8) : Bool := c == 32 || c == 9 || c == 10 || c == 13

/-- How many bytes at the beginning are gaps; the Bool: within a comment. -/
def skC : Bool → List UInt8 → Nat
  | _, [] => 0
  | cm, c :: r => if c = 37 then skC true r + 1 else if c = 10 then skC false r + 1 else if (cm || isBlank c) = true then skC cm r + 1 else 0
/-- Whether one stands in a comment behind them. -/
def stC : Bool → List UInt8 → Bool
  | cm, [] => cm
  | cm, c :: r => if c = 37 then stC true r else if c = 10 then stC false r else stC cm r

/-- How many bytes there are up to the quote that ends, with it. -/
def quoEnd : List UInt8 → Option Nat
  | [] => none
  | c :: r => if c = 34 then some 1 else if c = 92 then (match r with | [] => none | _ :: q => (quoEnd q).map (· + 2)) else (quoEnd r).map (· + 1)

/-- The kind of a token and how many bytes it has, valid or not. -/
def shapeL (c : UInt8) (r : List UInt8) : Int × Nat :=
  if cls c = 1 then (1, (r.takeWhile inB).length + 1)
  else if cls c = 2 then (2, (r.takeWhile inB).length + 1)
  else if cls c = 8 then (3, (r.takeWhile inB).length + 1)
  else if cls c = 4 then (4, (r.takeWhile isDig).length + 1)
  else if c = 34 then (5, (quoEnd r).getD r.length + 1)
  else if c = 33 then (if r.head? = some 61 then (6, 2) else (0, 0))
  else if c = 45 then (if (r.takeWhile isDig).length = 0 then (6, 1) else (4, (r.takeWhile isDig).length + 1))
  else if c = 58 then (if r.head? = some 45 then (6, 2) else (6, 1))
  else if c = 60 ∨ c = 62 then (if r.head? = some 61 then (6, 2) else (6, 1))
  else if c = 40 ∨ c = 41 ∨ c = 44 ∨ c = 46 ∨ c = 43 ∨ c = 61 then (6, 1)
  else (0, 0)

section
variable (V : List UInt8 → Option VL)
/-- What a token's bytes mean; V: the value of a text. -/
def meanL (k : Int) (t : List UInt8) : Option VL :=
  if k = 1 ∨ k = 2 then (if t.length ≤ 64 then some zeroL else none)
  else if k = 3 then (if t.length = 1 then some zeroL else none)
  else if k = 4 ∨ k = 5 then V t
  else if k = 6 then some zeroL
  else none
/-- The valid token at the beginning: its kind, how many bytes, its value. -/
def tokL : List UInt8 → Option (Int × Nat × VL)
  | [] => none
  | c :: r => (meanL V (shapeL c r).1 ((c :: r).take (shapeL c r).2)).map fun v => ((shapeL c r).1, (shapeL c r).2, v)
/-- The tokens of a text that begins with no gap, and the first byte where there is none. -/
def lexG : List UInt8 → Nat → List Wd × Option Nat
  | [], _ => ([], none)
  | c :: r, p =>
    match tokL V (c :: r) with
    | none => ([], some p)
    | some (k, n, v) =>
      let q := lexG ((r.drop (n - 1)).drop (skC false (r.drop (n - 1)))) (p + n + skC false (r.drop (n - 1)))
      (⟨k, (c :: r).take n, v, p⟩ :: q.1, q.2)
termination_by l => l.length
decreasing_by simp; omega
/-- The same where gaps may come first. -/
def lexS (l : List UInt8) (p : Nat) : List Wd × Option Nat := lexG V (l.drop (skC false l)) (p + skC false l)
end

/-! Gaps -/
theorem skC_le : ∀ (b : Bool) (l : List UInt8), skC b l ≤ l.length
  | _, [] => by simp [skC]
  | b, c :: r => by
    unfold skC
    have h1 := skC_le true r
    have h2 := skC_le false r
    have h3 := skC_le b r
    simp only [List.length_cons]
    repeat' split
    all_goals omega
theorem skC_full_append : ∀ (b : Bool) (x y : List UInt8), skC b x = x.length → skC b (x ++ y) = x.length + skC (stC b x) y
  | b, [], y, _ => by simp [stC]
  | b, c :: r, y, h => by
    rw [List.cons_append]
    unfold skC at h
    conv => lhs; unfold skC
    unfold stC
    simp only [List.length_cons] at h ⊢
    by_cases h1 : c = 37
    · rw [if_pos h1] at h
      rw [if_pos h1, if_pos h1, skC_full_append true r y (by omega)]
      omega
    · rw [if_neg h1] at h
      rw [if_neg h1, if_neg h1]
      by_cases h2 : c = 10
      · rw [if_pos h2] at h
        rw [if_pos h2, if_pos h2, skC_full_append false r y (by omega)]
        omega
      · rw [if_neg h2] at h
        rw [if_neg h2, if_neg h2]
        by_cases h3 : (b || isBlank c) = true
        · rw [if_pos h3] at h
          rw [if_pos h3, skC_full_append b r y (by omega)]
          omega
        · rw [if_neg h3] at h
          omega
theorem skC_take : ∀ (b : Bool) (l : List UInt8), skC b (l.take (skC b l)) = skC b l
  | b, [] => by simp [skC]
  | b, c :: r => by
    by_cases h1 : c = 37
    · have e : skC b (c :: r) = skC true r + 1 := by conv => lhs; unfold skC
                                                     rw [if_pos h1]
      rw [e, List.take_succ_cons]
      conv => lhs; unfold skC
      rw [if_pos h1, skC_take true r]
    · by_cases h2 : c = 10
      · have e : skC b (c :: r) = skC false r + 1 := by conv => lhs; unfold skC
                                                        rw [if_neg h1, if_pos h2]
        rw [e, List.take_succ_cons]
        conv => lhs; unfold skC
        rw [if_neg h1, if_pos h2, skC_take false r]
      · by_cases h3 : (b || isBlank c) = true
        · have e : skC b (c :: r) = skC b r + 1 := by conv => lhs; unfold skC
                                                      rw [if_neg h1, if_neg h2, if_pos h3]
          rw [e, List.take_succ_cons]
          conv => lhs; unfold skC
          rw [if_neg h1, if_neg h2, if_pos h3, skC_take b r]
        · have e : skC b (c :: r) = 0 := by unfold skC; rw [if_neg h1, if_neg h2, if_neg h3]
          rw [e, List.take_zero]
          rfl
/-- A byte that is no gap's, and begins no comment. -/
def solid (c : UInt8) : Prop := c ≠ 37 ∧ isBlank c = false
theorem skC_stop : ∀ (b : Bool) (l : List UInt8) (c : UInt8) (r : List UInt8), l.drop (skC b l) = c :: r → solid c ∧ stC b (l.take (skC b l)) = false
  | b, [], c, r, h => by simp at h
  | b, d :: q, c, r, h => by
    unfold skC at h
    by_cases h1 : d = 37
    · rw [if_pos h1, List.drop_succ_cons] at h
      have := skC_stop true q c r h
      unfold skC
      rw [if_pos h1, List.take_succ_cons]
      unfold stC
      rw [if_pos h1]
      exact this
    · rw [if_neg h1] at h
      by_cases h2 : d = 10
      · rw [if_pos h2, List.drop_succ_cons] at h
        have := skC_stop false q c r h
        unfold skC
        rw [if_neg h1, if_pos h2, List.take_succ_cons]
        unfold stC
        rw [if_neg h1, if_pos h2]
        exact this
      · rw [if_neg h2] at h
        by_cases h3 : (b || isBlank d) = true
        · rw [if_pos h3, List.drop_succ_cons] at h
          have := skC_stop b q c r h
          unfold skC
          rw [if_neg h1, if_neg h2, if_pos h3, List.take_succ_cons]
          unfold stC
          rw [if_neg h1, if_neg h2]
          exact this
        · rw [if_neg h3, List.drop_zero] at h
          obtain ⟨rfl, rfl⟩ := List.cons.inj h
          unfold skC
          rw [if_neg h1, if_neg h2, if_neg h3, List.take_zero]
          unfold stC
          simp only [Bool.or_eq_true, not_or, Bool.not_eq_true] at h3
          exact ⟨⟨h1, h3.2⟩, h3.1⟩
theorem skC_solid {c : UInt8} {r : List UInt8} (h : solid c) : skC false (c :: r) = 0 := by
  unfold skC
  have h2 : c ≠ 10 := by rintro rfl; exact absurd h.2 (by decide)
  rw [if_neg h.1, if_neg h2, if_neg (by simp [h.2])]
theorem skC_drop_ge {b : Bool} {l : List UInt8} (h : l.drop (skC b l) = []) : skC b l = l.length := by
  have := skC_le b l
  rw [List.drop_eq_nil_iff] at h
  omega
/-- Gaps ahead of a byte that is none. -/
theorem skC_ahead {l : List UInt8} {c : UInt8} {r x : List UInt8} (h : l.drop (skC false l) = c :: r) : skC false (l.take (skC false l) ++ c :: x) = skC false l := by
  have hs := skC_stop _ _ _ _ h
  have hl : (l.take (skC false l)).length = skC false l := by rw [List.length_take]; have := skC_le false l; omega
  rw [skC_full_append false _ _ (by rw [skC_take, hl]), hs.2, skC_solid hs.1, hl]
  omega

/-! Tokens -/
theorem tw_append {p : UInt8 → Bool} : ∀ (r x : List UInt8), (∀ c, x.head? = some c → p c = false) → (r.takeWhile p ++ x).takeWhile p = r.takeWhile p
  | [], x, h => by
    simp only [List.takeWhile_nil, List.nil_append]
    cases x with
    | nil => rfl
    | cons c q => simp [h c rfl]
  | c :: r, x, h => by
    by_cases hc : p c = true
    · simp only [List.takeWhile_cons, hc, if_true, List.cons_append]
      rw [tw_append r x h]
    · simp only [List.takeWhile_cons, hc, Bool.false_eq_true, if_false, List.nil_append]
      cases x with
      | nil => rfl
      | cons d q => simp [h d rfl]
theorem tw_drop {p : UInt8 → Bool} : ∀ (r : List UInt8) (c : UInt8), (r.drop (r.takeWhile p).length).head? = some c → p c = false
  | [], c, h => by simp at h
  | d :: r, c, h => by
    by_cases hd : p d = true
    · simp only [List.takeWhile_cons, hd, if_true, List.length_cons, List.drop_succ_cons] at h
      exact tw_drop r c h
    · simp only [List.takeWhile_cons, hd, Bool.false_eq_true, if_false, List.length_nil, List.drop_zero, List.head?_cons, Option.some.injEq] at h
      rw [← h]
      simpa using hd
theorem tw_take {p : UInt8 → Bool} : ∀ (r : List UInt8), r.take (r.takeWhile p).length = r.takeWhile p
  | [] => by simp
  | d :: r => by
    by_cases hd : p d = true
    · simp only [List.takeWhile_cons, hd, if_true, List.length_cons, List.take_succ_cons]
      rw [tw_take r]
    · simp [hd]
theorem tw_le {p : UInt8 → Bool} : ∀ (r : List UInt8), (r.takeWhile p).length ≤ r.length
  | [] => by simp
  | d :: r => by
    have := tw_le (p := p) r
    by_cases hd : p d = true
    · simp only [List.takeWhile_cons, hd, if_true, List.length_cons]; omega
    · simp [hd]
theorem quo_le : ∀ (l : List UInt8) (n : Nat), quoEnd l = some n → n ≤ l.length ∧ 1 ≤ n
  | [], n, h => by simp [quoEnd] at h
  | [c], n, h => by
    unfold quoEnd at h
    by_cases h1 : c = 34
    · rw [if_pos h1] at h
      cases h
      simp
    · rw [if_neg h1] at h
      by_cases h2 : c = 92
      · rw [if_pos h2] at h
        cases h
      · rw [if_neg h2] at h
        simp [quoEnd] at h
  | c :: d :: r, n, h => by
    unfold quoEnd at h
    by_cases h1 : c = 34
    · rw [if_pos h1] at h
      cases h
      simp
    · rw [if_neg h1] at h
      by_cases h2 : c = 92
      · rw [if_pos h2] at h
        simp only [Option.map_eq_some_iff] at h
        obtain ⟨m, hm, rfl⟩ := h
        have := quo_le r m hm
        simp only [List.length_cons]
        omega
      · rw [if_neg h2] at h
        simp only [Option.map_eq_some_iff] at h
        obtain ⟨m, hm, rfl⟩ := h
        have := quo_le (d :: r) m hm
        simp only [List.length_cons] at this ⊢
        omega
theorem quo_take : ∀ (l : List UInt8) (n : Nat) (x : List UInt8), quoEnd l = some n → quoEnd (l.take n ++ x) = some n
  | [], n, x, h => by simp [quoEnd] at h
  | [c], n, x, h => by
    unfold quoEnd at h
    by_cases h1 : c = 34
    · rw [if_pos h1] at h
      cases h
      subst h1
      show quoEnd (34 :: ([] ++ x)) = some 1
      unfold quoEnd
      rw [if_pos rfl]
    · rw [if_neg h1] at h
      by_cases h2 : c = 92
      · rw [if_pos h2] at h
        cases h
      · rw [if_neg h2] at h
        simp [quoEnd] at h
  | c :: d :: r, n, x, h => by
    unfold quoEnd at h
    by_cases h1 : c = 34
    · rw [if_pos h1] at h
      cases h
      subst h1
      show quoEnd (34 :: ([] ++ x)) = some 1
      unfold quoEnd
      rw [if_pos rfl]
    · rw [if_neg h1] at h
      by_cases h2 : c = 92
      · rw [if_pos h2] at h
        simp only [Option.map_eq_some_iff] at h
        obtain ⟨m, hm, rfl⟩ := h
        have := quo_take r m x hm
        simp only [List.take_succ_cons, List.cons_append]
        unfold quoEnd
        rw [if_neg h1, if_pos h2]
        simp only [this, Option.map_some]
      · rw [if_neg h2] at h
        simp only [Option.map_eq_some_iff] at h
        obtain ⟨m, hm, rfl⟩ := h
        have := quo_take (d :: r) m x hm
        rw [List.take_succ_cons, List.cons_append]
        conv => lhs; unfold quoEnd
        rw [if_neg h1, if_neg h2]
        simp only [this, Option.map_some]
/-- A byte that a gap or a comment begins with, or none. -/
def sepO (o : Option UInt8) : Prop := o = none ∨ o = some 32 ∨ o = some 9 ∨ o = some 10 ∨ o = some 13 ∨ o = some 37
/-- What follows may follow in the other's place. -/
def Loc (x y : List UInt8) : Prop := y.head? = x.head? ∨ sepO y.head?
theorem sep_in {y : List UInt8} (h : sepO y.head?) : ∀ c, y.head? = some c → inB c = false ∧ isDig c = false := by
  intro c hc
  rw [hc] at h
  rcases h with h | h | h | h | h | h <;> first | (cases h; done) | (injection h with h; subst h; exact ⟨by decide, by decide⟩)
theorem loc_in {r y : List UInt8} (h : Loc (r.drop (r.takeWhile inB).length) y) : ∀ c, y.head? = some c → inB c = false := by
  intro c hc
  rcases h with h | h
  · exact tw_drop r c (h ▸ hc)
  · exact (sep_in h c hc).1
theorem loc_dig {r y : List UInt8} (h : Loc (r.drop (r.takeWhile isDig).length) y) : ∀ c, y.head? = some c → isDig c = false := by
  intro c hc
  rcases h with h | h
  · exact tw_drop r c (h ▸ hc)
  · exact (sep_in h c hc).2
theorem loc_not {r y : List UInt8} {d : UInt8} (h : Loc r y) (hn : ¬ r.head? = some d) (hd : ¬ sepO (some d)) : ¬ y.head? = some d := by
  intro e
  rcases h with h | h
  · exact hn (h ▸ e)
  · exact hd (e ▸ h)
theorem sep_no {d : UInt8} (h : (d == 32 || d == 9 || d == 10 || d == 13 || d == 37) = false) : ¬ sepO (some d) := by
  rintro (e | e | e | e | e | e) <;> first | (cases e; done) | (injection e with e; subst e; revert h; decide)
/-- How many bytes a token has. -/
theorem shape_le (c : UInt8) (r : List UInt8) : (shapeL c r).2 ≤ r.length + 1 := by
  unfold shapeL
  have h1 := tw_le (p := inB) r
  have h2 := tw_le (p := isDig) r
  have h3 : (quoEnd r).getD r.length ≤ r.length := by
    cases h : quoEnd r with
    | none => simp
    | some n => simpa using (quo_le r n h).1
  have h4 : ∀ d, r.head? = some d → 1 ≤ r.length := by
    intro d hd
    cases r with
    | nil => cases hd
    | cons => simp
  repeat' split
  all_goals first
    | (simp only; omega)
    | (have := h4 _ (by assumption); simp only; omega)
theorem shape_pos {c : UInt8} {r : List UInt8} (h : (shapeL c r).1 ≠ 0) : 1 ≤ (shapeL c r).2 := by
  unfold shapeL at h ⊢
  repeat' split
  all_goals first
    | (simp only; omega)
    | (exfalso; simp_all)
section
variable {V : List UInt8 → Option VL}
theorem tok_len {c : UInt8} {r : List UInt8} {k : Int} {n : Nat} {v : VL} (h : tokL V (c :: r) = some (k, n, v)) : 1 ≤ n ∧ n ≤ r.length + 1 ∧ k = (shapeL c r).1 ∧ n = (shapeL c r).2 ∧ meanL V k ((c :: r).take n) = some v := by
  unfold tokL at h
  simp only [Option.map_eq_some_iff, Prod.mk.injEq] at h
  obtain ⟨v', hv, rfl, rfl, rfl⟩ := h
  refine ⟨shape_pos ?_, shape_le c r, rfl, rfl, hv⟩
  intro e
  rw [e] at hv
  simp [meanL] at hv
theorem shape_local {c : UInt8} {r y : List UInt8} (hq : c = 34 → (quoEnd r).isSome = true) (hk : (shapeL c r).1 ≠ 0) (hl : Loc ((c :: r).drop (shapeL c r).2) y) :
    ∃ r', (c :: r).take (shapeL c r).2 ++ y = c :: r' ∧ shapeL c r' = shapeL c r := by
  have hp := shape_pos hk
  obtain ⟨m, hm⟩ : ∃ m, (shapeL c r).2 = m + 1 := ⟨(shapeL c r).2 - 1, by omega⟩
  refine ⟨r.take m ++ y, by rw [hm]; rfl, ?_⟩
  rw [hm, List.drop_succ_cons] at hl
  unfold shapeL at hm hk ⊢
  by_cases h1 : cls c = 1
  · simp only [if_pos h1] at hm ⊢
    obtain rfl : (r.takeWhile inB).length = m := by omega
    rw [tw_take, tw_append _ _ (loc_in hl)]
  · simp only [if_neg h1] at hm hk ⊢
    by_cases h2 : cls c = 2
    · simp only [if_pos h2] at hm ⊢
      obtain rfl : (r.takeWhile inB).length = m := by omega
      rw [tw_take, tw_append _ _ (loc_in hl)]
    · simp only [if_neg h2] at hm hk ⊢
      by_cases h3 : cls c = 8
      · simp only [if_pos h3] at hm ⊢
        obtain rfl : (r.takeWhile inB).length = m := by omega
        rw [tw_take, tw_append _ _ (loc_in hl)]
      · simp only [if_neg h3] at hm hk ⊢
        by_cases h4 : cls c = 4
        · simp only [if_pos h4] at hm ⊢
          obtain rfl : (r.takeWhile isDig).length = m := by omega
          rw [tw_take, tw_append _ _ (loc_dig hl)]
        · simp only [if_neg h4] at hm hk ⊢
          by_cases h5 : c = 34
          · simp only [if_pos h5] at hm ⊢
            obtain ⟨n, hn⟩ := Option.isSome_iff_exists.1 (hq h5)
            rw [hn] at hm ⊢
            simp only [Option.getD_some] at hm ⊢
            obtain rfl : n = m := by omega
            rw [quo_take r n y hn]
            rfl
          · simp only [if_neg h5] at hm hk ⊢
            have two : ∀ d : UInt8, r.head? = some d → m = 1 → (r.take m ++ y).head? = some d := by
              rintro d hd rfl
              cases r with
              | nil => cases hd
              | cons x q => simpa using hd
            have one : ∀ d : UInt8, ¬ r.head? = some d → m = 0 → ¬ sepO (some d) → ¬ (r.take m ++ y).head? = some d := by
              rintro d hd rfl hs
              rw [List.take_zero, List.nil_append]
              rw [List.drop_zero] at hl
              exact loc_not hl hd hs
            by_cases h6 : c = 33
            · simp only [if_pos h6] at hm hk ⊢
              by_cases g : r.head? = some 61
              · simp only [if_pos g] at hm ⊢
                rw [if_pos (two _ g (by omega))]
              · simp only [if_neg g] at hk
                exact absurd rfl hk
            · simp only [if_neg h6] at hm hk ⊢
              by_cases h7 : c = 45
              · simp only [if_pos h7] at hm hk ⊢
                by_cases g : (r.takeWhile isDig).length = 0
                · simp only [if_pos g] at hm ⊢
                  obtain rfl : m = 0 := by omega
                  rw [List.take_zero, List.nil_append]
                  rw [List.drop_zero] at hl
                  have : (y.takeWhile isDig).length = 0 := by
                    have hd := loc_dig (r := r) (y := y) (by rw [g, List.drop_zero]; exact hl)
                    cases y with
                    | nil => rfl
                    | cons d q => simp [hd d rfl]
                  rw [if_pos this]
                · simp only [if_neg g] at hm ⊢
                  obtain rfl : (r.takeWhile isDig).length = m := by omega
                  rw [tw_take, tw_append _ _ (loc_dig hl), if_neg g]
              · simp only [if_neg h7] at hm hk ⊢
                by_cases h8 : c = 58
                · simp only [if_pos h8] at hm hk ⊢
                  by_cases g : r.head? = some 45
                  · simp only [if_pos g] at hm ⊢
                    rw [if_pos (two _ g (by omega))]
                  · simp only [if_neg g] at hm ⊢
                    rw [if_neg (one _ g (by omega) (sep_no (by decide)))]
                · simp only [if_neg h8] at hm hk ⊢
                  by_cases h9 : c = 60 ∨ c = 62
                  · simp only [if_pos h9] at hm hk ⊢
                    by_cases g : r.head? = some 61
                    · simp only [if_pos g] at hm ⊢
                      rw [if_pos (two _ g (by omega))]
                    · simp only [if_neg g] at hm ⊢
                      rw [if_neg (one _ g (by omega) (sep_no (by decide)))]
                  · simp only [if_neg h9]
/-- A token hangs on its bytes and, at most, on the one that follows. -/
theorem tok_local (hV : ∀ r, quoEnd r = none → V (34 :: r) = none) {c : UInt8} {r y : List UInt8} {k : Int} {n : Nat} {v : VL} (h : tokL V (c :: r) = some (k, n, v)) (hl : Loc ((c :: r).drop n) y) :
    tokL V ((c :: r).take n ++ y) = some (k, n, v) := by
  obtain ⟨h1, h2, rfl, rfl, h5⟩ := tok_len h
  have hk : (shapeL c r).1 ≠ 0 := by
    intro e
    rw [e] at h5
    simp [meanL] at h5
  obtain ⟨r', e, hs⟩ := shape_local (c := c) (r := r) (y := y) (fun hc => by
    cases hq : quoEnd r with
    | some n => rfl
    | none =>
      exfalso
      subst hc
      have e5 : shapeL 34 r = (5, r.length + 1) := by
        unfold shapeL
        rw [if_neg (by decide), if_neg (by decide), if_neg (by decide), if_neg (by decide), if_pos rfl, hq]
        rfl
      rw [e5] at h5
      have : (34 :: r).take (r.length + 1) = 34 :: r := List.take_of_length_le (by simp)
      simp only [this] at h5
      unfold meanL at h5
      rw [if_neg (by decide), if_neg (by decide), if_pos (.inr rfl), hV r hq] at h5
      cases h5) hk hl
  have ht : (c :: r').take (shapeL c r').2 = (c :: r).take (shapeL c r).2 := by
    rw [hs, ← e, List.take_left' (by rw [List.length_take]; simp; omega)]
  rw [e]
  show (meanL V (shapeL c r').1 ((c :: r').take (shapeL c r').2)).map _ = _
  rw [ht, hs, h5]
  rfl
end
end Go.Proofs.YtnbaemfkpfmheaaGreatDoor
