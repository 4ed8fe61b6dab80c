/-
  Plain facts: the bytes that are read as a tuple's key are that tuple's key. No program is named here.
-/
import Derived.Test.YthnpiafpkllbpaaPkKP
namespace Go.Proofs.Ythnpiafpkllbpaa
open Go

theorem beL_snoc (k x : Nat) (c : UInt8) : beL (k + 1) (x * 256 + c.toNat) = beL k x ++ [c] := by
  have hc := c.toNat_lt
  induction k with
  | zero =>
    show [UInt8.ofNat ((x * 256 + c.toNat) / 256 ^ 0 % 256)] = [c]
    rw [Nat.pow_zero, Nat.div_one, show (x * 256 + c.toNat) % 256 = c.toNat by omega, UInt8.ofNat_toNat]
  | succ j ih =>
    have e : (x * 256 + c.toNat) / 256 ^ (j + 1) = x / 256 ^ j := by
      rw [Nat.pow_succ, Nat.mul_comm (256 ^ j) 256, ← Nat.div_div_eq_div_mul, show (x * 256 + c.toNat) / 256 = x by omega]
    rw [beL, ih, e]
    rfl
theorem beL_beN (l : List UInt8) : beL l.length (beN l) = l := by
  suffices h : ∀ r : List UInt8, beL r.reverse.length (beN r.reverse) = r.reverse by simpa using h l.reverse
  intro r
  induction r with
  | nil => rfl
  | cons c r ih =>
    rw [List.reverse_cons, beN_snoc, List.length_append, List.length_singleton, beL_snoc, ih]
theorem symP_is : ∀ (l acc s r : List UInt8), acc.length ≤ 256 → symP l acc = some (s, r) → ∃ t, s = acc ++ t ∧ l = t.flatMap escB ++ [0, 1] ++ r ∧ s.length ≤ 256
  | [], _, _, _ => fun _ h => by cases h
  | [_], _, _, _ => fun _ h => by cases h
  | c :: d :: l, acc, s, r => fun ha h => by
    rw [symP] at h
    by_cases hc : c = 0
    · rw [if_pos hc] at h
      by_cases hd : d = 1
      · rw [if_pos hd] at h
        injection h with h
        injection h with h1 h2
        subst h1 h2 hc hd
        exact ⟨[], by simp, rfl, ha⟩
      · rw [if_neg hd] at h
        by_cases he : d = 255
        · rw [if_pos he] at h
          by_cases h6 : acc.length = 256
          · rw [if_pos h6] at h; cases h
          · rw [if_neg h6] at h
            obtain ⟨t, h1, h2, h3⟩ := symP_is l (acc ++ [0]) s r (by simp; omega) h
            refine ⟨0 :: t, by rw [h1]; simp, ?_, h3⟩
            rw [hc, he, h2]
            rfl
        · rw [if_neg he] at h; cases h
    · rw [if_neg hc] at h
      by_cases h6 : acc.length = 256
      · rw [if_pos h6] at h; cases h
      · rw [if_neg h6] at h
        obtain ⟨t, h1, h2, h3⟩ := symP_is (d :: l) (acc ++ [c]) s r (by simp; omega) h
        refine ⟨c :: t, by rw [h1]; simp, ?_, h3⟩
        rw [List.flatMap_cons, show escB c = [c] from if_neg hc, h2]
        rfl
theorem keyP_is {l r : List UInt8} {x : V3} (h : keyP l = some (x, r)) : l = keyV x ++ r ∧ MayV x ∧ -9223372036854775808 ≤ x.n ∧ x.n ≤ 9223372036854775807 := by
  cases l with
  | nil => cases h
  | cons c l =>
    rw [keyP] at h
    by_cases h1 : c = 1
    · rw [if_pos h1] at h
      by_cases h8 : 8 ≤ l.length
      · rw [if_pos h8] at h
        injection h with h
        injection h with ha hb
        subst ha hb h1
        have hl : (l.take 8).length = 8 := by rw [List.length_take]; omega
        have hlt := beN_lt (l.take 8)
        rw [hl] at hlt
        have h256 : (256 : Nat) ^ 8 = 18446744073709551616 := by decide
        have hb := beL_beN (l.take 8)
        rw [hl] at hb
        refine ⟨?_, intV_may l, ?_, ?_⟩
        · have e : keyV (intV l) = 1 :: beL 8 (((beN (l.take 8) : Int) - 9223372036854775808) + 9223372036854775808).toNat := rfl
          rw [e, show (((beN (l.take 8) : Int) - 9223372036854775808) + 9223372036854775808).toNat = beN (l.take 8) by omega, hb, List.cons_append, List.take_append_drop]
        · show (-9223372036854775808 : Int) ≤ (beN (l.take 8) : Int) - 9223372036854775808; omega
        · show (beN (l.take 8) : Int) - 9223372036854775808 ≤ 9223372036854775807; omega
      · rw [if_neg h8] at h; cases h
    · rw [if_neg h1] at h
      by_cases h2 : c = 2
      · rw [if_pos h2] at h
        cases e : symP l [] with
        | none => rw [e] at h; cases h
        | some p =>
          obtain ⟨s, r'⟩ := p
          rw [e] at h
          injection h with h
          injection h with ha hb
          obtain ⟨t, h3, h4, h5⟩ := symP_is l [] s r' (by simp) e
          rw [List.nil_append] at h3
          subst ha hb h2 h3
          refine ⟨?_, symV_may h5, by show (-9223372036854775808 : Int) ≤ 0; decide, by show (0 : Int) ≤ 9223372036854775807; decide⟩
          rw [h4]
          rfl
      · rw [if_neg h2] at h; cases h
theorem keysP_is : ∀ (f : Nat) (l : List UInt8) (acc T : List V3), acc.length ≤ 8 → keysP f l acc = some T → ∃ U, T = acc ++ U ∧ l = keyT U ∧ T.length ≤ 8 ∧ ∀ x ∈ U, MayV x ∧ -9223372036854775808 ≤ x.n ∧ x.n ≤ 9223372036854775807
  | f, [], acc, T => fun ha h => by
    have e : keysP f [] acc = some acc := by cases f <;> rfl
    rw [e] at h
    injection h with h
    subst h
    exact ⟨[], by simp, rfl, ha, fun x hx => by cases hx⟩
  | 0, _ :: _, _, _ => fun _ h => by cases h
  | f + 1, c :: l, acc, T => fun ha h => by
    rw [keysP] at h
    by_cases h8 : acc.length = 8
    · rw [if_pos h8] at h; cases h
    · rw [if_neg h8] at h
      cases e : keyP (c :: l) with
      | none => rw [e] at h; cases h
      | some p =>
        obtain ⟨x, r⟩ := p
        rw [e] at h
        obtain ⟨U, h1, h2, h3, h4⟩ := keysP_is f r (acc ++ [x]) T (by simp; omega) h
        obtain ⟨h5, h6⟩ := keyP_is e
        refine ⟨x :: U, by rw [h1]; simp, ?_, h3, fun y hy => ?_⟩
        · rw [h5, h2, keyT_cons]
        · rcases List.mem_cons.1 hy with rfl | hy
          · exact h6
          · exact h4 y hy
/-- What FromKey takes is the key of what it answers. -/
theorem keysP_all {l : List UInt8} {T : List V3} (h : keysP l.length l [] = some T) : l = keyT T ∧ MayT T ∧ ∀ x ∈ T, -9223372036854775808 ≤ x.n ∧ x.n ≤ 9223372036854775807 := by
  obtain ⟨U, h1, h2, h3, h4⟩ := keysP_is l.length l [] T (by simp) h
  rw [List.nil_append] at h1
  subst h1
  exact ⟨h2, ⟨h3, fun x hx => (h4 x hx).1⟩, fun x hx => (h4 x hx).2⟩
end Go.Proofs.Ythnpiafpkllbpaa
