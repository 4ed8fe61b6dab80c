/-
  Plain facts on reading back: a decimal numeral spells its number; a symbol's text spells its bytes. No program is named here.
-/
import Derived.Test.YtnbaemfkpfmheaaGreatDoorTxt
import Derived.Lib.ParseIntB
namespace Go.Proofs.YtnbaemfkpfmheaaGreatDoor
open Go

theorem dgt_toNat {d : Nat} (h : d < 10) : (UInt8.ofNat (48 + d)).toNat = 48 + d := by
  rw [UInt8.toNat_ofNat']
  omega
theorem dd_small {n : Nat} (h : n < 10) : Lib.decDigits n = [UInt8.ofNat (48 + n)] := by rw [Lib.decDigits, dif_pos h]
theorem dd_big {n : Nat} (h : ¬ n < 10) : Lib.decDigits n = Lib.decDigits (n / 10) ++ [UInt8.ofNat (48 + n % 10)] := by rw [Lib.decDigits, dif_neg h]
/-- Every byte of a numeral is a digit, and there is one. -/
theorem dd_head (n : Nat) : ∃ c r, Lib.decDigits n = c :: r ∧ 48 ≤ c.toNat ∧ c.toNat ≤ 57 := by
  induction n using Nat.strongRecOn with
  | _ n ih =>
  by_cases h : n < 10
  · exact ⟨_, [], dd_small h, by rw [dgt_toNat h]; omega, by rw [dgt_toNat h]; omega⟩
  · obtain ⟨c, r, e, h1, h2⟩ := ih (n / 10) (by omega)
    exact ⟨c, r ++ [UInt8.ofNat (48 + n % 10)], by rw [dd_big h, e]; rfl, h1, h2⟩
theorem pu_append (M : Nat) : ∀ (l1 l2 : List UInt8) (acc a : Nat), Lib.parseUintM M acc l1 = .ok a → Lib.parseUintM M acc (l1 ++ l2) = Lib.parseUintM M a l2
  | [], l2, acc, a, h => by
    simp only [Lib.parseUintM, Lib.NumEnd.ok.injEq] at h
    subst h
    rfl
  | c :: r, l2, acc, a, h => by
    rw [List.cons_append]
    conv => lhs; unfold Lib.parseUintM
    unfold Lib.parseUintM at h
    split at h
    · rw [if_pos ‹_›]
      split at h
      · cases h
      · rw [if_neg ‹_›]
        split at h
        · cases h
        · rw [if_neg ‹_›]
          exact pu_append M r l2 _ a h
    · cases h
theorem pu_one (M acc : Nat) (c : UInt8) (h1 : 48 ≤ c.toNat) (h2 : c.toNat ≤ 57) (h3 : acc < 1844674407370955162) (h4 : acc * 10 + (c.toNat - 48) ≤ M) : Lib.parseUintM M acc [c] = .ok (acc * 10 + (c.toNat - 48)) := by
  unfold Lib.parseUintM
  rw [if_pos ⟨h1, h2⟩, if_neg (by omega), if_neg (by omega)]
  rfl
theorem pu_digits (M : Nat) (hM : M ≤ 18446744073709551615) (u : Nat) : u ≤ M → Lib.parseUintM M 0 (Lib.decDigits u) = .ok u := by
  induction u using Nat.strongRecOn with
  | _ u ih =>
  intro hu
  by_cases h : u < 10
  · rw [dd_small h, pu_one M 0 _ (by rw [dgt_toNat h]; omega) (by rw [dgt_toNat h]; omega) (by omega) (by rw [dgt_toNat h]; omega), dgt_toNat h]
    congr 1
    omega
  · have hd : u % 10 < 10 := by omega
    rw [dd_big h, pu_append M _ _ _ _ (ih (u / 10) (by omega) (by omega)), pu_one M _ _ (by rw [dgt_toNat hd]; omega) (by rw [dgt_toNat hd]; omega) (by omega) (by rw [dgt_toNat hd]; omega), dgt_toNat hd]
    congr 1
    omega
theorem pub_digits (u : Nat) (hu : u ≤ 18446744073709551615) : Lib.parseUintB 64 (Lib.decDigits u) = .ok u := by
  obtain ⟨c, r, e, -, -⟩ := dd_head u
  unfold Lib.parseUintB
  rw [if_neg (by rw [e]; simp)]
  exact pu_digits _ (by decide) u (by simpa using hu)
/-- A decimal numeral spells its number. -/
theorem parse_itoa (n : Int) (h1 : -9223372036854775808 ≤ n) (h2 : n ≤ 9223372036854775807) : Lib.parseIntB 64 (Lib.itoa n) = .ok n := by
  unfold Lib.itoa
  by_cases hn : n < 0
  · rw [if_pos hn]
    have hp := pub_digits n.natAbs (by omega)
    simp [Lib.parseIntB, hp]
    rw [if_neg (by omega)]
    congr 1
    omega
  · rw [if_neg hn]
    have hp := pub_digits n.toNat (by omega)
    obtain ⟨c, r, e, g1, g2⟩ := dd_head n.toNat
    have hc2 : ¬ c.toNat = 45 := by omega
    rw [e] at hp ⊢
    simp [Lib.parseIntB, hc2, show ¬ c.toNat = 43 by omega, hp]
    rw [if_neg (by omega)]
    congr 1
    omega

/-- The value of a hexadecimal digit, small or great. -/
def hexV (c : UInt8) : Option Nat :=
  if 48 ≤ c.toNat ∧ c.toNat ≤ 57 then some (c.toNat - 48) else if 97 ≤ c.toNat ∧ c.toNat ≤ 102 then some (c.toNat - 87) else if 65 ≤ c.toNat ∧ c.toNat ≤ 70 then some (c.toNat - 55) else none
/-- The first byte that a row of bytes spells, and what is behind it. -/
def unescL : List UInt8 → Option (UInt8 × List UInt8)
  | [] => none
  | c :: r => if c ≠ 92 then some (c, r) else match r with
    | [] => none
    | d :: r1 => if d = 34 ∨ d = 92 then some (d, r1) else if d = 110 then some (10, r1) else if d = 116 then some (9, r1) else if d = 120 then
        (match r1 with
        | x :: y :: r2 => (match hexV x, hexV y with | some a, some b => some (UInt8.ofNat (16 * a + b), r2) | _, _ => none)
        | _ => none)
      else none
/-- All the bytes that it spells. -/
def bodyL : Nat → List UInt8 → Option (List UInt8)
  | _, [] => some []
  | 0, _ :: _ => none
  | f + 1, c :: r => match unescL (c :: r) with
    | none => none
    | some (x, r1) => (bodyL f r1).map (x :: ·)
theorem hexV_hexD : ∀ n : Fin 16, hexV (hexD n.val) = some n.val := by decide
theorem unesc_one (c : UInt8) (r : List UInt8) : unescL (oneB c ++ r) = some (c, r) := by
  unfold oneB
  split
  · rename_i h
    rcases h with rfl | rfl <;> rfl
  · rename_i h34
    split
    · rename_i h; subst h; rfl
    · split
      · rename_i h; subst h; rfl
      · split
        · have : c ≠ 92 := fun h => h34 (.inr h)
          simp [unescL, this]
        · have hb := byte_lt c
          have e1 := hexV_hexD ⟨c.toNat / 16, by omega⟩
          have e2 := hexV_hexD ⟨c.toNat % 16, by omega⟩
          simp only at e1 e2
          have e3 : UInt8.ofNat (16 * (c.toNat / 16) + c.toNat % 16) = c := by
            rw [show 16 * (c.toNat / 16) + c.toNat % 16 = c.toNat by omega]
            exact UInt8.ofNat_toNat
          simp [unescL, e1, e2, e3]
/-- A symbol's text spells its bytes. -/
theorem body_one : ∀ (l : List UInt8) (f : Nat), l.length ≤ f → bodyL f (l.flatMap oneB) = some l
  | [], f, _ => by cases f <;> rfl
  | c :: r, 0, h => by simp at h
  | c :: r, f + 1, h => by
    have hl := oneB_len c
    rw [List.flatMap_cons]
    have hu := unesc_one c (r.flatMap oneB)
    have hne : ∃ x y, oneB c ++ r.flatMap oneB = x :: y := by
      cases e : oneB c ++ r.flatMap oneB with
      | nil => rw [e] at hu; simp [unescL] at hu
      | cons x y => exact ⟨x, y, rfl⟩
    obtain ⟨x, y, e⟩ := hne
    rw [e] at hu ⊢
    unfold bodyL
    rw [hu]
    simp only
    rw [body_one r f (by simpa using h)]
    rfl
theorem quoteL_inj {a b : List UInt8} (h : quoteL a = quoteL b) : a = b := by
  unfold quoteL quoteTo at h
  have h1 : a.flatMap oneB = b.flatMap oneB := by simpa using h
  have ha := body_one a (a.length + b.length) (by omega)
  have hb := body_one b (a.length + b.length) (by omega)
  rw [h1, hb] at ha
  exact (Option.some.inj ha).symm
theorem itoa_inj {a b : Int} (ha : -9223372036854775808 ≤ a ∧ a ≤ 9223372036854775807) (hb : -9223372036854775808 ≤ b ∧ b ≤ 9223372036854775807) (h : Lib.itoa a = Lib.itoa b) : a = b := by
  have h1 := parse_itoa a ha.1 ha.2
  rw [h, parse_itoa b hb.1 hb.2] at h1
  exact (Lib.NumEnd.ok.inj h1).symm
/-- A numeral begins with no quote. -/
theorem itoa_head (n : Int) : ∃ c r, Lib.itoa n = c :: r ∧ c ≠ 34 := by
  unfold Lib.itoa
  split
  · exact ⟨45, _, rfl, by decide⟩
  · obtain ⟨c, r, e, h1, h2⟩ := dd_head n.toNat
    exact ⟨c, r, e, by rintro rfl; simp at h1⟩

end Go.Proofs.YtnbaemfkpfmheaaGreatDoor
