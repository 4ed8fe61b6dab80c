/-
  Plain facts on the reading of numbers. No program is named here.
-/
import Derived.Test.YthnpiafpkllbpaaPkP
import Derived.Laws.BitsAllLaws
namespace Go.Proofs.Ythnpiafpkllbpaa
open Go

/-- A number, read group by group: the j-th group, what the groups before it make. -/
def numP : List UInt8 → Nat → Nat → Option (Nat × List UInt8)
  | [], _, _ => none
  | c :: r, j, x =>
    if j = 10 then none
    else if 18446744073709551616 ≤ c.toNat % 128 * 2 ^ (7 * j) ∨ (c = 0 ∧ 0 < j) then none
    else if c.toNat < 128 then some (x + c.toNat % 128 * 2 ^ (7 * j), r)
    else numP r (j + 1) (x + c.toNat % 128 * 2 ^ (7 * j))
theorem group_fits {x g j : Nat} (hj : j < 10) (hx : x < 2 ^ (7 * j)) (hg : g * 2 ^ (7 * j) < 18446744073709551616) : x + g * 2 ^ (7 * j) < 18446744073709551616 := by
  have e : (18446744073709551616 : Nat) = 2 ^ (64 - 7 * j) * 2 ^ (7 * j) := by
    rw [← Nat.pow_add, show 64 - 7 * j + 7 * j = 64 by omega]
  have h1 : g < 2 ^ (64 - 7 * j) := by
    apply Nat.lt_of_mul_lt_mul_right (a := 2 ^ (7 * j))
    rw [← e]; exact hg
  have h2 : (g + 1) * 2 ^ (7 * j) ≤ 2 ^ (64 - 7 * j) * 2 ^ (7 * j) := Nat.mul_le_mul_right _ h1
  rw [← e, Nat.add_mul, Nat.one_mul] at h2
  omega
theorem group_next {x g j : Nat} (hx : x < 2 ^ (7 * j)) (hg : g < 128) : x + g * 2 ^ (7 * j) < 2 ^ (7 * (j + 1)) := by
  rw [show 7 * (j + 1) = 7 + 7 * j by omega, Nat.pow_add, show (2 : Nat) ^ 7 = 128 from rfl]
  have h2 : (g + 1) * 2 ^ (7 * j) ≤ 128 * 2 ^ (7 * j) := Nat.mul_le_mul_right _ hg
  rw [Nat.add_mul, Nat.one_mul] at h2
  omega
theorem numP_is : ∀ (l : List UInt8) (j x y : Nat) (r : List UInt8), x < 2 ^ (7 * j) → numP l j x = some (y, r) → ∃ z, l = numL z ++ r ∧ y = x + z * 2 ^ (7 * j) ∧ (0 < j → 0 < z) ∧ y < 18446744073709551616
  | [], _, _, _, _ => fun _ h => by cases h
  | c :: l, j, x, y, r => fun hx h => by
    rw [numP] at h
    by_cases hj : j = 10
    · rw [if_pos hj] at h; cases h
    rw [if_neg hj] at h
    by_cases hb : 18446744073709551616 ≤ c.toNat % 128 * 2 ^ (7 * j) ∨ (c = 0 ∧ 0 < j)
    · rw [if_pos hb] at h; cases h
    rw [if_neg hb] at h
    by_cases h7 : c.toNat < 128
    · rw [if_pos h7] at h
      injection h with h
      injection h with h1 h2
      subst h2
      have hm : c.toNat % 128 = c.toNat := Nat.mod_eq_of_lt h7
      rw [hm] at h1 hb
      refine ⟨c.toNat, ?_, h1.symm, ?_, ?_⟩
      · rw [numL_lt h7, UInt8.ofNat_toNat]; rfl
      · intro hj0
        apply Nat.pos_of_ne_zero
        intro h0
        exact hb (.inr ⟨UInt8.toNat_inj.1 (by simpa using h0), hj0⟩)
      · by_cases hj' : j < 10
        · rw [← h1]; exact group_fits hj' hx (by omega)
        · have hg : c.toNat * 2 ^ (7 * j) < 18446744073709551616 := by omega
          have hp : 2 ^ 70 ≤ 2 ^ (7 * j) := Nat.pow_le_pow_right (by decide) (by omega)
          have hp' : (2 : Nat) ^ 70 = 1180591620717411303424 := by decide
          have h0 : c.toNat = 0 := by
            rcases Nat.eq_zero_or_pos c.toNat with h0 | h0
            · exact h0
            · have := Nat.mul_le_mul_right (2 ^ (7 * j)) h0
              omega
          exact absurd (.inr ⟨UInt8.toNat_inj.1 (by simpa using h0), by omega⟩) hb
    · rw [if_neg h7] at h
      have hg : c.toNat % 128 < 128 := Nat.mod_lt _ (by decide)
      obtain ⟨z, hl, hy, hz, hY⟩ := numP_is l (j + 1) _ y r (group_next hx hg) h
      have hz0 := hz (by omega)
      have hc := c.toNat_lt
      refine ⟨c.toNat % 128 + 128 * z, ?_, ?_, fun _ => by omega, hY⟩
      · rw [numL_ge (by omega), show (c.toNat % 128 + 128 * z) % 128 + 128 = c.toNat by omega, show (c.toNat % 128 + 128 * z) / 128 = z by omega, UInt8.ofNat_toNat, hl]; rfl
      · rw [hy, show 7 * (j + 1) = 7 + 7 * j by omega, Nat.pow_add, show (2 : Nat) ^ 7 = 128 from rfl, Nat.add_mul, Nat.add_assoc]
        congr 2
        rw [← Nat.mul_assoc, Nat.mul_comm z 128]
theorem numP_all {l : List UInt8} {y : Nat} {r : List UInt8} (h : numP l 0 0 = some (y, r)) : l = numL y ++ r ∧ y < 18446744073709551616 := by
  obtain ⟨z, h1, h2, -, h3⟩ := numP_is l 0 0 y r (by decide) h
  obtain rfl : y = z := by simpa using h2
  exact ⟨h1, h3⟩
theorem or_group {x g j : Nat} (hj : j < 10) (hx : x < 2 ^ (7 * j)) (hg : g * 2 ^ (7 * j) < 18446744073709551616) : bits .or .u64 (x : Int) ((g * 2 ^ (7 * j) : Nat) : Int) = ((x + g * 2 ^ (7 * j) : Nat) : Int) := by
  have hf := group_fits hj hx hg
  rw [u64_or_nat _ _ (by omega) hg, Nat.or_comm]
  have h := Nat.two_pow_add_eq_or_of_lt (i := 7 * j) (b := x) hx g
  rw [Nat.mul_comm] at h
  rw [← h, Nat.add_comm]
end Go.Proofs.Ythnpiafpkllbpaa
