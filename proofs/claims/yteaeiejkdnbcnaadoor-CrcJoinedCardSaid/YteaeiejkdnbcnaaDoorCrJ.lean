/-
  Plain facts on checksums: products of registers, powers, the sum of two rows of bytes.
-/
import Derived.Test.YteaeiejkdnbcnaaDoorCrP
namespace Go.Proofs.YteaeiejkdnbcnaaDoor

def oneR : Reg := 0x80000000#32
/-- The product of two registers, its first k terms. -/
def mulK : Nat → Reg → Reg → Reg
  | 0, _, _ => 0#32
  | k + 1, p, q => mulK k p q ^^^ (if p.getLsbD (31 - k) then shN k q else 0#32)
theorem mulK_sh (k a : Nat) (p q : Reg) : mulK k p (shN a q) = shN a (mulK k p q) := by
  induction k with
  | zero => exact (shN_zero a).symm
  | succ k ih =>
    rw [mulK, ih, mulK, shN_xor]
    congr 1
    cases p.getLsbD (31 - k)
    · exact (shN_zero a).symm
    · show shN k (shN a q) = shN a (shN k q)
      rw [← shN_add, ← shN_add, Nat.add_comm]
theorem sh_one : ∀ i : Fin 32, shN i.val oneR = BitVec.ofNat 32 (2 ^ (31 - i.val)) := by decide
theorem mulK_one (k : Nat) (hk : k ≤ 32) (p : Reg) (j : Nat) (hj : j < 32) : (mulK k p oneR).getLsbD j = (decide (31 - j < k) && p.getLsbD j) := by
  induction k with
  | zero => simp [mulK]
  | succ k ih =>
    rw [mulK, BitVec.getLsbD_xor, ih (by omega)]
    have hif : (if p.getLsbD (31 - k) then shN k oneR else 0#32).getLsbD j = (decide (j = 31 - k) && p.getLsbD j) := by
      rcases Nat.lt_trichotomy j (31 - k) with h | h | h
      · rw [decide_eq_false (by omega), Bool.false_and]
        cases p.getLsbD (31 - k)
        · simp
        · rw [if_pos rfl, sh_one ⟨k, by omega⟩, BitVec.getLsbD_ofNat, Nat.testBit_two_pow]
          simp; omega
      · subst h
        rw [decide_eq_true rfl, Bool.true_and]
        cases p.getLsbD (31 - k)
        · simp
        · rw [if_pos rfl, sh_one ⟨k, by omega⟩, BitVec.getLsbD_ofNat, Nat.testBit_two_pow]
          simp; omega
      · rw [decide_eq_false (by omega), Bool.false_and]
        cases p.getLsbD (31 - k)
        · simp
        · rw [if_pos rfl, sh_one ⟨k, by omega⟩, BitVec.getLsbD_ofNat, Nat.testBit_two_pow]
          simp; omega
    rw [hif]
    by_cases h : j = 31 - k
    · rw [decide_eq_true h, decide_eq_false (show ¬ 31 - j < k by omega), decide_eq_true (show 31 - j < k + 1 by omega)]; simp
    · rw [decide_eq_false h]
      by_cases h2 : 31 - j < k
      · rw [decide_eq_true h2, decide_eq_true (show 31 - j < k + 1 by omega)]; simp
      · rw [decide_eq_false h2, decide_eq_false (show ¬ 31 - j < k + 1 by omega)]; simp
theorem mul_one (p : Reg) : mulK 32 p oneR = p := by
  apply BitVec.eq_of_getLsbD_eq
  intro j hj
  rw [mulK_one 32 (Nat.le_refl _) p j hj, decide_eq_true (by omega), Bool.true_and]
theorem mul_pow (p : Reg) (a : Nat) : mulK 32 p (shN a oneR) = shN a p := by rw [mulK_sh, mul_one]
theorem mulK_rest (k : Nat) (p q : Reg) (hk : k ≤ 32) (h : p <<< k = 0#32) : mulK k p q = mulK 32 p q := by
  have step : ∀ d, k + d ≤ 32 → mulK (k + d) p q = mulK k p q := by
    intro d
    induction d with
    | zero => intro _; rfl
    | succ d ih =>
      intro hd
      have hbit : p.getLsbD (31 - (k + d)) = false := by
        have h1 : (p <<< k).getLsbD (31 - d) = false := by rw [h]; simp
        rw [BitVec.getLsbD_shiftLeft] at h1
        have e : 31 - d - k = 31 - (k + d) := by omega
        rw [e] at h1
        simpa [show 31 - d < 32 by omega, show ¬ 31 - d < k by omega] using h1
      rw [← Nat.add_assoc, mulK, hbit, ih (by omega)]
      show mulK k p q ^^^ 0#32 = _
      exact BitVec.xor_zero
  have := step (32 - k) (by omega)
  rw [show k + (32 - k) = 32 by omega] at this
  exact this.symm
theorem top_bit (k : Nat) (p : Reg) (hk : k < 32) : (p <<< k).getLsbD 31 = p.getLsbD (31 - k) := by
  rw [BitVec.getLsbD_shiftLeft]
  simp [show ¬ 31 < k by omega]
theorem pow_eight : shN 8 oneR = 0x800000#32 := by decide
theorem regL_lin (l : List UInt8) : ∀ r : Reg, regL r l = shN (8 * l.length) r ^^^ regL 0#32 l := by
  induction l with
  | nil => intro r; show r = r ^^^ 0#32; rw [BitVec.xor_zero]
  | cons c l ih =>
    intro r
    have h (r : Reg) : regL r (c :: l) = regL (byteStep r c) l := rfl
    rw [h, h, ih (byteStep r c), ih (byteStep 0#32 c)]
    unfold byteStep
    rw [shN_xor 8 r, shN_xor, BitVec.zero_xor, ← shN_add, List.length_cons, show 8 * l.length + 8 = 8 * (l.length + 1) by omega, BitVec.xor_assoc]
theorem not_xor' (a b : Reg) : ~~~ (a ^^^ b) = ~~~ a ^^^ b := by
  rw [← BitVec.allOnes_xor, ← BitVec.allOnes_xor, BitVec.xor_assoc]
theorem sum_join (a b : List UInt8) : sumL (a ++ b) = shN (8 * b.length) (sumL a) ^^^ sumL b := by
  have h1 : sumL (a ++ b) = ~~~ (shN (8 * b.length) (regL (BitVec.allOnes 32) a) ^^^ regL 0#32 b) := by
    unfold sumL
    rw [regL_append, regL_lin b]
  have h2 : sumL b = ~~~ (shN (8 * b.length) (BitVec.allOnes 32) ^^^ regL 0#32 b) := by
    unfold sumL
    rw [regL_lin b]
  have h3 : sumL a = BitVec.allOnes 32 ^^^ regL (BitVec.allOnes 32) a := by
    unfold sumL
    rw [BitVec.allOnes_xor]
  rw [h1, h2, h3, shN_xor, ← BitVec.allOnes_xor, ← BitVec.allOnes_xor]
  generalize shN (8 * b.length) (BitVec.allOnes 32) = x
  generalize shN (8 * b.length) (regL (BitVec.allOnes 32) a) = y
  generalize regL 0#32 b = z
  generalize BitVec.allOnes 32 = o
  apply BitVec.eq_of_getLsbD_eq
  intro i _
  simp only [BitVec.getLsbD_xor]
  cases x.getLsbD i <;> cases y.getLsbD i <;> cases z.getLsbD i <;> cases o.getLsbD i <;> rfl
end Go.Proofs.YteaeiejkdnbcnaaDoor
