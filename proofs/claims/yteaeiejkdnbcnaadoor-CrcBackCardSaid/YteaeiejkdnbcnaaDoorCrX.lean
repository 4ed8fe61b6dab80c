/-
  Plain facts on seals and frames: a burst of up to 32 bits in sealed bytes or in a frame is told.
-/
import Derived.Test.YteaeiejkdnbcnaaDoorCrQ
import Derived.Test.YteaeiejkdnbcnaaDoorCrT
namespace Go.Proofs.YteaeiejkdnbcnaaDoor
open Go Go.RowKit

theorem encL_bits (c : Reg) : HasBits (encL c) (fun i => c.getLsbD i) := by
  have h : ∀ j, j < 4 → ∀ t, t < 8 → (encB c j).toNat.testBit t = c.getLsbD (8 * j + t) := by
    intro j _ t ht
    unfold encB
    rw [UInt8.toNat_ofNat', show (256 : Nat) ^ j = 2 ^ (8 * j) by rw [Nat.pow_mul], show (2 ^ 8 : Nat) = 2 ^ 8 from rfl, Nat.testBit_mod_two_pow, decide_eq_true ht, Bool.true_and, Nat.testBit_div_two_pow, Nat.add_comm]
    rfl
  intro j hj t ht
  rw [encL_len] at hj
  match j, hj with
  | 0, _ => exact h 0 (by omega) t ht
  | 1, _ => exact h 1 (by omega) t ht
  | 2, _ => exact h 2 (by omega) t ht
  | 3, _ => exact h 3 (by omega) t ht
theorem pack_all (c : Reg) : packB (fun i => c.getLsbD i) 32 = c := by
  apply BitVec.eq_of_getLsbD_eq
  intro t ht
  rw [packB_bit _ 32 t ht, decide_eq_true ht, Bool.true_and]
theorem regL_enc (r c : Reg) : regL r (encL c) = shN 32 (r ^^^ c) := by
  rw [regL_bits_all r _ _ (encL_bits c), encL_len]
  show bitReg r _ 32 = _
  rw [bitReg_pack _ _ 32 (Nat.le_refl _), pack_all]
theorem open_res {x : List UInt8} (h : openB x = true) : regL (BitVec.allOnes 32) x = shN 32 (BitVec.allOnes 32) := by
  unfold openB at h
  rw [sameB_iff] at h
  rw [← List.take_append_drop (x.length - 4) x, regL_append, h, regL_enc]
  congr 1
  unfold sumL
  rw [← BitVec.allOnes_xor, BitVec.xor_comm (BitVec.allOnes 32), ← BitVec.xor_assoc, BitVec.xor_self, BitVec.zero_xor]
/-- Sealed bytes, apart by a burst, do not open. -/
theorem seal_burst (s c : List UInt8) (f : Nat → Bool) (a : Nat) (hs : openB s = true) (hl : s.length = c.length) (hc : ∀ j (h : j < s.length) (h' : j < c.length), ∀ t, t < 8 → c[j].toNat.testBit t = (s[j].toNat.testBit t ^^ f (8 * j + t)))
    (hlo : ∀ i, i < a → f i = false) (hhi : ∀ i, a + 32 ≤ i → f i = false) (i : Nat) (hi : i < 8 * s.length) (hf : f i = true) : openB c = false := by
  cases h : openB c
  · rfl
  · exact absurd ((open_res h).trans (open_res hs).symm) (burst_reg s c f a hl hc hlo hhi i hi hf _)
theorem byte_ext {a b : UInt8} (h : ∀ t, t < 8 → a.toNat.testBit t = b.toNat.testBit t) : a = b := by
  apply UInt8.toNat_inj.1
  apply Nat.eq_of_testBit_eq
  intro t
  rcases Nat.lt_or_ge t 8 with ht | ht
  · exact h t ht
  · have hp : 2 ^ 8 ≤ 2 ^ t := Nat.pow_le_pow_right (by decide) ht
    have ha := a.toNat_lt
    have hb := b.toNat_lt
    rw [Nat.testBit_lt_two_pow (by omega), Nat.testBit_lt_two_pow (by omega)]
/-- A frame, apart by a burst, is not taken off. -/
theorem frame_burst (k : UInt8) (l c : List UInt8) (f : Nat → Bool) (a : Nat) (hk : l.length ≤ 1048576) (hl : (frameL k l).length = c.length)
    (hc : ∀ j (h : j < (frameL k l).length) (h' : j < c.length), ∀ t, t < 8 → c[j].toNat.testBit t = ((frameL k l)[j].toNat.testBit t ^^ f (8 * j + t)))
    (hlo : ∀ i, i < a → f i = false) (hhi : ∀ i, a + 32 ≤ i → f i = false) (i : Nat) (hi : i < 8 * (frameL k l).length) (hf : f i = true) : (unfE c).1 ≠ 0 := by
  have hFl := frameL_len k l
  have hcl : c.length = 13 + l.length := by omega
  have hA : (sealL (headL k l)).length = 9 := by rw [sealL_len, headL_len]
  have hB : (sealL l).length = l.length + 4 := sealL_len l
  have hget1 : ∀ j (h : j < (frameL k l).length) (h' : j < (sealL (headL k l)).length), (frameL k l)[j] = (sealL (headL k l))[j] := fun j h h' => by
    simp only [frameL]; exact List.getElem_append_left h'
  by_cases h72 : ∃ i, i < 72 ∧ f i = true
  · obtain ⟨i2, hi2, hf2⟩ := h72
    have ho : openB (c.take 9) = false := by
      refine seal_burst (sealL (headL k l)) (c.take 9) f a (openB_seal _) (by rw [hA, List.length_take]; omega) ?_ hlo hhi i2 (by rw [hA]; omega) hf2
      intro j h h' t ht
      have hj : j < c.length := by rw [List.length_take] at h'; omega
      have hj2 : j < (frameL k l).length := by omega
      have := hc j hj2 hj t ht
      rw [List.getElem_take, this, hget1 j hj2 h]
    unfold unfE
    rw [if_neg (by omega), if_pos ho]
    simp
  · have h72' : ∀ i, i < 72 → f i = false := fun i hi => by
      cases h : f i
      · rfl
      · exact absurd ⟨i, hi, h⟩ h72
    have h9 : c.take 9 = sealL (headL k l) := by
      apply List.ext_getElem
      · rw [List.length_take, hA]; omega
      · intro j h h'
        have hj : j < c.length := by rw [List.length_take] at h; omega
        have hj2 : j < (frameL k l).length := by omega
        rw [List.getElem_take]
        refine byte_ext fun t ht => ?_
        rw [hc j hj2 hj t ht, h72' _ (by rw [hA] at h'; omega), Bool.xor_false, hget1 j hj2 h']
    have h5 : c.take 5 = headL k l := by
      have e : c.take 5 = (c.take 9).take 5 := by rw [List.take_take]; rfl
      rw [e, h9]
      unfold sealL
      have h := List.take_left (l₁ := headL k l) (l₂ := encL (sumL (headL k l)))
      rw [headL_len] at h
      exact h
    have hd1 : (headL k l).drop 1 = encL (BitVec.ofNat 32 l.length) := rfl
    have hn : decN (encL (BitVec.ofNat 32 l.length)) = l.length := by
      rw [decN_enc, BitVec.toNat_ofNat]
      omega
    have hd : (c.drop 9).take (4 + l.length) = c.drop 9 := List.take_of_length_le (by rw [List.length_drop]; omega)
    have hi72 : 72 ≤ i := by
      rcases Nat.lt_or_ge i 72 with h | h
      · rw [h72' i h] at hf; cases hf
      · exact h
    have ho : openB (c.drop 9) = false := by
      refine seal_burst (sealL l) (c.drop 9) (fun i => f (72 + i)) (a - 72) (openB_seal _) (by rw [hB, List.length_drop]; omega) ?_ (fun i hi => hlo _ (by omega)) (fun i hi => hhi _ (by omega)) (i - 72) (by rw [hB]; omega) (by show f (72 + (i - 72)) = true; rw [show 72 + (i - 72) = i by omega]; exact hf)
      intro j h h' t ht
      have hj : 9 + j < c.length := by rw [List.length_drop] at h'; omega
      have hj2 : 9 + j < (frameL k l).length := by omega
      have h2 := hc (9 + j) hj2 hj t ht
      have hg : (frameL k l)[9 + j] = (sealL l)[j] := by
        simp only [frameL]
        rw [List.getElem_append_right (by omega)]
        congr 1
        omega
      rw [List.getElem_drop, h2, hg]
      congr 2
      omega
    unfold unfE
    rw [if_neg (by omega), h9, h5, hd1, hn, hd, if_neg (by rw [openB_seal]; simp), if_neg (by omega), if_neg (by omega), if_pos ho]
    simp
end Go.Proofs.YteaeiejkdnbcnaaDoor
