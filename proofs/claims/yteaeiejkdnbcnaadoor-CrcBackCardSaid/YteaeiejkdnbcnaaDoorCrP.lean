/-
  Plain facts on checksums: registers, what a byte does to them, the sum of bytes, that it is linear; no program.
-/
import Derived.KernelRfl
namespace Go.Proofs.YteaeiejkdnbcnaaDoor

abbrev Reg := BitVec 32
/-- The checksum's polynomial. -/
def polyP : Reg := 0xEDB88320#32
/-- A register behind a bit 0. -/
def sh (r : Reg) : Reg := if r.getLsbD 0 then (r >>> 1) ^^^ polyP else r >>> 1
/-- A register behind n bits 0. -/
def shN : Nat → Reg → Reg
  | 0, r => r
  | n + 1, r => sh (shN n r)
theorem shN_succ' (n : Nat) (r : Reg) : shN (n + 1) r = shN n (sh r) := by
  induction n with
  | zero => rfl
  | succ n ih => rw [shN, ih]; rfl
theorem shN_add (m n : Nat) (r : Reg) : shN (m + n) r = shN m (shN n r) := by
  induction m with
  | zero => rw [Nat.zero_add]; rfl
  | succ m ih => rw [show m + 1 + n = (m + n) + 1 by omega, shN, ih]; rfl
theorem ushr1_xor (a b : Reg) : (a ^^^ b) >>> 1 = (a >>> 1) ^^^ (b >>> 1) := by
  apply BitVec.eq_of_getLsbD_eq
  intro i _
  simp
theorem sh_xor (a b : Reg) : sh (a ^^^ b) = sh a ^^^ sh b := by
  unfold sh
  rw [ushr1_xor, BitVec.getLsbD_xor]
  cases a.getLsbD 0 <;> cases b.getLsbD 0 <;> simp only [Bool.xor_true, Bool.xor_false, Bool.not_true, Bool.not_false, if_true, Bool.false_eq_true, if_false]
  · rw [BitVec.xor_assoc]
  · rw [BitVec.xor_assoc, BitVec.xor_assoc, BitVec.xor_comm polyP]
  · rw [BitVec.xor_assoc, BitVec.xor_comm polyP, BitVec.xor_assoc, BitVec.xor_self, BitVec.xor_zero]
theorem shN_xor (n : Nat) (a b : Reg) : shN n (a ^^^ b) = shN n a ^^^ shN n b := by
  induction n with
  | zero => rfl
  | succ n ih => rw [shN, ih, sh_xor]; rfl
theorem sh_zero : sh 0#32 = 0#32 := by decide
theorem shN_zero (n : Nat) : shN n 0#32 = 0#32 := by
  induction n with
  | zero => rfl
  | succ n ih => rw [shN, ih, sh_zero]
theorem sh_even (r : Reg) (h : r.getLsbD 0 = false) : sh r = r >>> 1 := by unfold sh; rw [h]; rfl
theorem sh_eq_zero {r : Reg} (h : sh r = 0#32) : r = 0#32 := by
  have h31 : (sh r).getLsbD 31 = r.getLsbD 0 := by
    unfold sh
    cases r.getLsbD 0
    · simp
    · rw [if_pos rfl, BitVec.getLsbD_xor]
      have e : polyP.getLsbD 31 = true := by decide
      rw [e]; simp
  have h0 : r.getLsbD 0 = false := by rw [← h31, h]; simp
  rw [sh_even r h0] at h
  apply BitVec.eq_of_getLsbD_eq
  intro i hi
  rcases Nat.eq_zero_or_pos i with rfl | hp
  · rw [h0]; simp
  · have : (r >>> 1).getLsbD (i - 1) = false := by rw [h]; simp
    rw [BitVec.getLsbD_ushiftRight, show 1 + (i - 1) = i by omega] at this
    rw [this]; simp
theorem shN_eq_zero {n : Nat} {r : Reg} (h : shN n r = 0#32) : r = 0#32 := by
  induction n with
  | zero => exact h
  | succ n ih => exact ih (sh_eq_zero h)
theorem shN_inj {n : Nat} {a b : Reg} (h : shN n a = shN n b) : a = b := by
  have h' : shN n (a ^^^ b) = 0#32 := by rw [shN_xor, h, BitVec.xor_self]
  exact BitVec.xor_eq_zero_iff.1 (shN_eq_zero h')

/-- A byte as a register. -/
def byteR (c : UInt8) : Reg := BitVec.ofNat 32 c.toNat
/-- A register behind a byte. -/
def byteStep (r : Reg) (c : UInt8) : Reg := shN 8 (r ^^^ byteR c)
/-- A register behind bytes. -/
def regL (r : Reg) (l : List UInt8) : Reg := l.foldl byteStep r
theorem regL_nil (r : Reg) : regL r [] = r := rfl
theorem regL_snoc (r : Reg) (l : List UInt8) (c : UInt8) : regL r (l ++ [c]) = byteStep (regL r l) c := by unfold regL; rw [List.foldl_append]; rfl
theorem regL_append (r : Reg) (l m : List UInt8) : regL r (l ++ m) = regL (regL r l) m := by unfold regL; rw [List.foldl_append]
/-- The checksum of bytes. -/
def sumL (l : List UInt8) : Reg := ~~~ (regL (BitVec.allOnes 32) l)
/-- The checksum of what has the checksum s, followed by bytes. -/
def extL (s : Reg) (l : List UInt8) : Reg := ~~~ (regL (~~~ s) l)
theorem extL_zero (l : List UInt8) : extL 0#32 l = sumL l := by unfold extL sumL; rw [BitVec.not_zero]
theorem extL_sum (l m : List UInt8) : extL (sumL l) m = sumL (l ++ m) := by unfold extL sumL; rw [BitVec.not_not, regL_append]

/-- The table of half a byte. -/
def nibL : List Nat := [0, 498536548, 997073096, 651767980, 1994146192, 1802195444, 1303535960, 1342533948, 3988292384, 4027552580, 3604390888, 3412177804, 2607071920, 2262029012, 2685067896, 3183342108]
def nibT (i : Nat) : Nat := nibL.getD i 0
theorem nibT_lt (i : Nat) (h : i < 16) : nibT i < 4294967296 := by
  have : ∀ i : Fin 16, nibT i.val < 4294967296 := by decide
  exact this ⟨i, h⟩
theorem sh4_lo : ∀ i : Fin 16, shN 4 (BitVec.ofNat 32 i.val) = BitVec.ofNat 32 (nibT i.val) := by decide
theorem sh4_hi (r : Reg) (h : ∀ i < 4, r.getLsbD i = false) : shN 4 r = r >>> 4 := by
  rw [shN_succ', shN_succ', shN_succ', shN_succ', sh_even r (h 0 (by omega))]
  rw [sh_even (r >>> 1) (by rw [BitVec.getLsbD_ushiftRight]; exact h 1 (by omega))]
  rw [sh_even (r >>> 1 >>> 1) (by rw [BitVec.getLsbD_ushiftRight, BitVec.getLsbD_ushiftRight]; exact h 2 (by omega))]
  rw [sh_even (r >>> 1 >>> 1 >>> 1) (by rw [BitVec.getLsbD_ushiftRight, BitVec.getLsbD_ushiftRight, BitVec.getLsbD_ushiftRight]; exact h 3 (by omega))]
  show r >>> 1 >>> 1 >>> 1 >>> 1 = _
  rw [← BitVec.shiftRight_add, ← BitVec.shiftRight_add, ← BitVec.shiftRight_add]
/-- What half a byte of zeros does, by the table. -/
def nib (r : Reg) : Reg := (r >>> 4) ^^^ BitVec.ofNat 32 (nibT (r.toNat % 16))
theorem nib_eq (r : Reg) : shN 4 r = nib r := by
  have e : r = (r &&& 0xFFFFFFF0#32) ^^^ BitVec.ofNat 32 (r.toNat % 16) := by
    apply BitVec.eq_of_getLsbD_eq
    intro i hi
    have e2 : BitVec.ofNat 32 (r.toNat % 16) = r &&& 15#32 := by
      apply BitVec.eq_of_toNat_eq
      rw [BitVec.toNat_and, BitVec.toNat_ofNat, show (15#32).toNat = 2 ^ 4 - 1 by decide, Nat.and_two_pow_sub_one_eq_mod]
      have := r.isLt
      omega
    rw [e2, BitVec.getLsbD_xor, BitVec.getLsbD_and, BitVec.getLsbD_and]
    have : ∀ i : Fin 32, (0xFFFFFFF0#32 : Reg).getLsbD i.val = !(15#32 : Reg).getLsbD i.val := by decide
    rw [this ⟨i, hi⟩]
    cases r.getLsbD i <;> cases (15#32 : Reg).getLsbD i <;> rfl
  have h1 : shN 4 (r &&& 0xFFFFFFF0#32) = r >>> 4 := by
    rw [sh4_hi]
    · apply BitVec.eq_of_getLsbD_eq
      intro i hi
      rw [BitVec.getLsbD_ushiftRight, BitVec.getLsbD_ushiftRight, BitVec.getLsbD_and]
      rcases Nat.lt_or_ge (4 + i) 32 with h | h
      · have : ∀ i : Fin 28, (0xFFFFFFF0#32 : Reg).getLsbD (4 + i.val) = true := by decide
        rw [this ⟨i, by omega⟩, Bool.and_true]
      · rw [BitVec.getLsbD_of_ge r _ h, Bool.false_and]
    · intro i hi
      rw [BitVec.getLsbD_and]
      have : ∀ i : Fin 4, (0xFFFFFFF0#32 : Reg).getLsbD i.val = false := by decide
      rw [this ⟨i, hi⟩, Bool.and_false]
  have h2 := sh4_lo ⟨r.toNat % 16, by omega⟩
  conv => lhs; rw [e, shN_xor, h1]
  rw [h2]; rfl
theorem nib_nib (r : Reg) (c : UInt8) : nib (nib (r ^^^ byteR c)) = byteStep r c := by
  rw [← nib_eq, ← nib_eq, ← shN_add]; rfl

/-- A register behind one bit. -/
def feed (r : Reg) (b : Bool) : Reg := sh (r ^^^ (if b then 1#32 else 0#32))
/-- A register behind the first k bits of a byte. -/
def bitsR (r : Reg) (c : UInt8) : Nat → Reg
  | 0 => r
  | k + 1 => feed (bitsR r c k) (c.toNat.testBit k)
theorem sh_low : ∀ k : Fin 8, shN k.val (BitVec.ofNat 32 (2 ^ k.val)) = 1#32 := by decide
theorem bitsR_eq (r : Reg) (c : UInt8) (k : Nat) (hk : k ≤ 8) : bitsR r c k = shN k (r ^^^ BitVec.ofNat 32 (c.toNat % 2 ^ k)) := by
  induction k with
  | zero => rw [Nat.pow_zero, Nat.mod_one]; show r = r ^^^ 0#32; rw [BitVec.xor_zero]
  | succ k ih =>
    have hb : BitVec.ofNat 32 (c.toNat % 2 ^ (k + 1)) = BitVec.ofNat 32 (c.toNat % 2 ^ k) ^^^ (if c.toNat.testBit k then BitVec.ofNat 32 (2 ^ k) else 0#32) := by
      apply BitVec.eq_of_getLsbD_eq
      intro i hi
      have hif : (if c.toNat.testBit k then BitVec.ofNat 32 (2 ^ k) else 0#32).getLsbD i = (decide (i = k) && c.toNat.testBit k) := by
        cases c.toNat.testBit k
        · simp
        · simp only [if_true, BitVec.getLsbD_ofNat, Nat.testBit_two_pow, Bool.and_true]
          rw [decide_eq_true hi, Bool.true_and]
          exact decide_eq_decide.2 eq_comm
      rw [BitVec.getLsbD_xor, hif, BitVec.getLsbD_ofNat, BitVec.getLsbD_ofNat, Nat.testBit_mod_two_pow, Nat.testBit_mod_two_pow, decide_eq_true hi, Bool.true_and, Bool.true_and]
      rcases Nat.lt_trichotomy i k with h | rfl | h
      · rw [decide_eq_true (show i < k + 1 by omega), decide_eq_true h, decide_eq_false (show ¬ i = k by omega)]; simp
      · simp
      · rw [decide_eq_false (show ¬ i < k + 1 by omega), decide_eq_false (show ¬ i < k by omega), decide_eq_false (show ¬ i = k by omega)]; simp
    rw [bitsR, ih (by omega), feed, hb, ← BitVec.xor_assoc]
    show _ = sh (shN k _)
    rw [shN_xor k (_ ^^^ _)]
    congr 2
    cases c.toNat.testBit k
    · exact (shN_zero k).symm
    · exact (sh_low ⟨k, by omega⟩).symm
theorem bitsR_eight (r : Reg) (c : UInt8) : bitsR r c 8 = byteStep r c := by
  rw [bitsR_eq r c 8 (Nat.le_refl _), Nat.mod_eq_of_lt (show c.toNat < 2 ^ 8 from c.toNat_lt)]; rfl
end Go.Proofs.YteaeiejkdnbcnaaDoor
