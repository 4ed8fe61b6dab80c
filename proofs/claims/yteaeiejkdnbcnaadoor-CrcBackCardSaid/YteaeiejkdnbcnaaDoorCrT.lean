/-
  Plain facts on checksums: bytes with bits turned, bit by bit; a burst of up to 32 bits changes the register.
-/
import Derived.Test.YteaeiejkdnbcnaaDoorCrP
namespace Go.Proofs.YteaeiejkdnbcnaaDoor

/-- A register behind bits. -/
def bitReg (r : Reg) (f : Nat → Bool) : Nat → Reg
  | 0 => r
  | m + 1 => feed (bitReg r f m) (f m)
/-- These bytes have those bits. -/
def HasBits (e : List UInt8) (f : Nat → Bool) : Prop := ∀ j (h : j < e.length), ∀ t, t < 8 → e[j].toNat.testBit t = f (8 * j + t)
theorem bitReg_byte (r : Reg) (f : Nat → Bool) (n : Nat) (c : UInt8) (h : ∀ t, t < 8 → c.toNat.testBit t = f (8 * n + t)) (k : Nat) (hk : k ≤ 8) : bitReg r f (8 * n + k) = bitsR (bitReg r f (8 * n)) c k := by
  induction k with
  | zero => rfl
  | succ k ih =>
    rw [← Nat.add_assoc, bitReg, ih (by omega), bitsR, h k (by omega)]
theorem regL_bits (r : Reg) (f : Nat → Bool) (e : List UInt8) (h : HasBits e f) : ∀ n, n ≤ e.length → regL r (e.take n) = bitReg r f (8 * n) := by
  intro n
  induction n with
  | zero => intro _; rfl
  | succ n ih =>
    intro hn
    rw [List.take_succ_eq_append_getElem (show n < e.length by omega), regL_snoc, ih (by omega), Nat.mul_succ, bitReg_byte r f n e[n] (h n (by omega)) 8 (Nat.le_refl _), bitsR_eight]
theorem regL_bits_all (r : Reg) (f : Nat → Bool) (e : List UInt8) (h : HasBits e f) : regL r e = bitReg r f (8 * e.length) := by
  have := regL_bits r f e h e.length (Nat.le_refl _)
  rwa [List.take_length] at this
/-- Bits packed into a register. -/
def packB (f : Nat → Bool) : Nat → Reg
  | 0 => 0#32
  | m + 1 => packB f m ^^^ (if f m then BitVec.ofNat 32 (2 ^ m) else 0#32)
theorem packB_bit (f : Nat → Bool) (m t : Nat) (ht : t < 32) : (packB f m).getLsbD t = (decide (t < m) && f t) := by
  induction m with
  | zero => simp [packB]
  | succ m ih =>
    rw [packB, BitVec.getLsbD_xor, ih]
    have hif : (if f m then BitVec.ofNat 32 (2 ^ m) else 0#32).getLsbD t = (decide (t = m) && f m) := by
      cases f m
      · simp
      · rw [if_pos rfl, BitVec.getLsbD_ofNat, Nat.testBit_two_pow, decide_eq_true ht, Bool.true_and, Bool.and_true]
        exact decide_eq_decide.2 eq_comm
    rw [hif]
    rcases Nat.lt_trichotomy t m with h | rfl | h
    · rw [decide_eq_true h, decide_eq_true (show t < m + 1 by omega), decide_eq_false (show ¬ t = m by omega)]; simp
    · simp
    · rw [decide_eq_false (show ¬ t < m by omega), decide_eq_false (show ¬ t < m + 1 by omega), decide_eq_false (show ¬ t = m by omega)]; simp
set_option maxRecDepth 100000 in
theorem sh_low32 : ∀ k : Fin 32, shN k.val (BitVec.ofNat 32 (2 ^ k.val)) = 1#32 := by decide
theorem bitReg_pack (r : Reg) (f : Nat → Bool) (m : Nat) (hm : m ≤ 32) : bitReg r f m = shN m (r ^^^ packB f m) := by
  induction m with
  | zero => show r = r ^^^ 0#32; rw [BitVec.xor_zero]
  | succ m ih =>
    rw [bitReg, ih (by omega), feed, packB, ← BitVec.xor_assoc]
    show _ = sh (shN m _)
    rw [shN_xor m (_ ^^^ _)]
    congr 2
    cases f m
    · exact (shN_zero m).symm
    · exact (sh_low32 ⟨m, by omega⟩).symm
theorem bitReg_zeros (f : Nat → Bool) (m : Nat) (h : ∀ i, i < m → f i = false) : bitReg 0#32 f m = 0#32 := by
  induction m with
  | zero => rfl
  | succ m ih => rw [bitReg, ih (fun i hi => h i (by omega)), h m (by omega)]; rfl
theorem bitReg_add (r : Reg) (f : Nat → Bool) (a b : Nat) : bitReg r f (a + b) = bitReg (bitReg r f a) (fun i => f (a + i)) b := by
  induction b with
  | zero => rfl
  | succ b ih => rw [← Nat.add_assoc, bitReg, ih, bitReg]
theorem bitReg_tail (r : Reg) (f : Nat → Bool) (m : Nat) (h : ∀ i, f i = false) : bitReg r f m = shN m r := by
  induction m with
  | zero => rfl
  | succ m ih => rw [bitReg, ih, h, feed]; show sh (shN m r ^^^ 0#32) = _; rw [BitVec.xor_zero]; rfl
/-- A burst changes the register: some bits of 32 in a row, no others. -/
theorem burst_ne (f : Nat → Bool) (a n : Nat) (hlo : ∀ i, i < a → f i = false) (hhi : ∀ i, a + 32 ≤ i → f i = false) (i : Nat) (hi : i < n) (hf : f i = true) : bitReg 0#32 f n ≠ 0#32 := by
  have hai : a ≤ i := by
    rcases Nat.lt_or_ge i a with h | h
    · rw [hlo i h] at hf; cases hf
    · exact h
  have hi32 : i < a + 32 := by
    rcases Nat.lt_or_ge i (a + 32) with h | h
    · exact h
    · rw [hhi i h] at hf; cases hf
  -- the first part: nothing; then the window; then what is behind it
  have key : ∀ m, m ≤ 32 → i < a + m → bitReg 0#32 f (a + m) ≠ 0#32 := by
    intro m hm him h0
    rw [bitReg_add, bitReg_zeros f a hlo, bitReg_pack _ _ m hm, BitVec.zero_xor] at h0
    have hz := shN_eq_zero h0
    have hb := packB_bit (fun j => f (a + j)) m (i - a) (by omega)
    rw [hz, decide_eq_true (show i - a < m by omega), Bool.true_and, show a + (i - a) = i by omega, hf] at hb
    simp at hb
  rcases Nat.lt_or_ge (a + 32) n with h | h
  · have e : n = (a + 32) + (n - (a + 32)) := by omega
    rw [e, bitReg_add]
    intro h0
    rw [bitReg_tail _ _ _ (fun j => hhi _ (by omega))] at h0
    exact key 32 (Nat.le_refl _) hi32 (shN_eq_zero h0)
  · have e : n = a + (n - a) := by omega
    rw [e]
    exact key (n - a) (by omega) (by omega)

/-- Two rows of bytes, bit by bit apart. -/
def xorL (a b : List UInt8) : List UInt8 := List.zipWith (· ^^^ ·) a b
theorem byteR_xor (a b : UInt8) : byteR (a ^^^ b) = byteR a ^^^ byteR b := by
  unfold byteR
  apply BitVec.eq_of_toNat_eq
  rw [BitVec.toNat_xor, BitVec.toNat_ofNat, BitVec.toNat_ofNat, BitVec.toNat_ofNat, UInt8.toNat_xor]
  have ha := a.toNat_lt
  have hb := b.toNat_lt
  have hx : a.toNat ^^^ b.toNat < 2 ^ 8 := Nat.xor_lt_two_pow ha hb
  rw [Nat.mod_eq_of_lt (by omega), Nat.mod_eq_of_lt (by omega), Nat.mod_eq_of_lt (by omega)]
theorem regL_xor (a : List UInt8) : ∀ (b : List UInt8) (r s : Reg), a.length = b.length → regL (r ^^^ s) (xorL a b) = regL r a ^^^ regL s b := by
  induction a with
  | nil => intro b r s h; cases b with
    | nil => rfl
    | cons _ _ => simp at h
  | cons x a ih =>
    intro b r s h
    cases b with
    | nil => simp at h
    | cons y b =>
      have e1 (r : Reg) (c : UInt8) (l : List UInt8) : regL r (c :: l) = regL (byteStep r c) l := rfl
      show regL (r ^^^ s) ((x ^^^ y) :: xorL a b) = _
      rw [e1, e1, e1, ← ih b _ _ (by simpa using h)]
      congr 1
      unfold byteStep
      rw [← shN_xor, byteR_xor]
      congr 1
      rw [BitVec.xor_assoc, BitVec.xor_assoc]
      congr 1
      rw [← BitVec.xor_assoc, ← BitVec.xor_assoc, BitVec.xor_comm s]
/-- Bytes that are apart by a burst have other registers. -/
theorem burst_reg (s c : List UInt8) (f : Nat → Bool) (a : Nat) (hl : s.length = c.length) (hc : ∀ j (h : j < s.length) (h' : j < c.length), ∀ t, t < 8 → c[j].toNat.testBit t = (s[j].toNat.testBit t ^^ f (8 * j + t)))
    (hlo : ∀ i, i < a → f i = false) (hhi : ∀ i, a + 32 ≤ i → f i = false) (i : Nat) (hi : i < 8 * s.length) (hf : f i = true) (r : Reg) : regL r c ≠ regL r s := by
  intro he
  have hx : regL (r ^^^ r) (xorL s c) = regL r s ^^^ regL r c := regL_xor s c r r hl
  rw [he, BitVec.xor_self, BitVec.xor_self] at hx
  have hlen : (xorL s c).length = s.length := by unfold xorL; rw [List.length_zipWith, ← hl, Nat.min_self]
  have hb : HasBits (xorL s c) f := by
    intro j hj t ht
    have h1 : j < s.length := by omega
    have h2 : j < c.length := by omega
    have e : (xorL s c)[j] = s[j] ^^^ c[j] := by simp only [xorL, List.getElem_zipWith]
    rw [e, UInt8.toNat_xor, Nat.testBit_xor, hc j h1 h2 t ht]
    cases s[j].toNat.testBit t <;> cases f (8 * j + t) <;> rfl
  rw [regL_bits_all _ f _ hb, hlen] at hx
  exact burst_ne f a (8 * s.length) hlo hhi i hi hf hx
end Go.Proofs.YteaeiejkdnbcnaaDoor
