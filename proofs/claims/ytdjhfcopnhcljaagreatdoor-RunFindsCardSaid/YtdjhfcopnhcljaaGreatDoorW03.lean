/-
  Plain facts on checksums: registers, what a byte does to them, the sum of bytes, that it is linear; no program.
  The words of crc are those of pack.
  Contracts of crc.extended, crc.Sum and the document's step and Sum.
-/
import Derived.KernelRfl
import Derived.Test.YtdjhfcopnhcljaaGreatDoorW02
import Derived.WalkKit
import Derived.WalkSpells
import Derived.WalkLawsBesides
import Derived.Lib.Hide
import Derived.BigQuiet
import Derived.Deep.QuietTactic
import Derived.Maps.AppendAt
import Derived.Deep.AppendLies
import Derived.OwnWalk
import Derived.Laws.OwnMore
import Derived.Laws.IdiomStrings
import Derived.Laws.BytesArg
import Derived.Laws.BitsAllLaws
import Derived.Lib.LaidTab
import Derived.LoopTactic
import Derived.Outline
namespace Go.Proofs.YtdjhfcopnhcljaaGreatDoor
section

abbrev Reg := BitVec 32
/-- The checksum's polynomial. -/
def polyP : Reg := 0xEDB88320#32
/-- A register behind a bit 0. -/
def sh (r : Reg) : Reg := if r.getLsbD 0 then (r >>> 1) ^^^ polyP else r >>> 1
/-- A register behind n bits 0. -/
def shN : Nat → Reg → Reg
  | 0, r => r
  | n + 1, r => sh (shN n r)
theorem shN_succ' (n : Nat) (r : Reg) : shN (n + 1) r = shN n (sh r) := by
  induction n with
  | zero => rfl
  | succ n ih => rw [shN, ih]; rfl
theorem shN_add (m n : Nat) (r : Reg) : shN (m + n) r = shN m (shN n r) := by
  induction m with
  | zero => rw [Nat.zero_add]; rfl
  | succ m ih => rw [show m + 1 + n = (m + n) + 1 by omega, shN, ih]; rfl
theorem ushr1_xor (a b : Reg) : (a ^^^ b) >>> 1 = (a >>> 1) ^^^ (b >>> 1) := by
  apply BitVec.eq_of_getLsbD_eq
  intro i _
  simp
theorem sh_xor (a b : Reg) : sh (a ^^^ b) = sh a ^^^ sh b := by
  unfold sh
  rw [ushr1_xor, BitVec.getLsbD_xor]
  cases a.getLsbD 0 <;> cases b.getLsbD 0 <;> simp only [Bool.xor_true, Bool.xor_false, Bool.not_true, Bool.not_false, if_true, Bool.false_eq_true, if_false]
  · rw [BitVec.xor_assoc]
  · rw [BitVec.xor_assoc, BitVec.xor_assoc, BitVec.xor_comm polyP]
  · rw [BitVec.xor_assoc, BitVec.xor_comm polyP, BitVec.xor_assoc, BitVec.xor_self, BitVec.xor_zero]
theorem shN_xor (n : Nat) (a b : Reg) : shN n (a ^^^ b) = shN n a ^^^ shN n b := by
  induction n with
  | zero => rfl
  | succ n ih => rw [shN, ih, sh_xor]; rfl
theorem sh_zero : sh 0#32 = 0#32 := by decide
theorem shN_zero (n : Nat) : shN n 0#32 = 0#32 := by
  induction n with
  | zero => rfl
  | succ n ih => rw [shN, ih, sh_zero]
theorem sh_even (r : Reg) (h : r.getLsbD 0 = false) : sh r = r >>> 1 := by unfold sh; rw [h]; rfl
theorem sh_eq_zero {r : Reg} (h : sh r = 0#32) : r = 0#32 := by
  have h31 : (sh r).getLsbD 31 = r.getLsbD 0 := by
    unfold sh
    cases r.getLsbD 0
    · simp
    · rw [if_pos rfl, BitVec.getLsbD_xor]
      have e : polyP.getLsbD 31 = true := by decide
      rw [e]; simp
  have h0 : r.getLsbD 0 = false := by rw [← h31, h]; simp
  rw [sh_even r h0] at h
  apply BitVec.eq_of_getLsbD_eq
  intro i hi
  rcases Nat.eq_zero_or_pos i with rfl | hp
  · rw [h0]; simp
  · have : (r >>> 1).getLsbD (i - 1) = false := by rw [h]; simp
    rw [BitVec.getLsbD_ushiftRight, show 1 + (i - 1) = i by omega] at this
    rw [this]; simp
theorem shN_eq_zero {n : Nat} {r : Reg} (h : shN n r = 0#32) : r = 0#32 := by
  induction n with
  | zero => exact h
  | succ n ih => exact ih (sh_eq_zero h)
theorem shN_inj {n : Nat} {a b : Reg} (h : shN n a = shN n b) : a = b := by
  have h' : shN n (a ^^^ b) = 0#32 := by rw [shN_xor, h, BitVec.xor_self]
  exact BitVec.xor_eq_zero_iff.1 (shN_eq_zero h')

/-- A byte as a register. -/
def byteR (c : UInt8) : Reg := BitVec.ofNat 32 c.toNat
/-- A register behind a byte. -/
def byteStep (r : Reg) (c : UInt8) : Reg := shN 8 (r ^^^ byteR c)
/-- A register behind bytes. -/
def regL (r : Reg) (l : List UInt8) : Reg := l.foldl byteStep r
theorem regL_nil (r : Reg) : regL r [] = r := rfl
theorem regL_snoc (r : Reg) (l : List UInt8) (c : UInt8) : regL r (l ++ [c]) = byteStep (regL r l) c := by unfold regL; rw [List.foldl_append]; rfl
theorem regL_append (r : Reg) (l m : List UInt8) : regL r (l ++ m) = regL (regL r l) m := by unfold regL; rw [List.foldl_append]
/-- The checksum of bytes. -/
def sumL (l : List UInt8) : Reg := ~~~ (regL (BitVec.allOnes 32) l)
/-- The checksum of what has the checksum s, followed by bytes. -/
def extL (s : Reg) (l : List UInt8) : Reg := ~~~ (regL (~~~ s) l)
theorem extL_zero (l : List UInt8) : extL 0#32 l = sumL l := by unfold extL sumL; rw [BitVec.not_zero]
theorem extL_sum (l m : List UInt8) : extL (sumL l) m = sumL (l ++ m) := by unfold extL sumL; rw [BitVec.not_not, regL_append]

/-- The table of half a byte. -/
def nibL : List Nat := [0, 498536548, 997073096, 651767980, 1994146192, 1802195444, 1303535960, 1342533948, 3988292384, 4027552580, 3604390888, 3412177804, 2607071920, 2262029012, 2685067896, 3183342108]
def nibT (i : Nat) : Nat := nibL.getD i 0
theorem nibT_lt (i : Nat) (h : i < 16) : nibT i < 4294967296 := by
  have : ∀ i : Fin 16, nibT i.val < 4294967296 := by decide
  exact this ⟨i, h⟩
theorem sh4_lo : ∀ i : Fin 16, shN 4 (BitVec.ofNat 32 i.val) = BitVec.ofNat 32 (nibT i.val) := by decide
theorem sh4_hi (r : Reg) (h : ∀ i < 4, r.getLsbD i = false) : shN 4 r = r >>> 4 := by
  rw [shN_succ', shN_succ', shN_succ', shN_succ', sh_even r (h 0 (by omega))]
  rw [sh_even (r >>> 1) (by rw [BitVec.getLsbD_ushiftRight]; exact h 1 (by omega))]
  rw [sh_even (r >>> 1 >>> 1) (by rw [BitVec.getLsbD_ushiftRight, BitVec.getLsbD_ushiftRight]; exact h 2 (by omega))]
  rw [sh_even (r >>> 1 >>> 1 >>> 1) (by rw [BitVec.getLsbD_ushiftRight, BitVec.getLsbD_ushiftRight, BitVec.getLsbD_ushiftRight]; exact h 3 (by omega))]
  show r >>> 1 >>> 1 >>> 1 >>> 1 = _
  rw [← BitVec.shiftRight_add, ← BitVec.shiftRight_add, ← BitVec.shiftRight_add]
/-- What half a byte of zeros does, by the table. -/
def nib (r : Reg) : Reg := (r >>> 4) ^^^ BitVec.ofNat 32 (nibT (r.toNat % 16))
theorem nib_eq (r : Reg) : shN 4 r = nib r := by
  have e : r = (r &&& 0xFFFFFFF0#32) ^^^ BitVec.ofNat 32 (r.toNat % 16) := by
    apply BitVec.eq_of_getLsbD_eq
    intro i hi
    have e2 : BitVec.ofNat 32 (r.toNat % 16) = r &&& 15#32 := by
      apply BitVec.eq_of_toNat_eq
      rw [BitVec.toNat_and, BitVec.toNat_ofNat, show (15#32).toNat = 2 ^ 4 - 1 by decide, Nat.and_two_pow_sub_one_eq_mod]
      have := r.isLt
      omega
    rw [e2, BitVec.getLsbD_xor, BitVec.getLsbD_and, BitVec.getLsbD_and]
    have : ∀ i : Fin 32, (0xFFFFFFF0#32 : Reg).getLsbD i.val = !(15#32 : Reg).getLsbD i.val := by decide
    rw [this ⟨i, hi⟩]
    cases r.getLsbD i <;> cases (15#32 : Reg).getLsbD i <;> rfl
  have h1 : shN 4 (r &&& 0xFFFFFFF0#32) = r >>> 4 := by
    rw [sh4_hi]
    · apply BitVec.eq_of_getLsbD_eq
      intro i hi
      rw [BitVec.getLsbD_ushiftRight, BitVec.getLsbD_ushiftRight, BitVec.getLsbD_and]
      rcases Nat.lt_or_ge (4 + i) 32 with h | h
      · have : ∀ i : Fin 28, (0xFFFFFFF0#32 : Reg).getLsbD (4 + i.val) = true := by decide
        rw [this ⟨i, by omega⟩, Bool.and_true]
      · rw [BitVec.getLsbD_of_ge r _ h, Bool.false_and]
    · intro i hi
      rw [BitVec.getLsbD_and]
      have : ∀ i : Fin 4, (0xFFFFFFF0#32 : Reg).getLsbD i.val = false := by decide
      rw [this ⟨i, hi⟩, Bool.and_false]
  have h2 := sh4_lo ⟨r.toNat % 16, by omega⟩
  conv => lhs; rw [e, shN_xor, h1]
  rw [h2]; rfl
theorem nib_nib (r : Reg) (c : UInt8) : nib (nib (r ^^^ byteR c)) = byteStep r c := by
  rw [← nib_eq, ← nib_eq, ← shN_add]; rfl

/-- A register behind one bit. -/
def feed (r : Reg) (b : Bool) : Reg := sh (r ^^^ (if b then 1#32 else 0#32))
/-- A register behind the first k bits of a byte. -/
def bitsR (r : Reg) (c : UInt8) : Nat → Reg
  | 0 => r
  | k + 1 => feed (bitsR r c k) (c.toNat.testBit k)
theorem sh_low : ∀ k : Fin 8, shN k.val (BitVec.ofNat 32 (2 ^ k.val)) = 1#32 := by decide
theorem bitsR_eq (r : Reg) (c : UInt8) (k : Nat) (hk : k ≤ 8) : bitsR r c k = shN k (r ^^^ BitVec.ofNat 32 (c.toNat % 2 ^ k)) := by
  induction k with
  | zero => rw [Nat.pow_zero, Nat.mod_one]; show r = r ^^^ 0#32; rw [BitVec.xor_zero]
  | succ k ih =>
    have hb : BitVec.ofNat 32 (c.toNat % 2 ^ (k + 1)) = BitVec.ofNat 32 (c.toNat % 2 ^ k) ^^^ (if c.toNat.testBit k then BitVec.ofNat 32 (2 ^ k) else 0#32) := by
      apply BitVec.eq_of_getLsbD_eq
      intro i hi
      have hif : (if c.toNat.testBit k then BitVec.ofNat 32 (2 ^ k) else 0#32).getLsbD i = (decide (i = k) && c.toNat.testBit k) := by
        cases c.toNat.testBit k
        · simp
        · simp only [if_true, BitVec.getLsbD_ofNat, Nat.testBit_two_pow, Bool.and_true]
          rw [decide_eq_true hi, Bool.true_and]
          exact decide_eq_decide.2 eq_comm
      rw [BitVec.getLsbD_xor, hif, BitVec.getLsbD_ofNat, BitVec.getLsbD_ofNat, Nat.testBit_mod_two_pow, Nat.testBit_mod_two_pow, decide_eq_true hi, Bool.true_and, Bool.true_and]
      rcases Nat.lt_trichotomy i k with h | rfl | h
      · rw [decide_eq_true (show i < k + 1 by omega), decide_eq_true h, decide_eq_false (show ¬ i = k by omega)]; simp
      · simp
      · rw [decide_eq_false (show ¬ i < k + 1 by omega), decide_eq_false (show ¬ i < k by omega), decide_eq_false (show ¬ i = k by omega)]; simp
    rw [bitsR, ih (by omega), feed, hb, ← BitVec.xor_assoc]
    show _ = sh (shN k _)
    rw [shN_xor k (_ ^^^ _)]
    congr 2
    cases c.toNat.testBit k
    · exact (shN_zero k).symm
    · exact (sh_low ⟨k, by omega⟩).symm
theorem bitsR_eight (r : Reg) (c : UInt8) : bitsR r c 8 = byteStep r c := by
  rw [bitsR_eq r c 8 (Nat.le_refl _), Nat.mod_eq_of_lt (show c.toNat < 2 ^ 8 from c.toNat_lt)]; rfl
end
section
end
section
open Go Go.RowKit

/-- The table that crc reads holds what its initialiser laid. -/
structure Glob (w : World) : Prop where
  tab : Lib.TabIs Tryz.prog w "pedigree/crc.nibbles" .u32 (nibL.map Int.ofNat)
  big : 0 < w.heap.size
theorem gTab : Tryz.prog.globalNamed "pedigree/crc.nibbles" = some 0 := by kernel_rfl
theorem Glob.below {w w' : World} (h : Glob w) (hb : Below w.heap.size w w') : Glob w' :=
  ⟨var?_below hb gTab h.big h.tab, by have := hb.size; have := h.big; omega⟩
theorem Glob.cell {w : World} (h : Glob w) (i : Nat) (hi : i < 16) : w.cell? ⟨0, i, none⟩ = some (.int .u32 (nibT i : Nat)) := by
  rw [h.tab.cell gTab i (by rw [List.length_map]; exact hi)]
  have : ∀ i : Fin 16, (nibL.map Int.ofNat).getD i.val 0 = (nibT i.val : Int) := by decide
  rw [this ⟨i, hi⟩]

/-- A register as a number, as a value. -/
def rg (r : Reg) : Int := (r.toNat : Int)
abbrev regV (r : Reg) : Value := .int .u32 (rg r)
theorem rg_lo (r : Reg) : 0 ≤ rg r := by unfold rg; omega
theorem rg_hi (r : Reg) : rg r < 4294967296 := by unfold rg; have := r.isLt; omega
theorem xor_reg (a b : Reg) : bits .xor .u32 (rg a) (rg b) = rg (a ^^^ b) := by
  unfold rg
  rw [u32_xor_nat _ _ a.isLt b.isLt, BitVec.toNat_xor]
theorem not_reg (a : Reg) : bits .xor .u32 IntKind.u32.max (rg a) = rg (~~~ a) := by
  rw [show IntKind.u32.max = rg (BitVec.allOnes 32) from rfl, xor_reg, BitVec.allOnes_xor]
theorem and_reg (a b : Reg) : bits .and .u32 (rg a) (rg b) = rg (a &&& b) := by
  unfold rg
  rw [u32_and_nat _ _ a.isLt b.isLt, BitVec.toNat_and]
theorem byte_reg (c : UInt8) : rg (byteR c) = (c.toNat : Int) := by
  unfold rg byteR
  rw [BitVec.toNat_ofNat, Nat.mod_eq_of_lt (by have := c.toNat_lt; omega)]
theorem nib_reg (x : Reg) : ∃ i : Nat, bits .and .u32 (rg x) 15 = (i : Int) ∧ i < 16 ∧ bits .xor .u32 (rg x / 16) (nibT i : Nat) = rg (nib x) := by
  refine ⟨x.toNat % 16, ?_, by omega, show bits .xor .u32 (rg x / 16) (nibT (x.toNat % 16) : Nat) = rg (nib x) from ?_⟩
  · rw [show (15 : Int) = rg 15#32 from rfl, and_reg]
    unfold rg
    rw [BitVec.toNat_and, show (15#32 : Reg).toNat = 2 ^ 4 - 1 by decide, Nat.and_two_pow_sub_one_eq_mod]
  · have h1 : rg x / (16 : Int) = rg (x >>> 4) := by
      unfold rg
      rw [BitVec.toNat_ushiftRight, Nat.shiftRight_eq_div_pow]
      show (x.toNat : Int) / 16 = ((x.toNat / 16 : Nat) : Int)
      omega
    have h2 : ((nibT (x.toNat % 16) : Nat) : Int) = rg (BitVec.ofNat 32 (nibT (x.toNat % 16))) := by
      unfold rg
      rw [BitVec.toNat_ofNat, Nat.mod_eq_of_lt (nibT_lt _ (by omega))]
    rw [h1, h2, xor_reg]; rfl
set_option maxHeartbeats 1000000 in
set_option maxRecDepth 100000 in
theorem ext_any (s : Reg) (v : Value) (l : List UInt8) (w : World) (h : BytIn w.heap.size w v l) (hl : l.length ≤ 9223372036854775807) (G : Glob w) :
    Calls Tryz.prog 164 #[regV s, v] w fun e w' => e = .returned (regV (extL s l)) ∧ w = w' := by
  have HG := Lib.hid G
  clear G
  have hn := not_reg s
  obtain ⟨t, ht⟩ : ∃ t, t = ~~~ s := ⟨_, rfl⟩
  rw [← ht] at hn
  have HT := Lib.hid ht
  clear ht
  rcases h with ⟨rfl, rfl⟩ | ⟨a, cap, rfl, hc⟩
  · obtain ⟨z, hn2, HE⟩ : ∃ z, bits .xor .u32 IntKind.u32.max (rg t) = rg z ∧ Hid (z = extL s []) := ⟨~~~ t, not_reg t, Lib.hid (by rw [HT.out]; rfl)⟩
    go_enter Tryz.func164, Tryz.ntmps164
    go_wp2_with fail
    go_loop [5, 12] (fun v i => v = regV t ∧ i = .int .i64 0) (fun _ i => 0)
    case atStart => exact ⟨rfl, rfl⟩
    case round =>
      obtain ⟨rfl, rfl⟩ := hrel
      go_wp2_with fail
      go_ret
      exact ⟨ret_int (by rw [HE.out]), rfl⟩
  have HC := Lib.hid hc
  clear hc
  go_enter Tryz.func164, Tryz.ntmps164
  go_wp2_with fail
  clear hn
  go_loop [5, 12] (fun v i => ∃ k : Nat, k ≤ l.length ∧ i = .int .i64 k ∧ ∃ r : Reg, Hid (r = regL t (l.take k)) ∧ v = regV r) (fun _ i => l.length - (intOf i).toNat)
  case atStart => exact ⟨0, Nat.zero_le _, rfl, t, Lib.hid rfl, rfl⟩
  case round =>
    obtain ⟨k, hk, rfl, r, HR, rfl⟩ := hrel
    by_cases hlt : k < l.length
    · obtain ⟨c, HCk⟩ : ∃ c, Hid (c = l[k]) := ⟨_, Lib.hid rfl⟩
      have hcell : w.cell? (a.add k) = some (.int .u8 (c.toNat : Int)) := by rw [HCk.out]; exact (HC.out k hlt).2
      obtain ⟨x1, HX1⟩ : ∃ x1, Hid (x1 = r ^^^ byteR c) := ⟨_, Lib.hid rfl⟩
      have hx : bits .xor .u32 (rg r) ((c.toNat : Int) % 4294967296) = rg x1 := by rw [HX1.out, ← xor_reg, byte_reg]; congr 1; have := c.toNat_lt; omega
      obtain ⟨i1, hi1, hi1', hn1⟩ := nib_reg x1
      obtain ⟨x2, hx2⟩ : ∃ x2, x2 = nib x1 := ⟨_, rfl⟩
      rw [← hx2] at hn1
      have HX2 := Lib.hid hx2
      clear hx2
      have hc1 := HG.out.cell i1 hi1'
      obtain ⟨i2, hi2, hi2', hn2⟩ := nib_reg x2
      obtain ⟨x3, hx3⟩ : ∃ x3, x3 = nib x2 := ⟨_, rfl⟩
      rw [← hx3] at hn2
      have HX3 := Lib.hid hx3
      clear hx3
      have hc2 := HG.out.cell i2 hi2'
      have HN : Hid (x3 = regL t (l.take (k + 1))) := Lib.hid (by rw [List.take_succ_eq_append_getElem hlt, regL_snoc, ← HR.out, ← nib_nib, HX3.out, HX2.out, HX1.out, HCk.out])
      go_wp2_with fail
      go_round
      case rel => exact ⟨k + 1, by omega, by go_num, x3, HN, rfl⟩
      case measure => simp [intOf]; omega
    · have hk' : k = l.length := by omega
      obtain ⟨z, hn2, HE⟩ : ∃ z, bits .xor .u32 IntKind.u32.max (rg r) = rg z ∧ Hid (z = extL s l) := ⟨~~~ r, not_reg r, Lib.hid (by rw [HR.out, HT.out, hk', List.take_length]; rfl)⟩
      clear hk'
      go_wp2_with fail
      go_ret
      exact ⟨ret_int (by rw [HE.out]), rfl⟩

theorem ext_sum (v : Value) (l : List UInt8) (w : World) (h : BytIn w.heap.size w v l) (hl : l.length ≤ 9223372036854775807) (G : Glob w) :
    Calls Tryz.prog 164 #[.int .u32 0, v] w fun e w' => e = .returned (regV (sumL l)) ∧ w = w' := by
  rw [← extL_zero]
  exact ext_any 0#32 v l w h hl G
set_option maxHeartbeats 1000000 in
set_option maxRecDepth 100000 in
theorem sum_any (v : Value) (l : List UInt8) (w : World) (h : BytIn w.heap.size w v l) (hl : l.length ≤ 9223372036854775807) (G : Glob w) :
    Calls Tryz.prog 138 #[v] w fun e w' => e = .returned (regV (sumL l)) ∧ w = w' := by
  have H := Lib.hid (ext_sum v l w h hl G)
  clear h G
  go_enter Tryz.func138, Tryz.ntmps138
  go_wp2_with fail
  refine H.out.mono ?_
  rintro e w' ⟨rfl, rfl⟩
  go_wp2_with fail
  go_ret
  exact ⟨rfl, rfl⟩

theorem bit_reg (x : Reg) : ∃ b : Bool, bits .and .u32 (rg x) 1 = (if b then 1 else 0) ∧ b = x.getLsbD 0 := by
  refine ⟨x.getLsbD 0, ?_, rfl⟩
  rw [show (1 : Int) = rg 1#32 from rfl, and_reg]
  have h : x &&& 1#32 = if x.getLsbD 0 then 1#32 else 0#32 := by
    apply BitVec.eq_of_getLsbD_eq
    intro i hi
    rw [BitVec.getLsbD_and]
    rcases Nat.eq_zero_or_pos i with rfl | hp
    · cases x.getLsbD 0 <;> simp
    · have : (1#32 : Reg).getLsbD i = false := by simp; omega
      rw [this]
      cases x.getLsbD 0 <;> simp
      omega
  rw [h]
  cases x.getLsbD 0 <;> rfl
theorem shr_reg (x : Reg) : rg x / (2 : Int) = rg (x >>> 1) := by
  unfold rg
  rw [BitVec.toNat_ushiftRight, Nat.shiftRight_eq_div_pow]
  show (x.toNat : Int) / 2 = ((x.toNat / 2 : Nat) : Int)
  omega
theorem feed_bit (x : Reg) (b : Bool) : feed x b = if (x ^^^ (if b then 1#32 else 0#32)).getLsbD 0 then (x >>> 1) ^^^ polyP else x >>> 1 := by
  have h : (x ^^^ (if b then 1#32 else 0#32)) >>> 1 = x >>> 1 := by
    rw [ushr1_xor]
    cases b
    · exact BitVec.xor_zero
    · exact BitVec.xor_zero
  unfold feed sh
  rw [h]
set_option maxHeartbeats 1000000 in
set_option maxRecDepth 100000 in
theorem step_any (x : Reg) (b : Bool) (n : Int) (w : World) (hn : n = if b then 1 else 0) :
    Calls Tryz.prog 140 #[regV x, .int .u32 n] w fun e w' => e = .returned (regV (feed x b)) ∧ w = w' := by
  obtain ⟨y, hy⟩ : ∃ y, y = x ^^^ (if b then 1#32 else 0#32) := ⟨_, rfl⟩
  have hx : bits .xor .u32 (rg x) n = rg y := by
    have : n = rg (if b then 1#32 else 0#32) := by rw [hn]; cases b <;> rfl
    rw [this, xor_reg, hy]
  obtain ⟨c, hc, hcy⟩ := bit_reg y
  have HF : Hid (feed x b = if c then (x >>> 1) ^^^ polyP else x >>> 1) := Lib.hid (by rw [feed_bit, ← hy, ← hcy])
  clear hn hy hcy
  have hlo := rg_lo x
  have hhi := rg_hi x
  cases c
  · obtain ⟨z, hz, HZ⟩ : ∃ z, rg x / 2 = rg z ∧ Hid (z = feed x b) := ⟨x >>> 1, shr_reg x, Lib.hid (by rw [HF.out]; rfl)⟩
    replace hc : bits .and .u32 (rg y) 1 = 0 := hc
    go_enter Tryz.func140, Tryz.ntmps140
    go_wp2_with fail
    go_ret
    exact ⟨ret_int (by rw [HZ.out]), rfl⟩
  · obtain ⟨z, hz, HZ⟩ : ∃ z, bits .xor .u32 (rg x / 2) 3988292384 = rg z ∧ Hid (z = feed x b) := ⟨(x >>> 1) ^^^ polyP, by rw [shr_reg, show (3988292384 : Int) = rg polyP from rfl, xor_reg], Lib.hid (by rw [HF.out]; rfl)⟩
    replace hc : bits .and .u32 (rg y) 1 = 1 := hc
    go_enter Tryz.func140, Tryz.ntmps140
    go_wp2_with fail
    go_ret
    exact ⟨ret_int (by rw [HZ.out]), rfl⟩

/-- A bit of a byte, as the document's Sum takes it. -/
theorem byte_div (c : UInt8) (k : Nat) : (c.toNat : Int) / 2 ^ k = ((c.toNat / 2 ^ k : Nat) : Int) := by
  rw [Int.natCast_ediv, Int.natCast_pow]; rfl
theorem byte_bit (c : UInt8) (k : Nat) : bits .and .u32 ((c.toNat / 2 ^ k : Nat) : Int) 1 = if c.toNat.testBit k then 1 else 0 := by
  have hm : c.toNat / 2 ^ k < 4294967296 := by
    have := c.toNat_lt
    have := Nat.div_le_self c.toNat (2 ^ k)
    omega
  have e : ((c.toNat / 2 ^ k : Nat) : Int) = rg (BitVec.ofNat 32 (c.toNat / 2 ^ k)) := by
    unfold rg
    rw [BitVec.toNat_ofNat, Nat.mod_eq_of_lt hm]
  rw [e]
  obtain ⟨b, hb, he⟩ := bit_reg (BitVec.ofNat 32 (c.toNat / 2 ^ k))
  rw [hb, he, BitVec.getLsbD_ofNat, Nat.testBit_zero, Nat.testBit_eq_decide_div_mod_eq]
  simp
set_option maxHeartbeats 1000000 in
set_option maxRecDepth 100000 in
theorem rsum_any (v : Value) (l : List UInt8) (w : World) (h : BytIn w.heap.size w v l) (hl : l.length ≤ 9223372036854775807) :
    Calls Tryz.prog 100 #[v] w fun e w' => e = .returned (regV (sumL l)) ∧ w = w' := by
  have H := Lib.hid h
  obtain ⟨p, cap, rfl⟩ := h.shape
  clear h
  go_enter Tryz.func100, Tryz.ntmps100
  go_wp2_with fail
  go_loop [3, 4] (fun v i => ∃ k : Nat, k ≤ l.length ∧ i = .int .i64 k ∧ ∃ r : Reg, Hid (r = regL (BitVec.allOnes 32) (l.take k)) ∧ v = regV r) (fun _ i => l.length - (intOf i).toNat)
  case atStart => exact ⟨0, Nat.zero_le _, rfl, BitVec.allOnes 32, Lib.hid rfl, rfl⟩
  case round =>
    obtain ⟨k, hk, rfl, r, HR, rfl⟩ := hrel
    by_cases hlt : k < l.length
    · obtain ⟨c, HCk⟩ : ∃ c, Hid (c = l[k]) := ⟨_, Lib.hid rfl⟩
      obtain ⟨a, rfl, hcell⟩ : ∃ a, p = some a ∧ w.cell? (a.add k) = some (.int .u8 (c.toNat : Int)) := by
        rcases H.out with ⟨e, rfl⟩ | ⟨a, cap', e, hc⟩
        · simp at hlt
        · injection e with e1
          exact ⟨a, e1, by rw [HCk.out]; exact (hc k hlt).2⟩
      go_wp2_with fail
      go_loop [3, 5] (fun v j => ∃ m : Nat, m ≤ 8 ∧ j = .int .i64 m ∧ ∃ x : Reg, Hid (x = bitsR r c m) ∧ v = regV x) (fun _ j => 8 - (intOf j).toNat)
      case atStart => exact ⟨0, Nat.zero_le _, rfl, r, Lib.hid rfl, rfl⟩
      case round =>
        obtain ⟨m, hm, rfl, x, HX, rfl⟩ := hrel
        by_cases hlt8 : m < 8
        · have hbit : bits .and .u32 ((c.toNat : Int) / 2 ^ m % 4294967296) 1 = (if c.toNat.testBit m then 1 else 0) := by
            rw [byte_div, Int.emod_eq_of_lt (Int.natCast_nonneg _) (by have := c.toNat_lt; have := Nat.div_le_self c.toNat (2 ^ m); omega)]
            exact byte_bit c m
          have HB := Lib.hid hbit
          clear hbit
          go_wp2_with fail
          refine (step_any x (c.toNat.testBit m) _ _ HB.out).mono ?_
          rintro e w' ⟨rfl, rfl⟩
          have HN : Hid (feed x (c.toNat.testBit m) = bitsR r c (m + 1)) := Lib.hid (by rw [HX.out]; rfl)
          obtain ⟨z, hz⟩ : ∃ z, z = feed x (c.toNat.testBit m) := ⟨_, rfl⟩
          rw [← hz] at HN ⊢
          clear hz
          go_wp2_with fail
          go_round
          case rel => exact ⟨m + 1, by omega, by go_num, z, HN, rfl⟩
          case measure => simp [intOf]; omega
        · have HN : Hid (x = regL (BitVec.allOnes 32) (l.take (k + 1))) := Lib.hid (by
            rw [List.take_succ_eq_append_getElem hlt, regL_snoc, ← HR.out, ← HCk.out, ← bitsR_eight, HX.out, show m = 8 by omega])
          go_wp2_with fail
          go_round
          case rel => exact ⟨k + 1, by omega, by go_num, x, HN, rfl⟩
          case measure => simp [intOf]; omega
    · obtain ⟨z, hn2, HE⟩ : ∃ z, bits .xor .u32 IntKind.u32.max (rg r) = rg z ∧ Hid (z = sumL l) := ⟨~~~ r, not_reg r, Lib.hid (by rw [HR.out, List.take_of_length_le (by omega)]; rfl)⟩
      go_wp2_with fail
      go_ret
      exact ⟨ret_int (by rw [HE.out]), rfl⟩
end
end Go.Proofs.YtdjhfcopnhcljaaGreatDoor
