/-
  Contracts of crc.extended, crc.Sum and the document's step and Sum.
-/
import Derived.Test.YteaeiejkdnbcnaaDoorCrW
import Derived.Lib.LaidTab
import Derived.LoopTactic
import Derived.Outline
namespace Go.Proofs.YteaeiejkdnbcnaaDoor
open Go Go.RowKit

/-- The table that crc reads holds what its initialiser laid. -/
structure Glob (w : World) : Prop where
  tab : Lib.TabIs Tryd.prog w "pedigree/crc.nibbles" .u32 (nibL.map Int.ofNat)
  big : 0 < w.heap.size
theorem gTab : Tryd.prog.globalNamed "pedigree/crc.nibbles" = some 0 := by kernel_rfl
theorem Glob.below {w w' : World} (h : Glob w) (hb : Below w.heap.size w w') : Glob w' :=
  ⟨var?_below hb gTab h.big h.tab, by have := hb.size; have := h.big; omega⟩
theorem Glob.cell {w : World} (h : Glob w) (i : Nat) (hi : i < 16) : w.cell? ⟨0, i, none⟩ = some (.int .u32 (nibT i : Nat)) := by
  rw [h.tab.cell gTab i (by rw [List.length_map]; exact hi)]
  have : ∀ i : Fin 16, (nibL.map Int.ofNat).getD i.val 0 = (nibT i.val : Int) := by decide
  rw [this ⟨i, hi⟩]

/-- A register as a number, as a value. -/
def rg (r : Reg) : Int := (r.toNat : Int)
abbrev regV (r : Reg) : Value := .int .u32 (rg r)
theorem rg_lo (r : Reg) : 0 ≤ rg r := by unfold rg; omega
theorem rg_hi (r : Reg) : rg r < 4294967296 := by unfold rg; have := r.isLt; omega
theorem xor_reg (a b : Reg) : bits .xor .u32 (rg a) (rg b) = rg (a ^^^ b) := by
  unfold rg
  rw [u32_xor_nat _ _ a.isLt b.isLt, BitVec.toNat_xor]
theorem not_reg (a : Reg) : bits .xor .u32 IntKind.u32.max (rg a) = rg (~~~ a) := by
  rw [show IntKind.u32.max = rg (BitVec.allOnes 32) from rfl, xor_reg, BitVec.allOnes_xor]
theorem and_reg (a b : Reg) : bits .and .u32 (rg a) (rg b) = rg (a &&& b) := by
  unfold rg
  rw [u32_and_nat _ _ a.isLt b.isLt, BitVec.toNat_and]
theorem byte_reg (c : UInt8) : rg (byteR c) = (c.toNat : Int) := by
  unfold rg byteR
  rw [BitVec.toNat_ofNat, Nat.mod_eq_of_lt (by have := c.toNat_lt; omega)]
theorem nib_reg (x : Reg) : ∃ i : Nat, bits .and .u32 (rg x) 15 = (i : Int) ∧ i < 16 ∧ bits .xor .u32 (rg x / 16) (nibT i : Nat) = rg (nib x) := by
  refine ⟨x.toNat % 16, ?_, by omega, show bits .xor .u32 (rg x / 16) (nibT (x.toNat % 16) : Nat) = rg (nib x) from ?_⟩
  · rw [show (15 : Int) = rg 15#32 from rfl, and_reg]
    unfold rg
    rw [BitVec.toNat_and, show (15#32 : Reg).toNat = 2 ^ 4 - 1 by decide, Nat.and_two_pow_sub_one_eq_mod]
  · have h1 : rg x / (16 : Int) = rg (x >>> 4) := by
      unfold rg
      rw [BitVec.toNat_ushiftRight, Nat.shiftRight_eq_div_pow]
      show (x.toNat : Int) / 16 = ((x.toNat / 16 : Nat) : Int)
      omega
    have h2 : ((nibT (x.toNat % 16) : Nat) : Int) = rg (BitVec.ofNat 32 (nibT (x.toNat % 16))) := by
      unfold rg
      rw [BitVec.toNat_ofNat, Nat.mod_eq_of_lt (nibT_lt _ (by omega))]
    rw [h1, h2, xor_reg]; rfl
set_option maxHeartbeats 1000000 in
set_option maxRecDepth 100000 in
theorem ext_any (s : Reg) (v : Value) (l : List UInt8) (w : World) (h : BytIn w.heap.size w v l) (hl : l.length ≤ 9223372036854775807) (G : Glob w) :
    Calls Tryd.prog 36 #[regV s, v] w fun e w' => e = .returned (regV (extL s l)) ∧ w = w' := by
  have HG := Lib.hid G
  clear G
  have hn := not_reg s
  obtain ⟨t, ht⟩ : ∃ t, t = ~~~ s := ⟨_, rfl⟩
  rw [← ht] at hn
  have HT := Lib.hid ht
  clear ht
  rcases h with ⟨rfl, rfl⟩ | ⟨a, cap, rfl, hc⟩
  · obtain ⟨z, hn2, HE⟩ : ∃ z, bits .xor .u32 IntKind.u32.max (rg t) = rg z ∧ Hid (z = extL s []) := ⟨~~~ t, not_reg t, Lib.hid (by rw [HT.out]; rfl)⟩
    go_enter Tryd.func36, Tryd.ntmps36
    go_wp2_with fail
    go_loop [5, 12] (fun v i => v = regV t ∧ i = .int .i64 0) (fun _ i => 0)
    case atStart => exact ⟨rfl, rfl⟩
    case round =>
      obtain ⟨rfl, rfl⟩ := hrel
      go_wp2_with fail
      go_ret
      exact ⟨ret_int (by rw [HE.out]), rfl⟩
  have HC := Lib.hid hc
  clear hc
  go_enter Tryd.func36, Tryd.ntmps36
  go_wp2_with fail
  clear hn
  go_loop [5, 12] (fun v i => ∃ k : Nat, k ≤ l.length ∧ i = .int .i64 k ∧ ∃ r : Reg, Hid (r = regL t (l.take k)) ∧ v = regV r) (fun _ i => l.length - (intOf i).toNat)
  case atStart => exact ⟨0, Nat.zero_le _, rfl, t, Lib.hid rfl, rfl⟩
  case round =>
    obtain ⟨k, hk, rfl, r, HR, rfl⟩ := hrel
    by_cases hlt : k < l.length
    · obtain ⟨c, HCk⟩ : ∃ c, Hid (c = l[k]) := ⟨_, Lib.hid rfl⟩
      have hcell : w.cell? (a.add k) = some (.int .u8 (c.toNat : Int)) := by rw [HCk.out]; exact (HC.out k hlt).2
      obtain ⟨x1, HX1⟩ : ∃ x1, Hid (x1 = r ^^^ byteR c) := ⟨_, Lib.hid rfl⟩
      have hx : bits .xor .u32 (rg r) ((c.toNat : Int) % 4294967296) = rg x1 := by rw [HX1.out, ← xor_reg, byte_reg]; congr 1; have := c.toNat_lt; omega
      obtain ⟨i1, hi1, hi1', hn1⟩ := nib_reg x1
      obtain ⟨x2, hx2⟩ : ∃ x2, x2 = nib x1 := ⟨_, rfl⟩
      rw [← hx2] at hn1
      have HX2 := Lib.hid hx2
      clear hx2
      have hc1 := HG.out.cell i1 hi1'
      obtain ⟨i2, hi2, hi2', hn2⟩ := nib_reg x2
      obtain ⟨x3, hx3⟩ : ∃ x3, x3 = nib x2 := ⟨_, rfl⟩
      rw [← hx3] at hn2
      have HX3 := Lib.hid hx3
      clear hx3
      have hc2 := HG.out.cell i2 hi2'
      have HN : Hid (x3 = regL t (l.take (k + 1))) := Lib.hid (by rw [List.take_succ_eq_append_getElem hlt, regL_snoc, ← HR.out, ← nib_nib, HX3.out, HX2.out, HX1.out, HCk.out])
      go_wp2_with fail
      go_round
      case rel => exact ⟨k + 1, by omega, by go_num, x3, HN, rfl⟩
      case measure => simp [intOf]; omega
    · have hk' : k = l.length := by omega
      obtain ⟨z, hn2, HE⟩ : ∃ z, bits .xor .u32 IntKind.u32.max (rg r) = rg z ∧ Hid (z = extL s l) := ⟨~~~ r, not_reg r, Lib.hid (by rw [HR.out, HT.out, hk', List.take_length]; rfl)⟩
      clear hk'
      go_wp2_with fail
      go_ret
      exact ⟨ret_int (by rw [HE.out]), rfl⟩

theorem ext_sum (v : Value) (l : List UInt8) (w : World) (h : BytIn w.heap.size w v l) (hl : l.length ≤ 9223372036854775807) (G : Glob w) :
    Calls Tryd.prog 36 #[.int .u32 0, v] w fun e w' => e = .returned (regV (sumL l)) ∧ w = w' := by
  rw [← extL_zero]
  exact ext_any 0#32 v l w h hl G
set_option maxHeartbeats 1000000 in
set_option maxRecDepth 100000 in
theorem sum_any (v : Value) (l : List UInt8) (w : World) (h : BytIn w.heap.size w v l) (hl : l.length ≤ 9223372036854775807) (G : Glob w) :
    Calls Tryd.prog 13 #[v] w fun e w' => e = .returned (regV (sumL l)) ∧ w = w' := by
  have H := Lib.hid (ext_sum v l w h hl G)
  clear h G
  go_enter Tryd.func13, Tryd.ntmps13
  go_wp2_with fail
  refine H.out.mono ?_
  rintro e w' ⟨rfl, rfl⟩
  go_wp2_with fail
  go_ret
  exact ⟨rfl, rfl⟩

theorem bit_reg (x : Reg) : ∃ b : Bool, bits .and .u32 (rg x) 1 = (if b then 1 else 0) ∧ b = x.getLsbD 0 := by
  refine ⟨x.getLsbD 0, ?_, rfl⟩
  rw [show (1 : Int) = rg 1#32 from rfl, and_reg]
  have h : x &&& 1#32 = if x.getLsbD 0 then 1#32 else 0#32 := by
    apply BitVec.eq_of_getLsbD_eq
    intro i hi
    rw [BitVec.getLsbD_and]
    rcases Nat.eq_zero_or_pos i with rfl | hp
    · cases x.getLsbD 0 <;> simp
    · have : (1#32 : Reg).getLsbD i = false := by simp; omega
      rw [this]
      cases x.getLsbD 0 <;> simp
      omega
  rw [h]
  cases x.getLsbD 0 <;> rfl
theorem shr_reg (x : Reg) : rg x / (2 : Int) = rg (x >>> 1) := by
  unfold rg
  rw [BitVec.toNat_ushiftRight, Nat.shiftRight_eq_div_pow]
  show (x.toNat : Int) / 2 = ((x.toNat / 2 : Nat) : Int)
  omega
theorem feed_bit (x : Reg) (b : Bool) : feed x b = if (x ^^^ (if b then 1#32 else 0#32)).getLsbD 0 then (x >>> 1) ^^^ polyP else x >>> 1 := by
  have h : (x ^^^ (if b then 1#32 else 0#32)) >>> 1 = x >>> 1 := by
    rw [ushr1_xor]
    cases b
    · exact BitVec.xor_zero
    · exact BitVec.xor_zero
  unfold feed sh
  rw [h]
set_option maxHeartbeats 1000000 in
set_option maxRecDepth 100000 in
theorem step_any (x : Reg) (b : Bool) (n : Int) (w : World) (hn : n = if b then 1 else 0) :
    Calls Tryd.prog 37 #[regV x, .int .u32 n] w fun e w' => e = .returned (regV (feed x b)) ∧ w = w' := by
  obtain ⟨y, hy⟩ : ∃ y, y = x ^^^ (if b then 1#32 else 0#32) := ⟨_, rfl⟩
  have hx : bits .xor .u32 (rg x) n = rg y := by
    have : n = rg (if b then 1#32 else 0#32) := by rw [hn]; cases b <;> rfl
    rw [this, xor_reg, hy]
  obtain ⟨c, hc, hcy⟩ := bit_reg y
  have HF : Hid (feed x b = if c then (x >>> 1) ^^^ polyP else x >>> 1) := Lib.hid (by rw [feed_bit, ← hy, ← hcy])
  clear hn hy hcy
  have hlo := rg_lo x
  have hhi := rg_hi x
  cases c
  · obtain ⟨z, hz, HZ⟩ : ∃ z, rg x / 2 = rg z ∧ Hid (z = feed x b) := ⟨x >>> 1, shr_reg x, Lib.hid (by rw [HF.out]; rfl)⟩
    replace hc : bits .and .u32 (rg y) 1 = 0 := hc
    go_enter Tryd.func37, Tryd.ntmps37
    go_wp2_with fail
    go_ret
    exact ⟨ret_int (by rw [HZ.out]), rfl⟩
  · obtain ⟨z, hz, HZ⟩ : ∃ z, bits .xor .u32 (rg x / 2) 3988292384 = rg z ∧ Hid (z = feed x b) := ⟨(x >>> 1) ^^^ polyP, by rw [shr_reg, show (3988292384 : Int) = rg polyP from rfl, xor_reg], Lib.hid (by rw [HF.out]; rfl)⟩
    replace hc : bits .and .u32 (rg y) 1 = 1 := hc
    go_enter Tryd.func37, Tryd.ntmps37
    go_wp2_with fail
    go_ret
    exact ⟨ret_int (by rw [HZ.out]), rfl⟩

/-- A bit of a byte, as the document's Sum takes it. -/
theorem byte_div (c : UInt8) (k : Nat) : (c.toNat : Int) / 2 ^ k = ((c.toNat / 2 ^ k : Nat) : Int) := by
  rw [Int.natCast_ediv, Int.natCast_pow]; rfl
theorem byte_bit (c : UInt8) (k : Nat) : bits .and .u32 ((c.toNat / 2 ^ k : Nat) : Int) 1 = if c.toNat.testBit k then 1 else 0 := by
  have hm : c.toNat / 2 ^ k < 4294967296 := by
    have := c.toNat_lt
    have := Nat.div_le_self c.toNat (2 ^ k)
    omega
  have e : ((c.toNat / 2 ^ k : Nat) : Int) = rg (BitVec.ofNat 32 (c.toNat / 2 ^ k)) := by
    unfold rg
    rw [BitVec.toNat_ofNat, Nat.mod_eq_of_lt hm]
  rw [e]
  obtain ⟨b, hb, he⟩ := bit_reg (BitVec.ofNat 32 (c.toNat / 2 ^ k))
  rw [hb, he, BitVec.getLsbD_ofNat, Nat.testBit_zero, Nat.testBit_eq_decide_div_mod_eq]
  simp
set_option maxHeartbeats 1000000 in
set_option maxRecDepth 100000 in
theorem rsum_any (v : Value) (l : List UInt8) (w : World) (h : BytIn w.heap.size w v l) (hl : l.length ≤ 9223372036854775807) :
    Calls Tryd.prog 14 #[v] w fun e w' => e = .returned (regV (sumL l)) ∧ w = w' := by
  have H := Lib.hid h
  obtain ⟨p, cap, rfl⟩ := h.shape
  clear h
  go_enter Tryd.func14, Tryd.ntmps14
  go_wp2_with fail
  go_loop [3, 4] (fun v i => ∃ k : Nat, k ≤ l.length ∧ i = .int .i64 k ∧ ∃ r : Reg, Hid (r = regL (BitVec.allOnes 32) (l.take k)) ∧ v = regV r) (fun _ i => l.length - (intOf i).toNat)
  case atStart => exact ⟨0, Nat.zero_le _, rfl, BitVec.allOnes 32, Lib.hid rfl, rfl⟩
  case round =>
    obtain ⟨k, hk, rfl, r, HR, rfl⟩ := hrel
    by_cases hlt : k < l.length
    · obtain ⟨c, HCk⟩ : ∃ c, Hid (c = l[k]) := ⟨_, Lib.hid rfl⟩
      obtain ⟨a, rfl, hcell⟩ : ∃ a, p = some a ∧ w.cell? (a.add k) = some (.int .u8 (c.toNat : Int)) := by
        rcases H.out with ⟨e, rfl⟩ | ⟨a, cap', e, hc⟩
        · simp at hlt
        · injection e with e1
          exact ⟨a, e1, by rw [HCk.out]; exact (hc k hlt).2⟩
      go_wp2_with fail
      go_loop [3, 5] (fun v j => ∃ m : Nat, m ≤ 8 ∧ j = .int .i64 m ∧ ∃ x : Reg, Hid (x = bitsR r c m) ∧ v = regV x) (fun _ j => 8 - (intOf j).toNat)
      case atStart => exact ⟨0, Nat.zero_le _, rfl, r, Lib.hid rfl, rfl⟩
      case round =>
        obtain ⟨m, hm, rfl, x, HX, rfl⟩ := hrel
        by_cases hlt8 : m < 8
        · have hbit : bits .and .u32 ((c.toNat : Int) / 2 ^ m % 4294967296) 1 = (if c.toNat.testBit m then 1 else 0) := by
            rw [byte_div, Int.emod_eq_of_lt (Int.natCast_nonneg _) (by have := c.toNat_lt; have := Nat.div_le_self c.toNat (2 ^ m); omega)]
            exact byte_bit c m
          have HB := Lib.hid hbit
          clear hbit
          go_wp2_with fail
          refine (step_any x (c.toNat.testBit m) _ _ HB.out).mono ?_
          rintro e w' ⟨rfl, rfl⟩
          have HN : Hid (feed x (c.toNat.testBit m) = bitsR r c (m + 1)) := Lib.hid (by rw [HX.out]; rfl)
          obtain ⟨z, hz⟩ : ∃ z, z = feed x (c.toNat.testBit m) := ⟨_, rfl⟩
          rw [← hz] at HN ⊢
          clear hz
          go_wp2_with fail
          go_round
          case rel => exact ⟨m + 1, by omega, by go_num, z, HN, rfl⟩
          case measure => simp [intOf]; omega
        · have HN : Hid (x = regL (BitVec.allOnes 32) (l.take (k + 1))) := Lib.hid (by
            rw [List.take_succ_eq_append_getElem hlt, regL_snoc, ← HR.out, ← HCk.out, ← bitsR_eight, HX.out, show m = 8 by omega])
          go_wp2_with fail
          go_round
          case rel => exact ⟨k + 1, by omega, by go_num, x, HN, rfl⟩
          case measure => simp [intOf]; omega
    · obtain ⟨z, hn2, HE⟩ : ∃ z, bits .xor .u32 IntKind.u32.max (rg r) = rg z ∧ Hid (z = sumL l) := ⟨~~~ r, not_reg r, Lib.hid (by rw [HR.out, List.take_of_length_le (by omega)]; rfl)⟩
      go_wp2_with fail
      go_ret
      exact ⟨ret_int (by rw [HE.out]), rfl⟩
end Go.Proofs.YteaeiejkdnbcnaaDoor
