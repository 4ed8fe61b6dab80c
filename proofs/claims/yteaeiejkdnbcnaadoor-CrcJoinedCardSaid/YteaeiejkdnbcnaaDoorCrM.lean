/-
  Contracts of crc.timesX, crc.times, crc.power and crc.Join.
-/
import Derived.Test.YteaeiejkdnbcnaaDoorCrH
import Derived.Test.YteaeiejkdnbcnaaDoorCrJ
import Derived.Deep.LoopGhost
namespace Go.Proofs.YteaeiejkdnbcnaaDoor
open Go Go.RowKit

set_option maxHeartbeats 1000000 in
set_option maxRecDepth 100000 in
theorem timesX_any (x : Reg) (w : World) :
    Calls Tryd.prog 45 #[regV x] w fun e w' => e = .returned (regV (sh x)) ∧ w = w' := by
  obtain ⟨c, hc, hcx⟩ := bit_reg x
  have HF : Hid (sh x = if c then (x >>> 1) ^^^ polyP else x >>> 1) := Lib.hid (by rw [hcx]; rfl)
  clear hcx
  have hlo := rg_lo x
  have hhi := rg_hi x
  cases c
  · obtain ⟨z, hz, HZ⟩ : ∃ z, rg x / (2 : Int) = rg z ∧ Hid (z = sh x) := ⟨x >>> 1, shr_reg x, Lib.hid (by rw [HF.out]; rfl)⟩
    replace hc : bits .and .u32 (rg x) 1 = 0 := hc
    go_enter Tryd.func45, Tryd.ntmps45
    go_wp2_with fail
    go_ret
    exact ⟨ret_int (by rw [HZ.out]), rfl⟩
  · obtain ⟨z, hz, HZ⟩ : ∃ z, bits .xor .u32 (rg x / (2 : Int)) 3988292384 = rg z ∧ Hid (z = sh x) := ⟨(x >>> 1) ^^^ polyP, by rw [shr_reg, show (3988292384 : Int) = rg polyP from rfl, xor_reg], Lib.hid (by rw [HF.out]; rfl)⟩
    replace hc : bits .and .u32 (rg x) 1 = 1 := hc
    go_enter Tryd.func45, Tryd.ntmps45
    go_wp2_with fail
    go_ret
    exact ⟨ret_int (by rw [HZ.out]), rfl⟩
theorem top_reg (y : Reg) : bits .and .u32 (rg y) 2147483648 = if y.getLsbD 31 then 2147483648 else 0 := by
  rw [show (2147483648 : Int) = rg oneR from rfl, and_reg]
  have h : y &&& oneR = if y.getLsbD 31 then oneR else 0#32 := by
    apply BitVec.eq_of_getLsbD_eq
    intro i hi
    rw [BitVec.getLsbD_and]
    have ho : ∀ i : Fin 32, oneR.getLsbD i.val = decide (i.val = 31) := by decide
    rw [ho ⟨i, hi⟩]
    by_cases h31 : i = 31
    · subst h31
      cases y.getLsbD 31
      · simp
      · rw [if_pos rfl, ho ⟨31, by decide⟩]; rfl
    · rw [decide_eq_false h31, Bool.and_false]
      cases y.getLsbD 31
      · simp
      · rw [if_pos rfl, ho ⟨i, hi⟩, decide_eq_false h31]
  rw [h]
  cases y.getLsbD 31 <;> rfl
theorem shl_reg (y : Reg) : rg y * (2 : Int) % (4294967296 : Int) = rg (y <<< 1) := by
  unfold rg
  rw [BitVec.toNat_shiftLeft, Nat.shiftLeft_eq]
  omega
theorem rg_zero {y : Reg} (h : rg y = 0) : y = 0#32 := by
  apply BitVec.eq_of_toNat_eq
  unfold rg at h
  simpa using h
set_option maxHeartbeats 1000000 in
set_option maxRecDepth 100000 in
theorem times_any (p q : Reg) (w : World) :
    Calls Tryd.prog 40 #[regV p, regV q] w fun e w' => e = .returned (regV (mulK 32 p q)) ∧ w = w' := by
  go_enter Tryd.func40, Tryd.ntmps40
  go_wp2_with fail
  go_loopg [0, 1, 5] 32 (fun g a b c wr => ∃ k : Nat, k + g = 32 ∧ ∃ y z r : Reg, Hid (y = p <<< k ∧ z = shN k q ∧ r = mulK k p q) ∧ a = regV y ∧ b = regV z ∧ c = regV r ∧ wr = w)
  case atStart => exact ⟨0, rfl, p, q, 0#32, Lib.hid ⟨by simp, rfl, rfl⟩, rfl, rfl, rfl, rfl⟩
  case round =>
    obtain ⟨k, hk, y, z, r, H, rfl, rfl, rfl, rfl⟩ := hrel
    have h2 := shl_reg y
    have hlo := rg_lo y
    have hhi := rg_hi y
    by_cases hy : rg y = 0
    · have HE : Hid (r = mulK 32 p q) := Lib.hid (by rw [H.out.2.2]; exact mulK_rest k p q (by omega) (by rw [← H.out.1]; exact rg_zero hy))
      go_wp2_with fail
      go_ret
      exact ⟨by rw [← HE.out]; rfl, rfl⟩
    · have hk32 : k < 32 := by
        rcases Nat.lt_or_ge k 32 with h | h
        · exact h
        · exfalso
          apply hy
          rw [H.out.1, show k = 32 by omega, BitVec.shiftLeft_eq_zero (by omega)]
          rfl
      obtain ⟨g', rfl⟩ : ∃ g', gk = g' + 1 := ⟨gk - 1, by omega⟩
      have hy1 : (rg y == 0) = false := by simpa using hy
      have hy2 : (rg y != 0) = true := by simpa using hy
      obtain ⟨T, hT, HT⟩ : ∃ T : Int, bits .and .u32 (rg y) 2147483648 = T ∧ Hid (T = if y.getLsbD 31 then 2147483648 else 0) := ⟨_, rfl, Lib.hid (top_reg y)⟩
      have htb := top_bit k p hk32
      rw [← H.out.1] at htb
      obtain ⟨z1, HZ1⟩ : ∃ z1, Hid (z1 = sh z) := ⟨_, Lib.hid rfl⟩
      have HC := Lib.hid (timesX_any z wr)
      rw [← HZ1.out] at HC
      obtain ⟨y1, HY1⟩ : ∃ y1, Hid (y1 = y <<< 1) := ⟨_, Lib.hid rfl⟩
      rw [← HY1.out] at h2
      have HY2 := Lib.hid (show y1 = p <<< (k + 1) by rw [HY1.out, H.out.1, ← BitVec.shiftLeft_add])
      have HZ2 := Lib.hid (show z1 = shN (k + 1) q by rw [HZ1.out, H.out.2.1]; rfl)
      cases hb : y.getLsbD 31
      · obtain ⟨rfl⟩ : T = 0 := by rw [HT.out, hb]; rfl
        have HR2 := Lib.hid (show r = mulK (k + 1) p q by rw [mulK, ← htb, hb, H.out.2.2]; exact BitVec.xor_zero.symm)
        clear hy hb htb
        go_wp2_with fail
        refine HC.out.mono ?_
        rintro e w' ⟨rfl, rfl⟩
        go_wp2_with fail
        go_roundg g'
        case rel => exact ⟨k + 1, by omega, y1, z1, r, Lib.hid ⟨HY2.out, HZ2.out, HR2.out⟩, by rw [h2], rfl, rfl, rfl⟩
        case measure => exact Nat.lt_succ_self _
      · have hT1 : (T == 0) = false := by rw [HT.out, hb]; rfl
        have hT2 : (T != 0) = true := by rw [HT.out, hb]; rfl
        obtain ⟨r1, hr1, HR1⟩ : ∃ r1, bits .xor .u32 (rg r) (rg z) = rg r1 ∧ Hid (r1 = mulK (k + 1) p q) := ⟨r ^^^ z, xor_reg r z, Lib.hid (by rw [mulK, ← htb, hb, H.out.2.2, H.out.2.1]; rfl)⟩
        clear hy hb htb
        go_wp2_with fail
        refine HC.out.mono ?_
        rintro e w' ⟨rfl, rfl⟩
        go_wp2_with fail
        go_roundg g'
        case rel => exact ⟨k + 1, by omega, y1, z1, r1, Lib.hid ⟨HY2.out, HZ2.out, HR1.out⟩, by rw [h2], rfl, rfl, rfl⟩
        case measure => exact Nat.lt_succ_self _
theorem odd_reg (n : Nat) (hn : n ≤ 9223372036854775807) : bits .and .i64 (n : Int) 1 = ((n % 2 : Nat) : Int) := by
  have h1 : (BitVec.ofInt 64 1).toNat = 2 ^ 1 - 1 := by decide
  have key : (BitVec.ofInt 64 (n : Int) &&& BitVec.ofInt 64 1).toNat = ((n : Int) % ((2 ^ 64 : Nat) : Int)).toNat % 2 ^ 1 := by
    rw [BitVec.toNat_and, BitVec.toNat_ofInt, h1, Nat.and_two_pow_sub_one_eq_mod]
  show IntKind.i64.wrap ((BitVec.ofInt 64 (n : Int) &&& BitVec.ofInt 64 1).toNat : Nat) = _
  rw [key, IntKind.wrap_i64]
  omega
set_option maxHeartbeats 1000000 in
set_option maxRecDepth 100000 in
theorem power_any (n : Nat) (w : World) (hn : n ≤ 9223372036854775807) :
    Calls Tryd.prog 41 #[.int .u32 8388608, .int .i64 (n : Nat)] w fun e w' => e = .returned (regV (shN (8 * n) oneR)) ∧ w = w' := by
  go_enter Tryd.func41, Tryd.ntmps41
  go_wp2_with fail
  go_loop [0, 1, 5] (fun a i c => ∃ m : Nat, m ≤ 9223372036854775807 ∧ i = .int .i64 m ∧ ∃ (p r : Reg) (x y : Nat), Hid (p = shN x oneR ∧ r = shN y oneR ∧ y + x * m = 8 * n) ∧ a = regV p ∧ c = regV r) (fun _ i _ => (intOf i).toNat)
  case atStart => exact ⟨n, hn, rfl, 0x800000#32, oneR, 8, 0, Lib.hid ⟨pow_eight.symm, rfl, by omega⟩, rfl, rfl⟩
  case round =>
    obtain ⟨m, hm, rfl, p, r, x, y, H, rfl, rfl⟩ := hrel
    rcases Nat.eq_zero_or_pos m with rfl | hpos
    · have HE := Lib.hid (show r = shN (8 * n) oneR by rw [H.out.2.1, show 8 * n = y by have := H.out.2.2; omega])
      go_wp2_with fail
      go_ret
      exact ⟨by rw [← HE.out]; rfl, rfl⟩
    · have hpos' : (0 : Int) < (m : Int) := by omega
      have ho := odd_reg m hm
      obtain ⟨p1, HP1⟩ : ∃ p1, Hid (p1 = mulK 32 p p) := ⟨_, Lib.hid rfl⟩
      have HC1 := Lib.hid (times_any p p w)
      rw [← HP1.out] at HC1
      have HQ1 := Lib.hid (show p1 = shN (x + x) oneR by rw [HP1.out, H.out.1, mul_pow, ← shN_add])
      rcases Nat.mod_two_eq_zero_or_one m with h2 | h2
      · rw [h2] at ho
        have HY := Lib.hid (show y + (x + x) * (m / 2) = 8 * n by
          have h := H.out.2.2
          have e : m = 2 * (m / 2) := by omega
          rw [e] at h
          rw [← h, ← Nat.mul_assoc, Nat.mul_two])
        have H2 := Lib.hid h2
        clear h2
        go_wp2_with fail
        refine HC1.out.mono ?_
        rintro e w' ⟨rfl, rfl⟩
        go_wp2_with fail
        go_round
        case rel => exact ⟨m / 2, by omega, by go_num, p1, r, x + x, y, Lib.hid ⟨HQ1.out, H.out.2.1, HY.out⟩, rfl, rfl⟩
        case measure => simp [intOf]; omega
      · rw [h2] at ho
        obtain ⟨r1, HR1⟩ : ∃ r1, Hid (r1 = mulK 32 r p) := ⟨_, Lib.hid rfl⟩
        have HC2 := Lib.hid (times_any r p w)
        rw [← HR1.out] at HC2
        have HQ2 := Lib.hid (show r1 = shN (y + x) oneR by rw [HR1.out, H.out.2.1, H.out.1, mul_pow, ← shN_add, Nat.add_comm])
        have HY := Lib.hid (show y + x + (x + x) * (m / 2) = 8 * n by
          have h := H.out.2.2
          have e : m = 2 * (m / 2) + 1 := by omega
          rw [e, Nat.mul_add, Nat.mul_one, ← Nat.mul_assoc, Nat.mul_two] at h
          omega)
        have H2 := Lib.hid h2
        clear h2
        go_wp2_with fail
        refine HC2.out.mono ?_
        rintro e w' ⟨rfl, rfl⟩
        go_wp2_with fail
        refine HC1.out.mono ?_
        rintro e w' ⟨rfl, rfl⟩
        go_wp2_with fail
        go_round
        case rel => exact ⟨m / 2, by omega, by go_num, p1, r1, x + x, y + x, Lib.hid ⟨HQ1.out, HQ2.out, HY.out⟩, rfl, rfl⟩
        case measure => simp [intOf]; omega
set_option maxHeartbeats 1000000 in
set_option maxRecDepth 100000 in
theorem join_any (x y : Reg) (n : Nat) (w : World) (hn : n ≤ 9223372036854775807) :
    Calls Tryd.prog 18 #[regV x, regV y, .int .i64 (n : Nat)] w fun e w' => e = .returned (.tuple #[regV (shN (8 * n) x ^^^ y), .int .i64 0]) ∧ w = w' := by
  have HP := Lib.hid (power_any n w hn)
  obtain ⟨q, HQ⟩ : ∃ q, Hid (q = shN (8 * n) oneR) := ⟨_, Lib.hid rfl⟩
  rw [← HQ.out] at HP
  have HT := Lib.hid (times_any x q w)
  obtain ⟨z, HZ⟩ : ∃ z, Hid (z = mulK 32 x q) := ⟨_, Lib.hid rfl⟩
  rw [← HZ.out] at HT
  obtain ⟨r, hr, HR⟩ : ∃ r, bits .xor .u32 (rg z) (rg y) = rg r ∧ Hid (r = shN (8 * n) x ^^^ y) := ⟨z ^^^ y, xor_reg z y, Lib.hid (by rw [HZ.out, HQ.out, mul_pow])⟩
  go_enter Tryd.func18, Tryd.ntmps18
  go_wp2_with fail
  refine HP.out.mono ?_
  rintro e w' ⟨rfl, rfl⟩
  go_wp2_with fail
  refine HT.out.mono ?_
  rintro e w' ⟨rfl, rfl⟩
  go_wp2_with fail
  go_ret2
  exact ⟨by rw [← HR.out]; rfl, rfl⟩
end Go.Proofs.YteaeiejkdnbcnaaDoor
