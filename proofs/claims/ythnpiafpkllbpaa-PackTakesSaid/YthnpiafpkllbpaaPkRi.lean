/-
  Contract of pack's reading of an int of a key.
-/
import Derived.Test.YthnpiafpkllbpaaPkN2
import Derived.Test.YthnpiafpkllbpaaPkKP
namespace Go.Proofs.Ythnpiafpkllbpaa
open Go Go.RowKit

theorem or_step (x : Nat) (c : UInt8) (hx : x * 256 < 18446744073709551616) : bits .or .u64 ((x : Int) * 256) (c.toNat : Int) = ((x * 256 + c.toNat : Nat) : Int) := by
  have hc := c.toNat_lt
  have e : (x : Int) * 256 = ((x * 256 : Nat) : Int) := by omega
  rw [e, u64_or_nat _ _ hx (by omega)]
  have h := Nat.two_pow_add_eq_or_of_lt (i := 8) (b := c.toNat) (by omega) x
  rw [Nat.mul_comm x 256, ← h]
theorem sign_off (x : Nat) (hx : x < 18446744073709551616) : wrap64 (bits .xor .u64 (x : Int) 9223372036854775808) = (x : Int) - 9223372036854775808 := by
  rw [show (9223372036854775808 : Int) = ((9223372036854775808 : Nat) : Int) from rfl, u64_xor_nat _ _ hx (by decide), xor_sign _ hx]
  unfold wrap64
  omega
/-- What intKey reads. -/
def intP (l : List UInt8) : Option (Int × List UInt8) := if 8 ≤ l.length then some ((beN (l.take 8) : Int) - 9223372036854775808, l.drop 8) else none
set_option maxHeartbeats 1000000 in
set_option maxRecDepth 100000 in
theorem rdInt_any (n₀ R : Nat) (l : List UInt8) (w : World) (h : RestAt n₀ w R l) : Calls Try.prog 58 #[.pointer (some ⟨R, 0, none⟩)] w (ReadEnd (fun n _ v => v = .int .i64 n) n₀ R (intP l) w) := by
  have H := Lib.hid h
  clear h
  by_cases hl : 8 ≤ l.length
  · have HP : Hid (intP l = some ((beN (l.take 8) : Int) - 9223372036854775808, l.drop 8)) := Lib.hid (by unfold intP; rw [if_pos hl])
    go_enter Try.func58, Try.ntmps58
    go_wp2_with fail
    refine (take_yes n₀ R l 8 w H.out hl (by decide)).mono ?_
    rintro e w1 ⟨p, cap, rfl, hb, hr, hk⟩
    have HR := Lib.hid hr
    have HK := Lib.hid hk
    have hlen : (l.take 8).length = 8 := by rw [List.length_take]; omega
    have HLn := Lib.hid hlen
    rcases hb with ⟨e, -⟩ | ⟨a, c', e, hc⟩
    · injection e with e1 e2; cases e2
    injection e with e1 e2 e3
    subst e1
    have HC := Lib.hid hc
    clear hr hk hc e2 e3 hlen
    go_wp2_with fail
    go_loopw [3, 5, 11] (fun x _ i wr => ∃ k : Nat, k ≤ 8 ∧ i = .int .i64 k ∧ x = .int .u64 (beN ((l.take 8).take k) : Nat) ∧ wr = w1) (fun _ _ i _ => 8 - (intOf i).toNat)
    case atStart => exact ⟨0, by decide, rfl, rfl, rfl⟩
    case round =>
      obtain ⟨k, hk, rfl, rfl, rfl⟩ := hrel
      by_cases hlt : k < 8
      · have hlt' : (k : Int) < 8 := by omega
        have hkl : k < (l.take 8).length := by rw [HLn.out]; exact hlt
        have hcell := (HC.out k hkl).2
        have HX : Hid (beN ((l.take 8).take k) * 256 < 18446744073709551616) := Lib.hid (by
          have h1 := beN_lt ((l.take 8).take k)
          have h2 : ((l.take 8).take k).length = k := by rw [List.length_take, HLn.out]; omega
          rw [h2] at h1
          have h3 : 256 ^ k ≤ 256 ^ 7 := Nat.pow_le_pow_right (by decide) (by omega)
          have h4 : (256 : Nat) ^ 7 = 72057594037927936 := by decide
          omega)
        have hkL : k < l.length := by omega
        have hstep := or_step (beN ((l.take 8).take k)) l[k] HX.out
        have hwc : IntKind.u64.wrap (l[k].toNat : Int) = (l[k].toNat : Int) := by rw [wrap_u64']; have := l[k].toNat_lt; omega
        have HS : Hid (beN ((l.take 8).take (k + 1)) = beN ((l.take 8).take k) * 256 + l[k].toNat) := Lib.hid (by rw [List.take_succ_eq_append_getElem hkl, beN_snoc, List.getElem_take])
        have HXI : Hid ((beN ((l.take 8).take k) : Int) * 256 < 18446744073709551616) := Lib.hid (by have := HX.out; omega)
        have hw : IntKind.u64.wrap ((beN ((l.take 8).take k) : Int) * 256) = (beN ((l.take 8).take k) : Int) * 256 := by rw [wrap_u64']; have := HXI.out; omega
        go_wp2_with fail
        go_roundw
        case rel => exact ⟨k + 1, by omega, by go_num, by rw [HS.out]; simp, trivial⟩
        case measure => simp [intOf]; omega
      · obtain rfl : k = 8 := by omega
        have hx := beN_lt ((l.take 8).take 8)
        have HS := Lib.hid (sign_off (beN ((l.take 8).take 8)) (by
          have h2 : ((l.take 8).take 8).length = 8 := by rw [List.length_take, HLn.out]; rfl
          rw [h2] at hx
          have h4 : (256 : Nat) ^ 8 = 18446744073709551616 := by decide
          omega))
        go_wp2_with fail
        go_ret
        refine ⟨HK.out, .inl ⟨_, _, _, HP.out, rfl, ?_, HR.out⟩⟩
        show Value.int .i64 (wrap64 (bits .xor .u64 (beN ((l.take 8).take 8) : Int) 9223372036854775808)) = Value.int .i64 ((beN (l.take 8) : Int) - 9223372036854775808)
        rw [HS.out, List.take_take]
        rfl
  · have HP : Hid (intP l = none) := Lib.hid (by unfold intP; rw [if_neg hl])
    go_enter Try.func58, Try.ntmps58
    go_wp2_with fail
    refine (take_no n₀ R l 8 w H.out (by omega)).mono ?_
    rintro e w1 ⟨rfl, rfl⟩
    go_wp2_with fail
    exact ⟨rfl, keep_refl _ _, .inr ⟨HP.out, rfl⟩⟩
end Go.Proofs.Ythnpiafpkllbpaa
