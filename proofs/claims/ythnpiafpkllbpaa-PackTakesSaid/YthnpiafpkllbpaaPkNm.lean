/-
  Contract of pack's reading of a number.
-/
import Derived.Test.YthnpiafpkllbpaaPkSy
import Derived.Test.YthnpiafpkllbpaaPkNP
namespace Go.Proofs.Ythnpiafpkllbpaa
open Go Go.RowKit

theorem andNot_group (c : UInt8) : bits .andNot .u8 (c.toNat : Int) 128 = ((c.toNat % 128 : Nat) : Int) := by
  have hc := c.toNat_lt
  rw [show (128 : Int) = ((128 : Nat) : Int) from rfl, u8_andNot_nat _ _ (by omega) (by decide)]
  have h := Nat.and_two_pow_sub_one_eq_mod c.toNat 7
  rw [show 255 - 128 = 2 ^ 7 - 1 from rfl, h]
theorem wrap_group (g j : Nat) : IntKind.u64.wrap ((g : Int) * 2 ^ (7 * j)) = ((g * 2 ^ (7 * j) % 18446744073709551616 : Nat) : Int) := by
  rw [wrap_u64', Int.natCast_emod, Int.natCast_mul, Int.natCast_pow]
  rfl
theorem div_group (Y j : Nat) : (Y : Int) / 2 ^ (7 * j) = ((Y / 2 ^ (7 * j) : Nat) : Int) := by
  rw [Int.natCast_ediv, Int.natCast_pow]
  rfl
theorem too_great {g j : Nat} (h : 18446744073709551616 ≤ g * 2 ^ (7 * j)) : g * 2 ^ (7 * j) % 18446744073709551616 / 2 ^ (7 * j) ≠ g := by
  intro e
  have h1 := Nat.div_mul_le_self (g * 2 ^ (7 * j) % 18446744073709551616) (2 ^ (7 * j))
  rw [e] at h1
  have h2 := Nat.mod_lt (g * 2 ^ (7 * j)) (show 18446744073709551616 > 0 by decide)
  omega
theorem ne_true {a b : Nat} (h : a ≠ b) : ((a : Int) != (b : Int)) = true := by
  rw [bne_iff_ne]; omega
theorem ne_false {a b : Nat} (h : a = b) : ((a : Int) != (b : Int)) = false := by subst h; simp
set_option maxHeartbeats 2000000 in
set_option maxRecDepth 100000 in
theorem rdNum_any (n₀ R : Nat) (l : List UInt8) (w : World) (h : RestAt n₀ w R l) : Calls Try.prog 27 #[.pointer (some ⟨R, 0, none⟩)] w (ReadEnd (fun x _ v => v = .int .u64 (x : Nat)) n₀ R (numP l 0 0) w) := by
  have H := Lib.hid h
  clear h
  go_enter Try.func27, Try.ntmps27
  go_wp2_with fail
  go_loopw [3, 4] (fun v i wr => ∃ j x : Nat, j ≤ 10 ∧ i = .int .i64 (7 * (j : Int)) ∧ v = .int .u64 (x : Nat) ∧ ∃ l', Hid (RestAt n₀ wr R l' ∧ KeepR R w wr ∧ x < 2 ^ (7 * j) ∧ numP l 0 0 = numP l' j x)) (fun _ i _ => 70 - (intOf i).toNat)
  case atStart => exact ⟨0, 0, by decide, rfl, rfl, l, Lib.hid ⟨H.out, keep_refl _ _, by decide, rfl⟩⟩
  case round =>
    obtain ⟨j, x, hj, rfl, rfl, l', HI⟩ := hrel
    have h0 : (0 : Int) ≤ (j : Int) := by omega
    by_cases hlt : j < 10
    · have hlt' : 7 * (j : Int) < 64 := by omega
      have hne : ¬ j = 10 := by omega
      go_wp2_with fail
      refine (one_any n₀ R l' wr HI.out.1).mono ?_
      rintro e w1 (⟨c, r, rfl, rfl, hr, hk⟩ | ⟨rfl, rfl, hk⟩)
      rotate_left
      · have HK := Lib.hid (HI.out.2.1.trans hk)
        clear hk
        go_wp2_with fail
        exact ⟨rfl, HK.out, .inr ⟨HI.out.2.2.2, rfl⟩⟩
      have HK := Lib.hid (HI.out.2.1.trans hk)
      have HR := Lib.hid hr
      have HS := Lib.hid (HI.out.2.2.2)
      have HX := Lib.hid HI.out.2.2.1
      clear hr hk HI H
      rw [numP, if_neg hne] at HS
      have hand := andNot_group c
      have hg7 : c.toNat % 128 < 128 := Nat.mod_lt _ (by decide)
      have HC := Lib.hid (show c.toNat < 128 → c.toNat % 128 = c.toNat from fun h => Nat.mod_eq_of_lt h)
      obtain ⟨g, hg⟩ : ∃ g, g = c.toNat % 128 := ⟨_, rfl⟩
      rw [← hg] at hand HS HC hg7
      clear hg
      have hw : IntKind.u64.wrap (g : Int) = (g : Int) := by rw [wrap_u64']; omega
      have hY := wrap_group g j
      by_cases ht : 18446744073709551616 ≤ g * 2 ^ (7 * j)
      · have hq := div_group (g * 2 ^ (7 * j) % 18446744073709551616) j
        have hn := ne_true (too_great ht)
        have HS' : Hid (numP l 0 0 = none) := Lib.hid (by rw [HS.out, if_pos (.inl ht)])
        obtain ⟨Y, hYY⟩ : ∃ Y, Y = g * 2 ^ (7 * j) % 18446744073709551616 := ⟨_, rfl⟩
        rw [← hYY] at hY hq hn
        obtain ⟨q, hqq⟩ : ∃ q, q = Y / 2 ^ (7 * j) := ⟨_, rfl⟩
        rw [← hqq] at hq hn
        clear hYY hqq ht HS
        go_wp2_with fail
        all_goals exact ⟨rfl, HK.out, .inr ⟨HS'.out, rfl⟩⟩
      · have hYY : g * 2 ^ (7 * j) % 18446744073709551616 = g * 2 ^ (7 * j) := Nat.mod_eq_of_lt (by omega)
        have hqq : g * 2 ^ (7 * j) / 2 ^ (7 * j) = g := Nat.mul_div_cancel _ (Nat.two_pow_pos _)
        have hq := div_group (g * 2 ^ (7 * j)) j
        have hor := or_group hlt HX.out (by omega : g * 2 ^ (7 * j) < 18446744073709551616)
        have hnn := group_next HX.out hg7
        rw [hYY] at hY
        rw [hqq] at hq
        clear hYY hqq
        obtain ⟨Y, hYY⟩ : ∃ Y, Y = g * 2 ^ (7 * j) := ⟨_, rfl⟩
        rw [← hYY] at hY hq hor ht HS hnn
        clear hYY
        have HNN := Lib.hid hnn
        clear hnn
        have hn := ne_false (rfl : g = g)
        by_cases hb : c = 0 ∧ 0 < j
        · have HS' : Hid (numP l 0 0 = none) := Lib.hid (by rw [HS.out, if_pos (.inr hb)])
          have hz : ((c.toNat : Int) == 0) = true := by rw [hb.1]; rfl
          have hj0 : 0 < 7 * (j : Int) := by omega
          clear hb HS
          go_wp2_with fail
          exact ⟨rfl, HK.out, .inr ⟨HS'.out, rfl⟩⟩
        · have cz : ((c.toNat : Int) == 0) = false ∨ ((c.toNat : Int) == 0) = true ∧ 7 * (j : Int) ≤ 0 := by
            cases hz : ((c.toNat : Int) == 0) with
            | false => exact .inl rfl
            | true =>
              have hc : c = 0 := byte_is hz rfl
              exact .inr ⟨rfl, by have : ¬ 0 < j := fun h => hb ⟨hc, h⟩; omega⟩
          have hor2 : ¬ (18446744073709551616 ≤ Y ∨ c = 0 ∧ 0 < j) := fun h => h.elim ht hb
          by_cases h7 : c.toNat < 128
          · have h7' : (c.toNat : Int) < 128 := by omega
            have HS' : Hid (numP l 0 0 = some (x + Y, r)) := Lib.hid (by rw [HS.out, if_neg hor2, if_pos h7])
            clear hb hor2 HS ht
            rcases cz with hz | ⟨hz, hj0⟩
            all_goals
              go_wp2_with fail
              go_ret
              exact ⟨HK.out, .inl ⟨_, _, _, HS'.out, rfl, congrArg (Value.int .u64) (by omega : (x : Int) + (Y : Int) = ((x + Y : Nat) : Int)), HR.out⟩⟩
          · have h7' : (128 : Int) ≤ (c.toNat : Int) := by omega
            have hz : ((c.toNat : Int) == 0) = false := by rw [beq_eq_false_iff_ne]; omega
            have HS' : Hid (numP l 0 0 = numP r (j + 1) (x + Y)) := Lib.hid (by rw [HS.out, if_neg hor2, if_neg h7])
            clear hb hor2 HS ht cz
            go_wp2_with fail
            go_roundw
            case rel => exact ⟨j + 1, x + Y, by omega, by go_num, by go_num, r, Lib.hid ⟨HR.out, HK.out, HNN.out, HS'.out⟩⟩
            case measure => simp [intOf]; omega
    · obtain rfl : j = 10 := by omega
      have HS' : Hid (numP l 0 0 = none) := Lib.hid (by rw [HI.out.2.2.2]; cases l' <;> rfl)
      go_wp2_with fail
      exact ⟨rfl, HI.out.2.1, .inr ⟨HS'.out, rfl⟩⟩
end Go.Proofs.Ythnpiafpkllbpaa
