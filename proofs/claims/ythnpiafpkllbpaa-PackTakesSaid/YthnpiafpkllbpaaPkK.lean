/-
  Contracts of pack's intKey, symKey and encoded.
-/
import Derived.Test.YthnpiafpkllbpaaPkN
namespace Go.Proofs.Ythnpiafpkllbpaa
open Go Go.RowKit

theorem xor_sign (a : Nat) (h : a < 18446744073709551616) : a ^^^ 9223372036854775808 = (a + 9223372036854775808) % 18446744073709551616 := by
  have h1 := Nat.xor_mod_two_pow (a := a) (b := 9223372036854775808) (n := 63)
  have h2 : (a ^^^ 9223372036854775808) / 2 ^ 63 = (a / 2 ^ 63) ^^^ (9223372036854775808 / 2 ^ 63) := Nat.xor_div_two_pow
  have e1 : (9223372036854775808 : Nat) % 2 ^ 63 = 0 := by decide
  have e2 : (9223372036854775808 : Nat) / 2 ^ 63 = 1 := by decide
  rw [e1, Nat.xor_zero] at h1
  rw [e2] at h2
  have hq : a / 2 ^ 63 = 0 ∨ a / 2 ^ 63 = 1 := by omega
  rcases hq with hq | hq
  · rw [hq, show 0 ^^^ 1 = 1 from rfl] at h2
    omega
  · rw [hq, show 1 ^^^ 1 = 0 from rfl] at h2
    omega
theorem key_num {n : Int} (hx : -9223372036854775808 ≤ n ∧ n ≤ 9223372036854775807) : bits .xor .u64 (IntKind.u64.wrap n) 9223372036854775808 = (((n + 9223372036854775808).toNat : Nat) : Int) := by
  rw [wrap_u64']
  have e : n % 18446744073709551616 = (((n % 18446744073709551616).toNat : Nat) : Int) := by omega
  rw [e, show (9223372036854775808 : Int) = ((9223372036854775808 : Nat) : Int) from rfl, u64_xor_nat _ _ (by omega) (by decide), xor_sign _ (by omega)]
  omega
theorem key_byte {n : Int} (hx : -9223372036854775808 ≤ n ∧ n ≤ 9223372036854775807) (k : Nat) :
    (((UInt8.ofNat ((n + 9223372036854775808).toNat / 256 ^ k % 256)).toNat : Nat) : Int) = bits .xor .u64 (IntKind.u64.wrap n) 9223372036854775808 / 2 ^ (8 * k) % 256 := by
  rw [key_num hx, UInt8.toNat_ofNat', Nat.mod_eq_of_lt (Nat.mod_lt _ (by decide))]
  have e : (2 : Int) ^ (8 * k) = ((256 ^ k : Nat) : Int) := by rw [Int.pow_mul, Int.natCast_pow]; rfl
  rw [e, Int.natCast_emod, Int.natCast_ediv]
  rfl
theorem keyI_room {n : Int} {j : Nat} {l : List UInt8} {X : Nat} (h : keyI n = l ++ beL j X) : l.length + [(0 : UInt8)].length ≤ 100000000000000 := by
  have h1 : (keyI n).length = 9 := by rw [keyI, List.length_cons, beL_len]
  rw [h, List.length_append] at h1
  simp only [List.length_singleton]
  omega
theorem keyI_step {n : Int} {k : Nat} {l : List UInt8} {X : Nat} (h : keyI n = l ++ beL (k + 1) X) : keyI n = (l ++ [UInt8.ofNat (X / 256 ^ k % 256)]) ++ beL k X := by
  rw [h, List.append_assoc]
  rfl
theorem one_of (w : World) : OwnB w.heap.size (w.alloc (.cells #[.int .u8 1] 5)) (.slice (some ⟨w.heap.size, 0, none⟩) 1 1) [1] := OwnB.lit _ _ _ [1] 1 (Nat.le_refl _) rfl (by decide) rfl
theorem two_of (w : World) : OwnB w.heap.size (w.alloc (.cells #[.int .u8 2] 5)) (.slice (some ⟨w.heap.size, 0, none⟩) 1 1) [2] := OwnB.lit _ _ _ [2] 1 (Nat.le_refl _) rfl (by decide) rfl

set_option maxHeartbeats 1000000 in
set_option maxRecDepth 100000 in
theorem intKey_any (n : Int) (w : World) (hx : -9223372036854775808 ≤ n ∧ n ≤ 9223372036854775807) : Calls Try.prog 43 #[.int .i64 n] w (EndB (keyI n) w) := by
  have HX := Lib.hid hx
  clear hx
  go_enter Try.func43, Try.ntmps43
  go_wp2_with fail
  go_loopw [3, 4] (fun v i wr => ∃ j : Nat, j ≤ 8 ∧ i = .int .i64 (8 * (j : Int) - 8) ∧ ∃ l : List UInt8, Hid (keyI n = l ++ beL j (n + 9223372036854775808).toNat ∧ OwnB w.heap.size wr v l ∧ Below w.heap.size w wr)) (fun _ i _ => (intOf i + 8).toNat)
  case atStart => exact ⟨8, Nat.le_refl _, rfl, [1], Lib.hid ⟨rfl, one_of w, (Below.refl _ _).alloc (Nat.le_refl _) _⟩⟩
  case round =>
    obtain ⟨j, hj, rfl, l, H⟩ := hrel
    rcases j with _ | k
    · have e : 8 * ((0 : Nat) : Int) - 8 = -8 := rfl
      rw [e]
      clear e hj
      go_wp2_with fail
      go_ret
      have hl := H.out.1
      rw [show beL 0 (n + 9223372036854775808).toNat = [] from rfl, List.append_nil] at hl
      exact ⟨_, rfl, by rw [hl]; exact H.out.2.1, H.out.2.2⟩
    · have h0 : (0 : Int) ≤ (k : Int) := by omega
      have h7 : (k : Int) ≤ 7 := by omega
      have e : 8 * ((k + 1 : Nat) : Int) - 8 = 8 * (k : Int) := by omega
      rw [e]
      clear e
      have HC := Lib.hid (key_byte HX.out k)
      have HS := Lib.hid (keyI_step H.out.1)
      have HLn := Lib.hid (keyI_room H.out.1)
      go_wp2_with (at_builtin; refine wpList_app rfl (.tmp 10) (.tmp 17) rfl w.heap.size (wr.heap.size + 1) w _ _ l [UInt8.ofNat ((n + 9223372036854775808).toNat / 256 ^ k % 256)] rfl rfl (H.out.2.1.alloc _) (BytIn.lit wr _ _ 1 rfl (bytesV_single HC.out)) HLn.out (H.out.2.2.alloc H.out.2.2.size _) (Nat.le_refl _) ?_; intro v' w1 ho hb)
      go_roundw
      case rel => exact ⟨k, by omega, by go_num, _, Lib.hid ⟨HS.out, ho, hb⟩⟩
      case measure => simp [intOf]; omega

theorem keyS_step {l : List UInt8} {s : ByteArray} {k : Nat} (h : k < s.size) (hl : l = 2 :: (s.data.toList.take k).flatMap escB) : l ++ escB s[k] = 2 :: (s.data.toList.take (k + 1)).flatMap escB := by
  have e : s.data.toList.take (k + 1) = s.data.toList.take k ++ [s[k]] := by
    rw [List.take_succ_eq_append_getElem (by rw [← Lib.size_eq]; exact h)]; rfl
  rw [hl, e]
  simp
theorem esc_len (l : List UInt8) : (l.flatMap escB).length ≤ 2 * l.length := by
  induction l with
  | nil => simp
  | cons c l ih =>
    simp only [List.flatMap_cons, List.length_append, List.length_cons]
    have : (escB c).length ≤ 2 := by unfold escB; split <;> simp
    omega
theorem keyS_room {l : List UInt8} {s : ByteArray} {k : Nat} (hm : s.size ≤ 1000000) (hl : l = 2 :: (s.data.toList.take k).flatMap escB) : l.length ≤ 2000001 := by
  have h1 := esc_len (s.data.toList.take k)
  have h2 := List.length_take_le' k s.data.toList
  rw [← Lib.size_eq] at h2
  rw [hl, List.length_cons]
  omega
theorem escB_zero {c : UInt8} (h : ((c.toNat : Int) == 0) = true) : escB c = [c] ++ [255] ∧ c = 0 := by
  have h' : (c.toNat : Int) = 0 := by simpa using h
  have e : c = 0 := UInt8.toNat_inj.1 (by simpa using Int.ofNat.inj h')
  subst e
  exact ⟨rfl, rfl⟩
theorem escB_other {c : UInt8} (h : ((c.toNat : Int) == 0) = false) : escB c = [c] := by
  unfold escB
  rw [if_neg]
  rintro rfl
  simp at h

set_option maxHeartbeats 1000000 in
set_option maxRecDepth 100000 in
theorem symKey_any (s : ByteArray) (w : World) (hm : s.size ≤ 1000000) : Calls Try.prog 44 #[.string s] w (EndB (keyS s.data.toList) w) := by
  have HM := Lib.hid hm
  have hm' : (s.size : Int) ≤ 1000000 := by omega
  go_enter Try.func44, Try.ntmps44
  go_wp2_with fail
  go_loopw [3, 4, 8] (fun v _ i wr => ∃ k : Nat, k ≤ s.size ∧ i = .int .i64 k ∧ ∃ l : List UInt8, Hid (l = 2 :: (s.data.toList.take k).flatMap escB ∧ OwnB w.heap.size wr v l ∧ Below w.heap.size w wr)) (fun _ _ i _ => s.size - (intOf i).toNat)
  case atStart => exact ⟨0, Nat.zero_le _, rfl, [2], Lib.hid ⟨rfl, two_of w, (Below.refl _ _).alloc (Nat.le_refl _) _⟩⟩
  case round =>
    obtain ⟨k, hk, rfl, l, H⟩ := hrel
    have HR := Lib.hid (keyS_room HM.out H.out.1)
    have HR1 : Hid (l.length + [(0 : UInt8)].length ≤ 100000000000000) := Lib.hid (Nat.le_trans (Nat.add_le_add_right HR.out _) (by decide))
    by_cases hlt : k < s.size
    · have hlt' : (k : Int) < (s.size : Int) := by omega
      cases hc : ((s[k].toNat : Int) == 0) with
      | true =>
        have HE := Lib.hid (escB_zero hc)
        have HS := Lib.hid (keyS_step hlt H.out.1)
        go_wp2_with (first
          | (at_builtin; refine wpList_app rfl (.tmp 11) (.tmp 15) rfl w.heap.size (wr.heap.size + 1) w _ _ l [s[k]] rfl rfl (H.out.2.1.alloc _) (BytIn.lit wr _ _ 1 rfl (bytesV_single rfl)) HR1.out (H.out.2.2.alloc H.out.2.2.size _) (Nat.le_refl _) ?_; intro v1 w1 ho hb; have HO := Lib.hid ho; have HB := Lib.hid hb; clear ho hb)
          | (at_builtin; refine wpList_app rfl (.tmp 21) (.tmp 22) rfl w.heap.size (w1.heap.size + 1) w _ _ (l ++ [s[k]]) [255] rfl rfl (HO.out.alloc _) (BytIn.lit w1 _ _ 1 rfl (bytesV_single rfl)) (by have := HR.out; simp only [List.length_append, List.length_singleton]; omega) (HB.out.alloc HB.out.size _) (Nat.le_refl _) ?_; intro v2 w2 ho hb))
        go_roundw
        case rel => exact ⟨k + 1, by omega, by go_num, _, Lib.hid ⟨by rw [← HS.out, HE.out.1, List.append_assoc], ho, hb⟩⟩
        case measure => simp [intOf]; omega
      | false =>
        have HE := Lib.hid (escB_other hc)
        have HS := Lib.hid (keyS_step hlt H.out.1)
        go_wp2_with (at_builtin; refine wpList_app rfl (.tmp 11) (.tmp 15) rfl w.heap.size (wr.heap.size + 1) w _ _ l [s[k]] rfl rfl (H.out.2.1.alloc _) (BytIn.lit wr _ _ 1 rfl (bytesV_single rfl)) HR1.out (H.out.2.2.alloc H.out.2.2.size _) (Nat.le_refl _) ?_; intro v1 w1 ho hb)
        go_roundw
        case rel => exact ⟨k + 1, by omega, by go_num, _, Lib.hid ⟨by rw [← HS.out, HE.out], ho, hb⟩⟩
        case measure => simp [intOf]; omega
    · have hlt' : (s.size : Int) ≤ (k : Int) := by omega
      have HT : Hid (l ++ [0, 1] = keyS s.data.toList) := Lib.hid (by rw [H.out.1, List.take_of_length_le (by rw [← Lib.size_eq]; omega)]; rfl)
      go_wp2_with (at_builtin; refine wpList_app rfl (.tmp 25) (.tmp 26) rfl w.heap.size (wr.heap.size + 1) w _ _ l [0, 1] rfl rfl (H.out.2.1.alloc _) (BytIn.lit wr _ _ 2 rfl rfl) (Nat.le_trans (Nat.add_le_add_right HR.out _) (by decide)) (H.out.2.2.alloc H.out.2.2.size _) (Nat.le_refl _) ?_; intro v1 w1 ho hb)
      go_ret
      exact ⟨_, rfl, by rw [← HT.out]; exact ho, hb⟩
end Go.Proofs.Ythnpiafpkllbpaa
