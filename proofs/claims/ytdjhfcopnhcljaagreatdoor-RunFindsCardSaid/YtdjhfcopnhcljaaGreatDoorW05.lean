/-
  Contracts of pack.Num, pack.Int and pack.Text.
  Contracts of pack's intKey, symKey and encoded.
  Contracts of value.Check, value.Type and of the document's own Is and Type: a value may be just if 'IsV'.
-/
import Derived.Test.YtdjhfcopnhcljaaGreatDoorW02
import Derived.Laws.BitsAllLaws
namespace Go.Proofs.YtdjhfcopnhcljaaGreatDoor
section
open Go Go.RowKit

theorem or_128 : ∀ n : Fin 256, n.val ||| 128 = n.val % 128 + 128 := by decide +kernel
theorem or_byte (y : Nat) : (((UInt8.ofNat (y % 128 + 128)).toNat : Nat) : Int) = bits .or .u8 ((y : Int) % 256) 128 := by
  rw [UInt8.toNat_ofNat', Nat.mod_eq_of_lt (by omega)]
  have h := or_128 ⟨y % 256, by omega⟩
  have e := u8_or_nat (y % 256) 128 (by omega) (by decide)
  rw [h] at e
  rw [show (y : Int) % 256 = ((y % 256 : Nat) : Int) by omega, show (128 : Int) = ((128 : Nat) : Int) by rfl, e, show y % 256 % 128 = y % 128 by omega]
theorem small_byte (y : Nat) (h : y < 128) : (((UInt8.ofNat y).toNat : Nat) : Int) = (y : Int) := by
  rw [UInt8.toNat_ofNat', Nat.mod_eq_of_lt (by omega)]
theorem add_byte (y : Nat) : (((UInt8.ofNat (y % 128 + 128)).toNat : Nat) : Int) = (y : Int) % 128 + 128 := by
  rw [UInt8.toNat_ofNat', Nat.mod_eq_of_lt (by omega)]
  omega
theorem xor_max (a : Nat) (h : a < 18446744073709551616) : 18446744073709551615 ^^^ a = 18446744073709551615 - a := by
  have h1 : (BitVec.allOnes 64 ^^^ BitVec.ofNat 64 a).toNat = 18446744073709551615 ^^^ a := by
    rw [BitVec.toNat_xor, BitVec.toNat_allOnes, BitVec.toNat_ofNat, Nat.mod_eq_of_lt (by omega)]
  rw [← h1, BitVec.allOnes_xor, BitVec.toNat_not, BitVec.toNat_ofNat, Nat.mod_eq_of_lt (by omega)]
theorem wrap_u64' (n : Int) : IntKind.u64.wrap n = n % 18446744073709551616 := by simp [IntKind.wrap, IntKind.bits, IntKind.signed]
theorem zig_neg {x : Int} (hx : -9223372036854775808 ≤ x ∧ x ≤ 9223372036854775807) (h : x < 0) : bits .xor .u64 IntKind.u64.max (IntKind.u64.wrap (IntKind.u64.wrap x * 2)) = ((zigN x : Nat) : Int) := by
  rw [wrap_u64', wrap_u64', show IntKind.u64.max = ((18446744073709551615 : Nat) : Int) from rfl]
  have e : x % 18446744073709551616 * 2 % 18446744073709551616 = (((2 * x + 18446744073709551616).toNat : Nat) : Int) := by omega
  rw [e, u64_xor_nat _ _ (by decide) (by omega), xor_max _ (by omega)]
  unfold zigN
  rw [if_pos h]
  omega
theorem zig_pos {x : Int} (hx : -9223372036854775808 ≤ x ∧ x ≤ 9223372036854775807) (h : 0 ≤ x) : IntKind.u64.wrap (IntKind.u64.wrap x * 2) = ((zigN x : Nat) : Int) := by
  rw [wrap_u64', wrap_u64']
  unfold zigN
  rw [if_neg (by omega)]
  omega
theorem rzig_neg {x : Int} (hx : -9223372036854775808 ≤ x ∧ x ≤ 9223372036854775807) (h : x < 0) : IntKind.u64.wrap (IntKind.u64.wrap (IntKind.u64.wrap (wrap64 (-wrap64 (x + 1))) * 2) + 1) = ((zigN x : Nat) : Int) := by
  rw [show wrap64 (x + 1) = x + 1 from by unfold wrap64; omega, show wrap64 (-(x + 1)) = -(x + 1) from by unfold wrap64; omega, wrap_u64', wrap_u64', wrap_u64']
  unfold zigN
  rw [if_pos h]
  omega
theorem zigN_lt {x : Int} (hx : -9223372036854775808 ≤ x ∧ x ≤ 9223372036854775807) : zigN x < 18446744073709551616 := by unfold zigN; split <;> omega

theorem num_room {x y : Nat} {l : List UInt8} (hx : x < 18446744073709551616) (h : numL x = l ++ numL y) : l.length + [(0 : UInt8)].length ≤ 100000000000000 := by
  have h1 := numL_len10 hx
  rw [h, List.length_append] at h1
  simp only [List.length_singleton]
  omega
set_option maxHeartbeats 1000000 in
set_option maxRecDepth 100000 in
theorem num_any (x : Nat) (w : World) (hx : x < 18446744073709551616) : Calls Tryz.prog 92 #[.int .u64 x] w (EndB (numL x) w) := by
  have HX := Lib.hid hx
  clear hx
  go_enter Tryz.func92, Tryz.ntmps92
  go_wp2_with fail
  go_loopw [0, 3] (fun i v wr => ∃ y : Nat, i = .int .u64 y ∧ ∃ l : List UInt8, Hid (numL x = l ++ numL y ∧ y < 18446744073709551616 ∧ OwnB w.heap.size wr v l ∧ Below w.heap.size w wr)) (fun i _ _ => (intOf i).toNat)
  case atStart => exact ⟨x, rfl, [], Lib.hid ⟨rfl, HX.out, OwnB.nil _ _, Below.refl _ _⟩⟩
  case round =>
    obtain ⟨y, rfl, l, H⟩ := hrel
    have h0 : (0 : Int) ≤ (y : Int) := by omega
    have HLn : Hid (l.length + [(0 : UInt8)].length ≤ 100000000000000) := Lib.hid (num_room HX.out H.out.1)
    by_cases hlt : 128 ≤ y
    · have hlt' : (128 : Int) ≤ (y : Int) := by omega
      have HC := Lib.hid (or_byte y)
      have HN := Lib.hid (numL_ge hlt)
      go_wp2_with (at_builtin; refine wpList_app rfl (.tmp 8) (.tmp 12) rfl w.heap.size (wr.heap.size + 1) w _ _ l [UInt8.ofNat (y % 128 + 128)] rfl rfl (H.out.2.2.1.alloc _) (BytIn.lit wr _ _ 1 rfl (bytesV_single HC.out)) HLn.out (H.out.2.2.2.alloc H.out.2.2.2.size _) (Nat.le_refl _) ?_; intro v' w1 ho hb)
      go_roundw
      case rel => exact ⟨y / 128, by go_num, l ++ [UInt8.ofNat (y % 128 + 128)], Lib.hid ⟨by rw [H.out.1, HN.out, List.append_assoc]; rfl, by have := H.out.2.1; omega, ho, hb⟩⟩
      case measure => simp [intOf]; omega
    · have hlt' : (y : Int) < 128 := by omega
      have HC := Lib.hid (small_byte y (by omega))
      have HN := Lib.hid (numL_lt (x := y) (by omega))
      go_wp2_with (at_builtin; refine wpList_app rfl (.tmp 14) (.tmp 17) rfl w.heap.size (wr.heap.size + 1) w _ _ l [UInt8.ofNat y] rfl rfl (H.out.2.2.1.alloc _) (BytIn.lit wr _ _ 1 rfl (bytesV_single HC.out)) HLn.out (H.out.2.2.2.alloc H.out.2.2.2.size _) (Nat.le_refl _) ?_; intro v' w1 ho hb)
      go_ret
      exact ⟨v', rfl, by rw [H.out.1, HN.out]; exact ho, hb⟩

set_option maxHeartbeats 1000000 in
set_option maxRecDepth 100000 in
theorem rnum_any (x : Nat) (w : World) (hx : x < 18446744073709551616) : Calls Tryz.prog 36 #[.int .u64 x] w (EndB (numL x) w) := by
  have HX := Lib.hid hx
  clear hx
  go_enter Tryz.func36, Tryz.ntmps36
  go_wp2_with fail
  go_loopw [0, 3] (fun i v wr => ∃ y : Nat, i = .int .u64 y ∧ ∃ l : List UInt8, Hid (numL x = l ++ numL y ∧ y < 18446744073709551616 ∧ OwnB w.heap.size wr v l ∧ Below w.heap.size w wr)) (fun i _ _ => (intOf i).toNat)
  case atStart => exact ⟨x, rfl, [], Lib.hid ⟨rfl, HX.out, OwnB.nil _ _, Below.refl _ _⟩⟩
  case round =>
    obtain ⟨y, rfl, l, H⟩ := hrel
    have h0 : (0 : Int) ≤ (y : Int) := by omega
    have HLn : Hid (l.length + [(0 : UInt8)].length ≤ 100000000000000) := Lib.hid (num_room HX.out H.out.1)
    by_cases hlt : 128 ≤ y
    · have hlt' : (128 : Int) ≤ (y : Int) := by omega
      have HC := Lib.hid (add_byte y)
      have hw : IntKind.u64.wrap ((y : Int) / 128) = (y : Int) / 128 := by rw [wrap_u64']; have := H.out.2.1; omega
      have HN := Lib.hid (numL_ge hlt)
      go_wp2_with (at_builtin; refine wpList_app rfl (.tmp 6) (.tmp 11) rfl w.heap.size (wr.heap.size + 1) w _ _ l [UInt8.ofNat (y % 128 + 128)] rfl rfl (H.out.2.2.1.alloc _) (BytIn.lit wr _ _ 1 rfl (bytesV_single HC.out)) HLn.out (H.out.2.2.2.alloc H.out.2.2.2.size _) (Nat.le_refl _) ?_; intro v' w1 ho hb)
      go_roundw
      case rel => exact ⟨y / 128, by go_num, l ++ [UInt8.ofNat (y % 128 + 128)], Lib.hid ⟨by rw [H.out.1, HN.out, List.append_assoc]; rfl, by have := H.out.2.1; omega, ho, hb⟩⟩
      case measure => simp [intOf]; omega
    · have hlt' : (y : Int) < 128 := by omega
      have HC := Lib.hid (small_byte y (by omega))
      have HN := Lib.hid (numL_lt (x := y) (by omega))
      go_wp2_with (at_builtin; refine wpList_app rfl (.tmp 15) (.tmp 18) rfl w.heap.size (wr.heap.size + 1) w _ _ l [UInt8.ofNat y] rfl rfl (H.out.2.2.1.alloc _) (BytIn.lit wr _ _ 1 rfl (bytesV_single HC.out)) HLn.out (H.out.2.2.2.alloc H.out.2.2.2.size _) (Nat.le_refl _) ?_; intro v' w1 ho hb)
      go_ret
      exact ⟨v', rfl, by rw [H.out.1, HN.out]; exact ho, hb⟩

set_option maxHeartbeats 1000000 in
set_option maxRecDepth 100000 in
theorem int_any (x : Int) (w : World) (hx : -9223372036854775808 ≤ x ∧ x ≤ 9223372036854775807) : Calls Tryz.prog 142 #[.int .i64 x] w (EndB (intL x) w) := by
  have HX := Lib.hid hx
  clear hx
  by_cases hn : x < 0
  · have HZ := Lib.hid (zig_neg HX.out hn)
    go_enter Tryz.func142, Tryz.ntmps142
    go_wp2_with fail
    rw [HZ.out]
    refine (num_any _ _ (zigN_lt HX.out)).mono ?_
    rintro e w1 ⟨v, rfl, ho, hb⟩
    go_wp2_with fail
    go_ret
    exact ⟨v, rfl, ho, hb⟩
  · have hn' : 0 ≤ x := by omega
    have HZ := Lib.hid (zig_pos HX.out hn')
    go_enter Tryz.func142, Tryz.ntmps142
    go_wp2_with fail
    rw [HZ.out]
    refine (num_any _ _ (zigN_lt HX.out)).mono ?_
    rintro e w1 ⟨v, rfl, ho, hb⟩
    go_wp2_with fail
    go_ret
    exact ⟨v, rfl, ho, hb⟩

set_option maxHeartbeats 1000000 in
set_option maxRecDepth 100000 in
theorem rint_any (x : Int) (w : World) (hx : -9223372036854775808 ≤ x ∧ x ≤ 9223372036854775807) : Calls Tryz.prog 147 #[.int .i64 x] w (EndB (intL x) w) := by
  have HX := Lib.hid hx
  clear hx
  by_cases hn : x < 0
  · have HZ := Lib.hid (rzig_neg HX.out hn)
    go_enter Tryz.func147, Tryz.ntmps147
    go_wp2_with fail
    rw [HZ.out]
    refine (rnum_any _ _ (zigN_lt HX.out)).mono ?_
    rintro e w1 ⟨v, rfl, ho, hb⟩
    go_wp2_with fail
    go_ret
    exact ⟨v, rfl, ho, hb⟩
  · have hn' : 0 ≤ x := by omega
    have HZ := Lib.hid (zig_pos HX.out hn')
    go_enter Tryz.func147, Tryz.ntmps147
    go_wp2_with fail
    rw [HZ.out]
    refine (rnum_any _ _ (zigN_lt HX.out)).mono ?_
    rintro e w1 ⟨v, rfl, ho, hb⟩
    go_wp2_with fail
    go_ret
    exact ⟨v, rfl, ho, hb⟩

theorem textL_room {l : List UInt8} (h : l.length ≤ 1000000) : (numL l.length).length + l.length ≤ 100000000000000 := by
  have := numL_len10 (x := l.length) (by omega)
  omega

set_option maxHeartbeats 1000000 in
set_option maxRecDepth 100000 in
theorem text_any (v : Value) (l : List UInt8) (n₀ : Nat) (w : World) (h : BytIn n₀ w v l) (hn : n₀ ≤ w.heap.size) (hl : l.length ≤ 1000000) : Calls Tryz.prog 93 #[v] w (EndB (textL l) w) := by
  have HB := Lib.hid (h.mono hn)
  obtain ⟨p, cap, rfl⟩ := h.shape
  clear h
  have hl' : (l.length : Int) ≤ 1000000 := by omega
  have HL := Lib.hid (textL_room hl)
  go_enter Tryz.func93, Tryz.ntmps93
  go_wp2_with fail
  refine (num_any _ _ (by omega)).mono ?_
  rintro e w1 ⟨v1, rfl, ho, hb⟩
  have HO := Lib.hid ho
  have HB1 := Lib.hid hb
  clear ho hb
  go_wp2_with (at_builtin; refine wpList_app rfl (.tmp 6) (.tmp 7) rfl w.heap.size w.heap.size w _ _ (numL l.length) l rfl rfl HO.out (HB.out.below HB1.out) HL.out HB1.out (Nat.le_refl _) ?_; intro v' w2 ho hb)
  go_ret
  exact ⟨v', rfl, ho, hb⟩

set_option maxHeartbeats 1000000 in
set_option maxRecDepth 100000 in
theorem rtext_any (v : Value) (l : List UInt8) (n₀ : Nat) (w : World) (h : BytIn n₀ w v l) (hn : n₀ ≤ w.heap.size) (hl : l.length ≤ 1000000) : Calls Tryz.prog 39 #[v] w (EndB (textL l) w) := by
  have HB := Lib.hid (h.mono hn)
  obtain ⟨p, cap, rfl⟩ := h.shape
  clear h
  have hl' : (l.length : Int) ≤ 1000000 := by omega
  have HL := Lib.hid (textL_room hl)
  go_enter Tryz.func39, Tryz.ntmps39
  go_wp2_with fail
  refine (rnum_any _ _ (by omega)).mono ?_
  rintro e w1 ⟨v1, rfl, ho, hb⟩
  have HO := Lib.hid ho
  have HB1 := Lib.hid hb
  clear ho hb
  go_wp2_with (at_builtin; refine wpList_app rfl (.tmp 6) (.tmp 7) rfl w.heap.size w.heap.size w _ _ (numL l.length) l rfl rfl HO.out (HB.out.below HB1.out) HL.out HB1.out (Nat.le_refl _) ?_; intro v' w2 ho hb)
  go_ret
  exact ⟨v', rfl, ho, hb⟩
end
section
open Go Go.RowKit

theorem xor_sign (a : Nat) (h : a < 18446744073709551616) : a ^^^ 9223372036854775808 = (a + 9223372036854775808) % 18446744073709551616 := by
  have h1 := Nat.xor_mod_two_pow (a := a) (b := 9223372036854775808) (n := 63)
  have h2 : (a ^^^ 9223372036854775808) / 2 ^ 63 = (a / 2 ^ 63) ^^^ (9223372036854775808 / 2 ^ 63) := Nat.xor_div_two_pow
  have e1 : (9223372036854775808 : Nat) % 2 ^ 63 = 0 := by decide
  have e2 : (9223372036854775808 : Nat) / 2 ^ 63 = 1 := by decide
  rw [e1, Nat.xor_zero] at h1
  rw [e2] at h2
  have hq : a / 2 ^ 63 = 0 ∨ a / 2 ^ 63 = 1 := by omega
  rcases hq with hq | hq
  · rw [hq, show 0 ^^^ 1 = 1 from rfl] at h2
    omega
  · rw [hq, show 1 ^^^ 1 = 0 from rfl] at h2
    omega
theorem key_num {n : Int} (hx : -9223372036854775808 ≤ n ∧ n ≤ 9223372036854775807) : bits .xor .u64 (IntKind.u64.wrap n) 9223372036854775808 = (((n + 9223372036854775808).toNat : Nat) : Int) := by
  rw [wrap_u64']
  have e : n % 18446744073709551616 = (((n % 18446744073709551616).toNat : Nat) : Int) := by omega
  rw [e, show (9223372036854775808 : Int) = ((9223372036854775808 : Nat) : Int) from rfl, u64_xor_nat _ _ (by omega) (by decide), xor_sign _ (by omega)]
  omega
theorem key_byte {n : Int} (hx : -9223372036854775808 ≤ n ∧ n ≤ 9223372036854775807) (k : Nat) :
    (((UInt8.ofNat ((n + 9223372036854775808).toNat / 256 ^ k % 256)).toNat : Nat) : Int) = bits .xor .u64 (IntKind.u64.wrap n) 9223372036854775808 / 2 ^ (8 * k) % 256 := by
  rw [key_num hx, UInt8.toNat_ofNat', Nat.mod_eq_of_lt (Nat.mod_lt _ (by decide))]
  have e : (2 : Int) ^ (8 * k) = ((256 ^ k : Nat) : Int) := by rw [Int.pow_mul, Int.natCast_pow]; rfl
  rw [e, Int.natCast_emod, Int.natCast_ediv]
  rfl
theorem keyI_room {n : Int} {j : Nat} {l : List UInt8} {X : Nat} (h : keyI n = l ++ beL j X) : l.length + [(0 : UInt8)].length ≤ 100000000000000 := by
  have h1 : (keyI n).length = 9 := by rw [keyI, List.length_cons, beL_len]
  rw [h, List.length_append] at h1
  simp only [List.length_singleton]
  omega
theorem keyI_step {n : Int} {k : Nat} {l : List UInt8} {X : Nat} (h : keyI n = l ++ beL (k + 1) X) : keyI n = (l ++ [UInt8.ofNat (X / 256 ^ k % 256)]) ++ beL k X := by
  rw [h, List.append_assoc]
  rfl
theorem one_of (w : World) : OwnB w.heap.size (w.alloc (.cells #[.int .u8 1] 5)) (.slice (some ⟨w.heap.size, 0, none⟩) 1 1) [1] := OwnB.lit _ _ _ [1] 1 (Nat.le_refl _) rfl (by decide) rfl
theorem two_of (w : World) : OwnB w.heap.size (w.alloc (.cells #[.int .u8 2] 5)) (.slice (some ⟨w.heap.size, 0, none⟩) 1 1) [2] := OwnB.lit _ _ _ [2] 1 (Nat.le_refl _) rfl (by decide) rfl

set_option maxHeartbeats 1000000 in
set_option maxRecDepth 100000 in
theorem intKey_any (n : Int) (w : World) (hx : -9223372036854775808 ≤ n ∧ n ≤ 9223372036854775807) : Calls Tryz.prog 162 #[.int .i64 n] w (EndB (keyI n) w) := by
  have HX := Lib.hid hx
  clear hx
  go_enter Tryz.func162, Tryz.ntmps162
  go_wp2_with fail
  go_loopw [3, 4] (fun v i wr => ∃ j : Nat, j ≤ 8 ∧ i = .int .i64 (8 * (j : Int) - 8) ∧ ∃ l : List UInt8, Hid (keyI n = l ++ beL j (n + 9223372036854775808).toNat ∧ OwnB w.heap.size wr v l ∧ Below w.heap.size w wr)) (fun _ i _ => (intOf i + 8).toNat)
  case atStart => exact ⟨8, Nat.le_refl _, rfl, [1], Lib.hid ⟨rfl, one_of w, (Below.refl _ _).alloc (Nat.le_refl _) _⟩⟩
  case round =>
    obtain ⟨j, hj, rfl, l, H⟩ := hrel
    rcases j with _ | k
    · have e : 8 * ((0 : Nat) : Int) - 8 = -8 := rfl
      rw [e]
      clear e hj
      go_wp2_with fail
      go_ret
      have hl := H.out.1
      rw [show beL 0 (n + 9223372036854775808).toNat = [] from rfl, List.append_nil] at hl
      exact ⟨_, rfl, by rw [hl]; exact H.out.2.1, H.out.2.2⟩
    · have h0 : (0 : Int) ≤ (k : Int) := by omega
      have h7 : (k : Int) ≤ 7 := by omega
      have e : 8 * ((k + 1 : Nat) : Int) - 8 = 8 * (k : Int) := by omega
      rw [e]
      clear e
      have HC := Lib.hid (key_byte HX.out k)
      have HS := Lib.hid (keyI_step H.out.1)
      have HLn := Lib.hid (keyI_room H.out.1)
      go_wp2_with (at_builtin; refine wpList_app rfl (.tmp 10) (.tmp 17) rfl w.heap.size (wr.heap.size + 1) w _ _ l [UInt8.ofNat ((n + 9223372036854775808).toNat / 256 ^ k % 256)] rfl rfl (H.out.2.1.alloc _) (BytIn.lit wr _ _ 1 rfl (bytesV_single HC.out)) HLn.out (H.out.2.2.alloc H.out.2.2.size _) (Nat.le_refl _) ?_; intro v' w1 ho hb)
      go_roundw
      case rel => exact ⟨k, by omega, by go_num, _, Lib.hid ⟨HS.out, ho, hb⟩⟩
      case measure => simp [intOf]; omega

theorem keyS_step {l : List UInt8} {s : ByteArray} {k : Nat} (h : k < s.size) (hl : l = 2 :: (s.data.toList.take k).flatMap escB) : l ++ escB s[k] = 2 :: (s.data.toList.take (k + 1)).flatMap escB := by
  have e : s.data.toList.take (k + 1) = s.data.toList.take k ++ [s[k]] := by
    rw [List.take_succ_eq_append_getElem (by rw [← Lib.size_eq]; exact h)]; rfl
  rw [hl, e]
  simp
theorem esc_len (l : List UInt8) : (l.flatMap escB).length ≤ 2 * l.length := by
  induction l with
  | nil => simp
  | cons c l ih =>
    simp only [List.flatMap_cons, List.length_append, List.length_cons]
    have : (escB c).length ≤ 2 := by unfold escB; split <;> simp
    omega
theorem keyS_room {l : List UInt8} {s : ByteArray} {k : Nat} (hm : s.size ≤ 1000000) (hl : l = 2 :: (s.data.toList.take k).flatMap escB) : l.length ≤ 2000001 := by
  have h1 := esc_len (s.data.toList.take k)
  have h2 := List.length_take_le' k s.data.toList
  rw [← Lib.size_eq] at h2
  rw [hl, List.length_cons]
  omega
theorem escB_zero {c : UInt8} (h : ((c.toNat : Int) == 0) = true) : escB c = [c] ++ [255] ∧ c = 0 := by
  have h' : (c.toNat : Int) = 0 := by simpa using h
  have e : c = 0 := UInt8.toNat_inj.1 (by simpa using Int.ofNat.inj h')
  subst e
  exact ⟨rfl, rfl⟩
theorem escB_other {c : UInt8} (h : ((c.toNat : Int) == 0) = false) : escB c = [c] := by
  unfold escB
  rw [if_neg]
  rintro rfl
  simp at h

set_option maxHeartbeats 1000000 in
set_option maxRecDepth 100000 in
theorem symKey_any (s : ByteArray) (w : World) (hm : s.size ≤ 1000000) : Calls Tryz.prog 163 #[.string s] w (EndB (keyS s.data.toList) w) := by
  have HM := Lib.hid hm
  have hm' : (s.size : Int) ≤ 1000000 := by omega
  go_enter Tryz.func163, Tryz.ntmps163
  go_wp2_with fail
  go_loopw [3, 4, 8] (fun v _ i wr => ∃ k : Nat, k ≤ s.size ∧ i = .int .i64 k ∧ ∃ l : List UInt8, Hid (l = 2 :: (s.data.toList.take k).flatMap escB ∧ OwnB w.heap.size wr v l ∧ Below w.heap.size w wr)) (fun _ _ i _ => s.size - (intOf i).toNat)
  case atStart => exact ⟨0, Nat.zero_le _, rfl, [2], Lib.hid ⟨rfl, two_of w, (Below.refl _ _).alloc (Nat.le_refl _) _⟩⟩
  case round =>
    obtain ⟨k, hk, rfl, l, H⟩ := hrel
    have HR := Lib.hid (keyS_room HM.out H.out.1)
    have HR1 : Hid (l.length + [(0 : UInt8)].length ≤ 100000000000000) := Lib.hid (Nat.le_trans (Nat.add_le_add_right HR.out _) (by decide))
    by_cases hlt : k < s.size
    · have hlt' : (k : Int) < (s.size : Int) := by omega
      cases hc : ((s[k].toNat : Int) == 0) with
      | true =>
        have HE := Lib.hid (escB_zero hc)
        have HS := Lib.hid (keyS_step hlt H.out.1)
        go_wp2_with (first
          | (at_builtin; refine wpList_app rfl (.tmp 11) (.tmp 15) rfl w.heap.size (wr.heap.size + 1) w _ _ l [s[k]] rfl rfl (H.out.2.1.alloc _) (BytIn.lit wr _ _ 1 rfl (bytesV_single rfl)) HR1.out (H.out.2.2.alloc H.out.2.2.size _) (Nat.le_refl _) ?_; intro v1 w1 ho hb; have HO := Lib.hid ho; have HB := Lib.hid hb; clear ho hb)
          | (at_builtin; refine wpList_app rfl (.tmp 21) (.tmp 22) rfl w.heap.size (w1.heap.size + 1) w _ _ (l ++ [s[k]]) [255] rfl rfl (HO.out.alloc _) (BytIn.lit w1 _ _ 1 rfl (bytesV_single rfl)) (by have := HR.out; simp only [List.length_append, List.length_singleton]; omega) (HB.out.alloc HB.out.size _) (Nat.le_refl _) ?_; intro v2 w2 ho hb))
        go_roundw
        case rel => exact ⟨k + 1, by omega, by go_num, _, Lib.hid ⟨by rw [← HS.out, HE.out.1, List.append_assoc], ho, hb⟩⟩
        case measure => simp [intOf]; omega
      | false =>
        have HE := Lib.hid (escB_other hc)
        have HS := Lib.hid (keyS_step hlt H.out.1)
        go_wp2_with (at_builtin; refine wpList_app rfl (.tmp 11) (.tmp 15) rfl w.heap.size (wr.heap.size + 1) w _ _ l [s[k]] rfl rfl (H.out.2.1.alloc _) (BytIn.lit wr _ _ 1 rfl (bytesV_single rfl)) HR1.out (H.out.2.2.alloc H.out.2.2.size _) (Nat.le_refl _) ?_; intro v1 w1 ho hb)
        go_roundw
        case rel => exact ⟨k + 1, by omega, by go_num, _, Lib.hid ⟨by rw [← HS.out, HE.out], ho, hb⟩⟩
        case measure => simp [intOf]; omega
    · have hlt' : (s.size : Int) ≤ (k : Int) := by omega
      have HT : Hid (l ++ [0, 1] = keyS s.data.toList) := Lib.hid (by rw [H.out.1, List.take_of_length_le (by rw [← Lib.size_eq]; omega)]; rfl)
      go_wp2_with (at_builtin; refine wpList_app rfl (.tmp 25) (.tmp 26) rfl w.heap.size (wr.heap.size + 1) w _ _ l [0, 1] rfl rfl (H.out.2.1.alloc _) (BytIn.lit wr _ _ 2 rfl rfl) (Nat.le_trans (Nat.add_le_add_right HR.out _) (by decide)) (H.out.2.2.alloc H.out.2.2.size _) (Nat.le_refl _) ?_; intro v1 w1 ho hb)
      go_ret
      exact ⟨_, rfl, by rw [← HT.out]; exact ho, hb⟩
end
section
open Go Go.RowKit

/-- A value may be: an int with no bytes, or a symbol of at most 256 bytes with no number. -/
def IsV (k n : Int) (s : ByteArray) : Prop := k = 1 ∧ s.toList = [] ∨ k = 2 ∧ n = 0 ∧ s.size ≤ 256

theorem isV_int {k n : Int} {s : ByteArray} (h : (k == 1) = true) (g : s.toList.isEmpty = true) : IsV k n s := .inl ⟨by simpa using h, by simpa using g⟩
theorem isV_sym {k n : Int} {s : ByteArray} (h : (k == 2) = true) (e : n = 0) (g : (s.size : Int) ≤ 256) : IsV k n s := .inr ⟨by simpa using h, e, by omega⟩
theorem big_of {k n : Int} {s : ByteArray} (h : ¬ IsV k n s) (e : k = 2) (g : n = 0) : (256 : Int) < s.size := Int.not_le.1 fun hle => h (.inr ⟨e, g, by omega⟩)
theorem below_box (w : World) (o : Obj) : Below w.heap.size w (w.alloc o) := (Below.refl _ _).alloc (Nat.le_refl _) _
theorem below_then {w w1 : World} {o : Obj} (hb : Below (w.alloc o).heap.size (w.alloc o) w1) : Below w.heap.size w w1 := (below_box w o).trans (hb.mono (by simp))
theorem below_box2 (w : World) (o o' : Obj) : Below w.heap.size w ((w.alloc o).alloc o') := ((Below.refl _ _).alloc (Nat.le_refl _) _).alloc (by simp) _

set_option maxHeartbeats 400000 in
theorem check_yes (k n : Int) (s : ByteArray) (w : World) (h : IsV k n s) :
    Calls Tryz.prog 104 #[.agg #[.int .i64 k, .int .i64 n, .string s]] w fun e w' => e = .returned (.int .i64 0) ∧ Below w.heap.size w w' := by
  rcases h with ⟨rfl, h⟩ | ⟨rfl, rfl, h⟩
  · go_enter Tryz.func104, Tryz.ntmps104
    go_wp2
    go_ret
    exact ⟨rfl, below_box _ _⟩
  · go_enter Tryz.func104, Tryz.ntmps104
    go_wp2
    go_ret
    exact ⟨rfl, below_box _ _⟩
set_option maxHeartbeats 400000 in
theorem check_no (k n : Int) (s : ByteArray) (w : World) (h : ¬ IsV k n s) :
    Calls Tryz.prog 104 #[.agg #[.int .i64 k, .int .i64 n, .string s]] w fun e w' => e = .returned (.int .i64 10) ∧ Below w.heap.size w w' := by
  go_enter Tryz.func104, Tryz.ntmps104
  go_wp2
  all_goals first
    | exact absurd (isV_int (by assumption) (by assumption)) h
    | exact absurd (isV_sym (by assumption) (by assumption) (by assumption)) h
    | (go_ret; exact ⟨rfl, below_box _ _⟩)
set_option maxHeartbeats 400000 in
theorem is_yes (k n : Int) (s : ByteArray) (w : World) (h : IsV k n s) :
    Calls Tryz.prog 107 #[.agg #[.int .i64 k, .int .i64 n, .string s]] w fun e w' => e = .returned (.bool true) ∧ Below w.heap.size w w' := by
  rcases h with ⟨rfl, h⟩ | ⟨rfl, rfl, h⟩
  · go_enter Tryz.func107, Tryz.ntmps107
    go_wp2
    go_ret
    exact ⟨by simp, below_box _ _⟩
  · have h' : (s.size : Int) ≤ 256 := by omega
    go_enter Tryz.func107, Tryz.ntmps107
    go_wp2
    go_ret
    exact ⟨by simp, below_box _ _⟩
set_option maxHeartbeats 400000 in
theorem is_no (k n : Int) (s : ByteArray) (w : World) (h : ¬ IsV k n s) :
    Calls Tryz.prog 107 #[.agg #[.int .i64 k, .int .i64 n, .string s]] w fun e w' => e = .returned (.bool false) ∧ Below w.heap.size w w' := by
  go_enter Tryz.func107, Tryz.ntmps107
  go_wp2
  all_goals first
    | exact absurd (.inl ⟨by assumption, by assumption⟩) h
    | (have hb := big_of h (by assumption) (by assumption); go_ret; exact ⟨by simp [hb], below_box _ _⟩)
    | (go_ret; exact ⟨by simp [*], below_box _ _⟩)
    | (go_ret; exact ⟨by simp, below_box _ _⟩)

end
end Go.Proofs.YtdjhfcopnhcljaaGreatDoor
