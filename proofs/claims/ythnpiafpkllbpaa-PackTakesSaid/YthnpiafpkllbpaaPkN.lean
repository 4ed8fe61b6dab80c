/-
  Contracts of pack.Num, pack.Int and pack.Text.
-/
import Derived.Test.YthnpiafpkllbpaaPkW
import Derived.Laws.BitsAllLaws
namespace Go.Proofs.Ythnpiafpkllbpaa
open Go Go.RowKit

theorem or_128 : ∀ n : Fin 256, n.val ||| 128 = n.val % 128 + 128 := by decide +kernel
theorem or_byte (y : Nat) : (((UInt8.ofNat (y % 128 + 128)).toNat : Nat) : Int) = bits .or .u8 ((y : Int) % 256) 128 := by
  rw [UInt8.toNat_ofNat', Nat.mod_eq_of_lt (by omega)]
  have h := or_128 ⟨y % 256, by omega⟩
  have e := u8_or_nat (y % 256) 128 (by omega) (by decide)
  rw [h] at e
  rw [show (y : Int) % 256 = ((y % 256 : Nat) : Int) by omega, show (128 : Int) = ((128 : Nat) : Int) by rfl, e, show y % 256 % 128 = y % 128 by omega]
theorem small_byte (y : Nat) (h : y < 128) : (((UInt8.ofNat y).toNat : Nat) : Int) = (y : Int) := by
  rw [UInt8.toNat_ofNat', Nat.mod_eq_of_lt (by omega)]
theorem add_byte (y : Nat) : (((UInt8.ofNat (y % 128 + 128)).toNat : Nat) : Int) = (y : Int) % 128 + 128 := by
  rw [UInt8.toNat_ofNat', Nat.mod_eq_of_lt (by omega)]
  omega
theorem xor_max (a : Nat) (h : a < 18446744073709551616) : 18446744073709551615 ^^^ a = 18446744073709551615 - a := by
  have h1 : (BitVec.allOnes 64 ^^^ BitVec.ofNat 64 a).toNat = 18446744073709551615 ^^^ a := by
    rw [BitVec.toNat_xor, BitVec.toNat_allOnes, BitVec.toNat_ofNat, Nat.mod_eq_of_lt (by omega)]
  rw [← h1, BitVec.allOnes_xor, BitVec.toNat_not, BitVec.toNat_ofNat, Nat.mod_eq_of_lt (by omega)]
theorem wrap_u64' (n : Int) : IntKind.u64.wrap n = n % 18446744073709551616 := by simp [IntKind.wrap, IntKind.bits, IntKind.signed]
theorem zig_neg {x : Int} (hx : -9223372036854775808 ≤ x ∧ x ≤ 9223372036854775807) (h : x < 0) : bits .xor .u64 IntKind.u64.max (IntKind.u64.wrap (IntKind.u64.wrap x * 2)) = ((zigN x : Nat) : Int) := by
  rw [wrap_u64', wrap_u64', show IntKind.u64.max = ((18446744073709551615 : Nat) : Int) from rfl]
  have e : x % 18446744073709551616 * 2 % 18446744073709551616 = (((2 * x + 18446744073709551616).toNat : Nat) : Int) := by omega
  rw [e, u64_xor_nat _ _ (by decide) (by omega), xor_max _ (by omega)]
  unfold zigN
  rw [if_pos h]
  omega
theorem zig_pos {x : Int} (hx : -9223372036854775808 ≤ x ∧ x ≤ 9223372036854775807) (h : 0 ≤ x) : IntKind.u64.wrap (IntKind.u64.wrap x * 2) = ((zigN x : Nat) : Int) := by
  rw [wrap_u64', wrap_u64']
  unfold zigN
  rw [if_neg (by omega)]
  omega
theorem rzig_neg {x : Int} (hx : -9223372036854775808 ≤ x ∧ x ≤ 9223372036854775807) (h : x < 0) : IntKind.u64.wrap (IntKind.u64.wrap (IntKind.u64.wrap (wrap64 (-wrap64 (x + 1))) * 2) + 1) = ((zigN x : Nat) : Int) := by
  rw [show wrap64 (x + 1) = x + 1 from by unfold wrap64; omega, show wrap64 (-(x + 1)) = -(x + 1) from by unfold wrap64; omega, wrap_u64', wrap_u64', wrap_u64']
  unfold zigN
  rw [if_pos h]
  omega
theorem zigN_lt {x : Int} (hx : -9223372036854775808 ≤ x ∧ x ≤ 9223372036854775807) : zigN x < 18446744073709551616 := by unfold zigN; split <;> omega

theorem num_room {x y : Nat} {l : List UInt8} (hx : x < 18446744073709551616) (h : numL x = l ++ numL y) : l.length + [(0 : UInt8)].length ≤ 100000000000000 := by
  have h1 := numL_len10 hx
  rw [h, List.length_append] at h1
  simp only [List.length_singleton]
  omega
set_option maxHeartbeats 1000000 in
set_option maxRecDepth 100000 in
theorem num_any (x : Nat) (w : World) (hx : x < 18446744073709551616) : Calls Try.prog 19 #[.int .u64 x] w (EndB (numL x) w) := by
  have HX := Lib.hid hx
  clear hx
  go_enter Try.func19, Try.ntmps19
  go_wp2_with fail
  go_loopw [0, 3] (fun i v wr => ∃ y : Nat, i = .int .u64 y ∧ ∃ l : List UInt8, Hid (numL x = l ++ numL y ∧ y < 18446744073709551616 ∧ OwnB w.heap.size wr v l ∧ Below w.heap.size w wr)) (fun i _ _ => (intOf i).toNat)
  case atStart => exact ⟨x, rfl, [], Lib.hid ⟨rfl, HX.out, OwnB.nil _ _, Below.refl _ _⟩⟩
  case round =>
    obtain ⟨y, rfl, l, H⟩ := hrel
    have h0 : (0 : Int) ≤ (y : Int) := by omega
    have HLn : Hid (l.length + [(0 : UInt8)].length ≤ 100000000000000) := Lib.hid (num_room HX.out H.out.1)
    by_cases hlt : 128 ≤ y
    · have hlt' : (128 : Int) ≤ (y : Int) := by omega
      have HC := Lib.hid (or_byte y)
      have HN := Lib.hid (numL_ge hlt)
      go_wp2_with (at_builtin; refine wpList_app rfl (.tmp 8) (.tmp 12) rfl w.heap.size (wr.heap.size + 1) w _ _ l [UInt8.ofNat (y % 128 + 128)] rfl rfl (H.out.2.2.1.alloc _) (BytIn.lit wr _ _ 1 rfl (bytesV_single HC.out)) HLn.out (H.out.2.2.2.alloc H.out.2.2.2.size _) (Nat.le_refl _) ?_; intro v' w1 ho hb)
      go_roundw
      case rel => exact ⟨y / 128, by go_num, l ++ [UInt8.ofNat (y % 128 + 128)], Lib.hid ⟨by rw [H.out.1, HN.out, List.append_assoc]; rfl, by have := H.out.2.1; omega, ho, hb⟩⟩
      case measure => simp [intOf]; omega
    · have hlt' : (y : Int) < 128 := by omega
      have HC := Lib.hid (small_byte y (by omega))
      have HN := Lib.hid (numL_lt (x := y) (by omega))
      go_wp2_with (at_builtin; refine wpList_app rfl (.tmp 14) (.tmp 17) rfl w.heap.size (wr.heap.size + 1) w _ _ l [UInt8.ofNat y] rfl rfl (H.out.2.2.1.alloc _) (BytIn.lit wr _ _ 1 rfl (bytesV_single HC.out)) HLn.out (H.out.2.2.2.alloc H.out.2.2.2.size _) (Nat.le_refl _) ?_; intro v' w1 ho hb)
      go_ret
      exact ⟨v', rfl, by rw [H.out.1, HN.out]; exact ho, hb⟩

set_option maxHeartbeats 1000000 in
set_option maxRecDepth 100000 in
theorem int_any (x : Int) (w : World) (hx : -9223372036854775808 ≤ x ∧ x ≤ 9223372036854775807) : Calls Try.prog 20 #[.int .i64 x] w (EndB (intL x) w) := by
  have HX := Lib.hid hx
  clear hx
  by_cases hn : x < 0
  · have HZ := Lib.hid (zig_neg HX.out hn)
    go_enter Try.func20, Try.ntmps20
    go_wp2_with fail
    rw [HZ.out]
    refine (num_any _ _ (zigN_lt HX.out)).mono ?_
    rintro e w1 ⟨v, rfl, ho, hb⟩
    go_wp2_with fail
    go_ret
    exact ⟨v, rfl, ho, hb⟩
  · have hn' : 0 ≤ x := by omega
    have HZ := Lib.hid (zig_pos HX.out hn')
    go_enter Try.func20, Try.ntmps20
    go_wp2_with fail
    rw [HZ.out]
    refine (num_any _ _ (zigN_lt HX.out)).mono ?_
    rintro e w1 ⟨v, rfl, ho, hb⟩
    go_wp2_with fail
    go_ret
    exact ⟨v, rfl, ho, hb⟩

theorem textL_room {l : List UInt8} (h : l.length ≤ 1000000) : (numL l.length).length + l.length ≤ 100000000000000 := by
  have := numL_len10 (x := l.length) (by omega)
  omega

set_option maxHeartbeats 1000000 in
set_option maxRecDepth 100000 in
theorem text_any (v : Value) (l : List UInt8) (n₀ : Nat) (w : World) (h : BytIn n₀ w v l) (hn : n₀ ≤ w.heap.size) (hl : l.length ≤ 1000000) : Calls Try.prog 21 #[v] w (EndB (textL l) w) := by
  have HB := Lib.hid (h.mono hn)
  obtain ⟨p, cap, rfl⟩ := h.shape
  clear h
  have hl' : (l.length : Int) ≤ 1000000 := by omega
  have HL := Lib.hid (textL_room hl)
  go_enter Try.func21, Try.ntmps21
  go_wp2_with fail
  refine (num_any _ _ (by omega)).mono ?_
  rintro e w1 ⟨v1, rfl, ho, hb⟩
  have HO := Lib.hid ho
  have HB1 := Lib.hid hb
  clear ho hb
  go_wp2_with (at_builtin; refine wpList_app rfl (.tmp 6) (.tmp 7) rfl w.heap.size w.heap.size w _ _ (numL l.length) l rfl rfl HO.out (HB.out.below HB1.out) HL.out HB1.out (Nat.le_refl _) ?_; intro v' w2 ho hb)
  go_ret
  exact ⟨v', rfl, ho, hb⟩

end Go.Proofs.Ythnpiafpkllbpaa
