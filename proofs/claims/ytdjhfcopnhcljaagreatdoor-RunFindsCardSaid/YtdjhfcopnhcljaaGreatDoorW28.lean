/-
  Contract of run.opened where the bytes are sealed.
  Contract of run.sizeOf at the four bytes of a size.
  Contract of run.cut at bytes that end in sealed ones.
-/
import Derived.Test.YtdjhfcopnhcljaaGreatDoorW10
import Derived.Test.YtdjhfcopnhcljaaGreatDoorW27
import Derived.Test.YtdjhfcopnhcljaaGreatDoorW22
namespace Go.Proofs.YtdjhfcopnhcljaaGreatDoor
section
open Go Go.RowKit

set_option maxHeartbeats 1000000 in
set_option maxRecDepth 100000 in
theorem opened_ok (v : Value) (l m : List UInt8) (w : World) (h : ByC w.heap.size w v l) (hl : l.length ≤ 90000000000000) (G : Glob w) (ho : openE l = (0, m)) :
    Calls Tryz.prog 114 #[v] w (EndB m w) := by
  have HO := Lib.hid (open_any v l w h hl G)
  have HE := Lib.hid ho
  clear h ho G
  go_enter Tryz.func114, Tryz.ntmps114
  go_wp2_with fail
  refine HO.out.mono ?_
  rintro e w1 ⟨v1, rfl, ho1, hb1⟩
  rw [HE.out] at ho1 ⊢
  have HO1 := Lib.hid ho1
  have HB1 := Lib.hid hb1
  clear ho1 hb1
  go_wp2_with fail
  refine (intact_ok _).mono ?_
  rintro e w2 ⟨⟨u, rfl⟩, rfl⟩
  go_wp2_with fail
  go_ret
  exact ⟨_, rfl, HO1.out, HB1.out⟩
end
section
open Go Go.RowKit

theorem or64_byte (A x k : Nat) (hA : A < 2 ^ k) (hx : x * 2 ^ k < 18446744073709551616) (hA2 : A < 18446744073709551616) : bits .or .u64 (A : Int) ((x * 2 ^ k : Nat) : Int) = ((A + x * 2 ^ k : Nat) : Int) := by
  rw [u64_or_nat _ _ hA2 hx, Nat.or_comm, nat_join k _ _ (Nat.mul_mod_left _ _) hA, Nat.add_comm]
theorem or64_zero (x : Nat) (hx : x < 18446744073709551616) : bits .or .u64 0 (x : Int) = (x : Int) := by
  have := u64_or_nat 0 x (by omega) hx
  simpa using this
theorem or64_four (c0 c1 c2 c3 : UInt8) : bits .or .u64 (bits .or .u64 (bits .or .u64 (bits .or .u64 0 (IntKind.u64.wrap (IntKind.u64.wrap (c0.toNat : Int)))) (IntKind.u64.wrap (IntKind.u64.wrap (c1.toNat : Int) * 256))) (IntKind.u64.wrap (IntKind.u64.wrap (c2.toNat : Int) * 65536))) (IntKind.u64.wrap (IntKind.u64.wrap (c3.toNat : Int) * 16777216)) =
    ((c0.toNat + 256 * c1.toNat + 65536 * c2.toNat + 16777216 * c3.toNat : Nat) : Int) := by
  have b0 := c0.toNat_lt
  have b1 := c1.toNat_lt
  have b2 := c2.toNat_lt
  have b3 := c3.toNat_lt
  generalize c0.toNat = x0 at *
  generalize c1.toNat = x1 at *
  generalize c2.toNat = x2 at *
  generalize c3.toNat = x3 at *
  simp only [wrap_u64']
  rw [show (x0 : Int) % 18446744073709551616 % 18446744073709551616 = (x0 : Nat) by omega, show (x1 : Int) % 18446744073709551616 * 256 % 18446744073709551616 = ((x1 * 2 ^ 8 : Nat) : Int) by omega,
    show (x2 : Int) % 18446744073709551616 * 65536 % 18446744073709551616 = ((x2 * 2 ^ 16 : Nat) : Int) by omega, show (x3 : Int) % 18446744073709551616 * 16777216 % 18446744073709551616 = ((x3 * 2 ^ 24 : Nat) : Int) by omega,
    or64_zero x0 (by omega), or64_byte x0 x1 8 (by omega) (by omega) (by omega), or64_byte _ x2 16 (by omega) (by omega) (by omega), or64_byte _ x3 24 (by omega) (by omega) (by omega)]
  omega
set_option maxHeartbeats 4000000 in
set_option maxRecDepth 100000 in
theorem sizeOf_any (v : Value) (l : List UInt8) (w : World) (h : BytIn w.heap.size w v l) (h4 : l.length = 4) :
    Calls Tryz.prog 111 #[v] w fun e w' => e = .returned (.int .u64 (decN l : Nat)) ∧ w = w' := by
  obtain ⟨p, c, rfl⟩ := h.shape
  obtain ⟨-, a, rfl, c0, c1, c2, c3, hc, k0, k1, k2, k3⟩ := four_cells h (by omega)
  have HC := Lib.hid hc
  rw [h4]
  clear hc h h4
  go_enter Tryz.func111, Tryz.ntmps111
  go_wp2_with fail
  refine wp_loop_rounds 5 ?_
  iterate 5 (rw [rounds_succ]; go_wp2_with fail)
  go_ret
  refine ⟨ret_int ?_, rfl⟩
  rw [or64_four]
  obtain ⟨h0, h1, h2, h3⟩ := HC.out
  unfold decN
  rw [h0, h1, h2, h3]
theorem decN_le4 (n : Nat) (hn : n < 1000000000) : decN (le4 n) = n := by
  unfold decN le4
  simp only [List.getD_cons_zero, List.getD_cons_succ, UInt8.toNat_ofNat']
  omega
end
section
open Go Go.RowKit

theorem openB_seal (l : List UInt8) : openB (sealL l) = true := by
  unfold openB
  rw [sealL_len, Nat.add_sub_cancel, sameB_iff]
  unfold sealL
  rw [List.drop_left, List.take_left]
theorem openE_seal (l : List UInt8) : openE (sealL l) = (0, l) := by
  have h1 : ¬ (sealL l).length < 4 := by rw [sealL_len]; omega
  unfold openE
  rw [if_neg h1, if_pos (openB_seal l), sealL_len, Nat.add_sub_cancel]
  unfold sealL
  rw [List.take_left]
set_option maxRecDepth 100000 in
set_option maxHeartbeats 4000000 in
/-- Bytes a, and c sealed behind them, cut there. -/
theorem cut_ok (ad : Addr) (cap : Nat) (a c : List UInt8) (n : Nat) (w : World) (h : ByC w.heap.size w (.slice (some ad) (a ++ sealL c).length cap) (a ++ sealL c)) (hn : n = (sealL c).length) (hl : (a ++ sealL c).length ≤ 10000000000) (G : Glob w) :
    Calls Tryz.prog 110 #[.slice (some ad) (a ++ sealL c).length cap, .int .u64 (n : Int)] w fun e w' => ∃ u, e = .returned (.tuple #[.slice (some ad) a.length cap, u]) ∧ OwnB w.heap.size w' u c ∧ Below w.heap.size w w' := by
  obtain ⟨hb, p, cap', e, hc, hm⟩ := h
  injection e with e1 _ e3
  subst e1 e3
  have hlen : (a ++ sealL c).length = a.length + n := by rw [List.length_append, hn]
  obtain ⟨N, hN⟩ : ∃ N, N = (a ++ sealL c).length := ⟨_, rfl⟩
  have hm2 : cap ≤ 9223372036854775807 := hm
  have HD := Lib.hid (show BytIn w.heap.size w (.slice (some (ad.add a.length)) (N - a.length) (cap - a.length)) (sealL c) by
    have := BytIn.cdrop hb a.length (cap - a.length)
    rw [List.drop_left' rfl] at this
    rw [hN]
    exact this)
  have HG := Lib.hid G
  have HS := Lib.hid hn
  rw [← hN] at hlen hb hc hl ⊢
  have HL := Lib.hid hlen
  have HLl := Lib.hid (show n ≤ 10000000000 by omega)
  have k1 : (N : Int) ≤ (cap : Int) := by omega
  have k2 : (cap : Int) ≤ 9223372036854775807 := by omega
  have k3 : (n : Int) ≤ (N : Int) := by omega
  have k4 : (a.length : Int) ≤ (N : Int) := by omega
  have k5 : (0 : Int) ≤ (a.length : Int) := by omega
  have k6 : (0 : Int) ≤ (n : Int) := by omega
  have k7 : IntKind.i64.wrap ((N : Int) - (n : Int)) = (a.length : Int) := by rw [IntKind.wrap_i64]; omega
  have hw1 := wrapU N (by omega)
  have hw2 : IntKind.i64.wrap (n : Int) = (n : Int) := by rw [IntKind.wrap_i64]; omega
  have k8 : (a.length : Int) ≤ (cap : Int) := by omega
  clear hb hN hlen hn G hc hm hl
  go_enter Tryz.func110, Tryz.ntmps110
  go_wp2_with fail
  refine (intact_ok _).mono ?_
  rintro e w1 ⟨⟨u, rfl⟩, rfl⟩
  have hne : ¬ cap = a.length := by have := HL.out; have := HS.out; rw [sealL_len] at this; omega
  have hNa : N - a.length = n := by have := HL.out; omega
  have HB := Lib.hid (show ByC w.drew.heap.size w.drew (.slice (some (ad.add a.length)) (N - a.length) (cap - a.length)) (sealL c) from ⟨HD.out, some (ad.add a.length), cap - a.length, by rw [hNa, HS.out], by rw [← HS.out]; omega, by unfold maxLen; omega⟩)
  have HG' := Lib.hid (HG.out.below (Below.refl w.heap.size w).drew)
  have HNa := Lib.hid hNa
  clear hNa
  go_wp2_with fail
  go_region_held3 (fun _ => True) (exact True.intro) ((go_at_call 114; refine (opened_ok _ (sealL c) c _ HB.out ?_ HG'.out (openE_seal c)).mono ?_; (rw [← HS.out]; have := HLl.out; omega); rintro e w2 ⟨v2, rfl, ho2, hb2⟩; have HO2 := Lib.hid ho2; have HB2 := Lib.hid hb2; clear ho2 hb2))
  go_wp2_with fail
  go_ret2
  exact ⟨_, rfl, HO2.out, (Below.refl _ _).drew.trans HB2.out⟩
end
end Go.Proofs.YtdjhfcopnhcljaaGreatDoor
