/-
  The walk of DiskSectors, two of the four ways to cut its arguments.
-/
import Derived.Test.YtnmeehhjfcciiaaSecH
namespace Go.Proofs.Ytnmeehhjfcciiaa
open Go Go.RowKit Go.Maps Go.WideMaps

set_option maxRecDepth 100000 in
set_option maxHeartbeats 8000000 in
theorem lsec_sl {w : World} {v0 v2 vk vs : Value} {l0 l2 : List UInt8} {x1 x3 : Int} (a0 : ArgD w.heap.size w v0 l0) (a2 : ArgD w.heap.size w v2 l2) (hk : RdT w vk) (hs : RdT w vs) (g0 : l0.length ≤ 400) (g2 : 400 < l2.length) :
    Calls Try.prog 4 #[v0, .int .i64 x1, v2, .agg #[.int .i64 x3, vk, vs]] w fun e w' => e = .returned (.bool true) ∧ Below w.heap.size w w' := by
  obtain ⟨p0, c0, rfl, hc0, hd0⟩ := a0.shp
  obtain ⟨p2, c2, rfl, hc2, hd2⟩ := a2.shp
  have g0' : (l0.length : Int) ≤ 400 := by omega
  have g2' : (400 : Int) < (l2.length : Int) := by omega
  have k0 : (l0.length : Int) ≤ (c0 : Int) := by omega
  have k2 : (l2.length : Int) ≤ (c2 : Int) := by omega
  have k1 : (c0 : Int) ≤ 9223372036854775807 := by omega
  have k3 : (c2 : Int) ≤ 9223372036854775807 := by omega
  have k4 : (0 : Int) ≤ (l0.length : Int) := by omega
  have k5 : (0 : Int) ≤ (l2.length : Int) := by omega
  have k6 : (400 : Int) ≤ (c0 : Int) ∨ (l0.length : Int) ≤ 400 := by omega
  have k7 : (400 : Int) ≤ (c2 : Int) ∨ (l2.length : Int) ≤ 400 := by omega
  have HVk := Lib.hid hk
  have HVs := Lib.hid hs
  obtain ⟨was, N0, HWas⟩ : ∃ (was : List UInt8) (N : Nat), Hid ((ArgD w.heap.size w (.slice p0 N c0) was) ∧ was.length = N ∧ N ≤ 400 ∧ N = l0.length) := ⟨l0, _, Lib.hid ⟨a0, rfl, by omega, rfl⟩⟩
  obtain ⟨b, N2, HBs⟩ : ∃ (b : List UInt8) (N : Nat), Hid ((ArgD w.heap.size w (.slice p2 N c2) b) ∧ b.length = N ∧ N ≤ 400 ∧ N = 400) := ⟨_, 400, Lib.hid ⟨(a2.cut (k := 400) (by omega) (by omega)).1, (a2.cut (k := 400) (by omega) (by omega)).2, Nat.le_refl _, rfl⟩⟩
  clear hk hs a0 a2
  go_enter Try.func4, Try.ntmps4
  go_wp2_with fail
  have hB0 := heap_alloc_new w (.cells #[.int .i64 x3, vk, vs] 26)
  have HGB := Lib.hid ((Grow.refl (fun _ => False) w).alloc (.cells #[.int .i64 x3, vk, vs] 26))
  have hsB : (w.alloc (.cells #[.int .i64 x3, vk, vs] 26)).heap.size = w.heap.size + 1 := by simp
  generalize w.alloc (.cells #[.int .i64 x3, vk, vs] 26) = wB at *
  have HB0 := Lib.hid hB0
  clear hB0
  refine (new_any wB 1000 (by decide) (by decide)).mono ?_
  rintro e w1 ⟨rfl, hn⟩
  have HS1 := Lib.hid (newDk_R hn)
  have HG1 := Lib.hid (HGB.out.trans (show Grow (fun _ => False) wB w1 from ⟨hn.below.os, hn.below.tape, hn.below.output, hn.below.size, fun k hk _ => hn.below.block k hk⟩))
  have HL1 := Lib.hid ((hn.below.block _ (Array.getElem?_eq_some_iff.1 HB0.out).1).trans HB0.out)
  have HN1 := Lib.hid (And.intro hsB hn.size)
  clear hn hsB HB0 HGB
  generalize wB.heap.size = n0 at *
  go_wp2_with fail
  rw [← HWas.out.2.2.2]
  try rw [← HBs.out.2.2.2]
  clear g0 g2 g0' g2' k0 k1 k2 k3 k4 k5 k6 k7 hc0 hd0 hc2 hd2

  have HCr := Lib.hid (create_any ⟨#[102]⟩ HS1.out (by decide) (by decide) (by omega) (by omega) rfl rfl (by decide))
  refine HCr.out.mono ?_
  rintro e w2 ⟨rfl, chg, hS2, hF2, hg2⟩
  obtain ⟨g, HGe⟩ : ∃ g, Hid (g = w1.heap.size) := ⟨_, Lib.hid rfl⟩
  rw [← HGe.out] at hS2 hF2
  have hS2' : DkS n0 w2 (n0 + 4) n0 (n0 + 1) (n0 + 2) (n0 + 3) 1000 1 1 0 1 0 1 (oneM (.int .i64 0) (.pointer (some ⟨g, 0, none⟩))) (.map []) (oneM (.string [102]) (.int .i64 0)) (.map []) chg [.string ⟨#[]⟩, .string ⟨#[102]⟩, .int .i64 0] := hS2
  have hF2' : FileAt w2 g (.slice none 0 0) 0 (.slice none 0 0) := hF2
  have HC2 := Lib.hid (chg_ne hS2'.own hF2')
  have HGn := Lib.hid (show g = n0 + 5 ∧ n0 = w.heap.size + 1 ∧ g < w2.heap.size from ⟨by rw [HGe.out, HN1.out.2], HN1.out.1, (Array.getElem?_eq_some_iff.1 hF2').1⟩)
  have HG2 := Lib.hid (HG1.out.thenNew hg2 (by
    rintro i hi (e | e | e | e)
    · have := HGn.out; omega
    · have := HGn.out; omega
    · have := HGn.out; omega
    · cases e))
  have HL2 := Lib.hid ((hg2.block _ (Array.getElem?_eq_some_iff.1 HL1.out).1 (by
    rintro (e | e | e | e)
    · have := HGn.out; omega
    · have := HGn.out; omega
    · have := HGn.out; omega
    · cases e)).trans HL1.out)
  have HS2 := Lib.hid hS2'
  have HF2 := Lib.hid hF2'
  have HA2 := Lib.hid (HWas.out.1.same HG2.out (Nat.le_refl _))
  clear hS2 hF2 hS2' hF2' hg2 HCr HS1 HG1 HL1 HN1 HGe
  have hW2 := write_any (s := ⟨#[102]⟩) (nF := w2.heap.size) HS2.out (by decide) (Olds.empty w2 0) HF2.out (OwnF.nil w2.heap.size w2) (by simp) (by have := HGn.out; have := HC2.out; refine ⟨by omega, by omega, by omega, by omega, by omega, this⟩) (fun b hb => by cases hb) (by omega) HA2.out.rd HG2.out.size (Nat.le_refl _) (by have := HWas.out.2; omega) (fun b off n c e => ⟨by have := HA2.out.blk e; have := HGn.out; omega, by have := HA2.out.blk e; have := HGn.out; omega, fun h => by cases h⟩) HA2.out.cap 0 (Nat.le_refl _) (by decide)
  have HW := Lib.hid hW2
  clear hW2
  go_wp2_with fail
  refine HW.out.mono ?_
  rintro e w3 ⟨rfl, oo3, no3, i3, j3, fv3, wrn3, hno3, hj3, hS3, hg3, hO3, hF3, hf3, hw3, hb3⟩
  rw [put_nil] at hf3
  have HNo3 := Lib.hid hno3
  have HX3 := Lib.hid (fun b (hb : fv3.ownBlock = some b) => hf3.lt b hb)
  have HG3 := Lib.hid (HG2.out.thenNew hg3 (by
    rintro i hi (e | e | e)
    · have := HGn.out; omega
    · have := HGn.out; omega
    · cases e))
  have HL3 := Lib.hid ((hg3.block _ (Array.getElem?_eq_some_iff.1 HL2.out).1 (by
    rintro (e | e | e)
    · have := HGn.out; omega
    · have := HGn.out; omega
    · cases e)).trans HL2.out)
  have HSz3 := Lib.hid hg3.size
  have hSy := sync_any (s := ⟨#[102]⟩) hS3 (by decide) hO3 hF3 hf3 hw3 (by have := HGn.out; have := HC2.out; refine ⟨by omega, by omega, by omega, by omega, by omega, this⟩) (by have := HGn.out; omega) hj3
  have HSy := Lib.hid hSy
  have Hf3 := Lib.hid hf3
  clear hSy hno3 hj3 hS3 hg3 hO3 hF3 hf3 hw3 hb3 HW HS2 HF2 HG2 HL2 HA2
  go_wp2_with fail
  refine HSy.out.mono ?_
  rintro e w4 ⟨rfl, oo4, hS4, hO4, hF4, hg4⟩
  have HG4 := Lib.hid (HG3.out.thenNew hg4 (by
    rintro i hi (e | e)
    · have := HGn.out; omega
    · have := HGn.out; omega))
  have HL4 := Lib.hid ((hg4.block _ (Array.getElem?_eq_some_iff.1 HL3.out).1 (by
    rintro (e | e)
    · have := HGn.out; omega
    · have := HGn.out; omega)).trans HL3.out)
  have hf4 : OwnF w2.heap.size w4 fv3 was := Hf3.out.grow hg4 (fun k hk e => by
    have := (HX3.out k hk).1
    have := HGn.out
    rcases e with e | e <;> omega)
  have HSz4 := Lib.hid (Nat.le_trans HSz3.out hg4.size)
  have HSz4' := Lib.hid hg4.size
  have hSd := syncdir_any hS4 (by have := HGn.out; have := HSz4.out; omega)
  have HSd := Lib.hid hSd
  have HO4 := Lib.hid hO4
  have HF4 := Lib.hid hF4
  have Hf4 := Lib.hid hf4
  clear hSd hS4 hO4 hF4 hf4 hg4 HSy Hf3 HG3 HL3
  go_wp2_with fail
  refine HSd.out.mono ?_
  rintro e w5 ⟨rfl, X', hX', hS5, hg5⟩
  have HG5 := Lib.hid (HG4.out.thenNew hg5 (by rintro i hi e; have := HGn.out; omega))
  have HL5 := Lib.hid ((hg5.block _ (Array.getElem?_eq_some_iff.1 HL4.out).1 (by intro e; have := HGn.out; omega)).trans HL4.out)
  have HF5 := Lib.hid (HF4.out.grow hg5 (by have := HGn.out; omega))
  have Hf5 := Lib.hid (Hf4.out.grow hg5 (fun k hk e => by have := (HX3.out k hk).1; have := HGn.out; omega))
  have HO5 := Lib.hid (HO4.out.grow hg5 (fun k hk e => by have := HGn.out; omega))
  have HS5 := Lib.hid hS5
  have HX5 := Lib.hid (show w4.heap.size ≤ X' ∧ w2.heap.size ≤ w5.heap.size from ⟨hX', Nat.le_trans HSz4.out hg5.size⟩)
  clear hX' hS5 hg5 HSd HO4 HF4 Hf4 HG4 HL4
  obtain ⟨fp3, fc3, rfl⟩ := Hf5.out.shp

  by_cases hr : x1 < 0 ∨ (N0 : Int) < x1
  case pos =>
    have HWr := Lib.hid (write_range (s := ⟨#[102]⟩) (.slice p2 N2 c2) HS5.out (by decide) HF5.out Hf5.out (by have := HWas.out.2; omega) x1 (by rw [HWas.out.2.1]; exact hr))
    go_wp2_with fail
    refine HWr.out.mono ?_
    rintro e w6 ⟨rfl, hg6⟩
    have HB6 := Lib.hid ((HG5.out.trans hg6).below (Nat.le_refl _) (fun k e => e.elim))
    clear hg6 HWr
    by_cases hx : x1 < 0
    · clear hr
      go_wp2_with fail
      refine (alive_true w6).mono ?_
      rintro e w7 ⟨rfl, hb7⟩
      have HB7 := Lib.hid (HB6.out.trans (hb7.mono HB6.out.size))
      clear hb7
      go_wp2_with fail
      go_ret
      exact ⟨rfl, HB7.out⟩
    · have hx2 : (N0 : Int) < x1 := by omega
      clear hr
      go_wp2_with fail
      refine (alive_true w6).mono ?_
      rintro e w7 ⟨rfl, hb7⟩
      have HB7 := Lib.hid (HB6.out.trans (hb7.mono HB6.out.size))
      clear hb7
      go_wp2_with fail
      go_ret
      exact ⟨rfl, HB7.out⟩
  obtain ⟨at_, rfl⟩ : ∃ at_ : Nat, x1 = (at_ : Int) := Int.eq_ofNat_of_zero_le (by omega)
  have hat : at_ ≤ was.length := by have := HWas.out.2.1; omega
  have HBs5 := Lib.hid (HBs.out.1.same HG5.out (Nat.le_refl _))
  have HW6 := Lib.hid (write_any (s := ⟨#[102]⟩) HS5.out (by decide) HO5.out HF5.out Hf5.out (by have := HWas.out.2; omega) (by have := HGn.out; have := HX5.out; have := HSz4.out; refine ⟨by omega, by omega, by omega, by omega, by omega, fun h => by cases h⟩)
    (fun b hb => by have := HX3.out b hb; have := HGn.out; have := HX5.out; have := HSz4'.out; refine ⟨by omega, by omega, by omega, by omega, by omega, by omega, fun h => by cases h⟩) (by have := HNo3.out; omega) HBs5.out.rd HG5.out.size HX5.out.2 (by have := HBs.out.2; omega)
    (fun b off n c e => ⟨by have := HBs5.out.blk e; have := HGn.out; omega, by have := HBs5.out.blk e; have := HGn.out; omega, fun h => by have := HBs5.out.blk e; have := HX3.out b h; have := HGn.out; omega⟩) HBs5.out.cap at_ hat (by decide))
  have HAt := Lib.hid hat
  clear hr hat
  go_wp2_with fail
  refine HW6.out.mono ?_
  rintro e w6 ⟨rfl, oo6, no6, i6, j6, fv6, wrn6, hno6, hj6, hS6, hg6, hO6, hF6, hf6, hw6, hb6⟩
  have hnl := put_len (B := b) HAt.out
  generalize put_ was b at_ = now at *
  have HNow := Lib.hid (show was.length ≤ now.length ∧ now.length ≤ 1000 from by have := HWas.out.2; have := HBs.out.2; have := HAt.out; omega)
  have HNo6 := Lib.hid (show no6 ≤ 1000000 by have := HNo3.out; omega)
  have hN6 : ∀ i, i < w.heap.size → ¬ (i = n0 + 1 ∨ i = g ∨ (Value.slice fp3 was.length fc3).ownBlock = some i) := by
    rintro i hi (e | e | e)
    · have := HGn.out; omega
    · have := HGn.out; omega
    · have := HX3.out i e; have := HGn.out; omega
  have HG6 := Lib.hid (HG5.out.thenNew hg6 hN6)
  have HL6 := Lib.hid ((hg6.block _ (Array.getElem?_eq_some_iff.1 HL5.out).1 (by
    rintro (e | e | e)
    · have := HGn.out; omega
    · have := HGn.out; omega
    · have := HX3.out _ e; have := HGn.out; omega)).trans HL5.out)
  have HS6 := Lib.hid hS6
  have HF6 := Lib.hid hF6
  have Hf6 := Lib.hid hf6
  have HO6 := Lib.hid hO6
  clear hno6 hj6 hS6 hg6 hO6 hF6 hf6 hw6 hb6 hnl hN6 HW6 HS5 HF5 Hf5 HO5 HG5 HL5
  go_wp2_with fail
  refine (size_any (s := ⟨#[102]⟩) HS6.out (by decide) HF6.out Hf6.out).mono ?_
  rintro e w7 ⟨rfl, hg7⟩
  have HG7 := Lib.hid (HG6.out.trans hg7)
  have HL7 := Lib.hid ((hg7.block _ (Array.getElem?_eq_some_iff.1 HL6.out).1 (fun e => e)).trans HL6.out)
  have HS7 := Lib.hid (HS6.out.same hg7)
  have HF7 := Lib.hid (HF6.out.grow hg7 (fun e => e))
  have Hf7 := Lib.hid (Hf6.out.grow hg7 (fun _ _ e => e))
  have HO7 := Lib.hid (HO6.out.same hg7)
  clear hg7 HS6 HF6 Hf6 HO6 HG6 HL6
  go_wp2_with fail
  refine (read_full (s := ⟨#[102]⟩) HS7.out (by decide) HF7.out Hf7.out (by have := HNow.out; omega)).mono ?_
  rintro e w8 ⟨v8, rfl, ho8, hg8⟩
  have HG8 := Lib.hid (HG7.out.trans hg8)
  have HL8 := Lib.hid ((hg8.block _ (Array.getElem?_eq_some_iff.1 HL7.out).1 (fun e => e)).trans HL7.out)
  have HS8 := Lib.hid (HS7.out.same hg8)
  have HF8 := Lib.hid (HF7.out.grow hg8 (fun e => e))
  have Hf8 := Lib.hid (Hf7.out.grow hg8 (fun _ _ e => e))
  have HO8 := Lib.hid (HO7.out.same hg8)
  have Ho8 := Lib.hid ho8
  have HSz7 := Lib.hid (show w.heap.size < w7.heap.size from (Array.getElem?_eq_some_iff.1 HL7.out).1)
  obtain ⟨p8, c8, rfl⟩ := ho8.shp
  clear ho8 hg8 HS7 HF7 Hf7 HO7 HL7
  obtain ⟨q0, q1, q2⟩ := lossCells HL8.out
  have qf := frozen_of_row w8 w.heap.size 0 _ _ HL8.out
  have ql := (Array.getElem?_eq_some_iff.1 HL8.out).1
  have g89 : Grow (fun k => k = w.heap.size) w8 (w8.setCell ⟨w.heap.size, 0, none⟩ (.int .i64 0)) := (Grow.refl _ w8).setCell _ _ (fun _ => rfl)
  have HG9 := Lib.hid (HG8.out.thenNew g89 (fun i hi e => by omega))
  have HS9 := Lib.hid (HS8.out.grow g89 (by have := HGn.out; omega) (by have := HGn.out; omega) (by have := HGn.out; omega) (by have := HGn.out; omega) (by have := HGn.out; have := HX5.out; have := HSz4.out; omega) (fun k hk => by cases hk))
  have HF9 := Lib.hid (HF8.out.grow g89 (by have := HGn.out; omega))
  have Hf9 := Lib.hid (Hf8.out.grow g89 (fun k hk e => by have := (Hf8.out.lt k hk).1; have := HGn.out; omega))
  have HO9 := Lib.hid (HO8.out.grow g89 (fun k hk e => by have := HX5.out; have := HGn.out; omega))
  have Ho9 := Lib.hid (Ho8.out.grow g89 (fun k hk e => by have := (Ho8.out.lt k hk).1; have := HSz7.out; omega))
  have HL9 := Lib.hid (show (w8.setCell ⟨w.heap.size, 0, none⟩ (.int .i64 0)).heap[w.heap.size]? = some (.cells #[.int .i64 0, vk, vs] 26 (0, 0)) from by
    rw [Go.heap_setCell_same w8 w.heap.size 0 _ _ (.int .i64 0) HL8.out]; rfl)
  obtain ⟨r0, r1, r2⟩ := lossCells HL9.out
  have ql9 := (Array.getElem?_eq_some_iff.1 HL9.out).1
  clear g89
  go_wp2_with fail

  clear q0 q1 q2 qf ql r0 r1 r2 ql9 HS8 HF8 Hf8 HO8 Ho8 HL8 HG8
  generalize w8.setCell ⟨w.heap.size, 0, none⟩ (.int .i64 0) = w9 at *
  have HLz := Lib.hid (lose_gen (n1 := w5.heap.size) HS9.out HO9.out HNo6.out HF9.out Hf9.out HNow.out.1 (by have := HNow.out.2; omega) (HVk.out.same HG9.out) (HVs.out.same HG9.out))
  refine HLz.out.mono ?_
  rintro e w10 ⟨d2, F2, O2, D2, X2, g2, fv2, nx2, next2, z2, l, rfl, hS10, hF10, hf10, hlen, hmix, hg10⟩
  have HG10 := Lib.hid (HG9.out.trans hg10)
  have Ho10 := Lib.hid (Ho9.out.grow hg10 (fun _ _ e => e))
  have HS10 := Lib.hid hS10
  have HF10 := Lib.hid hF10
  have Hf10 := Lib.hid hf10
  have HMx := Lib.hid (And.intro hlen hmix)
  clear hS10 hF10 hf10 hlen hmix hg10 HLz HG9 HS9 HF9 Hf9 HO9 Ho9 HL9
  go_wp2_with fail
  refine (size_any (s := ⟨#[102]⟩) HS10.out (by decide) HF10.out Hf10.out).mono ?_
  rintro e w11 ⟨rfl, hg11⟩
  have HG11 := Lib.hid (HG10.out.trans hg11)
  have Ho11 := Lib.hid (Ho10.out.grow hg11 (fun _ _ e => e))
  have HS11 := Lib.hid (HS10.out.same hg11)
  have HF11 := Lib.hid (HF10.out.grow hg11 (fun e => e))
  have Hf11 := Lib.hid (Hf10.out.grow hg11 (fun _ _ e => e))
  clear hg11 HG10 Ho10 HS10 HF10 Hf10
  have HLl := Lib.hid (show l.length ≤ 1000 from by have := HMx.out.1; have := HNow.out; omega)
  go_wp2_with fail
  refine (read_full (s := ⟨#[102]⟩) HS11.out (by decide) HF11.out Hf11.out (by have := HLl.out; omega)).mono ?_
  rintro e w12 ⟨v12, rfl, ho12, hg12⟩
  have HG12 := Lib.hid (HG11.out.trans hg12)
  have Ho12 := Lib.hid (Ho11.out.grow hg12 (fun _ _ e => e))
  have Hg12 := Lib.hid ho12
  have HA12 := Lib.hid (HWas.out.1.same HG12.out (Nat.le_refl _))
  obtain ⟨p12, c12, rfl⟩ := ho12.shp
  have s0 : ¬ (now.length : Int) < (N0 : Int) := by have := HNow.out; have := HWas.out.2.1; omega
  have s1 : (N0 : Int) ≤ 400 := by have := HWas.out.2; omega
  have s2 : (now.length : Int) ≤ 1000 := by have := HNow.out; omega
  clear ho12 hg12 HG11 Ho11 HS11 HF11 Hf11
  by_cases hn : l.length = now.length
  · rw [hn]
    obtain ⟨kz, hkz⟩ : ∃ kz : Nat, kz = now.length - N0 := ⟨_, rfl⟩
    have hkI : (now.length : Int) - (N0 : Int) = (kz : Int) := by have := HNow.out; have := HWas.out.2.1; omega
    have HKz := Lib.hid (show kz ≤ 1000 ∧ kz = now.length - was.length by have := HNow.out; have := HWas.out.2.1; omega)
    have Hbs := Lib.hid (show OwnF w12.heap.size (w12.alloc (.cells #[] 5)) (.slice (some ⟨w12.heap.size, 0, none⟩) 0 0) [] from World.ownsRow_made w12 #[] 0 (Nat.le_refl _) (by decide) rfl)
    have HA13 := Lib.hid (HA12.out.same ((Grow.refl _ w12).alloc (.cells #[] 5)) HG12.out.size).rd
    have hsz : (w12.alloc (.cells #[] 5)).heap.size = w12.heap.size + 1 := by simp
    have HSz := Lib.hid (show w12.heap.size ≤ (w12.alloc (.cells #[] 5)).heap.size by rw [hsz]; omega)
    clear hkz hsz
    go_wp2_with (first
      | (at_builtin; refine wpList_appB rfl (.tmp 137) (.tmp 138) rfl rfl rfl Hbs.out HA13.out (by have := HWas.out.2; simp; omega) HSz.out ?_; intro v13 w13 ho13 hgr13 _; rw [List.nil_append] at ho13; have g13 : Grow (fun k => w12.heap.size ≤ k) w12 w13 := ((Grow.refl _ w12).alloc _).trans (Grow.of_grown hgr13 (fun k e _ => by cases e; exact Nat.le_refl _)); obtain ⟨v14, w14, hrun14, ho14, hgr14⟩ := run_zerosB 22 ho13 kz (by have := HKz.out; have := HWas.out.2; omega) g13.size; have g14 : Grow (fun k => w12.heap.size ≤ k) w12 w14 := g13.trans (Grow.of_grown hgr14 (fun k e _ => (ho13.lt k e).1)); obtain ⟨p14, N14, c14, rfl, hN14⟩ : ∃ p N c, v14 = .slice p N c ∧ N = (was ++ List.replicate kz 0).length := (by obtain ⟨p, c, e⟩ := ho14.shp; exact ⟨p, _, c, e, rfl⟩); have HR14 := Lib.hid hrun14; have HN14 := Lib.hid hN14; have HO14 := Lib.hid ho14; have HG14 := Lib.hid g14; clear hrun14 hN14 ho14 g14 hgr14 g13 hgr13 ho13)
      | (at_builtin; refine Lib.wpList_append_run w13 rfl (.tmp 139) (.tmp 143) 22 3 rfl _ _ rfl rfl _ w14 HR14.out ?_))
    have HGw := Lib.hid (HG12.out.thenNew HG14.out (fun i hi e => by have := HG12.out.size; omega))
    have Hn14 := Lib.hid (Ho12.out.grow HG14.out (fun k hk e => by have := (Ho12.out.lt k hk).2; omega))
    have Hl14 := Lib.hid (Hg12.out.grow HG14.out (fun k hk e => by have := (Hg12.out.lt k hk).2; omega))
    clear HR14 HG14 Hbs HA13 HSz hkI Ho12 Hg12 HA12 HG12
    go_loopw [22] (fun i wr => ∃ k : Nat, k * 64 ≤ now.length + 63 ∧ i = .int .i64 ((k * 64 : Nat) : Int) ∧ Hid (Grow (fun _ => False) w14 wr)) (fun i _ => now.length + 64 - (intOf i).toNat)
    case atStart => exact ⟨0, by omega, rfl, Lib.hid (Grow.refl _ _)⟩
    case round =>
      obtain ⟨k, hk, rfl, hJ⟩ := hrel
      obtain ⟨sN, hsN⟩ : ∃ sN : Nat, sN = k * 64 := ⟨_, rfl⟩
      rw [← hsN] at hk ⊢
      by_cases hlt : sN < now.length
      case neg =>
        have i0 : ¬ (sN : Int) < (now.length : Int) := by omega
        have HBl := Lib.hid ((HGw.out.trans hJ.out).below (Nat.le_refl _) (fun k e => e.elim))
        go_wp2_with fail
        refine (alive_true wr).mono ?_
        rintro e w15 ⟨rfl, hb15⟩
        have HBe := Lib.hid (HBl.out.trans (hb15.mono HBl.out.size))
        clear hb15
        go_wp2_with fail
        go_ret
        exact ⟨rfl, HBe.out⟩
      obtain ⟨eN, heN⟩ : ∃ eN : Nat, eN = min now.length (sN + 64) := ⟨_, rfl⟩
      have HLe := Lib.hid (show l.length = now.length ∧ l.length ≤ now.length from ⟨hn, by have := HMx.out.1; have := HNow.out; omega⟩)
      have i0 : (sN : Int) < (now.length : Int) := by omega
      have i1 : min (now.length : Int) ((sN : Int) + 64) = (eN : Int) := by omega
      have i2 : (sN : Int) ≤ (eN : Int) := by omega
      have i3 : (0 : Int) ≤ (sN : Int) := by omega
      have i4 : (sN : Int) ≤ 1000 := by have := HNow.out; have := HLe.out; omega
      obtain ⟨gA, rfl, a1, a2⟩ := some_of (Hl14.out.grow hJ.out (fun _ _ e => e)) (by have := HLe.out; omega)
      obtain ⟨gB, rfl, b1, b2⟩ := some_of (Hn14.out.grow hJ.out (fun _ _ e => e)) (by have := HLe.out; omega)
      have hln : (was ++ List.replicate kz (0 : UInt8)).length = now.length := by
        rw [List.length_append, List.length_replicate]
        have := HNow.out; have := HKz.out; omega
      obtain ⟨gC, rfl, d1, d2⟩ := some_of (HO14.out.grow hJ.out (fun _ _ e => e)) (by rw [hln]; have := HLe.out; omega)
      have hN14 := HN14.out
      rw [hln] at hN14 d1
      have hO14 := HO14.out
      rw [hN14, ← hln] at hO14
      have e0 : eN ≤ l.length := by have := HLe.out; omega
      have hJn : ∀ n, Grow (fun _ => False) w14 (wr.drewN n) := fun n => hJ.out.trans ⟨rfl, rfl, rfl, Nat.le_refl _, fun _ _ _ => rfl⟩
      have cA := fun n => conv_sec (w := wr.drewN n) (s := sN) (Hl14.out.grow (hJn n) (fun _ _ e => e)) e0 (c12 - sN)
      have cB := fun n => conv_sec (w := wr.drewN n) (s := sN) (Hn14.out.grow (hJn n) (fun _ _ e => e)) (show eN ≤ now.length by have := HLe.out; omega) (c8 - sN)
      have cC := fun n => conv_sec (w := wr.drewN n) (s := sN) (hO14.grow (hJn n) (fun _ _ e => e)) (show eN ≤ _ by rw [hln]; have := HLe.out; omega) (c14 - sN)
      have j1 : (eN : Int) ≤ (now.length : Int) := by omega
      have j2 : (now.length : Int) ≤ (c12 : Int) := by have := HLe.out; omega
      have j3 : (eN : Int) ≤ (now.length : Int) := by have := HLe.out; omega
      have j4 : (now.length : Int) ≤ (c8 : Int) := by omega
      have j5 : (eN : Int) ≤ (N14 : Int) := by omega
      have j6 : (N14 : Int) ≤ (c14 : Int) := by omega
      have j7 : ¬ c12 = sN := by have := HLe.out; omega
      have j8 : ¬ c8 = sN := by have := HLe.out; omega
      have j9 : ¬ c14 = sN := by have := HLe.out; omega
      have k1 : (c12 : Int) ≤ 9223372036854775807 := by omega
      have k2 : (c8 : Int) ≤ 9223372036854775807 := by omega
      have k3 : (c14 : Int) ≤ 9223372036854775807 := by omega
      have k4 : (eN : Int) ≤ (c12 : Int) := by omega
      have k5 : (eN : Int) ≤ (c8 : Int) := by omega
      have k6 : (eN : Int) ≤ (c14 : Int) := by omega
      have hm := mix_cmp HMx.out.2 HLe.out.2 hsN e0 (show eN ≤ sN + 64 by omega)
      rw [← HKz.out.2] at hm
      generalize ((l.drop sN).take (eN - sN)) = LA at *
      generalize ((now.drop sN).take (eN - sN)) = LB at *
      generalize (((was ++ List.replicate kz (0 : UInt8)).drop sN).take (eN - sN)) = LC at *
      have HNx := Lib.hid (show (((k + 1) * 64 : Nat) : Int) = (sN : Int) + 64 by omega)
      have HBd := Lib.hid (show (k + 1) * 64 ≤ now.length + 63 ∧ sN < now.length by omega)
      clear hJn hk hlt heN hsN a1 a2 b1 b2 d1 d2 hln hN14 hO14 e0
      by_cases hAB : LA = LB
      · subst hAB
        clear hm
        go_wp2_with fail
        go_quiet (fail)
        have HE := Lib.hid (show Grow (fun _ => False) w14 (wr.drewN nq) from hJ.out.trans ⟨rfl, rfl, rfl, Nat.le_refl _, fun _ _ _ => rfl⟩)
        go_wp2_with fail
        refine ⟨⟨k + 1, HBd.out.1, by rw [HNx.out], HE⟩, ?_⟩
        simp only [intOf]
        have := HBd.out
        omega
      · have hAC : LA = LC := hm.resolve_left hAB
        subst hAC
        have m0 : ¬ (⟨LA.toArray⟩ : ByteArray) = ⟨LB.toArray⟩ := fun h => hAB (by injection h with h; simpa using h)
        have m2 : ((⟨LA.toArray⟩ : ByteArray) == ⟨LB.toArray⟩) = false := bytes_ne hAB
        have m1 : ((⟨LA.toArray⟩ : ByteArray) != ⟨LB.toArray⟩) = true := by unfold bne; rw [m2]; rfl
        clear hm
        go_wp2_with fail
        go_quiet (fail)
        have HE := Lib.hid (show Grow (fun _ => False) w14 (wr.drewN nq) from hJ.out.trans ⟨rfl, rfl, rfl, Nat.le_refl _, fun _ _ _ => rfl⟩)
        go_wp2_with fail
        refine ⟨⟨k + 1, HBd.out.1, by rw [HNx.out], HE⟩, ?_⟩
        simp only [intOf]
        have := HBd.out
        omega
  · have hN : l.length = N0 := by have := HMx.out.1; have := HWas.out.2.1; omega
    rw [hN]
    have t0 : ¬ (N0 : Int) = (now.length : Int) := by omega
    have t1 : ((N0 : Int) != (now.length : Int)) = true := by simpa using t0
    have t2 : ((N0 : Int) == (now.length : Int)) = false := by simpa using t0
    obtain ⟨kz, hkz⟩ : ∃ kz : Nat, kz = now.length - N0 := ⟨_, rfl⟩
    have hkI : (now.length : Int) - (N0 : Int) = (kz : Int) := by have := HNow.out; have := HWas.out.2.1; omega
    have HKz := Lib.hid (show kz ≤ 1000 ∧ kz = now.length - was.length by have := HNow.out; have := HWas.out.2.1; omega)
    have Hbs := Lib.hid (show OwnF w12.heap.size (w12.alloc (.cells #[] 5)) (.slice (some ⟨w12.heap.size, 0, none⟩) 0 0) [] from World.ownsRow_made w12 #[] 0 (Nat.le_refl _) (by decide) rfl)
    have HA13 := Lib.hid (HA12.out.same ((Grow.refl _ w12).alloc (.cells #[] 5)) HG12.out.size).rd
    have hsz : (w12.alloc (.cells #[] 5)).heap.size = w12.heap.size + 1 := by simp
    have HSz := Lib.hid (show w12.heap.size ≤ (w12.alloc (.cells #[] 5)).heap.size by rw [hsz]; omega)
    clear hkz hsz
    go_wp2_with (first
      | (at_builtin; refine wpList_appB rfl (.tmp 137) (.tmp 138) rfl rfl rfl Hbs.out HA13.out (by have := HWas.out.2; simp; omega) HSz.out ?_; intro v13 w13 ho13 hgr13 _; rw [List.nil_append] at ho13; have g13 : Grow (fun k => w12.heap.size ≤ k) w12 w13 := ((Grow.refl _ w12).alloc _).trans (Grow.of_grown hgr13 (fun k e _ => by cases e; exact Nat.le_refl _)); obtain ⟨v14, w14, hrun14, ho14, hgr14⟩ := run_zerosB 22 ho13 kz (by have := HKz.out; have := HWas.out.2; omega) g13.size; have g14 : Grow (fun k => w12.heap.size ≤ k) w12 w14 := g13.trans (Grow.of_grown hgr14 (fun k e _ => (ho13.lt k e).1)); obtain ⟨p14, N14, c14, rfl, hN14⟩ : ∃ p N c, v14 = .slice p N c ∧ N = (was ++ List.replicate kz 0).length := (by obtain ⟨p, c, e⟩ := ho14.shp; exact ⟨p, _, c, e, rfl⟩); have HR14 := Lib.hid hrun14; have HN14 := Lib.hid hN14; have HO14 := Lib.hid ho14; have HG14 := Lib.hid g14; clear hrun14 hN14 ho14 g14 hgr14 g13 hgr13 ho13)
      | (at_builtin; refine Lib.wpList_append_run w13 rfl (.tmp 139) (.tmp 143) 22 3 rfl _ _ rfl rfl _ w14 HR14.out ?_))
    have HGw := Lib.hid (HG12.out.thenNew HG14.out (fun i hi e => by have := HG12.out.size; omega))
    have Hn14 := Lib.hid (Ho12.out.grow HG14.out (fun k hk e => by have := (Ho12.out.lt k hk).2; omega))
    have Hl14 := Lib.hid (Hg12.out.grow HG14.out (fun k hk e => by have := (Hg12.out.lt k hk).2; omega))
    clear HR14 HG14 Hbs HA13 HSz hkI Ho12 Hg12 HA12 HG12
    go_loopw [22] (fun i wr => ∃ k : Nat, k * 64 ≤ N0 + 63 ∧ i = .int .i64 ((k * 64 : Nat) : Int) ∧ Hid (Grow (fun _ => False) w14 wr)) (fun i _ => N0 + 64 - (intOf i).toNat)
    case atStart => exact ⟨0, by omega, rfl, Lib.hid (Grow.refl _ _)⟩
    case round =>
      obtain ⟨k, hk, rfl, hJ⟩ := hrel
      obtain ⟨sN, hsN⟩ : ∃ sN : Nat, sN = k * 64 := ⟨_, rfl⟩
      rw [← hsN] at hk ⊢
      by_cases hlt : sN < N0
      case neg =>
        have i0 : ¬ (sN : Int) < (N0 : Int) := by omega
        have HBl := Lib.hid ((HGw.out.trans hJ.out).below (Nat.le_refl _) (fun k e => e.elim))
        go_wp2_with fail
        refine (alive_true wr).mono ?_
        rintro e w15 ⟨rfl, hb15⟩
        have HBe := Lib.hid (HBl.out.trans (hb15.mono HBl.out.size))
        clear hb15
        go_wp2_with fail
        go_ret
        exact ⟨rfl, HBe.out⟩
      obtain ⟨eN, heN⟩ : ∃ eN : Nat, eN = min N0 (sN + 64) := ⟨_, rfl⟩
      have HLe := Lib.hid (show l.length = N0 ∧ l.length ≤ now.length from ⟨hN, by have := HMx.out.1; have := HNow.out; omega⟩)
      have i0 : (sN : Int) < (N0 : Int) := by omega
      have i1 : min (N0 : Int) ((sN : Int) + 64) = (eN : Int) := by omega
      have i2 : (sN : Int) ≤ (eN : Int) := by omega
      have i3 : (0 : Int) ≤ (sN : Int) := by omega
      have i4 : (sN : Int) ≤ 1000 := by have := HNow.out; have := HLe.out; omega
      obtain ⟨gA, rfl, a1, a2⟩ := some_of (Hl14.out.grow hJ.out (fun _ _ e => e)) (by have := HLe.out; omega)
      obtain ⟨gB, rfl, b1, b2⟩ := some_of (Hn14.out.grow hJ.out (fun _ _ e => e)) (by have := HLe.out; omega)
      have hln : (was ++ List.replicate kz (0 : UInt8)).length = now.length := by
        rw [List.length_append, List.length_replicate]
        have := HNow.out; have := HKz.out; omega
      obtain ⟨gC, rfl, d1, d2⟩ := some_of (HO14.out.grow hJ.out (fun _ _ e => e)) (by rw [hln]; have := HLe.out; omega)
      have hN14 := HN14.out
      rw [hln] at hN14 d1
      have hO14 := HO14.out
      rw [hN14, ← hln] at hO14
      have e0 : eN ≤ l.length := by have := HLe.out; omega
      have hJn : ∀ n, Grow (fun _ => False) w14 (wr.drewN n) := fun n => hJ.out.trans ⟨rfl, rfl, rfl, Nat.le_refl _, fun _ _ _ => rfl⟩
      have cA := fun n => conv_sec (w := wr.drewN n) (s := sN) (Hl14.out.grow (hJn n) (fun _ _ e => e)) e0 (c12 - sN)
      have cB := fun n => conv_sec (w := wr.drewN n) (s := sN) (Hn14.out.grow (hJn n) (fun _ _ e => e)) (show eN ≤ now.length by have := HLe.out; omega) (c8 - sN)
      have cC := fun n => conv_sec (w := wr.drewN n) (s := sN) (hO14.grow (hJn n) (fun _ _ e => e)) (show eN ≤ _ by rw [hln]; have := HLe.out; omega) (c14 - sN)
      have j1 : (eN : Int) ≤ (N0 : Int) := by omega
      have j2 : (N0 : Int) ≤ (c12 : Int) := by have := HLe.out; omega
      have j3 : (eN : Int) ≤ (now.length : Int) := by have := HLe.out; omega
      have j4 : (now.length : Int) ≤ (c8 : Int) := by omega
      have j5 : (eN : Int) ≤ (N14 : Int) := by omega
      have j6 : (N14 : Int) ≤ (c14 : Int) := by omega
      have j7 : ¬ c12 = sN := by have := HLe.out; omega
      have j8 : ¬ c8 = sN := by have := HLe.out; omega
      have j9 : ¬ c14 = sN := by have := HLe.out; omega
      have k1 : (c12 : Int) ≤ 9223372036854775807 := by omega
      have k2 : (c8 : Int) ≤ 9223372036854775807 := by omega
      have k3 : (c14 : Int) ≤ 9223372036854775807 := by omega
      have k4 : (eN : Int) ≤ (c12 : Int) := by omega
      have k5 : (eN : Int) ≤ (c8 : Int) := by omega
      have k6 : (eN : Int) ≤ (c14 : Int) := by omega
      have hm := mix_cmp HMx.out.2 HLe.out.2 hsN e0 (show eN ≤ sN + 64 by omega)
      rw [← HKz.out.2] at hm
      generalize ((l.drop sN).take (eN - sN)) = LA at *
      generalize ((now.drop sN).take (eN - sN)) = LB at *
      generalize (((was ++ List.replicate kz (0 : UInt8)).drop sN).take (eN - sN)) = LC at *
      have HNx := Lib.hid (show (((k + 1) * 64 : Nat) : Int) = (sN : Int) + 64 by omega)
      have HBd := Lib.hid (show (k + 1) * 64 ≤ N0 + 63 ∧ sN < N0 by omega)
      clear hJn hk hlt heN hsN a1 a2 b1 b2 d1 d2 hln hN14 hO14 e0
      by_cases hAB : LA = LB
      · subst hAB
        clear hm
        go_wp2_with fail
        go_quiet (fail)
        have HE := Lib.hid (show Grow (fun _ => False) w14 (wr.drewN nq) from hJ.out.trans ⟨rfl, rfl, rfl, Nat.le_refl _, fun _ _ _ => rfl⟩)
        go_wp2_with fail
        refine ⟨⟨k + 1, HBd.out.1, by rw [HNx.out], HE⟩, ?_⟩
        simp only [intOf]
        have := HBd.out
        omega
      · have hAC : LA = LC := hm.resolve_left hAB
        subst hAC
        have m0 : ¬ (⟨LA.toArray⟩ : ByteArray) = ⟨LB.toArray⟩ := fun h => hAB (by injection h with h; simpa using h)
        have m2 : ((⟨LA.toArray⟩ : ByteArray) == ⟨LB.toArray⟩) = false := bytes_ne hAB
        have m1 : ((⟨LA.toArray⟩ : ByteArray) != ⟨LB.toArray⟩) = true := by unfold bne; rw [m2]; rfl
        clear hm
        go_wp2_with fail
        go_quiet (fail)
        have HE := Lib.hid (show Grow (fun _ => False) w14 (wr.drewN nq) from hJ.out.trans ⟨rfl, rfl, rfl, Nat.le_refl _, fun _ _ _ => rfl⟩)
        go_wp2_with fail
        refine ⟨⟨k + 1, HBd.out.1, by rw [HNx.out], HE⟩, ?_⟩
        simp only [intOf]
        have := HBd.out
        omega
set_option maxRecDepth 100000 in
set_option maxHeartbeats 8000000 in
theorem lsec_ll {w : World} {v0 v2 vk vs : Value} {l0 l2 : List UInt8} {x1 x3 : Int} (a0 : ArgD w.heap.size w v0 l0) (a2 : ArgD w.heap.size w v2 l2) (hk : RdT w vk) (hs : RdT w vs) (g0 : 400 < l0.length) (g2 : 400 < l2.length) :
    Calls Try.prog 4 #[v0, .int .i64 x1, v2, .agg #[.int .i64 x3, vk, vs]] w fun e w' => e = .returned (.bool true) ∧ Below w.heap.size w w' := by
  obtain ⟨p0, c0, rfl, hc0, hd0⟩ := a0.shp
  obtain ⟨p2, c2, rfl, hc2, hd2⟩ := a2.shp
  have g0' : (400 : Int) < (l0.length : Int) := by omega
  have g2' : (400 : Int) < (l2.length : Int) := by omega
  have k0 : (l0.length : Int) ≤ (c0 : Int) := by omega
  have k2 : (l2.length : Int) ≤ (c2 : Int) := by omega
  have k1 : (c0 : Int) ≤ 9223372036854775807 := by omega
  have k3 : (c2 : Int) ≤ 9223372036854775807 := by omega
  have k4 : (0 : Int) ≤ (l0.length : Int) := by omega
  have k5 : (0 : Int) ≤ (l2.length : Int) := by omega
  have k6 : (400 : Int) ≤ (c0 : Int) ∨ (l0.length : Int) ≤ 400 := by omega
  have k7 : (400 : Int) ≤ (c2 : Int) ∨ (l2.length : Int) ≤ 400 := by omega
  have HVk := Lib.hid hk
  have HVs := Lib.hid hs
  obtain ⟨was, N0, HWas⟩ : ∃ (was : List UInt8) (N : Nat), Hid ((ArgD w.heap.size w (.slice p0 N c0) was) ∧ was.length = N ∧ N ≤ 400 ∧ N = 400) := ⟨_, 400, Lib.hid ⟨(a0.cut (k := 400) (by omega) (by omega)).1, (a0.cut (k := 400) (by omega) (by omega)).2, Nat.le_refl _, rfl⟩⟩
  obtain ⟨b, HBs⟩ : ∃ b : List UInt8, Hid ((ArgD w.heap.size w (.slice p2 N0 c2) b) ∧ b.length = N0 ∧ N0 ≤ 400 ∧ N0 = 400) := by
    have e := HWas.out.2.2.2
    rw [e]
    exact ⟨_, Lib.hid ⟨(a2.cut (k := 400) (by omega) (by omega)).1, (a2.cut (k := 400) (by omega) (by omega)).2, Nat.le_refl _, rfl⟩⟩
  clear hk hs a0 a2
  go_enter Try.func4, Try.ntmps4
  go_wp2_with fail
  have hB0 := heap_alloc_new w (.cells #[.int .i64 x3, vk, vs] 26)
  have HGB := Lib.hid ((Grow.refl (fun _ => False) w).alloc (.cells #[.int .i64 x3, vk, vs] 26))
  have hsB : (w.alloc (.cells #[.int .i64 x3, vk, vs] 26)).heap.size = w.heap.size + 1 := by simp
  generalize w.alloc (.cells #[.int .i64 x3, vk, vs] 26) = wB at *
  have HB0 := Lib.hid hB0
  clear hB0
  refine (new_any wB 1000 (by decide) (by decide)).mono ?_
  rintro e w1 ⟨rfl, hn⟩
  have HS1 := Lib.hid (newDk_R hn)
  have HG1 := Lib.hid (HGB.out.trans (show Grow (fun _ => False) wB w1 from ⟨hn.below.os, hn.below.tape, hn.below.output, hn.below.size, fun k hk _ => hn.below.block k hk⟩))
  have HL1 := Lib.hid ((hn.below.block _ (Array.getElem?_eq_some_iff.1 HB0.out).1).trans HB0.out)
  have HN1 := Lib.hid (And.intro hsB hn.size)
  clear hn hsB HB0 HGB
  generalize wB.heap.size = n0 at *
  go_wp2_with fail
  rw [← HWas.out.2.2.2]
  clear g0 g2 g0' g2' k0 k1 k2 k3 k4 k5 k6 k7 hc0 hd0 hc2 hd2

  have HCr := Lib.hid (create_any ⟨#[102]⟩ HS1.out (by decide) (by decide) (by omega) (by omega) rfl rfl (by decide))
  refine HCr.out.mono ?_
  rintro e w2 ⟨rfl, chg, hS2, hF2, hg2⟩
  obtain ⟨g, HGe⟩ : ∃ g, Hid (g = w1.heap.size) := ⟨_, Lib.hid rfl⟩
  rw [← HGe.out] at hS2 hF2
  have hS2' : DkS n0 w2 (n0 + 4) n0 (n0 + 1) (n0 + 2) (n0 + 3) 1000 1 1 0 1 0 1 (oneM (.int .i64 0) (.pointer (some ⟨g, 0, none⟩))) (.map []) (oneM (.string [102]) (.int .i64 0)) (.map []) chg [.string ⟨#[]⟩, .string ⟨#[102]⟩, .int .i64 0] := hS2
  have hF2' : FileAt w2 g (.slice none 0 0) 0 (.slice none 0 0) := hF2
  have HC2 := Lib.hid (chg_ne hS2'.own hF2')
  have HGn := Lib.hid (show g = n0 + 5 ∧ n0 = w.heap.size + 1 ∧ g < w2.heap.size from ⟨by rw [HGe.out, HN1.out.2], HN1.out.1, (Array.getElem?_eq_some_iff.1 hF2').1⟩)
  have HG2 := Lib.hid (HG1.out.thenNew hg2 (by
    rintro i hi (e | e | e | e)
    · have := HGn.out; omega
    · have := HGn.out; omega
    · have := HGn.out; omega
    · cases e))
  have HL2 := Lib.hid ((hg2.block _ (Array.getElem?_eq_some_iff.1 HL1.out).1 (by
    rintro (e | e | e | e)
    · have := HGn.out; omega
    · have := HGn.out; omega
    · have := HGn.out; omega
    · cases e)).trans HL1.out)
  have HS2 := Lib.hid hS2'
  have HF2 := Lib.hid hF2'
  have HA2 := Lib.hid (HWas.out.1.same HG2.out (Nat.le_refl _))
  clear hS2 hF2 hS2' hF2' hg2 HCr HS1 HG1 HL1 HN1 HGe
  have hW2 := write_any (s := ⟨#[102]⟩) (nF := w2.heap.size) HS2.out (by decide) (Olds.empty w2 0) HF2.out (OwnF.nil w2.heap.size w2) (by simp) (by have := HGn.out; have := HC2.out; refine ⟨by omega, by omega, by omega, by omega, by omega, this⟩) (fun b hb => by cases hb) (by omega) HA2.out.rd HG2.out.size (Nat.le_refl _) (by have := HWas.out.2; omega) (fun b off n c e => ⟨by have := HA2.out.blk e; have := HGn.out; omega, by have := HA2.out.blk e; have := HGn.out; omega, fun h => by cases h⟩) HA2.out.cap 0 (Nat.le_refl _) (by decide)
  have HW := Lib.hid hW2
  clear hW2
  go_wp2_with fail
  refine HW.out.mono ?_
  rintro e w3 ⟨rfl, oo3, no3, i3, j3, fv3, wrn3, hno3, hj3, hS3, hg3, hO3, hF3, hf3, hw3, hb3⟩
  rw [put_nil] at hf3
  have HNo3 := Lib.hid hno3
  have HX3 := Lib.hid (fun b (hb : fv3.ownBlock = some b) => hf3.lt b hb)
  have HG3 := Lib.hid (HG2.out.thenNew hg3 (by
    rintro i hi (e | e | e)
    · have := HGn.out; omega
    · have := HGn.out; omega
    · cases e))
  have HL3 := Lib.hid ((hg3.block _ (Array.getElem?_eq_some_iff.1 HL2.out).1 (by
    rintro (e | e | e)
    · have := HGn.out; omega
    · have := HGn.out; omega
    · cases e)).trans HL2.out)
  have HSz3 := Lib.hid hg3.size
  have hSy := sync_any (s := ⟨#[102]⟩) hS3 (by decide) hO3 hF3 hf3 hw3 (by have := HGn.out; have := HC2.out; refine ⟨by omega, by omega, by omega, by omega, by omega, this⟩) (by have := HGn.out; omega) hj3
  have HSy := Lib.hid hSy
  have Hf3 := Lib.hid hf3
  clear hSy hno3 hj3 hS3 hg3 hO3 hF3 hf3 hw3 hb3 HW HS2 HF2 HG2 HL2 HA2
  go_wp2_with fail
  refine HSy.out.mono ?_
  rintro e w4 ⟨rfl, oo4, hS4, hO4, hF4, hg4⟩
  have HG4 := Lib.hid (HG3.out.thenNew hg4 (by
    rintro i hi (e | e)
    · have := HGn.out; omega
    · have := HGn.out; omega))
  have HL4 := Lib.hid ((hg4.block _ (Array.getElem?_eq_some_iff.1 HL3.out).1 (by
    rintro (e | e)
    · have := HGn.out; omega
    · have := HGn.out; omega)).trans HL3.out)
  have hf4 : OwnF w2.heap.size w4 fv3 was := Hf3.out.grow hg4 (fun k hk e => by
    have := (HX3.out k hk).1
    have := HGn.out
    rcases e with e | e <;> omega)
  have HSz4 := Lib.hid (Nat.le_trans HSz3.out hg4.size)
  have HSz4' := Lib.hid hg4.size
  have hSd := syncdir_any hS4 (by have := HGn.out; have := HSz4.out; omega)
  have HSd := Lib.hid hSd
  have HO4 := Lib.hid hO4
  have HF4 := Lib.hid hF4
  have Hf4 := Lib.hid hf4
  clear hSd hS4 hO4 hF4 hf4 hg4 HSy Hf3 HG3 HL3
  go_wp2_with fail
  refine HSd.out.mono ?_
  rintro e w5 ⟨rfl, X', hX', hS5, hg5⟩
  have HG5 := Lib.hid (HG4.out.thenNew hg5 (by rintro i hi e; have := HGn.out; omega))
  have HL5 := Lib.hid ((hg5.block _ (Array.getElem?_eq_some_iff.1 HL4.out).1 (by intro e; have := HGn.out; omega)).trans HL4.out)
  have HF5 := Lib.hid (HF4.out.grow hg5 (by have := HGn.out; omega))
  have Hf5 := Lib.hid (Hf4.out.grow hg5 (fun k hk e => by have := (HX3.out k hk).1; have := HGn.out; omega))
  have HO5 := Lib.hid (HO4.out.grow hg5 (fun k hk e => by have := HGn.out; omega))
  have HS5 := Lib.hid hS5
  have HX5 := Lib.hid (show w4.heap.size ≤ X' ∧ w2.heap.size ≤ w5.heap.size from ⟨hX', Nat.le_trans HSz4.out hg5.size⟩)
  clear hX' hS5 hg5 HSd HO4 HF4 Hf4 HG4 HL4
  obtain ⟨fp3, fc3, rfl⟩ := Hf5.out.shp

  by_cases hr : x1 < 0 ∨ (N0 : Int) < x1
  case pos =>
    have HWr := Lib.hid (write_range (s := ⟨#[102]⟩) (.slice p2 N0 c2) HS5.out (by decide) HF5.out Hf5.out (by have := HWas.out.2; omega) x1 (by rw [HWas.out.2.1]; exact hr))
    go_wp2_with fail
    refine HWr.out.mono ?_
    rintro e w6 ⟨rfl, hg6⟩
    have HB6 := Lib.hid ((HG5.out.trans hg6).below (Nat.le_refl _) (fun k e => e.elim))
    clear hg6 HWr
    by_cases hx : x1 < 0
    · clear hr
      go_wp2_with fail
      refine (alive_true w6).mono ?_
      rintro e w7 ⟨rfl, hb7⟩
      have HB7 := Lib.hid (HB6.out.trans (hb7.mono HB6.out.size))
      clear hb7
      go_wp2_with fail
      go_ret
      exact ⟨rfl, HB7.out⟩
    · have hx2 : (N0 : Int) < x1 := by omega
      clear hr
      go_wp2_with fail
      refine (alive_true w6).mono ?_
      rintro e w7 ⟨rfl, hb7⟩
      have HB7 := Lib.hid (HB6.out.trans (hb7.mono HB6.out.size))
      clear hb7
      go_wp2_with fail
      go_ret
      exact ⟨rfl, HB7.out⟩
  obtain ⟨at_, rfl⟩ : ∃ at_ : Nat, x1 = (at_ : Int) := Int.eq_ofNat_of_zero_le (by omega)
  have hat : at_ ≤ was.length := by have := HWas.out.2.1; omega
  have HBs5 := Lib.hid (HBs.out.1.same HG5.out (Nat.le_refl _))
  have HW6 := Lib.hid (write_any (s := ⟨#[102]⟩) HS5.out (by decide) HO5.out HF5.out Hf5.out (by have := HWas.out.2; omega) (by have := HGn.out; have := HX5.out; have := HSz4.out; refine ⟨by omega, by omega, by omega, by omega, by omega, fun h => by cases h⟩)
    (fun b hb => by have := HX3.out b hb; have := HGn.out; have := HX5.out; have := HSz4'.out; refine ⟨by omega, by omega, by omega, by omega, by omega, by omega, fun h => by cases h⟩) (by have := HNo3.out; omega) HBs5.out.rd HG5.out.size HX5.out.2 (by have := HBs.out.2; omega)
    (fun b off n c e => ⟨by have := HBs5.out.blk e; have := HGn.out; omega, by have := HBs5.out.blk e; have := HGn.out; omega, fun h => by have := HBs5.out.blk e; have := HX3.out b h; have := HGn.out; omega⟩) HBs5.out.cap at_ hat (by decide))
  have HAt := Lib.hid hat
  clear hr hat
  go_wp2_with fail
  refine HW6.out.mono ?_
  rintro e w6 ⟨rfl, oo6, no6, i6, j6, fv6, wrn6, hno6, hj6, hS6, hg6, hO6, hF6, hf6, hw6, hb6⟩
  have hnl := put_len (B := b) HAt.out
  generalize put_ was b at_ = now at *
  have HNow := Lib.hid (show was.length ≤ now.length ∧ now.length ≤ 1000 from by have := HWas.out.2; have := HBs.out.2; have := HAt.out; omega)
  have HNo6 := Lib.hid (show no6 ≤ 1000000 by have := HNo3.out; omega)
  have hN6 : ∀ i, i < w.heap.size → ¬ (i = n0 + 1 ∨ i = g ∨ (Value.slice fp3 was.length fc3).ownBlock = some i) := by
    rintro i hi (e | e | e)
    · have := HGn.out; omega
    · have := HGn.out; omega
    · have := HX3.out i e; have := HGn.out; omega
  have HG6 := Lib.hid (HG5.out.thenNew hg6 hN6)
  have HL6 := Lib.hid ((hg6.block _ (Array.getElem?_eq_some_iff.1 HL5.out).1 (by
    rintro (e | e | e)
    · have := HGn.out; omega
    · have := HGn.out; omega
    · have := HX3.out _ e; have := HGn.out; omega)).trans HL5.out)
  have HS6 := Lib.hid hS6
  have HF6 := Lib.hid hF6
  have Hf6 := Lib.hid hf6
  have HO6 := Lib.hid hO6
  clear hno6 hj6 hS6 hg6 hO6 hF6 hf6 hw6 hb6 hnl hN6 HW6 HS5 HF5 Hf5 HO5 HG5 HL5
  go_wp2_with fail
  refine (size_any (s := ⟨#[102]⟩) HS6.out (by decide) HF6.out Hf6.out).mono ?_
  rintro e w7 ⟨rfl, hg7⟩
  have HG7 := Lib.hid (HG6.out.trans hg7)
  have HL7 := Lib.hid ((hg7.block _ (Array.getElem?_eq_some_iff.1 HL6.out).1 (fun e => e)).trans HL6.out)
  have HS7 := Lib.hid (HS6.out.same hg7)
  have HF7 := Lib.hid (HF6.out.grow hg7 (fun e => e))
  have Hf7 := Lib.hid (Hf6.out.grow hg7 (fun _ _ e => e))
  have HO7 := Lib.hid (HO6.out.same hg7)
  clear hg7 HS6 HF6 Hf6 HO6 HG6 HL6
  go_wp2_with fail
  refine (read_full (s := ⟨#[102]⟩) HS7.out (by decide) HF7.out Hf7.out (by have := HNow.out; omega)).mono ?_
  rintro e w8 ⟨v8, rfl, ho8, hg8⟩
  have HG8 := Lib.hid (HG7.out.trans hg8)
  have HL8 := Lib.hid ((hg8.block _ (Array.getElem?_eq_some_iff.1 HL7.out).1 (fun e => e)).trans HL7.out)
  have HS8 := Lib.hid (HS7.out.same hg8)
  have HF8 := Lib.hid (HF7.out.grow hg8 (fun e => e))
  have Hf8 := Lib.hid (Hf7.out.grow hg8 (fun _ _ e => e))
  have HO8 := Lib.hid (HO7.out.same hg8)
  have Ho8 := Lib.hid ho8
  have HSz7 := Lib.hid (show w.heap.size < w7.heap.size from (Array.getElem?_eq_some_iff.1 HL7.out).1)
  obtain ⟨p8, c8, rfl⟩ := ho8.shp
  clear ho8 hg8 HS7 HF7 Hf7 HO7 HL7
  obtain ⟨q0, q1, q2⟩ := lossCells HL8.out
  have qf := frozen_of_row w8 w.heap.size 0 _ _ HL8.out
  have ql := (Array.getElem?_eq_some_iff.1 HL8.out).1
  have g89 : Grow (fun k => k = w.heap.size) w8 (w8.setCell ⟨w.heap.size, 0, none⟩ (.int .i64 0)) := (Grow.refl _ w8).setCell _ _ (fun _ => rfl)
  have HG9 := Lib.hid (HG8.out.thenNew g89 (fun i hi e => by omega))
  have HS9 := Lib.hid (HS8.out.grow g89 (by have := HGn.out; omega) (by have := HGn.out; omega) (by have := HGn.out; omega) (by have := HGn.out; omega) (by have := HGn.out; have := HX5.out; have := HSz4.out; omega) (fun k hk => by cases hk))
  have HF9 := Lib.hid (HF8.out.grow g89 (by have := HGn.out; omega))
  have Hf9 := Lib.hid (Hf8.out.grow g89 (fun k hk e => by have := (Hf8.out.lt k hk).1; have := HGn.out; omega))
  have HO9 := Lib.hid (HO8.out.grow g89 (fun k hk e => by have := HX5.out; have := HGn.out; omega))
  have Ho9 := Lib.hid (Ho8.out.grow g89 (fun k hk e => by have := (Ho8.out.lt k hk).1; have := HSz7.out; omega))
  have HL9 := Lib.hid (show (w8.setCell ⟨w.heap.size, 0, none⟩ (.int .i64 0)).heap[w.heap.size]? = some (.cells #[.int .i64 0, vk, vs] 26 (0, 0)) from by
    rw [Go.heap_setCell_same w8 w.heap.size 0 _ _ (.int .i64 0) HL8.out]; rfl)
  obtain ⟨r0, r1, r2⟩ := lossCells HL9.out
  have ql9 := (Array.getElem?_eq_some_iff.1 HL9.out).1
  clear g89
  go_wp2_with fail

  clear q0 q1 q2 qf ql r0 r1 r2 ql9 HS8 HF8 Hf8 HO8 Ho8 HL8 HG8
  generalize w8.setCell ⟨w.heap.size, 0, none⟩ (.int .i64 0) = w9 at *
  have HLz := Lib.hid (lose_gen (n1 := w5.heap.size) HS9.out HO9.out HNo6.out HF9.out Hf9.out HNow.out.1 (by have := HNow.out.2; omega) (HVk.out.same HG9.out) (HVs.out.same HG9.out))
  refine HLz.out.mono ?_
  rintro e w10 ⟨d2, F2, O2, D2, X2, g2, fv2, nx2, next2, z2, l, rfl, hS10, hF10, hf10, hlen, hmix, hg10⟩
  have HG10 := Lib.hid (HG9.out.trans hg10)
  have Ho10 := Lib.hid (Ho9.out.grow hg10 (fun _ _ e => e))
  have HS10 := Lib.hid hS10
  have HF10 := Lib.hid hF10
  have Hf10 := Lib.hid hf10
  have HMx := Lib.hid (And.intro hlen hmix)
  clear hS10 hF10 hf10 hlen hmix hg10 HLz HG9 HS9 HF9 Hf9 HO9 Ho9 HL9
  go_wp2_with fail
  refine (size_any (s := ⟨#[102]⟩) HS10.out (by decide) HF10.out Hf10.out).mono ?_
  rintro e w11 ⟨rfl, hg11⟩
  have HG11 := Lib.hid (HG10.out.trans hg11)
  have Ho11 := Lib.hid (Ho10.out.grow hg11 (fun _ _ e => e))
  have HS11 := Lib.hid (HS10.out.same hg11)
  have HF11 := Lib.hid (HF10.out.grow hg11 (fun e => e))
  have Hf11 := Lib.hid (Hf10.out.grow hg11 (fun _ _ e => e))
  clear hg11 HG10 Ho10 HS10 HF10 Hf10
  have HLl := Lib.hid (show l.length ≤ 1000 from by have := HMx.out.1; have := HNow.out; omega)
  go_wp2_with fail
  refine (read_full (s := ⟨#[102]⟩) HS11.out (by decide) HF11.out Hf11.out (by have := HLl.out; omega)).mono ?_
  rintro e w12 ⟨v12, rfl, ho12, hg12⟩
  have HG12 := Lib.hid (HG11.out.trans hg12)
  have Ho12 := Lib.hid (Ho11.out.grow hg12 (fun _ _ e => e))
  have Hg12 := Lib.hid ho12
  have HA12 := Lib.hid (HWas.out.1.same HG12.out (Nat.le_refl _))
  obtain ⟨p12, c12, rfl⟩ := ho12.shp
  have s0 : ¬ (now.length : Int) < (N0 : Int) := by have := HNow.out; have := HWas.out.2.1; omega
  have s1 : (N0 : Int) ≤ 400 := by have := HWas.out.2; omega
  have s2 : (now.length : Int) ≤ 1000 := by have := HNow.out; omega
  clear ho12 hg12 HG11 Ho11 HS11 HF11 Hf11
  by_cases hn : l.length = now.length
  · rw [hn]
    obtain ⟨kz, hkz⟩ : ∃ kz : Nat, kz = now.length - N0 := ⟨_, rfl⟩
    have hkI : (now.length : Int) - (N0 : Int) = (kz : Int) := by have := HNow.out; have := HWas.out.2.1; omega
    have HKz := Lib.hid (show kz ≤ 1000 ∧ kz = now.length - was.length by have := HNow.out; have := HWas.out.2.1; omega)
    have Hbs := Lib.hid (show OwnF w12.heap.size (w12.alloc (.cells #[] 5)) (.slice (some ⟨w12.heap.size, 0, none⟩) 0 0) [] from World.ownsRow_made w12 #[] 0 (Nat.le_refl _) (by decide) rfl)
    have HA13 := Lib.hid (HA12.out.same ((Grow.refl _ w12).alloc (.cells #[] 5)) HG12.out.size).rd
    have hsz : (w12.alloc (.cells #[] 5)).heap.size = w12.heap.size + 1 := by simp
    have HSz := Lib.hid (show w12.heap.size ≤ (w12.alloc (.cells #[] 5)).heap.size by rw [hsz]; omega)
    clear hkz hsz
    go_wp2_with (first
      | (at_builtin; refine wpList_appB rfl (.tmp 137) (.tmp 138) rfl rfl rfl Hbs.out HA13.out (by have := HWas.out.2; simp; omega) HSz.out ?_; intro v13 w13 ho13 hgr13 _; rw [List.nil_append] at ho13; have g13 : Grow (fun k => w12.heap.size ≤ k) w12 w13 := ((Grow.refl _ w12).alloc _).trans (Grow.of_grown hgr13 (fun k e _ => by cases e; exact Nat.le_refl _)); obtain ⟨v14, w14, hrun14, ho14, hgr14⟩ := run_zerosB 22 ho13 kz (by have := HKz.out; have := HWas.out.2; omega) g13.size; have g14 : Grow (fun k => w12.heap.size ≤ k) w12 w14 := g13.trans (Grow.of_grown hgr14 (fun k e _ => (ho13.lt k e).1)); obtain ⟨p14, N14, c14, rfl, hN14⟩ : ∃ p N c, v14 = .slice p N c ∧ N = (was ++ List.replicate kz 0).length := (by obtain ⟨p, c, e⟩ := ho14.shp; exact ⟨p, _, c, e, rfl⟩); have HR14 := Lib.hid hrun14; have HN14 := Lib.hid hN14; have HO14 := Lib.hid ho14; have HG14 := Lib.hid g14; clear hrun14 hN14 ho14 g14 hgr14 g13 hgr13 ho13)
      | (at_builtin; refine Lib.wpList_append_run w13 rfl (.tmp 139) (.tmp 143) 22 3 rfl _ _ rfl rfl _ w14 HR14.out ?_))
    have HGw := Lib.hid (HG12.out.thenNew HG14.out (fun i hi e => by have := HG12.out.size; omega))
    have Hn14 := Lib.hid (Ho12.out.grow HG14.out (fun k hk e => by have := (Ho12.out.lt k hk).2; omega))
    have Hl14 := Lib.hid (Hg12.out.grow HG14.out (fun k hk e => by have := (Hg12.out.lt k hk).2; omega))
    clear HR14 HG14 Hbs HA13 HSz hkI Ho12 Hg12 HA12 HG12
    go_loopw [22] (fun i wr => ∃ k : Nat, k * 64 ≤ now.length + 63 ∧ i = .int .i64 ((k * 64 : Nat) : Int) ∧ Hid (Grow (fun _ => False) w14 wr)) (fun i _ => now.length + 64 - (intOf i).toNat)
    case atStart => exact ⟨0, by omega, rfl, Lib.hid (Grow.refl _ _)⟩
    case round =>
      obtain ⟨k, hk, rfl, hJ⟩ := hrel
      obtain ⟨sN, hsN⟩ : ∃ sN : Nat, sN = k * 64 := ⟨_, rfl⟩
      rw [← hsN] at hk ⊢
      by_cases hlt : sN < now.length
      case neg =>
        have i0 : ¬ (sN : Int) < (now.length : Int) := by omega
        have HBl := Lib.hid ((HGw.out.trans hJ.out).below (Nat.le_refl _) (fun k e => e.elim))
        go_wp2_with fail
        refine (alive_true wr).mono ?_
        rintro e w15 ⟨rfl, hb15⟩
        have HBe := Lib.hid (HBl.out.trans (hb15.mono HBl.out.size))
        clear hb15
        go_wp2_with fail
        go_ret
        exact ⟨rfl, HBe.out⟩
      obtain ⟨eN, heN⟩ : ∃ eN : Nat, eN = min now.length (sN + 64) := ⟨_, rfl⟩
      have HLe := Lib.hid (show l.length = now.length ∧ l.length ≤ now.length from ⟨hn, by have := HMx.out.1; have := HNow.out; omega⟩)
      have i0 : (sN : Int) < (now.length : Int) := by omega
      have i1 : min (now.length : Int) ((sN : Int) + 64) = (eN : Int) := by omega
      have i2 : (sN : Int) ≤ (eN : Int) := by omega
      have i3 : (0 : Int) ≤ (sN : Int) := by omega
      have i4 : (sN : Int) ≤ 1000 := by have := HNow.out; have := HLe.out; omega
      obtain ⟨gA, rfl, a1, a2⟩ := some_of (Hl14.out.grow hJ.out (fun _ _ e => e)) (by have := HLe.out; omega)
      obtain ⟨gB, rfl, b1, b2⟩ := some_of (Hn14.out.grow hJ.out (fun _ _ e => e)) (by have := HLe.out; omega)
      have hln : (was ++ List.replicate kz (0 : UInt8)).length = now.length := by
        rw [List.length_append, List.length_replicate]
        have := HNow.out; have := HKz.out; omega
      obtain ⟨gC, rfl, d1, d2⟩ := some_of (HO14.out.grow hJ.out (fun _ _ e => e)) (by rw [hln]; have := HLe.out; omega)
      have hN14 := HN14.out
      rw [hln] at hN14 d1
      have hO14 := HO14.out
      rw [hN14, ← hln] at hO14
      have e0 : eN ≤ l.length := by have := HLe.out; omega
      have hJn : ∀ n, Grow (fun _ => False) w14 (wr.drewN n) := fun n => hJ.out.trans ⟨rfl, rfl, rfl, Nat.le_refl _, fun _ _ _ => rfl⟩
      have cA := fun n => conv_sec (w := wr.drewN n) (s := sN) (Hl14.out.grow (hJn n) (fun _ _ e => e)) e0 (c12 - sN)
      have cB := fun n => conv_sec (w := wr.drewN n) (s := sN) (Hn14.out.grow (hJn n) (fun _ _ e => e)) (show eN ≤ now.length by have := HLe.out; omega) (c8 - sN)
      have cC := fun n => conv_sec (w := wr.drewN n) (s := sN) (hO14.grow (hJn n) (fun _ _ e => e)) (show eN ≤ _ by rw [hln]; have := HLe.out; omega) (c14 - sN)
      have j1 : (eN : Int) ≤ (now.length : Int) := by omega
      have j2 : (now.length : Int) ≤ (c12 : Int) := by have := HLe.out; omega
      have j3 : (eN : Int) ≤ (now.length : Int) := by have := HLe.out; omega
      have j4 : (now.length : Int) ≤ (c8 : Int) := by omega
      have j5 : (eN : Int) ≤ (N14 : Int) := by omega
      have j6 : (N14 : Int) ≤ (c14 : Int) := by omega
      have j7 : ¬ c12 = sN := by have := HLe.out; omega
      have j8 : ¬ c8 = sN := by have := HLe.out; omega
      have j9 : ¬ c14 = sN := by have := HLe.out; omega
      have k1 : (c12 : Int) ≤ 9223372036854775807 := by omega
      have k2 : (c8 : Int) ≤ 9223372036854775807 := by omega
      have k3 : (c14 : Int) ≤ 9223372036854775807 := by omega
      have k4 : (eN : Int) ≤ (c12 : Int) := by omega
      have k5 : (eN : Int) ≤ (c8 : Int) := by omega
      have k6 : (eN : Int) ≤ (c14 : Int) := by omega
      have hm := mix_cmp HMx.out.2 HLe.out.2 hsN e0 (show eN ≤ sN + 64 by omega)
      rw [← HKz.out.2] at hm
      generalize ((l.drop sN).take (eN - sN)) = LA at *
      generalize ((now.drop sN).take (eN - sN)) = LB at *
      generalize (((was ++ List.replicate kz (0 : UInt8)).drop sN).take (eN - sN)) = LC at *
      have HNx := Lib.hid (show (((k + 1) * 64 : Nat) : Int) = (sN : Int) + 64 by omega)
      have HBd := Lib.hid (show (k + 1) * 64 ≤ now.length + 63 ∧ sN < now.length by omega)
      clear hJn hk hlt heN hsN a1 a2 b1 b2 d1 d2 hln hN14 hO14 e0
      by_cases hAB : LA = LB
      · subst hAB
        clear hm
        go_wp2_with fail
        go_quiet (fail)
        have HE := Lib.hid (show Grow (fun _ => False) w14 (wr.drewN nq) from hJ.out.trans ⟨rfl, rfl, rfl, Nat.le_refl _, fun _ _ _ => rfl⟩)
        go_wp2_with fail
        refine ⟨⟨k + 1, HBd.out.1, by rw [HNx.out], HE⟩, ?_⟩
        simp only [intOf]
        have := HBd.out
        omega
      · have hAC : LA = LC := hm.resolve_left hAB
        subst hAC
        have m0 : ¬ (⟨LA.toArray⟩ : ByteArray) = ⟨LB.toArray⟩ := fun h => hAB (by injection h with h; simpa using h)
        have m2 : ((⟨LA.toArray⟩ : ByteArray) == ⟨LB.toArray⟩) = false := bytes_ne hAB
        have m1 : ((⟨LA.toArray⟩ : ByteArray) != ⟨LB.toArray⟩) = true := by unfold bne; rw [m2]; rfl
        clear hm
        go_wp2_with fail
        go_quiet (fail)
        have HE := Lib.hid (show Grow (fun _ => False) w14 (wr.drewN nq) from hJ.out.trans ⟨rfl, rfl, rfl, Nat.le_refl _, fun _ _ _ => rfl⟩)
        go_wp2_with fail
        refine ⟨⟨k + 1, HBd.out.1, by rw [HNx.out], HE⟩, ?_⟩
        simp only [intOf]
        have := HBd.out
        omega
  · have hN : l.length = N0 := by have := HMx.out.1; have := HWas.out.2.1; omega
    rw [hN]
    have t0 : ¬ (N0 : Int) = (now.length : Int) := by omega
    have t1 : ((N0 : Int) != (now.length : Int)) = true := by simpa using t0
    have t2 : ((N0 : Int) == (now.length : Int)) = false := by simpa using t0
    obtain ⟨kz, hkz⟩ : ∃ kz : Nat, kz = now.length - N0 := ⟨_, rfl⟩
    have hkI : (now.length : Int) - (N0 : Int) = (kz : Int) := by have := HNow.out; have := HWas.out.2.1; omega
    have HKz := Lib.hid (show kz ≤ 1000 ∧ kz = now.length - was.length by have := HNow.out; have := HWas.out.2.1; omega)
    have Hbs := Lib.hid (show OwnF w12.heap.size (w12.alloc (.cells #[] 5)) (.slice (some ⟨w12.heap.size, 0, none⟩) 0 0) [] from World.ownsRow_made w12 #[] 0 (Nat.le_refl _) (by decide) rfl)
    have HA13 := Lib.hid (HA12.out.same ((Grow.refl _ w12).alloc (.cells #[] 5)) HG12.out.size).rd
    have hsz : (w12.alloc (.cells #[] 5)).heap.size = w12.heap.size + 1 := by simp
    have HSz := Lib.hid (show w12.heap.size ≤ (w12.alloc (.cells #[] 5)).heap.size by rw [hsz]; omega)
    clear hkz hsz
    go_wp2_with (first
      | (at_builtin; refine wpList_appB rfl (.tmp 137) (.tmp 138) rfl rfl rfl Hbs.out HA13.out (by have := HWas.out.2; simp; omega) HSz.out ?_; intro v13 w13 ho13 hgr13 _; rw [List.nil_append] at ho13; have g13 : Grow (fun k => w12.heap.size ≤ k) w12 w13 := ((Grow.refl _ w12).alloc _).trans (Grow.of_grown hgr13 (fun k e _ => by cases e; exact Nat.le_refl _)); obtain ⟨v14, w14, hrun14, ho14, hgr14⟩ := run_zerosB 22 ho13 kz (by have := HKz.out; have := HWas.out.2; omega) g13.size; have g14 : Grow (fun k => w12.heap.size ≤ k) w12 w14 := g13.trans (Grow.of_grown hgr14 (fun k e _ => (ho13.lt k e).1)); obtain ⟨p14, N14, c14, rfl, hN14⟩ : ∃ p N c, v14 = .slice p N c ∧ N = (was ++ List.replicate kz 0).length := (by obtain ⟨p, c, e⟩ := ho14.shp; exact ⟨p, _, c, e, rfl⟩); have HR14 := Lib.hid hrun14; have HN14 := Lib.hid hN14; have HO14 := Lib.hid ho14; have HG14 := Lib.hid g14; clear hrun14 hN14 ho14 g14 hgr14 g13 hgr13 ho13)
      | (at_builtin; refine Lib.wpList_append_run w13 rfl (.tmp 139) (.tmp 143) 22 3 rfl _ _ rfl rfl _ w14 HR14.out ?_))
    have HGw := Lib.hid (HG12.out.thenNew HG14.out (fun i hi e => by have := HG12.out.size; omega))
    have Hn14 := Lib.hid (Ho12.out.grow HG14.out (fun k hk e => by have := (Ho12.out.lt k hk).2; omega))
    have Hl14 := Lib.hid (Hg12.out.grow HG14.out (fun k hk e => by have := (Hg12.out.lt k hk).2; omega))
    clear HR14 HG14 Hbs HA13 HSz hkI Ho12 Hg12 HA12 HG12
    go_loopw [22] (fun i wr => ∃ k : Nat, k * 64 ≤ N0 + 63 ∧ i = .int .i64 ((k * 64 : Nat) : Int) ∧ Hid (Grow (fun _ => False) w14 wr)) (fun i _ => N0 + 64 - (intOf i).toNat)
    case atStart => exact ⟨0, by omega, rfl, Lib.hid (Grow.refl _ _)⟩
    case round =>
      obtain ⟨k, hk, rfl, hJ⟩ := hrel
      obtain ⟨sN, hsN⟩ : ∃ sN : Nat, sN = k * 64 := ⟨_, rfl⟩
      rw [← hsN] at hk ⊢
      by_cases hlt : sN < N0
      case neg =>
        have i0 : ¬ (sN : Int) < (N0 : Int) := by omega
        have HBl := Lib.hid ((HGw.out.trans hJ.out).below (Nat.le_refl _) (fun k e => e.elim))
        go_wp2_with fail
        refine (alive_true wr).mono ?_
        rintro e w15 ⟨rfl, hb15⟩
        have HBe := Lib.hid (HBl.out.trans (hb15.mono HBl.out.size))
        clear hb15
        go_wp2_with fail
        go_ret
        exact ⟨rfl, HBe.out⟩
      obtain ⟨eN, heN⟩ : ∃ eN : Nat, eN = min N0 (sN + 64) := ⟨_, rfl⟩
      have HLe := Lib.hid (show l.length = N0 ∧ l.length ≤ now.length from ⟨hN, by have := HMx.out.1; have := HNow.out; omega⟩)
      have i0 : (sN : Int) < (N0 : Int) := by omega
      have i1 : min (N0 : Int) ((sN : Int) + 64) = (eN : Int) := by omega
      have i2 : (sN : Int) ≤ (eN : Int) := by omega
      have i3 : (0 : Int) ≤ (sN : Int) := by omega
      have i4 : (sN : Int) ≤ 1000 := by have := HNow.out; have := HLe.out; omega
      obtain ⟨gA, rfl, a1, a2⟩ := some_of (Hl14.out.grow hJ.out (fun _ _ e => e)) (by have := HLe.out; omega)
      obtain ⟨gB, rfl, b1, b2⟩ := some_of (Hn14.out.grow hJ.out (fun _ _ e => e)) (by have := HLe.out; omega)
      have hln : (was ++ List.replicate kz (0 : UInt8)).length = now.length := by
        rw [List.length_append, List.length_replicate]
        have := HNow.out; have := HKz.out; omega
      obtain ⟨gC, rfl, d1, d2⟩ := some_of (HO14.out.grow hJ.out (fun _ _ e => e)) (by rw [hln]; have := HLe.out; omega)
      have hN14 := HN14.out
      rw [hln] at hN14 d1
      have hO14 := HO14.out
      rw [hN14, ← hln] at hO14
      have e0 : eN ≤ l.length := by have := HLe.out; omega
      have hJn : ∀ n, Grow (fun _ => False) w14 (wr.drewN n) := fun n => hJ.out.trans ⟨rfl, rfl, rfl, Nat.le_refl _, fun _ _ _ => rfl⟩
      have cA := fun n => conv_sec (w := wr.drewN n) (s := sN) (Hl14.out.grow (hJn n) (fun _ _ e => e)) e0 (c12 - sN)
      have cB := fun n => conv_sec (w := wr.drewN n) (s := sN) (Hn14.out.grow (hJn n) (fun _ _ e => e)) (show eN ≤ now.length by have := HLe.out; omega) (c8 - sN)
      have cC := fun n => conv_sec (w := wr.drewN n) (s := sN) (hO14.grow (hJn n) (fun _ _ e => e)) (show eN ≤ _ by rw [hln]; have := HLe.out; omega) (c14 - sN)
      have j1 : (eN : Int) ≤ (N0 : Int) := by omega
      have j2 : (N0 : Int) ≤ (c12 : Int) := by have := HLe.out; omega
      have j3 : (eN : Int) ≤ (now.length : Int) := by have := HLe.out; omega
      have j4 : (now.length : Int) ≤ (c8 : Int) := by omega
      have j5 : (eN : Int) ≤ (N14 : Int) := by omega
      have j6 : (N14 : Int) ≤ (c14 : Int) := by omega
      have j7 : ¬ c12 = sN := by have := HLe.out; omega
      have j8 : ¬ c8 = sN := by have := HLe.out; omega
      have j9 : ¬ c14 = sN := by have := HLe.out; omega
      have k1 : (c12 : Int) ≤ 9223372036854775807 := by omega
      have k2 : (c8 : Int) ≤ 9223372036854775807 := by omega
      have k3 : (c14 : Int) ≤ 9223372036854775807 := by omega
      have k4 : (eN : Int) ≤ (c12 : Int) := by omega
      have k5 : (eN : Int) ≤ (c8 : Int) := by omega
      have k6 : (eN : Int) ≤ (c14 : Int) := by omega
      have hm := mix_cmp HMx.out.2 HLe.out.2 hsN e0 (show eN ≤ sN + 64 by omega)
      rw [← HKz.out.2] at hm
      generalize ((l.drop sN).take (eN - sN)) = LA at *
      generalize ((now.drop sN).take (eN - sN)) = LB at *
      generalize (((was ++ List.replicate kz (0 : UInt8)).drop sN).take (eN - sN)) = LC at *
      have HNx := Lib.hid (show (((k + 1) * 64 : Nat) : Int) = (sN : Int) + 64 by omega)
      have HBd := Lib.hid (show (k + 1) * 64 ≤ N0 + 63 ∧ sN < N0 by omega)
      clear hJn hk hlt heN hsN a1 a2 b1 b2 d1 d2 hln hN14 hO14 e0
      by_cases hAB : LA = LB
      · subst hAB
        clear hm
        go_wp2_with fail
        go_quiet (fail)
        have HE := Lib.hid (show Grow (fun _ => False) w14 (wr.drewN nq) from hJ.out.trans ⟨rfl, rfl, rfl, Nat.le_refl _, fun _ _ _ => rfl⟩)
        go_wp2_with fail
        refine ⟨⟨k + 1, HBd.out.1, by rw [HNx.out], HE⟩, ?_⟩
        simp only [intOf]
        have := HBd.out
        omega
      · have hAC : LA = LC := hm.resolve_left hAB
        subst hAC
        have m0 : ¬ (⟨LA.toArray⟩ : ByteArray) = ⟨LB.toArray⟩ := fun h => hAB (by injection h with h; simpa using h)
        have m2 : ((⟨LA.toArray⟩ : ByteArray) == ⟨LB.toArray⟩) = false := bytes_ne hAB
        have m1 : ((⟨LA.toArray⟩ : ByteArray) != ⟨LB.toArray⟩) = true := by unfold bne; rw [m2]; rfl
        clear hm
        go_wp2_with fail
        go_quiet (fail)
        have HE := Lib.hid (show Grow (fun _ => False) w14 (wr.drewN nq) from hJ.out.trans ⟨rfl, rfl, rfl, Nat.le_refl _, fun _ _ _ => rfl⟩)
        go_wp2_with fail
        refine ⟨⟨k + 1, HBd.out.1, by rw [HNx.out], HE⟩, ?_⟩
        simp only [intOf]
        have := HBd.out
        omega
end Go.Proofs.Ytnmeehhjfcciiaa
