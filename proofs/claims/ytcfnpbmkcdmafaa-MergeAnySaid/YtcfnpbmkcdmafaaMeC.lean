/-
  The walk of MergeAny.
-/
import Derived.Test.YtcfnpbmkcdmafaaMdW
import Derived.Test.YtcfnpbmkcdmafaaMeB
namespace Go.Proofs.Ytcfnpbmkcdmafaa
open Go Go.RowKit Go.Shelf

set_option maxRecDepth 100000 in
set_option maxHeartbeats 40000000 in
theorem lany (va : Value) (LL0 : List (List Ct)) (w : World) (ha : RowsCt (fun b => b < w.heap.size) w va LL0) (hI0 : ∀ L ∈ LL0, AllI L) :
    Calls Try.prog 10 #[va] w fun e w' => e = .returned (.bool true) ∧ Below w.heap.size w w' := by
  have HCut := Lib.hid (counted_any ha)
  clear ha
  go_enter Try.func10, Try.ntmps10
  go_wp2_with fail
  refine HCut.out.mono ?_
  rintro e W1 ⟨v1, rfl, hr, hb1⟩
  obtain ⟨LL, hLL⟩ : ∃ LL, LL = cutC LL0 := ⟨_, rfl⟩
  have hI : ∀ L ∈ LL, AllI L := fun L hL => by
    rw [hLL] at hL
    unfold cutC at hL
    obtain ⟨M, hM, rfl⟩ := List.mem_map.1 hL
    exact fun x hx => hI0 M (List.mem_of_mem_take hM) x (List.mem_of_mem_take hx)
  obtain ⟨f1, f2, f3⟩ := cutC_facts LL0
  rw [← hLL] at hr f1 f2 f3
  have hri : RowsCt (fun k => k < W1.heap.size) W1 v1 LL := hr.in_ (fun k e => Nat.lt_of_lt_of_le e.2 hb1.size) (fun k e => (hr.lt k e).2)
  have HSh := Lib.hid hr.shape
  have HR := Lib.hid (fun W (hb : Below W1.heap.size W1 W) => hri.below hb)
  have HF := Lib.hid (And.intro f1 (And.intro f2 (And.intro f3 hI)))
  have HB1 := Lib.hid hb1
  obtain ⟨p1, c1, rfl, hc1, -⟩ := id hri
  have HC1 := Lib.hid hc1
  clear hr hLL hri hb1 HCut f2 f3 hI hI0 hc1
  have B1 := Lib.hid (Below.refl W1.heap.size W1)
  go_wp2_with fail
  go_loopw [3] (fun i wr => ∃ n : Nat, n ≤ LL.length ∧ i = .int .i64 n ∧ Hid ((∀ j (_ : j < n) (h' : j < LL.length), RiseC LL[j]) ∧ Below W1.heap.size W1 wr)) (fun i _ => LL.length - (intOf i).toNat)
  case atStart => exact ⟨0, Nat.zero_le _, rfl, Lib.hid ⟨fun j h => by omega, B1.out⟩⟩
  case round =>
    obtain ⟨n, hn, rfl, HJ⟩ := hrel
    by_cases hlt : n < LL.length
    · have hlt' : (n : Int) < (LL.length : Int) := by omega
      have hn63 : (n : Int) + 1 ≤ 1000 := by omega
      obtain ⟨b, off, rfl, -, hbl0, hrows⟩ := (HR.out _ B1.out).rows (by rintro rfl; simp at hlt)
      obtain ⟨pu, cu, hcell0, hth0⟩ := hrows n hlt
      obtain ⟨L, hL⟩ : ∃ L, L = LL[n] := ⟨_, rfl⟩
      have hLl : L.length ≤ 30 := by rw [hL]; exact HF.out.2.1 _ (List.getElem_mem _)
      rw [← hL] at hcell0 hth0
      have HL := Lib.hid hL
      have HLl := Lib.hid hLl
      have HT := Lib.hid (show ∀ W, Below W1.heap.size W1 W → CtIn (fun k => k < W1.heap.size) W (.slice pu L.length cu) L ∧ W.cell? ⟨b, off + n, none⟩ = some (.slice pu L.length cu) from fun W hb => ⟨hth0.keep hb.size (fun k e hk => ⟨e, hb.block k hk⟩), (hb.cell (p := ⟨b, off + n, none⟩) hbl0).trans hcell0⟩)
      clear hrows hL hLl hcell0 hth0 hbl0
      have HB0 := Lib.hid HJ.out.2
      have HJ0 := Lib.hid HJ.out.1
      clear HJ
      go_wp2_with fail
      go_loopw [4] (fun i wq => ∃ q : Nat, 1 ≤ q ∧ (q ≤ L.length ∨ q = 1) ∧ i = .int .i64 q ∧ Hid (strictTo L q ∧ Below W1.heap.size W1 wq)) (fun i _ => L.length - (intOf i).toNat)
      case atStart => exact ⟨1, Nat.le_refl _, .inr rfl, rfl, Lib.hid ⟨fun i _ h => by omega, HB0.out⟩⟩
      case round =>
        obtain ⟨q, hq1, hq, rfl, HK⟩ := hrel
        obtain ⟨hth, hcell⟩ := HT.out wr HK.out.2
        by_cases hql : q < L.length
        · have hql' : (q : Int) < (L.length : Int) := by omega
          obtain ⟨k, rfl⟩ : ∃ k, q = k + 1 := ⟨q - 1, by omega⟩
          obtain ⟨b1, o1, ⟨⟨xp, xl, xc⟩, xn⟩, rfl, hbl1, hx0, -, -, hxt⟩ := hth.at_ hql
          obtain ⟨b2, o2, ⟨⟨yp, yl, yc⟩, yn⟩, e2, hbl2, hy0, -, -, hyt⟩ := hth.at_ (show k < L.length by omega)
          injection e2 with e2
          injection e2 with e2 e2' _
          subst e2 e2'
          obtain ⟨x, hx⟩ : ∃ x, x = L[k + 1] := ⟨_, rfl⟩
          obtain ⟨y, hy⟩ : ∃ y, y = L[k] := ⟨_, rfl⟩
          rw [← hx] at hxt
          rw [← hy] at hyt
          have HXY := Lib.hid (And.intro hx hy)
          obtain ⟨N, hN⟩ : ∃ N, N = k + 1 := ⟨_, rfl⟩
          rw [← hN] at hx0 hql hql' ⊢
          have HN := Lib.hid hN
          have hw : IntKind.i64.wrap ((N : Int) - 1) = (k : Int) := by
            have := HLl.out
            rw [IntKind.wrap_i64]; omega
          have hk1 : (k : Int) < (L.length : Int) := by omega
          have hn64 : (N : Int) + 1 ≤ 1001 := by have := HLl.out; omega
          have HE3 := Lib.hid (show wr.cell? ⟨b, off + n, none⟩ = some (.slice (some ⟨b1, o1, none⟩) L.length cu) ∧ wr.cell? ⟨b1, o1 + N * 2, none⟩ = some (.slice xp xl xc) ∧ wr.cell? ⟨b1, o1 + k * 2, none⟩ = some (.slice yp yl yc) from ⟨hcell, hx0, hy0⟩)
          have HXT := Lib.hid (show TupS (fun k => k < wr.heap.size) wr (.slice xp xl xc) x.1 from hxt.inside.keep (fun _ e _ => e.2) (fun _ _ _ => rfl))
          have HYT := Lib.hid (show TupS (fun k => k < wr.heap.size) wr (.slice yp yl yc) y.1 from hyt.inside.keep (fun _ e _ => e.2) (fun _ _ _ => rfl))
          have HBd := Lib.hid (HK.out.2)
          have HSt := Lib.hid HK.out.1
          have HBlk := Lib.hid (And.intro (World.block_lt_of_cell? wr _ hcell) (And.intro (World.block_lt_of_cell? wr _ hx0) (World.block_lt_of_cell? wr _ hy0)))
          obtain ⟨z, hz⟩ : ∃ z, z = cmpT y.1 x.1 := ⟨_, rfl⟩
          have HZ := Lib.hid hz
          clear hx0 hy0 hxt hyt hx hy hN hz hth HK hbl1 hbl2 hq hq1
          by_cases hz0 : 0 ≤ z
          · go_wp2_with fail
            go_region_held3 (fun X => X.cell? ⟨b, off + n, none⟩ = some (.slice (some ⟨b1, o1, none⟩) L.length cu) ∧ X.cell? ⟨b1, o1 + N * 2, none⟩ = some (.slice xp xl xc) ∧ X.cell? ⟨b1, o1 + k * 2, none⟩ = some (.slice yp yl yc)) (first | exact HE3.out | exact HE4.out)
              ((go_at_call 43; refine (rcompareS_any _ _ y.1 x.1 _ ?_ ?_).mono ?_; exact HYT.out; exact HXT.out; rintro e w4 ⟨rfl, hg4⟩; have hb4 := (Below.refl wr.heap.size wr).drew.trans hg4.below; rw [← HZ.out]; have HB4 := Lib.hid (HBd.out.trans (hb4.mono HBd.out.size)); have HE4 := Lib.hid (And.intro ((hb4.cell (p := ⟨b, off + n, none⟩) HBlk.out.1).trans HE3.out.1) (And.intro ((hb4.cell (p := ⟨b1, o1 + N * 2, none⟩) HBlk.out.2.1).trans HE3.out.2.1) ((hb4.cell (p := ⟨b1, o1 + k * 2, none⟩) HBlk.out.2.2).trans HE3.out.2.2))); clear hb4 hg4))
            go_wp2_with fail
            refine (alive_true _).mono ?_
            rintro e w5 ⟨rfl, hb5⟩
            have HB5 := Lib.hid (HB1.out.trans ((HB4.out.trans (hb5.mono HB4.out.size)).mono HB1.out.size))
            clear hb5
            go_wp2_with fail
            go_ret
            exact ⟨rfl, HB5.out⟩
          · have HSn := Lib.hid (show strictTo L (N + 1) from fun i hi hin => by
              by_cases e : i + 1 < k + 1
              · exact HSt.out i hi e
              · obtain rfl : i = k := by have := HN.out; omega
                rw [← HXY.out.1, ← HXY.out.2, ← HZ.out]
                omega)
            go_wp2_with fail
            go_region_held3 (fun X => X.cell? ⟨b, off + n, none⟩ = some (.slice (some ⟨b1, o1, none⟩) L.length cu) ∧ X.cell? ⟨b1, o1 + N * 2, none⟩ = some (.slice xp xl xc) ∧ X.cell? ⟨b1, o1 + k * 2, none⟩ = some (.slice yp yl yc)) (first | exact HE3.out | exact HE4.out)
              ((go_at_call 43; refine (rcompareS_any _ _ y.1 x.1 _ ?_ ?_).mono ?_; exact HYT.out; exact HXT.out; rintro e w4 ⟨rfl, hg4⟩; have hb4 := (Below.refl wr.heap.size wr).drew.trans hg4.below; rw [← HZ.out]; have HB4 := Lib.hid (HBd.out.trans (hb4.mono HBd.out.size)); have HE4 := Lib.hid (And.intro ((hb4.cell (p := ⟨b, off + n, none⟩) HBlk.out.1).trans HE3.out.1) (And.intro ((hb4.cell (p := ⟨b1, o1 + N * 2, none⟩) HBlk.out.2.1).trans HE3.out.2.1) ((hb4.cell (p := ⟨b1, o1 + k * 2, none⟩) HBlk.out.2.2).trans HE3.out.2.2))); clear hb4 hg4))
            go_wp2_with fail
            go_roundw
            case rel => exact ⟨N + 1, by omega, .inl hql, by simp, Lib.hid ⟨HSn.out, HB4.out⟩⟩
            case measure => simp [intOf]; omega
        · have hql' : ¬ (q : Int) < (L.length : Int) := by omega
          have HRs := Lib.hid (strict_adj L (fun i hi => HK.out.1 i hi (by omega)))
          have HBk := Lib.hid HK.out.2
          clear hth HK
          go_wp2_with fail
          go_roundw
          case rel =>
            refine ⟨n + 1, hlt, by simp, Lib.hid ⟨fun j hj hj' => ?_, HBk.out⟩⟩
            by_cases e : j < n
            · exact HJ0.out j e hj'
            · obtain rfl : j = n := by omega
              rw [← HL.out]
              exact HRs.out
          case measure => simp [intOf]; omega
    · obtain rfl : n = LL.length := by omega
      have HRise := Lib.hid (show ∀ L ∈ LL, RiseC L from fun L hL => by
        obtain ⟨j, hj, rfl⟩ := List.getElem_of_mem hL
        exact HJ.out.1 j hj hj)
      have HBr := Lib.hid HJ.out.2
      have HSu := Lib.hid (sums_any (HR.out wr HJ.out.2) (by omega) (fun L hL => by have := HF.out.2.1 L hL; omega))
      clear HJ
      go_wp2_with fail
      refine HSu.out.mono ?_
      rintro e w2 ⟨b2, Y2, rfl, hm2, hy2, hb2⟩
      have HM2 := Lib.hid (And.intro hm2 (And.intro hy2 hb2))
      clear hm2 hy2 hb2 HSu
      go_wp2_with fail
      refine (rest_anyC HM2.out.2.2.size HM2.out.1 (by have := sumsL_len LL; have := HF.out.2.2.1; omega)).mono ?_
      rintro e w3 ⟨v3, H3, rfl, ho3, hl3, hu3⟩
      have hb3 : Below wr.heap.size wr w3 := HM2.out.2.2.trans (hu3.below HM2.out.2.2.size (fun x _ e => HM2.out.2.1 x e))
      have B3 := Lib.hid (HBr.out.trans (hb3.mono HBr.out.size))
      have HO3 := Lib.hid (And.intro ho3 hl3.inside)
      clear ho3 hl3 hu3 hb3 HM2
      have hw8 : IntKind.i64.wrap ((LL.length : Int) - 1) = (LL.length : Int) - 1 := by rw [IntKind.wrap_i64]; omega
      have HJ0 := Lib.hid (show OwnRc w3.heap.size (fun k => k < W1.heap.size) w3 (.slice none 0 0) (LL.drop LL.length).reverse ∧ Below w3.heap.size w3 w3 from ⟨by rw [List.drop_length]; exact OwnRc.nil _ _ _, Below.refl _ _⟩)
      go_wp2_with fail
      go_loopw [7, 8] (fun v i wq => ∃ (n : Nat) (I : Int), n ≤ LL.length ∧ I = (n : Int) - 1 ∧ i = .int .i64 I ∧ Hid (OwnRc w3.heap.size (fun k => k < W1.heap.size) wq v (LL.drop n).reverse ∧ Below w3.heap.size w3 wq)) (fun _ i _ => (intOf i + 1).toNat)
      case atStart => exact ⟨LL.length, _, Nat.le_refl _, rfl, rfl, HJ0⟩
      case round =>
        obtain ⟨n, I, hn', hI, rfl, HJ⟩ := hrel
        rcases n with _ | m
        · obtain rfl : I = -1 := by simpa using hI
          have HOc := Lib.hid HJ.out.1
          have C4 := Lib.hid HJ.out.2
          have B4 := Lib.hid (B3.out.trans (HJ.out.2.mono B3.out.size))
          have HSb := Lib.hid (sums_any (HJ.out.1.in_ (S' := fun _ => True) (fun _ _ => trivial) (fun _ _ => trivial)) (by rw [List.drop_zero, List.length_reverse]; omega) (fun L hL => by have := HF.out.2.1 L (by rw [List.drop_zero] at hL; exact List.mem_reverse.1 hL); omega))
          clear HJ hI hn'
          go_wp2_with fail
          refine HSb.out.mono ?_
          rintro e w5 ⟨b5, Y5, rfl, hm5, hy5, hb5⟩
          rw [List.drop_zero, sums_reverse LL HRise.out HF.out.2.2.2] at hm5
          have HM5 := Lib.hid (And.intro hm5 (And.intro hy5 hb5))
          clear hm5 hy5 hb5 HSb
          go_wp2_with fail
          refine (rest_anyC HM5.out.2.2.size HM5.out.1 (by have := sumsL_len LL; have := HF.out.2.2.1; omega)).mono ?_
          rintro e w6 ⟨v6, H6, rfl, ho6, hl6, hu6⟩
          have hb6 : Below wr.heap.size wr w6 := HM5.out.2.2.trans (hu6.below HM5.out.2.2.size (fun x _ e => HM5.out.2.1 x e))
          have B6 := Lib.hid (B4.out.trans (hb6.mono B4.out.size))
          have C6 := Lib.hid (C4.out.trans (hb6.mono C4.out.size))
          have HO6 := Lib.hid (And.intro ho6 hl6.inside)
          clear ho6 hl6 hu6 hb6 HM5 HOc
          obtain ⟨hh, hhd⟩ : ∃ hh, hh = LL.length / 2 := ⟨_, rfl⟩
          have hq : (LL.length : Int).tdiv 2 = (hh : Int) := by rw [hhd]; rfl
          have hhl : (hh : Int) ≤ (LL.length : Int) := by omega
          have HHh := Lib.hid (show hh ≤ LL.length by omega)
          have HHn := Lib.hid (show LL.length ≠ 0 → hh < LL.length by omega)
          clear hhd
          go_wp2_with fail
          have HLt := Lib.hid (show (LL.take hh).length ≤ 1000 by rw [List.length_take]; omega)
          have HMt := Lib.hid (show ∀ L ∈ LL.take hh, L.length ≤ 1000000 from fun L hL => by have := HF.out.2.1 L (List.mem_of_mem_take hL); omega)
          have HLd := Lib.hid (show (LL.drop hh).length ≤ 1000 by rw [List.length_drop]; omega)
          have HMd := Lib.hid (show ∀ L ∈ LL.drop hh, L.length ≤ 1000000 from fun L hL => by have := HF.out.2.1 L (List.mem_of_mem_drop hL); omega)
          have HRt := Lib.hid (show ∀ W, Below W1.heap.size W1 W → RowsCt (fun k => k < W1.heap.size) W (.slice p1 hh c1) (LL.take hh) from fun W hb => (HR.out W hb).takeR hh HHh.out)
          rcases HSh.out with ⟨e0, hnil⟩ | ⟨g, cap, e0, hcap, hcm⟩
          · have e0' := e0
            injection e0' with e1 e2 e3
            obtain rfl : hh = 0 := by have := HHh.out; omega
            have HRd := Lib.hid (show ∀ W, Below W1.heap.size W1 W → RowsCt (fun k => k < W1.heap.size) W (.slice none 0 0) (LL.drop 0) from fun W hb => by have h := HR.out W hb; rw [e0] at h; exact h)
            subst e1 e3
            rw [e2]
            clear hnil e0
            go_region_held3 (fun _ => True) (exact trivial)
              ((first
                | (go_at_call 38; have hB7 := B7.out; refine (sums_anyN (n0 := W1.heap.size) B7.out.size (HRd.out _ B7.out) HLd.out HMd.out).mono ?_; rintro e w8 ⟨b8, Y8, rfl, hm8, hy8, hb8⟩; have HS9 := Lib.hid (sum_two HM7.out.1 hm8 hy8 hb8 B7.out.size); have B8 := Lib.hid (B7.out.trans (hb8.mono B7.out.size)); have D8 := Lib.hid (D7.out.trans (hb8.mono D7.out.size)); have HY8 := Lib.hid hy8; clear hm8 hy8 hb8 hB7)
                | (go_at_call 38; refine (sums_anyN (n0 := W1.heap.size) B6.out.drew.size (HRt.out _ B6.out.drew) HLt.out HMt.out).mono ?_; rintro e w7 ⟨b7, Y7, rfl, hm7, hy7, hb7⟩; have B7 := Lib.hid (B6.out.drew.trans (hb7.mono B6.out.drew.size)); have D7 := Lib.hid ((Below.refl w6.heap.size w6).drew.trans hb7); have HM7 := Lib.hid (And.intro hm7 hy7); clear hm7 hy7 hb7)
                | (go_at_call 44; refine HS9.out.mono ?_; rintro e w10 ⟨b10, Y10, rfl, hm10, hy10, hb10⟩; have HX := Lib.hid (over_two (w6 := w6) HRise.out HF.out.2.2.2 hm10 hy10 HM7.out.2 HY8.out D7.out D8.out hb10); have B10 := Lib.hid ((B8.out.alloc B8.out.size (.cells #[curVC b7, curVC b8] 70)).trans (hb10.mono (by have := B8.out.size; simp; omega))); clear hm10 hy10 hb10)
                | (go_at_call 37; refine (rest_anyC (n0 := W1.heap.size) B10.out.size HX.out.1 (by have := sumsL_len LL; have := HF.out.2.2.1; omega)).mono ?_; rintro e w11 ⟨v11, H11, rfl, ho11, hl11, hu11⟩; have D11 := Lib.hid (HX.out.2.2.trans (hu11.below HX.out.2.2.size (fun x _ e => HX.out.2.1 x e))); have HO11 := Lib.hid (And.intro ho11 hl11.inside); clear ho11 hl11 hu11)))
            have B11 := Lib.hid (B6.out.trans (D11.out.mono B6.out.size))
            have C11 := Lib.hid (C6.out.trans (D11.out.mono C6.out.size))
            have HS1 := Lib.hid (rsame_like v3 v6 H3 H6 (sumsL LL) w11 (HO3.out.1.later C11.out) (HO6.out.1.later D11.out) (by have := sumsL_len LL; have := HF.out.2.2.1; omega) (HO3.out.2.later C11.out) (HO6.out.2.later D11.out))
            go_wp2_with fail
            refine HS1.out.mono ?_
            rintro e w12 ⟨rfl, hg12⟩
            have B12 := Lib.hid (B11.out.trans (hg12.below.mono B11.out.size))
            have HS2 := Lib.hid (rsame_like v3 v11 H3 H11 (sumsL LL) w12 (HO3.out.1.later (C11.out.trans (hg12.below.mono C11.out.size))) (HO11.out.1.later hg12.below) (by have := sumsL_len LL; have := HF.out.2.2.1; omega) (HO3.out.2.later (C11.out.trans (hg12.below.mono C11.out.size))) (HO11.out.2.later hg12.below))
            clear hg12 HS1
            go_wp2_with fail
            refine HS2.out.mono ?_
            rintro e w13 ⟨rfl, hg13⟩
            have B13 := Lib.hid (B12.out.trans (hg13.below.mono B12.out.size))
            clear hg13 HS2
            go_wp2_with fail
            refine (alive_true w13).mono ?_
            rintro e w14 ⟨rfl, hb14⟩
            have B14 := Lib.hid (HB1.out.trans ((B13.out.trans (hb14.mono B13.out.size)).mono HB1.out.size))
            clear hb14
            go_wp2_with fail
            go_ret
            exact ⟨rfl, B14.out⟩
          · injection e0 with e1 e2 e3
            subst e1 e3
            by_cases h0 : LL.length = 0
            · obtain rfl : hh = 0 := by have := HHh.out; omega
              by_cases hz : c1 = 0
              · subst hz
                have HRd := Lib.hid (show ∀ W, Below W1.heap.size W1 W → RowsCt (fun k => k < W1.heap.size) W (.slice (some ⟨g, 0, none⟩) 0 0) (LL.drop 0) from fun W hb => by have h := HR.out W hb; rw [h0] at h; exact h)
                rw [h0]
                go_region_held3 (fun _ => True) (exact trivial)
                  ((first
                    | (go_at_call 38; have hB7 := B7.out; refine (sums_anyN (n0 := W1.heap.size) B7.out.size (HRd.out _ B7.out) HLd.out HMd.out).mono ?_; rintro e w8 ⟨b8, Y8, rfl, hm8, hy8, hb8⟩; have HS9 := Lib.hid (sum_two HM7.out.1 hm8 hy8 hb8 B7.out.size); have B8 := Lib.hid (B7.out.trans (hb8.mono B7.out.size)); have D8 := Lib.hid (D7.out.trans (hb8.mono D7.out.size)); have HY8 := Lib.hid hy8; clear hm8 hy8 hb8 hB7)
                    | (go_at_call 38; refine (sums_anyN (n0 := W1.heap.size) B6.out.drew.size (HRt.out _ B6.out.drew) HLt.out HMt.out).mono ?_; rintro e w7 ⟨b7, Y7, rfl, hm7, hy7, hb7⟩; have B7 := Lib.hid (B6.out.drew.trans (hb7.mono B6.out.drew.size)); have D7 := Lib.hid ((Below.refl w6.heap.size w6).drew.trans hb7); have HM7 := Lib.hid (And.intro hm7 hy7); clear hm7 hy7 hb7)
                    | (go_at_call 44; refine HS9.out.mono ?_; rintro e w10 ⟨b10, Y10, rfl, hm10, hy10, hb10⟩; have HX := Lib.hid (over_two (w6 := w6) HRise.out HF.out.2.2.2 hm10 hy10 HM7.out.2 HY8.out D7.out D8.out hb10); have B10 := Lib.hid ((B8.out.alloc B8.out.size (.cells #[curVC b7, curVC b8] 70)).trans (hb10.mono (by have := B8.out.size; simp; omega))); clear hm10 hy10 hb10)
                    | (go_at_call 37; refine (rest_anyC (n0 := W1.heap.size) B10.out.size HX.out.1 (by have := sumsL_len LL; have := HF.out.2.2.1; omega)).mono ?_; rintro e w11 ⟨v11, H11, rfl, ho11, hl11, hu11⟩; have D11 := Lib.hid (HX.out.2.2.trans (hu11.below HX.out.2.2.size (fun x _ e => HX.out.2.1 x e))); have HO11 := Lib.hid (And.intro ho11 hl11.inside); clear ho11 hl11 hu11)))
                have B11 := Lib.hid (B6.out.trans (D11.out.mono B6.out.size))
                have C11 := Lib.hid (C6.out.trans (D11.out.mono C6.out.size))
                have HS1 := Lib.hid (rsame_like v3 v6 H3 H6 (sumsL LL) w11 (HO3.out.1.later C11.out) (HO6.out.1.later D11.out) (by have := sumsL_len LL; have := HF.out.2.2.1; omega) (HO3.out.2.later C11.out) (HO6.out.2.later D11.out))
                go_wp2_with fail
                refine HS1.out.mono ?_
                rintro e w12 ⟨rfl, hg12⟩
                have B12 := Lib.hid (B11.out.trans (hg12.below.mono B11.out.size))
                have HS2 := Lib.hid (rsame_like v3 v11 H3 H11 (sumsL LL) w12 (HO3.out.1.later (C11.out.trans (hg12.below.mono C11.out.size))) (HO11.out.1.later hg12.below) (by have := sumsL_len LL; have := HF.out.2.2.1; omega) (HO3.out.2.later (C11.out.trans (hg12.below.mono C11.out.size))) (HO11.out.2.later hg12.below))
                clear hg12 HS1
                go_wp2_with fail
                refine HS2.out.mono ?_
                rintro e w13 ⟨rfl, hg13⟩
                have B13 := Lib.hid (B12.out.trans (hg13.below.mono B12.out.size))
                clear hg13 HS2
                go_wp2_with fail
                refine (alive_true w13).mono ?_
                rintro e w14 ⟨rfl, hb14⟩
                have B14 := Lib.hid (HB1.out.trans ((B13.out.trans (hb14.mono B13.out.size)).mono HB1.out.size))
                clear hb14
                go_wp2_with fail
                go_ret
                exact ⟨rfl, B14.out⟩
              · have HRd := Lib.hid (show ∀ W, Below W1.heap.size W1 W → RowsCt (fun k => k < W1.heap.size) W (.slice (some ⟨g, 0, none⟩) 0 c1) (LL.drop 0) from fun W hb => by have h := HR.out W hb; rw [h0] at h; exact h)
                have hzi : ¬ (c1 : Int) = 0 := by omega
                rw [h0]
                go_region_held3 (fun _ => True) (exact trivial)
                  ((first
                    | (go_at_call 38; have hB7 := B7.out; refine (sums_anyN (n0 := W1.heap.size) B7.out.size (HRd.out _ B7.out) HLd.out HMd.out).mono ?_; rintro e w8 ⟨b8, Y8, rfl, hm8, hy8, hb8⟩; have HS9 := Lib.hid (sum_two HM7.out.1 hm8 hy8 hb8 B7.out.size); have B8 := Lib.hid (B7.out.trans (hb8.mono B7.out.size)); have D8 := Lib.hid (D7.out.trans (hb8.mono D7.out.size)); have HY8 := Lib.hid hy8; clear hm8 hy8 hb8 hB7)
                    | (go_at_call 38; refine (sums_anyN (n0 := W1.heap.size) B6.out.drew.size (HRt.out _ B6.out.drew) HLt.out HMt.out).mono ?_; rintro e w7 ⟨b7, Y7, rfl, hm7, hy7, hb7⟩; have B7 := Lib.hid (B6.out.drew.trans (hb7.mono B6.out.drew.size)); have D7 := Lib.hid ((Below.refl w6.heap.size w6).drew.trans hb7); have HM7 := Lib.hid (And.intro hm7 hy7); clear hm7 hy7 hb7)
                    | (go_at_call 44; refine HS9.out.mono ?_; rintro e w10 ⟨b10, Y10, rfl, hm10, hy10, hb10⟩; have HX := Lib.hid (over_two (w6 := w6) HRise.out HF.out.2.2.2 hm10 hy10 HM7.out.2 HY8.out D7.out D8.out hb10); have B10 := Lib.hid ((B8.out.alloc B8.out.size (.cells #[curVC b7, curVC b8] 70)).trans (hb10.mono (by have := B8.out.size; simp; omega))); clear hm10 hy10 hb10)
                    | (go_at_call 37; refine (rest_anyC (n0 := W1.heap.size) B10.out.size HX.out.1 (by have := sumsL_len LL; have := HF.out.2.2.1; omega)).mono ?_; rintro e w11 ⟨v11, H11, rfl, ho11, hl11, hu11⟩; have D11 := Lib.hid (HX.out.2.2.trans (hu11.below HX.out.2.2.size (fun x _ e => HX.out.2.1 x e))); have HO11 := Lib.hid (And.intro ho11 hl11.inside); clear ho11 hl11 hu11)))
                have B11 := Lib.hid (B6.out.trans (D11.out.mono B6.out.size))
                have C11 := Lib.hid (C6.out.trans (D11.out.mono C6.out.size))
                have HS1 := Lib.hid (rsame_like v3 v6 H3 H6 (sumsL LL) w11 (HO3.out.1.later C11.out) (HO6.out.1.later D11.out) (by have := sumsL_len LL; have := HF.out.2.2.1; omega) (HO3.out.2.later C11.out) (HO6.out.2.later D11.out))
                go_wp2_with fail
                refine HS1.out.mono ?_
                rintro e w12 ⟨rfl, hg12⟩
                have B12 := Lib.hid (B11.out.trans (hg12.below.mono B11.out.size))
                have HS2 := Lib.hid (rsame_like v3 v11 H3 H11 (sumsL LL) w12 (HO3.out.1.later (C11.out.trans (hg12.below.mono C11.out.size))) (HO11.out.1.later hg12.below) (by have := sumsL_len LL; have := HF.out.2.2.1; omega) (HO3.out.2.later (C11.out.trans (hg12.below.mono C11.out.size))) (HO11.out.2.later hg12.below))
                clear hg12 HS1
                go_wp2_with fail
                refine HS2.out.mono ?_
                rintro e w13 ⟨rfl, hg13⟩
                have B13 := Lib.hid (B12.out.trans (hg13.below.mono B12.out.size))
                clear hg13 HS2
                go_wp2_with fail
                refine (alive_true w13).mono ?_
                rintro e w14 ⟨rfl, hb14⟩
                have B14 := Lib.hid (HB1.out.trans ((B13.out.trans (hb14.mono B13.out.size)).mono HB1.out.size))
                clear hb14
                go_wp2_with fail
                go_ret
                exact ⟨rfl, B14.out⟩
            · obtain ⟨k2, hk2⟩ : ∃ k2, LL.length - hh = k2 := ⟨_, rfl⟩
              obtain ⟨d2, hd2⟩ : ∃ d2, c1 - hh = d2 := ⟨_, rfl⟩
              have HRd := Lib.hid (show ∀ W, Below W1.heap.size W1 W → RowsCt (fun k => k < W1.heap.size) W (.slice (some ⟨g, hh, none⟩) k2 d2) (LL.drop hh) from fun W hb => by have h := (HR.out W hb).dropR hh k2 d2 hk2.symm hd2.symm HHh.out; rw [Nat.zero_add] at h; exact h)
              have hc1 : (hh : Int) ≤ (c1 : Int) := by have := HHh.out; omega
              have hc2 : (LL.length : Int) ≤ (c1 : Int) := by omega
              have hh0 : (0 : Int) ≤ (hh : Int) := by omega
              have hne : ¬ c1 = hh := by have := HHn.out h0; omega
              go_region_held3 (fun _ => True) (exact trivial)
                ((first
                  | (go_at_call 38; have hB7 := B7.out; refine (sums_anyN (n0 := W1.heap.size) B7.out.size (HRd.out _ B7.out) HLd.out HMd.out).mono ?_; rintro e w8 ⟨b8, Y8, rfl, hm8, hy8, hb8⟩; have HS9 := Lib.hid (sum_two HM7.out.1 hm8 hy8 hb8 B7.out.size); have B8 := Lib.hid (B7.out.trans (hb8.mono B7.out.size)); have D8 := Lib.hid (D7.out.trans (hb8.mono D7.out.size)); have HY8 := Lib.hid hy8; clear hm8 hy8 hb8 hB7)
                  | (go_at_call 38; refine (sums_anyN (n0 := W1.heap.size) B6.out.drew.size (HRt.out _ B6.out.drew) HLt.out HMt.out).mono ?_; rintro e w7 ⟨b7, Y7, rfl, hm7, hy7, hb7⟩; have B7 := Lib.hid (B6.out.drew.trans (hb7.mono B6.out.drew.size)); have D7 := Lib.hid ((Below.refl w6.heap.size w6).drew.trans hb7); have HM7 := Lib.hid (And.intro hm7 hy7); clear hm7 hy7 hb7)
                  | (go_at_call 44; refine HS9.out.mono ?_; rintro e w10 ⟨b10, Y10, rfl, hm10, hy10, hb10⟩; have HX := Lib.hid (over_two (w6 := w6) HRise.out HF.out.2.2.2 hm10 hy10 HM7.out.2 HY8.out D7.out D8.out hb10); have B10 := Lib.hid ((B8.out.alloc B8.out.size (.cells #[curVC b7, curVC b8] 70)).trans (hb10.mono (by have := B8.out.size; simp; omega))); clear hm10 hy10 hb10)
                  | (go_at_call 37; refine (rest_anyC (n0 := W1.heap.size) B10.out.size HX.out.1 (by have := sumsL_len LL; have := HF.out.2.2.1; omega)).mono ?_; rintro e w11 ⟨v11, H11, rfl, ho11, hl11, hu11⟩; have D11 := Lib.hid (HX.out.2.2.trans (hu11.below HX.out.2.2.size (fun x _ e => HX.out.2.1 x e))); have HO11 := Lib.hid (And.intro ho11 hl11.inside); clear ho11 hl11 hu11)))
              have B11 := Lib.hid (B6.out.trans (D11.out.mono B6.out.size))
              have C11 := Lib.hid (C6.out.trans (D11.out.mono C6.out.size))
              have HS1 := Lib.hid (rsame_like v3 v6 H3 H6 (sumsL LL) w11 (HO3.out.1.later C11.out) (HO6.out.1.later D11.out) (by have := sumsL_len LL; have := HF.out.2.2.1; omega) (HO3.out.2.later C11.out) (HO6.out.2.later D11.out))
              go_wp2_with fail
              refine HS1.out.mono ?_
              rintro e w12 ⟨rfl, hg12⟩
              have B12 := Lib.hid (B11.out.trans (hg12.below.mono B11.out.size))
              have HS2 := Lib.hid (rsame_like v3 v11 H3 H11 (sumsL LL) w12 (HO3.out.1.later (C11.out.trans (hg12.below.mono C11.out.size))) (HO11.out.1.later hg12.below) (by have := sumsL_len LL; have := HF.out.2.2.1; omega) (HO3.out.2.later (C11.out.trans (hg12.below.mono C11.out.size))) (HO11.out.2.later hg12.below))
              clear hg12 HS1
              go_wp2_with fail
              refine HS2.out.mono ?_
              rintro e w13 ⟨rfl, hg13⟩
              have B13 := Lib.hid (B12.out.trans (hg13.below.mono B12.out.size))
              clear hg13 HS2
              go_wp2_with fail
              refine (alive_true w13).mono ?_
              rintro e w14 ⟨rfl, hb14⟩
              have B14 := Lib.hid (HB1.out.trans ((B13.out.trans (hb14.mono B13.out.size)).mono HB1.out.size))
              clear hb14
              go_wp2_with fail
              go_ret
              exact ⟨rfl, B14.out⟩
        · obtain rfl : I = (m : Int) := by rw [hI]; simp
          have hm0 : (0 : Int) ≤ (m : Int) := by omega
          have hml : m < LL.length := hn'
          have hml' : (m : Int) < (LL.length : Int) := by omega
          have hm6 : (m : Int) ≤ 6 := by omega
          have hw9 : IntKind.i64.wrap ((m : Int) - 1) = (m : Int) - 1 := by rw [IntKind.wrap_i64]; omega
          obtain ⟨L, hL⟩ : ∃ L, L = LL[m] := ⟨_, rfl⟩
          obtain ⟨b, off, pu, cu, rfl, -, -, hcell, hth⟩ := (HR.out wr (B3.out.trans (HJ.out.2.mono B3.out.size))).at_ hml
          rw [← hL] at hcell hth
          have HE := Lib.hid (show (LL.drop (m + 1)).reverse ++ [L] = (LL.drop m).reverse by rw [List.drop_eq_getElem_cons hml, List.reverse_cons, hL])
          obtain ⟨K, hK⟩ : ∃ K, K = ((LL.drop (m + 1)).reverse).length := ⟨_, rfl⟩
          have HTl := Lib.hid hK
          have hK6 : K ≤ 6 := by rw [hK, List.length_reverse, List.length_drop]; omega
          have HV1 := Lib.hid hth
          obtain ⟨us, hu1, hu2, hu3⟩ := HJ.out.1
          have HU := Lib.hid (And.intro hu1 (And.intro hu2 hu3))
          have HBz := Lib.hid (And.intro HJ.out.2 HJ.out.2.size)
          clear hu1 hu2 hu3 hL hth hK hI hn'
          go_wp2_with (at_builtin; refine wpList_app1 rfl (.tmp 64) (.tmp 69) 60 62 rfl w3.heap.size (.slice none 0 0) 24 Try.underlying60 infoRc rfl (by decide) _ (.slice pu L.length cu) K wr.heap.size us rfl rfl (by rw [cell_of_row _ _ 0 _ _ (0, 0) (heap_alloc_new wr _)]; rfl) rfl (ownsRow_keep (by have h := HU.out.2.1; rw [← HTl.out] at h; exact h) (fun k e => Below.heap_alloc _ _ _ (by have := (World.ownsRow.lt HU.out.2.1 k e).2; omega))) (by omega) (by have := HBz.out.2; simp; omega) ?_; intro v4 w4 ho hg _; have HN := Lib.hid (And.intro ho hg); clear ho hg)
          go_wp2_with fail
          go_roundw
          case rel =>
            obtain ⟨ho, hg⟩ := HN.out
            obtain ⟨hu1, hu2, hu3⟩ := HU.out
            have hb3 : Below w3.heap.size w3 w4 := ((HBz.out.1.alloc HBz.out.1.size _).grown hg (by have := HBz.out.2; simp; omega) (fun k e => (World.ownsRow.lt hu2 k e).1))
            have h13 := B3.out.size
            have hold : ∀ k, k < W1.heap.size → w4.heap[k]? = wr.heap[k]? := fun k hk => (hb3.block k (by omega)).trans (HBz.out.1.block k (by omega)).symm
            have hsz : wr.heap.size ≤ w4.heap.size := by have := hg.size; simp at this; omega
            refine ⟨m, _, Nat.le_of_lt hml, rfl, rfl, Lib.hid ⟨?_, hb3⟩⟩
            rw [← HE.out]
            exact OwnRc.snoc hu1 (fun j hj hj' => (hu3 j hj hj').keep hsz (fun k e _ => ⟨e, hold k e⟩)) (HV1.out.keep hsz (fun k e _ => ⟨e, hold k e⟩)) (by rw [← HTl.out]; exact ho)
          case measure => simp [intOf]
end Go.Proofs.Ytcfnpbmkcdmafaa
