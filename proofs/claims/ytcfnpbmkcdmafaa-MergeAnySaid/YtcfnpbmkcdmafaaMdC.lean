/-
  The document's Sum.
-/
import Derived.Test.YtcfnpbmkcdmafaaMdYB
namespace Go.Proofs.Ytcfnpbmkcdmafaa
open Go Go.RowKit Go.Shelf

set_option maxRecDepth 100000 in
set_option maxHeartbeats 8000000 in
theorem rsum_any {S : Nat → Prop} {v : Value} {LL : List (List Ct)} {w : World} (h : RowsCt S w v LL) (hl : LL.length ≤ 1000) (ht : totC LL ≤ 1000) :
    Calls Try.prog 40 #[v] w (RsumEnd LL w) := by
  have HV := Lib.hid (show RowsCt (fun k => S k ∧ k < w.heap.size) w v LL from h.keep (Nat.le_refl _) (fun k e hk => ⟨⟨e, hk⟩, rfl⟩))
  obtain ⟨p, c, rfl, hc1, hc2, -⟩ := h
  have HTt := Lib.hid ht
  have hmk := make_ints LL.length (by omega) w
  have H0 := Lib.hid (show RmS LL w (List.replicate LL.length 0) [] none (.slice none 0 0) (w.alloc (.cells (headsA (List.replicate LL.length 0)) 3)) from ⟨List.length_replicate .., by rw [leftsC_zero], ⟨[], OwnRw.nil _ _, LikeC.nil _ _⟩, heap_alloc_new w _, below_new' w _⟩)
  obtain ⟨W0, hW0⟩ : ∃ W0, W0 = w.alloc (.cells (headsA (List.replicate LL.length 0)) 3) := ⟨_, rfl⟩
  rw [← hW0] at hmk H0
  clear hW0 ht
  have mixed : Try.prog.follows .mixedOrders = true := by kernel_rfl
  go_enter Try.func40, Try.ntmps40
  go_wp2_with fail
  go_loopw [4, 5] (fun v o wr => ∃ H P ox, o = .bool (Option.isSome ox) ∧ Hid (RmS LL w H P ox v wr)) (fun v o wr => leastN fun k => ∃ H P ox, o = .bool (Option.isSome ox) ∧ totC (leftsC LL H) = k ∧ RmS LL w H P ox v wr)
  case atStart => exact ⟨_, _, none, rfl, H0⟩
  case round =>
    obtain ⟨H0', P0, ox0, ho0, HJ0⟩ := hrel
    obtain ⟨H, P, ox, ho, hDl, hJ⟩ := (leastN_spec (p := fun k => ∃ H P ox, u5 = .bool (Option.isSome ox) ∧ totC (leftsC LL H) = k ∧ RmS LL w H P ox u4 wr) ⟨H0', P0, ox0, ho0, rfl, HJ0.out⟩).1
    have HD := Lib.hid hDl
    have HJ := Lib.hid hJ
    have HO := Lib.hid ho
    clear hDl hJ ho0 HJ0 ho
    have HH := Lib.hid HJ.out.1
    go_wp2_with fail
    go_loopw [6, 7] (fun b i wq => ∃ n : Nat, n ≤ LL.length ∧ i = .int .i64 n ∧ b = .int .i64 (bestIC (bestC (leftsC LL H) n)) ∧ Hid (RmS LL w H P ox u4 wq)) (fun _ i _ => LL.length - (intOf i).toNat)
    case atStart => exact ⟨0, Nat.zero_le _, rfl, rfl, HJ⟩
    case round =>
      obtain ⟨n, hn, rfl, hbe, HR⟩ := hrel
      have hb1 : Below w.heap.size w wr := HR.out.2.2.2.2
      by_cases hlt : n < LL.length
      · have hlt' : (n : Int) < (LL.length : Int) := by omega
        have hnH : n < H.length := by have := HH.out; omega
        have hnH' : (n : Int) < (H.length : Int) := by omega
        obtain ⟨b, off, rfl, -, hbl, hrows⟩ := (HV.out.below hb1).rows (by rintro rfl; simp at hlt)
        obtain ⟨pu, cu, hcell, hth⟩ := hrows n hlt
        obtain ⟨L, hL⟩ : ∃ L, L = LL[n] := ⟨_, rfl⟩
        obtain ⟨a, ha⟩ : ∃ a, a = H[n] := ⟨_, rfl⟩
        have hha := heads_at HR.out.2.2.2.1 hnH
        have hleft := leftsC_at (LL := LL) hlt hnH
        rw [← hL] at hcell hth hleft
        rw [← ha] at hha hleft
        clear hL ha hb1
        have hHl : (H.length : Int) = (LL.length : Int) := by have := HH.out; omega
        by_cases hge : L.length ≤ a
        · have hge' : (L.length : Int) ≤ (a : Int) := by omega
          have HB := Lib.hid (show bestC (leftsC LL H) (n + 1) = bestC (leftsC LL H) n from bestC_miss (by rw [hleft, List.drop_of_length_le hge]))
          have HRd := Lib.hid (HR.out.below ((Below.refl _ _).drew))
          have HBe := Lib.hid hbe
          clear hth hleft hrows hbe
          go_wp2_with fail
          go_region
          go_wp2_with fail
          go_roundw
          case rel => exact ⟨n + 1, hlt, by simp, by rw [HB.out]; exact HBe.out, HRd⟩
          case measure => simp [intOf]; omega
        · have hge' : ¬ (L.length : Int) ≤ (a : Int) := by omega
          have hal : a < L.length := by omega
          have hal' : (a : Int) < (L.length : Int) := by omega
          obtain ⟨b1, o1, ⟨⟨xp, xl, xc⟩, xn⟩, rfl, hbl1, hx0, hx1, hxn, hxt⟩ := hth.at_ hal
          obtain ⟨x, hx⟩ : ∃ x, x = L[a] := ⟨_, rfl⟩
          rw [← hx] at hxn hxt
          have hhit := bestC_hit (Ls := leftsC LL H) (n := n) (x := x) (r := L.drop (a + 1)) (by rw [hleft, List.drop_eq_getElem_cons hal, hx])
          clear hth hleft hx
          rcases hbn : bestC (leftsC LL H) n with _ | ⟨m, y⟩
          · rw [hbn] at hhit hbe
            have HB := Lib.hid hhit
            have HRd := Lib.hid (HR.out.below ((Below.refl _ _).drew.drew))
            have hbe' : _ = Value.int .i64 (-1) := hbe
            subst hbe'
            clear hhit hbn hbe hrows hxt
            go_wp2_with fail
            go_region
            go_wp2_with fail
            go_region
            go_wp2_with fail
            go_roundw
            case rel => exact ⟨n + 1, hlt, by simp, by rw [HB.out]; rfl, HRd⟩
            case measure => simp [intOf]; omega
          · obtain ⟨hm1, hm2, hm3, hmn, hy⟩ := leftsC_hd HH.out hbn
            obtain ⟨pm, cm, hcm, hthm⟩ := hrows m hm1
            obtain ⟨M, hM⟩ : ∃ M, M = LL[m] := ⟨_, rfl⟩
            obtain ⟨a2, ha2⟩ : ∃ a2, a2 = H[m] := ⟨_, rfl⟩
            have hhm := heads_at HR.out.2.2.2.1 hm2
            have ha2l : a2 < M.length := by rw [ha2, hM]; exact hm3
            have hy' : y = M[a2] := by subst hM ha2; exact hy
            rw [← hM] at hcm hthm
            rw [← ha2] at hhm
            obtain ⟨b2, o2, ⟨⟨yp, yl, yc⟩, yn⟩, rfl, hbl2, hy0, hy1, hyn, hyt⟩ := hthm.at_ ha2l
            rw [← hy'] at hyt
            rw [hbn] at hhit hbe
            have HB := Lib.hid (show bestC (leftsC LL H) (n + 1) = if cmpT x.1 y.1 < 0 then some (n, x) else some (m, y) from hhit)
            have hbe' : _ = Value.int .i64 (m : Int) := hbe
            subst hbe'
            have hm1' : (m : Int) < (LL.length : Int) := by omega
            have hm2' : (m : Int) < (H.length : Int) := by omega
            have ha2l' : (a2 : Int) < (M.length : Int) := by omega
            have hmz : ¬ (m : Int) < 0 := by omega
            obtain ⟨z, hz⟩ : ∃ z, z = cmpT x.1 y.1 := ⟨_, rfl⟩
            rw [← hz] at HB
            have HZ := Lib.hid hz
            have HE2 := Lib.hid (show SixS b off n m w.heap.size a a2 b1 o1 b2 o2 (some ⟨b1, o1, none⟩) L.length cu (some ⟨b2, o2, none⟩) M.length cm (xp, xl, xc) (yp, yl, yc) wr.drew from ⟨hcell, hcm, hha, hhm, hx0, hy0⟩)
            have HRd := Lib.hid (HR.out.below ((Below.refl _ _).drew))
            have HXT := Lib.hid (show TupS (fun k => k < wr.heap.size) wr (.slice xp xl xc) x.1 from hxt.inside.keep (fun _ e _ => e.2) (fun _ _ _ => rfl))
            have HYT := Lib.hid (show TupS (fun k => k < wr.heap.size) wr (.slice yp yl yc) y.1 from hyt.inside.keep (fun _ e _ => e.2) (fun _ _ _ => rfl))
            clear hhit hbn hbe hrows hm3 hy hthm hM ha2 hy' hz hhm hcm hm1 hm2 hxt hyt hx0 hx1 hy0 hy1 hxn hyn
            by_cases hz0 : z < 0
            · go_wp2_with fail
              go_region
              go_wp2_with fail
              go_region_held3 (fun X => X.cell? ⟨b, off + n, none⟩ = some (.slice (some ⟨b1, o1, none⟩) L.length cu) ∧ X.cell? ⟨b, off + m, none⟩ = some (.slice (some ⟨b2, o2, none⟩) M.length cm) ∧ X.cell? ⟨w.heap.size, n, none⟩ = some (.int .i64 (a : Int)) ∧ X.cell? ⟨w.heap.size, m, none⟩ = some (.int .i64 (a2 : Int)) ∧ X.cell? ⟨b1, o1 + a * 2, none⟩ = some (.slice xp xl xc) ∧ X.cell? ⟨b2, o2 + a2 * 2, none⟩ = some (.slice yp yl yc)) (first | exact HE2.out | exact HE4.out)
                ((go_at_call 43; refine (rcompareS_any _ _ x.1 y.1 _ ?_ ?_).mono ?_; exact HXT.out; exact HYT.out; rintro e w4 ⟨rfl, hg4⟩; have hb4 := hg4.below; rw [← HZ.out]; have HR4 := Lib.hid (HRd.out.below ((Below.refl _ _).drew.trans hb4)); have HE4 := Lib.hid (HE2.out.below ((Below.refl _ _).drew.trans hb4)); clear hb4 hg4))
              go_wp2_with fail
              go_roundw
              case rel => exact ⟨n + 1, hlt, by simp, by rw [HB.out, if_pos hz0]; rfl, HR4⟩
              case measure => simp [intOf]; omega
            · go_wp2_with fail
              go_region
              go_wp2_with fail
              go_region_held3 (fun X => X.cell? ⟨b, off + n, none⟩ = some (.slice (some ⟨b1, o1, none⟩) L.length cu) ∧ X.cell? ⟨b, off + m, none⟩ = some (.slice (some ⟨b2, o2, none⟩) M.length cm) ∧ X.cell? ⟨w.heap.size, n, none⟩ = some (.int .i64 (a : Int)) ∧ X.cell? ⟨w.heap.size, m, none⟩ = some (.int .i64 (a2 : Int)) ∧ X.cell? ⟨b1, o1 + a * 2, none⟩ = some (.slice xp xl xc) ∧ X.cell? ⟨b2, o2 + a2 * 2, none⟩ = some (.slice yp yl yc)) (first | exact HE2.out | exact HE4.out)
                ((go_at_call 43; refine (rcompareS_any _ _ x.1 y.1 _ ?_ ?_).mono ?_; exact HXT.out; exact HYT.out; rintro e w4 ⟨rfl, hg4⟩; have hb4 := hg4.below; rw [← HZ.out]; have HR4 := Lib.hid (HRd.out.below ((Below.refl _ _).drew.trans hb4)); have HE4 := Lib.hid (HE2.out.below ((Below.refl _ _).drew.trans hb4)); clear hb4 hg4))
              go_wp2_with fail
              go_roundw
              case rel => exact ⟨n + 1, hlt, by simp, by rw [HB.out, if_neg (show ¬ z < 0 by omega)]; rfl, HR4⟩
              case measure => simp [intOf]; omega
      · obtain rfl : n = LL.length := by omega
        rcases hbn : bestC (leftsC LL H) LL.length with _ | ⟨m, y⟩
        · have HM := Lib.hid (mergeLC_none (Ls := leftsC LL H) (by rw [leftsC_len HH.out]; exact hbn))
          rw [hbn] at hbe
          have hbe' : _ = Value.int .i64 (-1) := hbe
          subst hbe'
          clear hbe hbn hb1
          cases ox with
          | none =>
            obtain ⟨p4, c4, e4⟩ := HR.out.form
            have ho : u5 = .bool false := HO.out
            subst ho e4
            go_wp2_with fail
            go_ret
            obtain ⟨-, g2, ⟨HP, g3, g3'⟩, -, g5⟩ := HR.out
            rw [HM.out, docS_none, docS] at g2
            exact ⟨_, HP, rfl, World.ownsRow.mono g3 (Nat.le_succ _), by rw [show sumsL LL = P from g2]; simpa using g3', g5⟩
          | some x =>
            obtain ⟨xT, xN⟩ := x
            obtain ⟨HP, ⟨⟨rp, rl, rc⟩, rn⟩, g, cap, e4, ⟨hcap, hcm⟩, hown, hlk, hrn, hrt, hc0, hc1, hf1, hg1, hg2, hHP⟩ := HR.out.last
            have ho : u5 = .bool true := HO.out
            subst ho e4
            have HLs := Lib.hid (And.intro hown (And.intro hlk (And.intro hrn (And.intro hrt hHP))))
            have hrn' : rn = xN := hrn
            clear hown hlk hrn hrt
            subst hrn'
            have hP0 : (0 : Int) ≤ (P.length : Int) := by omega
            have hPc : (P.length : Int) + 1 ≤ (cap : Int) := by omega
            have hP63 : (P.length : Int) < 9223372036854775807 := by unfold maxLen at hcm; omega
            by_cases hx0 : rn = 0
            · subst hx0
              go_wp2_with fail
              go_ret
              obtain ⟨hown, hlk, -, -, hHP⟩ := HLs.out
              have g2 := HR.out.2.1
              rw [HM.out, docS_none, docS, if_pos rfl] at g2
              refine ⟨_, HP, rfl, World.ownsRow.mono (OwnRw.cut hown hHP) (Nat.le_succ _), ?_, HR.out.2.2.2.2⟩
              rw [show sumsL LL = P from g2]
              exact hlk
            · have hxb : (rn == 0) = false := by simpa using hx0
              have hxd : decide (rn = 0) = false := by simpa using hx0
              have HX0 := Lib.hid hx0
              clear hx0
              go_wp2_with fail
              go_ret
              have hx0 := HX0.out
              obtain ⟨hown, hlk, -, hrt, hHP⟩ := HLs.out
              have g2 := HR.out.2.1
              rw [HM.out, docS_none, docS, if_neg hx0] at g2
              refine ⟨_, HP ++ [((rp, rl, rc), rn)], rfl, World.ownsRow.mono hown (Nat.le_succ _), ?_, HR.out.2.2.2.2⟩
              rw [show sumsL LL = P ++ [(xT, rn)] from g2]
              exact hlk.snoc rfl hrt
        · obtain ⟨hm1, hm2, hm3, hmn, hy⟩ := leftsC_hd HH.out hbn
          obtain ⟨b, off, rfl, -, hbl, hrows⟩ := (HV.out.below hb1).rows (by rintro rfl; simp at hm1)
          obtain ⟨pm, cm, hcm, hthm⟩ := hrows m hm1
          obtain ⟨M, hM⟩ : ∃ M, M = LL[m] := ⟨_, rfl⟩
          obtain ⟨a2, ha2⟩ : ∃ a2, a2 = H[m] := ⟨_, rfl⟩
          have HA2 := Lib.hid ha2
          have hhm : wr.cell? ⟨w.heap.size, m, none⟩ = some (.int .i64 (a2 : Int)) := by rw [ha2]; exact heads_at HR.out.2.2.2.1 hm2
          have ha2l : a2 < M.length := by rw [ha2, hM]; exact hm3
          have hy' : y = M[a2] := by subst hM ha2; exact hy
          rw [← hM] at hcm hthm
          obtain ⟨b2, o2, ⟨⟨yp, yl, yc⟩, yn⟩, rfl, hbl2, hy0, hy1, hyn, hyt⟩ := hthm.at_ ha2l
          rw [← hy'] at hyn hyt
          rw [hbn] at hbe
          have hbe' : _ = Value.int .i64 (m : Int) := hbe
          subst hbe'
          have hm1' : (m : Int) < (LL.length : Int) := by omega
          have hm2' : (m : Int) < (H.length : Int) := by omega
          have hHl : (H.length : Int) = (LL.length : Int) := by have := HH.out; omega
          have ha2l' : (a2 : Int) < (M.length : Int) := by omega
          have hmz : ¬ (m : Int) < 0 := by omega
          have ha63 : (a2 : Int) + 1 ≤ 1000000 := by
            have h1 := len_le_totC LL m hm1
            rw [← hM] at h1
            have := HTt.out
            omega
          have hw0 := (Array.getElem?_eq_some_iff.1 HR.out.2.2.2.1).1
          have hfm : ∀ i, wr.frozen? ⟨w.heap.size, i, none⟩ = false := fun i => frozen_of_row _ _ i _ _ HR.out.2.2.2.1
          have HBn := Lib.hid hbn
          have HYt := Lib.hid (And.intro hyn hyt)
          clear hbe hbn hrows hm3 hy hthm hM hy' hb1 ha2 hyn hyt
          have HNx := Lib.hid (HR.out.nextC (r := ((yp, yl, yc), yn)) hm2 HA2.out HBn.out HYt.out)
          have HPs := Lib.hid HR.out.short
          cases ox with
          | none =>
            obtain ⟨p4, c4, e4'⟩ := HR.out.form
            have e4 : u4 = .slice p4 P.length c4 := by rw [e4']; simp
            clear e4'
            have ho : u5 = .bool false := HO.out
            subst ho e4
            obtain ⟨⟨HQ, hN⟩, hM⟩ := HNx.out
            have HN4 := Lib.hid (hN.below ((Below.refl _ _).drew.drew))
            have HMs := Lib.hid hM
            clear hN hM HNx
            go_wp2_with fail
            go_region
            go_wp2_with fail
            go_region
            obtain ⟨W4, hW4⟩ : ∃ W4, W4 = ((wr.setCell ⟨w.heap.size, m, none⟩ (.int .i64 ((a2 : Int) + 1))).alloc (.cells #[.slice yp yl yc, .int .i64 yn] 68)).drew.drew := ⟨_, rfl⟩
            rw [← hW4] at HN4 ⊢
            clear hW4
            obtain ⟨hc0, hc1⟩ := HN4.out.2.1
            have HOw := Lib.hid (HN4.out.1.2.2.1.alloc (.cells #[.slice yp yl yc, .int .i64 yn] 68))
            have HIn := Lib.hid (litRw_in W4 ((yp, yl, yc), yn))
            have HQl := Lib.hid (show HQ.length ≤ 1000000 by have h1 := HN4.out.1.2.2.2.1.1; have h2 := HPs.out; have h3 := HTt.out; simp at h1; omega)
            have HSz := Lib.hid (show w.heap.size + 1 ≤ (W4.alloc (.cells #[.slice yp yl yc, .int .i64 yn] 68)).heap.size by have h1 := (Array.getElem?_eq_some_iff.1 HN4.out.1.2.2.2.2.1).1; simp; omega)
            go_wp2_with (at_builtin; (refine wpList_appRw rfl (.tmp 128) (.tmp 130) rfl (w.heap.size + 1) _ _ _ HQ [((yp, yl, yc), yn)] rfl rfl HOw.out HIn.out HQl.out (by simp) HSz.out ?_; intro v5 w5 ho5 hg5 hv5; have HN5 := Lib.hid (RmA.put HN4.out.1.first HN4.out.2.2.1 HN4.out.2.2.2.1 ho5 hg5); clear ho5 hg5 hv5))
            go_wp2_with fail
            go_roundw
            case rel => exact ⟨_, _, some y, rfl, HN5⟩
            case measure =>
              have h1 := (leastN_spec (p := fun k => ∃ H' P ox, Value.bool true = .bool (Option.isSome ox) ∧ totC (leftsC LL H') = k ∧ RmS LL w H' P ox v5 w5) ⟨_, _, some y, rfl, rfl, HN5.out⟩).2
              have h2 := HMs.out
              rw [← HD.out]
              omega
          | some x =>
            obtain ⟨xT, xN⟩ := x
            obtain ⟨⟨HQ, hN⟩, hM⟩ := HNx.out
            have h0 := hN.1
            obtain ⟨HP, ⟨⟨rp, rl, rc⟩, rn⟩, g, cap, e0, e4, ⟨hcap, hcm'⟩, -, hrn, -, -, -, -, -, -, hHP⟩ := own_last h0.2.2.1 (show LikeC _ _ HQ (P ++ [(xT, xN)]) from h0.2.2.2.1)
            have ho : u5 = .bool true := HO.out
            subst ho e4 e0
            have hrn' : rn = xN := hrn
            subst hrn'
            have HN3 := Lib.hid (hN.below (Below.refl _ _).drew)
            have HMs := Lib.hid hM
            have HHP := Lib.hid hHP
            have hP0 : (0 : Int) ≤ (P.length : Int) := by omega
            have hPc : (P.length : Int) + 1 ≤ (cap : Int) := by omega
            have hP63 : (P.length : Int) < 9223372036854775807 := by have := HPs.out; have := HTt.out; omega
            obtain ⟨z, hz⟩ : ∃ z, z = cmpT xT y.1 := ⟨_, rfl⟩
            have HZ := Lib.hid hz
            clear hN hM HNx h0 hrn hHP hz
            by_cases hz0 : z = 0
            · subst hz0
              go_wp2_with fail
              go_region
              go_wp2_with fail
              obtain ⟨W3, hW3⟩ : ∃ W3, W3 = ((wr.setCell ⟨w.heap.size, m, none⟩ (.int .i64 ((a2 : Int) + 1))).alloc (.cells #[.slice yp yl yc, .int .i64 yn] 68)).drew := ⟨_, rfl⟩
              rw [← hW3] at HN3 ⊢
              clear hW3
              obtain ⟨k1, k2, k3, k4, -⟩ := HN3.out.1.cells HHP.out
              have HE3 := Lib.hid (show TwoR g P.length wr.heap.size (rp, rl, rc) (yp, yl, yc) W3 from ⟨k1, HN3.out.2.1.1⟩)
              have HXT := Lib.hid (show TupS (fun k => k < W3.heap.size) W3 (.slice rp rl rc) xT from k4.inside.keep (fun _ e _ => e.2) (fun _ _ _ => rfl))
              have HYT := Lib.hid (show TupS (fun k => k < W3.heap.size) W3 (.slice yp yl yc) y.1 from HN3.out.2.2.2.1.inside.keep (fun _ e _ => e.2) (fun _ _ _ => rfl))
              clear k1 k2 k3 k4
              obtain ⟨N, hNl⟩ : ∃ N, N = P.length + 1 := ⟨_, rfl⟩
              rw [← hNl]
              have hPN : (P.length : Int) < (N : Int) := by omega
              have hNc : (N : Int) ≤ (cap : Int) := by omega
              have HNl := Lib.hid hNl
              clear hNl
              go_region_held3 (fun X => X.cell? ⟨g, P.length * 2, none⟩ = some (.slice rp rl rc) ∧ X.cell? ⟨wr.heap.size, 0, none⟩ = some (.slice yp yl yc)) (first | exact HE3.out | exact HE4.out)
                ((go_at_call 43; refine (rcompareS_any _ _ xT y.1 _ ?_ ?_).mono ?_; exact HXT.out; exact HYT.out; rintro e w4 ⟨rfl, hg4⟩; have hb4 := hg4.below; rw [← HZ.out]; have HN4 := Lib.hid (HN3.out.below ((Below.refl _ _).drew.trans hb4)); have HE4 := Lib.hid (HE3.out.below ((Below.refl _ _).drew.trans hb4)); clear hb4 hg4))
              obtain ⟨-, k2, k3, -, -⟩ := HN4.out.1.cells HHP.out
              obtain ⟨hc0, hc1⟩ := HN4.out.2.1
              have HRl : Hid (RmS LL w (H.set m (a2 + 1)) P (some (xT, wrap64 (rn + yn))) (.slice (some ⟨g, 0, none⟩) N cap) (w4.setCell ⟨g, P.length * 2 + 1, none⟩ (.int .i64 (wrap64 (rn + yn)))).drew) := by
                have e2 : yn = y.2 := HN4.out.2.2.1
                have h := RmT.like HN4.out.1 HHP.out rfl HZ.out.symm
                rw [← e2] at h
                rw [HNl.out]
                exact Lib.hid (h.below (Below.refl _ _).drew)
              go_wp2_with fail
              go_region
              go_wp2_with fail
              go_roundw
              case rel => exact ⟨_, _, some (xT, wrap64 (rn + yn)), rfl, HRl⟩
              case measure =>
                have h1 := (leastN_spec (p := fun k => ∃ H' P' ox, Value.bool true = .bool (Option.isSome ox) ∧ totC (leftsC LL H') = k ∧ RmS LL w H' P' ox (.slice (some ⟨g, 0, none⟩) N cap) (w4.setCell ⟨g, P.length * 2 + 1, none⟩ (.int .i64 (wrap64 (rn + yn)))).drew) ⟨_, _, some (xT, wrap64 (rn + yn)), rfl, rfl, HRl.out⟩).2
                have h2 := HMs.out
                rw [← HD.out]
                omega
            · have hzb : (z == 0) = false := by simpa using hz0
              have hzd : decide (z = 0) = false := by simpa using hz0
              have HZn := Lib.hid (show ¬ cmpT xT y.1 = 0 by rw [← HZ.out]; exact hz0)
              clear hz0
              by_cases hx0 : rn = 0
              · subst hx0
                go_wp2_with fail
                go_region
                go_wp2_with fail
                obtain ⟨W3, hW3⟩ : ∃ W3, W3 = ((wr.setCell ⟨w.heap.size, m, none⟩ (.int .i64 ((a2 : Int) + 1))).alloc (.cells #[.slice yp yl yc, .int .i64 yn] 68)).drew := ⟨_, rfl⟩
                rw [← hW3] at HN3 ⊢
                clear hW3
                obtain ⟨k1, k2, k3, k4, -⟩ := HN3.out.1.cells HHP.out
                have HE3 := Lib.hid (show TwoR g P.length wr.heap.size (rp, rl, rc) (yp, yl, yc) W3 from ⟨k1, HN3.out.2.1.1⟩)
                have HXT := Lib.hid (show TupS (fun k => k < W3.heap.size) W3 (.slice rp rl rc) xT from k4.inside.keep (fun _ e _ => e.2) (fun _ _ _ => rfl))
                have HYT := Lib.hid (show TupS (fun k => k < W3.heap.size) W3 (.slice yp yl yc) y.1 from HN3.out.2.2.2.1.inside.keep (fun _ e _ => e.2) (fun _ _ _ => rfl))
                clear k1 k2 k3 k4
                obtain ⟨N, hNl⟩ : ∃ N, N = P.length + 1 := ⟨_, rfl⟩
                rw [← hNl]
                have hPN : (P.length : Int) < (N : Int) := by omega
                have hNc : (N : Int) ≤ (cap : Int) := by omega
                have HNl := Lib.hid hNl
                clear hNl
                go_region_held3 (fun X => X.cell? ⟨g, P.length * 2, none⟩ = some (.slice rp rl rc) ∧ X.cell? ⟨wr.heap.size, 0, none⟩ = some (.slice yp yl yc)) (first | exact HE3.out | exact HE4.out)
                ((go_at_call 43; refine (rcompareS_any _ _ xT y.1 _ ?_ ?_).mono ?_; exact HXT.out; exact HYT.out; rintro e w4 ⟨rfl, hg4⟩; have hb4 := hg4.below; rw [← HZ.out]; have HN4 := Lib.hid (HN3.out.below ((Below.refl _ _).drew.trans hb4)); have HE4 := Lib.hid (HE3.out.below ((Below.refl _ _).drew.trans hb4)); clear hb4 hg4))
                obtain ⟨-, k2, k3, -, -⟩ := HN4.out.1.cells HHP.out
                have hNl := HNl.out
                clear HNl
                subst hNl
                have HA := Lib.hid (RmT.none_ HN4.out.1 HHP.out HZn.out rfl)
                have HQl := Lib.hid (show HP.length ≤ 1000000 by have := HHP.out; have := HPs.out; have := HTt.out; omega)
                obtain ⟨hc0, hc1⟩ := HN4.out.2.1
                have HIn := Lib.hid (litRw_in w4 ((yp, yl, yc), yn))
                have HSz := Lib.hid (show w.heap.size + 1 ≤ (w4.alloc (.cells #[.slice yp yl yc, .int .i64 yn] 68)).heap.size by have h1 := (Array.getElem?_eq_some_iff.1 HN4.out.1.2.2.2.2.1).1; simp; omega)
                go_wp2_with (at_builtin; (refine wpList_appRw rfl (.tmp 128) (.tmp 130) rfl (w.heap.size + 1) _ _ _ HP [((yp, yl, yc), yn)] rfl rfl (HA.out.2.2.1.alloc _) HIn.out HQl.out (by simp) HSz.out ?_; intro v5 w5 ho5 hg5 hv5; have HN5 := Lib.hid (RmA.put HA.out HN4.out.2.2.1 HN4.out.2.2.2.1 ho5 hg5); clear ho5 hg5 hv5))
                go_wp2_with fail
                go_roundw
                case rel => exact ⟨_, _, some y, rfl, HN5⟩
                case measure =>
                  have h1 := (leastN_spec (p := fun k => ∃ H' P ox, Value.bool true = .bool (Option.isSome ox) ∧ totC (leftsC LL H') = k ∧ RmS LL w H' P ox v5 w5) ⟨_, _, some y, rfl, rfl, HN5.out⟩).2
                  have h2 := HMs.out
                  rw [← HD.out]
                  omega
              · have hxb : (rn == 0) = false := by simpa using hx0
                have hxd : decide (rn = 0) = false := by simpa using hx0
                have HX0 := Lib.hid hx0
                clear hx0
                go_wp2_with fail
                go_region
                go_wp2_with fail
                obtain ⟨W3, hW3⟩ : ∃ W3, W3 = ((wr.setCell ⟨w.heap.size, m, none⟩ (.int .i64 ((a2 : Int) + 1))).alloc (.cells #[.slice yp yl yc, .int .i64 yn] 68)).drew := ⟨_, rfl⟩
                rw [← hW3] at HN3 ⊢
                clear hW3
                obtain ⟨k1, k2, k3, k4, -⟩ := HN3.out.1.cells HHP.out
                have HE3 := Lib.hid (show TwoR g P.length wr.heap.size (rp, rl, rc) (yp, yl, yc) W3 from ⟨k1, HN3.out.2.1.1⟩)
                have HXT := Lib.hid (show TupS (fun k => k < W3.heap.size) W3 (.slice rp rl rc) xT from k4.inside.keep (fun _ e _ => e.2) (fun _ _ _ => rfl))
                have HYT := Lib.hid (show TupS (fun k => k < W3.heap.size) W3 (.slice yp yl yc) y.1 from HN3.out.2.2.2.1.inside.keep (fun _ e _ => e.2) (fun _ _ _ => rfl))
                clear k1 k2 k3 k4
                obtain ⟨N, hNl⟩ : ∃ N, N = P.length + 1 := ⟨_, rfl⟩
                rw [← hNl]
                have hPN : (P.length : Int) < (N : Int) := by omega
                have hNc : (N : Int) ≤ (cap : Int) := by omega
                have HNl := Lib.hid hNl
                clear hNl
                go_region_held3 (fun X => X.cell? ⟨g, P.length * 2, none⟩ = some (.slice rp rl rc) ∧ X.cell? ⟨wr.heap.size, 0, none⟩ = some (.slice yp yl yc)) (first | exact HE3.out | exact HE4.out)
                ((go_at_call 43; refine (rcompareS_any _ _ xT y.1 _ ?_ ?_).mono ?_; exact HXT.out; exact HYT.out; rintro e w4 ⟨rfl, hg4⟩; have hb4 := hg4.below; rw [← HZ.out]; have HN4 := Lib.hid (HN3.out.below ((Below.refl _ _).drew.trans hb4)); have HE4 := Lib.hid (HE3.out.below ((Below.refl _ _).drew.trans hb4)); clear hb4 hg4))
                obtain ⟨-, k2, k3, -, -⟩ := HN4.out.1.cells HHP.out
                have hNl := HNl.out
                clear HNl
                subst hNl
                have HA := Lib.hid (RmT.other HN4.out.1 HZn.out HX0.out)
                have HQl := Lib.hid (show (HP ++ [((rp, rl, rc), rn)]).length ≤ 1000000 by have := HHP.out; have := HPs.out; have := HTt.out; simp; omega)
                obtain ⟨hc0, hc1⟩ := HN4.out.2.1
                have HIn := Lib.hid (litRw_in w4 ((yp, yl, yc), yn))
                have HSz := Lib.hid (show w.heap.size + 1 ≤ (w4.alloc (.cells #[.slice yp yl yc, .int .i64 yn] 68)).heap.size by have h1 := (Array.getElem?_eq_some_iff.1 HN4.out.1.2.2.2.2.1).1; simp; omega)
                go_wp2_with (at_builtin; (refine wpList_appRw rfl (.tmp 128) (.tmp 130) rfl (w.heap.size + 1) _ _ _ (HP ++ [((rp, rl, rc), rn)]) [((yp, yl, yc), yn)] rfl rfl (HA.out.2.2.1.alloc _) HIn.out HQl.out (by simp) HSz.out ?_; intro v5 w5 ho5 hg5 hv5; have HN5 := Lib.hid (RmA.put HA.out HN4.out.2.2.1 HN4.out.2.2.2.1 ho5 hg5); clear ho5 hg5 hv5))
                go_wp2_with fail
                go_roundw
                case rel => exact ⟨_, _, some y, rfl, HN5⟩
                case measure =>
                  have h1 := (leastN_spec (p := fun k => ∃ H' P ox, Value.bool true = .bool (Option.isSome ox) ∧ totC (leftsC LL H') = k ∧ RmS LL w H' P ox v5 w5) ⟨_, _, some y, rfl, rfl, HN5.out⟩).2
                  have h2 := HMs.out
                  rw [← HD.out]
                  omega
end Go.Proofs.Ytcfnpbmkcdmafaa
