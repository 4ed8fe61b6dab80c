/-
  For every row of pieces and number the law CrcBack returns true and leaves its arguments as they were: what is sealed, framed, and cut anywhere is read as far as it is whole.
  Conditions: those that the row prints (the size of memory that is read); the table crc.nibbles holds what its initialiser lays, which the card ties to the program's text; none of the proof's own.
-/
import Derived.Test.YteaeiejkdnbcnaaDoorCrBw
namespace Go.Proofs.YteaeiejkdnbcnaaDoor
open Go Go.RowKit

set_option maxHeartbeats 8000000 in
set_option maxRecDepth 100000 in
theorem back_any (v : Value) (L : List (UInt8 × List UInt8)) (n : Nat) (w : World) (h : PcsIn w.heap.size w v L) (hn : n < 18446744073709551616) (HG0 : Glob w) :
    Calls Tryd.prog 9 #[v, .int .u64 (n : Nat)] w fun e w' => e = .returned (.bool true) ∧ Below w.heap.size w w' := by
  have HG := Lib.hid HG0
  obtain ⟨p, cap, rfl, hl, hp⟩ := h
  have HP := Lib.hid hp
  have HN := Lib.hid hn
  unfold maxLen at hl
  have g1 : (L.length : Int) ≤ 9223372036854775807 := by omega
  clear HG0 hp hn hl
  go_enter Tryd.func9, Tryd.ntmps9
  go_wp2_with fail
  refine (awake_true w HG.out).mono ?_
  rintro e w0 ⟨rfl, hb0⟩
  have HB0 := Lib.hid hb0
  clear hb0
  go_wp2_with fail
  go_loopw [5, 6, 7, 8] (fun va ve vs i wr => ∃ k : Nat, k ≤ L.length ∧ k ≤ 12 ∧ i = .int .i64 k ∧ Hid (BkS w wr va (framesL (pcsL L k)) vs (pcsL L k) ve (endsL (pcsL L k)))) (fun _ _ _ i _ => 12 - (intOf i).toNat)
  case atStart => exact ⟨0, Nat.zero_le _, Nat.zero_le _, rfl, Lib.hid ⟨OwnB.nil _ _, OwnA.nil _ _, World.ownsRow_nil _ _ _ 1, HB0.out⟩⟩
  case round =>
    obtain ⟨k, hk, hk2, rfl, HK⟩ := hrel
    have q1 : (k : Int) ≤ (L.length : Int) := by omega
    have q2 : (0 : Int) ≤ (k : Int) := by omega
    have q3 : (k : Int) ≤ 12 := by omega
    by_cases hlt : k < L.length ∧ k < 12
    case neg =>
      obtain ⟨P, hP⟩ : ∃ P, P = pcsL L k := ⟨_, rfl⟩
      have HPl := Lib.hid (show P.length ≤ 12 by rw [hP, pcsL_len L k hk]; exact hk2)
      have HPq := Lib.hid (show ∀ q ∈ P, q.2.length ≤ 300 by
        intro q hq
        rw [hP] at hq
        obtain ⟨q0, -, rfl⟩ := List.mem_map.1 hq
        show (q0.2.take 300).length ≤ 300
        rw [List.length_take]; omega)
      rw [← hP] at HK
      clear hP
      have HnB := Lib.hid (show (framesL P).length ≤ 3756 by have := framesL_len P HPq.out; have := HPl.out; omega)
      obtain ⟨A5, hA⟩ : ∃ A5, A5 = framesL P := ⟨_, rfl⟩
      have HA5 := Lib.hid hA
      rw [← hA] at HK HnB
      clear hA
      obtain ⟨p5, c5, e5, h5a, h5b⟩ := HK.out.all_.byC.2
      obtain ⟨nA, HnA⟩ : ∃ nA, Hid (nA = A5.length) := ⟨_, Lib.hid rfl⟩
      rw [← HnA.out] at e5 h5a HnB
      subst e5
      obtain ⟨r, Hr⟩ : ∃ r, Hid (r = n % (nA + 1)) := ⟨_, Lib.hid rfl⟩
      have Hr1 := Lib.hid (show r ≤ nA by rw [Hr.out]; have := Nat.mod_lt n (show 0 < nA + 1 by omega); omega)
      have hm1 : (n : Int) % ((nA : Int) + 1) = (r : Int) := by rw [Hr.out]; push_cast; rfl
      have hm2 : (n : Int).tmod ((nA : Int) + 1) = (r : Int) := by rw [Int.tmod_eq_emod_of_nonneg (by omega)]; exact hm1
      have b1 : (nA : Int) ≤ 3756 := by have := HnB.out; omega
      have b2 : (0 : Int) ≤ (nA : Int) := by omega
      have b3 : (r : Int) ≤ 3756 := by have := HnB.out; have := Hr1.out; omega
      have b4 : (0 : Int) ≤ (r : Int) := by omega
      have b5 : ¬ ((nA : Int) + 1 = 0) := by omega
      have b6 : (n : Int) ≤ 18446744073709551615 := by have := HN.out; omega
      have b7 : (0 : Int) ≤ (n : Int) := by omega
      have H5 := Lib.hid (show nA ≤ c5 ∧ c5 ≤ maxLen from ⟨h5a, h5b⟩)
      unfold maxLen at h5b
      have b8 : (nA : Int) ≤ (c5 : Int) := by omega
      have b9 : (c5 : Int) ≤ 9223372036854775807 := by omega
      have b10 : (r : Int) ≤ (c5 : Int) := by have := Hr1.out; omega
      clear h5a h5b
      obtain ⟨pe, ce, e6, hec⟩ := ends_shape HK.out.ends_
      subst e6
      have HEc := Lib.hid hec
      obtain ⟨pv, cv, e7, h7a, h7b, hpre⟩ := HK.out.some_.pre HK.out.below_.size (by have := HPl.out; omega)
      subst e7
      have HPre := Lib.hid hpre
      unfold maxLen at h7b
      have b11 : (P.length : Int) ≤ (cv : Int) := by omega
      have b12 : (cv : Int) ≤ 9223372036854775807 := by omega
      clear hec hpre h7a h7b
      obtain ⟨wA, hwA⟩ : ∃ wA, wA = wr := ⟨_, rfl⟩
      subst hwA
      by_cases hk1 : k < L.length
      · have q4 : (k : Int) < (L.length : Int) := by omega
        have q6 : (12 : Int) ≤ (k : Int) := by omega
        clear hlt hk1
        go_wp2_with fail
        go_loopw [18, 19] (fun i at_ W => ∃ c : Nat, c ≤ P.length ∧ i = .int .i64 c ∧ at_ = .int .i64 ((framesL (P.take c)).length : Nat) ∧ Hid ((framesL (P.take c)).length ≤ r ∧ W = wA)) (fun i _ _ => P.length - (intOf i).toNat)
        case atStart => exact ⟨0, Nat.zero_le _, rfl, rfl, Lib.hid ⟨Nat.zero_le _, rfl⟩⟩
        case round =>
          obtain ⟨c, hc, rfl, rfl, hC⟩ := hrel
          obtain rfl := hC.out.2
          have w1 : (0 : Int) ≤ (c : Int) := by omega
          have w2 : (c : Int) ≤ (P.length : Int) := by omega
          have w3 : (P.length : Int) ≤ 12 := by have := HPl.out; omega
          by_cases hcl : c < P.length
          · have w4 : (c : Int) < (P.length : Int) := by omega
            obtain ⟨g, rfl, hce⟩ := HEc.out c hcl
            obtain ⟨ec, Hec⟩ : ∃ ec, Hid (ec = (framesL (P.take (c + 1))).length) := ⟨_, Lib.hid rfl⟩
            rw [← Hec.out] at hce
            by_cases hle : ec ≤ r
            · have w5 : (ec : Int) ≤ (r : Int) := by omega
              go_wp2_with fail
              go_roundw
              case rel => exact ⟨c + 1, by omega, by go_num, by rw [Hec.out], Lib.hid ⟨by rw [← Hec.out]; exact hle, trivial⟩⟩
              case measure => simp [intOf]; omega
            · have w5 : (r : Int) < (ec : Int) := by omega
              have HSc := Lib.hid (show scanL (A5.take r) = (P.take c, (framesL (P.take c)).length) by
                rw [HA5.out]
                exact scan_cut P r c (fun q hq => Nat.le_trans (HPq.out q hq) (by decide)) hc hC.out.1 (fun _ => by rw [← Hec.out]; omega) (by rw [← HA5.out, ← HnA.out]; exact Hr1.out))
              have HIn := Lib.hid (ByC.pre (t := r) (p := p5) (c := c5) (l := A5) (n₀ := wr.heap.size) (w := wr) (by have := HK.out.all_.in_; rw [HnA.out] at this; exact this) (by rw [← HnA.out]; exact H5.out.1) H5.out.2 (by rw [← HnA.out]; exact Hr1.out))
              obtain ⟨ac, Hac⟩ : ∃ ac, Hid (ac = (framesL (P.take c)).length) := ⟨_, Lib.hid rfl⟩
              rw [← Hac.out] at HSc ⊢
              clear hC
              go_wp2_with fail
              refine (scan_any (.slice p5 r c5) (A5.take r) wr HIn.out (by rw [List.length_take]; have := Hr1.out; have := HnB.out; omega) (HG.out.below HK.out.below_)).mono ?_
              rintro e w1 ⟨v1, rfl, ho, hb⟩
              rw [HSc.out] at ho ⊢
              have HR1 := Lib.hid (ho.rowP hb.size (by rw [List.length_take]; have := HPl.out; omega))
              have HR2 := Lib.hid ((HPre.out c hc).below hb)
              have HB1 := Lib.hid (HK.out.below_.trans (hb.mono HK.out.below_.size))
              clear ho hb
              go_wp2_with fail
              refine (same_rows _ _ _ _ w1 HR1.out HR2.out).mono ?_
              rintro e w2 ⟨he, hb⟩
              rw [decide_eq_true rfl] at he
              subst he
              have HB2 := Lib.hid (HB1.out.trans (hb.mono HB1.out.size))
              clear hb
              go_wp2_with fail
              go_ret
              exact ⟨rfl, HB2.out⟩
          · have w4 : (P.length : Int) ≤ (c : Int) := by omega
            have HSc := Lib.hid (show scanL (A5.take r) = (P.take c, (framesL (P.take c)).length) by
              rw [HA5.out]
              exact scan_cut P r c (fun q hq => Nat.le_trans (HPq.out q hq) (by decide)) hc hC.out.1 (fun h => absurd h hcl) (by rw [← HA5.out, ← HnA.out]; exact Hr1.out))
            have HIn := Lib.hid (ByC.pre (t := r) (p := p5) (c := c5) (l := A5) (n₀ := wr.heap.size) (w := wr) (by have := HK.out.all_.in_; rw [HnA.out] at this; exact this) (by rw [← HnA.out]; exact H5.out.1) H5.out.2 (by rw [← HnA.out]; exact Hr1.out))
            obtain ⟨ac, Hac⟩ : ∃ ac, Hid (ac = (framesL (P.take c)).length) := ⟨_, Lib.hid rfl⟩
            rw [← Hac.out] at HSc ⊢
            clear hC
            go_wp2_with fail
            refine (scan_any (.slice p5 r c5) (A5.take r) wr HIn.out (by rw [List.length_take]; have := Hr1.out; have := HnB.out; omega) (HG.out.below HK.out.below_)).mono ?_
            rintro e w1 ⟨v1, rfl, ho, hb⟩
            rw [HSc.out] at ho ⊢
            have HR1 := Lib.hid (ho.rowP hb.size (by rw [List.length_take]; have := HPl.out; omega))
            have HR2 := Lib.hid ((HPre.out c hc).below hb)
            have HB1 := Lib.hid (HK.out.below_.trans (hb.mono HK.out.below_.size))
            clear ho hb
            go_wp2_with fail
            refine (same_rows _ _ _ _ w1 HR1.out HR2.out).mono ?_
            rintro e w2 ⟨he, hb⟩
            rw [decide_eq_true rfl] at he
            subst he
            have HB2 := Lib.hid (HB1.out.trans (hb.mono HB1.out.size))
            clear hb
            go_wp2_with fail
            go_ret
            exact ⟨rfl, HB2.out⟩
      · have q4 : (L.length : Int) ≤ (k : Int) := by omega
        clear hlt hk1
        go_wp2_with fail
        go_loopw [18, 19] (fun i at_ W => ∃ c : Nat, c ≤ P.length ∧ i = .int .i64 c ∧ at_ = .int .i64 ((framesL (P.take c)).length : Nat) ∧ Hid ((framesL (P.take c)).length ≤ r ∧ W = wA)) (fun i _ _ => P.length - (intOf i).toNat)
        case atStart => exact ⟨0, Nat.zero_le _, rfl, rfl, Lib.hid ⟨Nat.zero_le _, rfl⟩⟩
        case round =>
          obtain ⟨c, hc, rfl, rfl, hC⟩ := hrel
          obtain rfl := hC.out.2
          have w1 : (0 : Int) ≤ (c : Int) := by omega
          have w2 : (c : Int) ≤ (P.length : Int) := by omega
          have w3 : (P.length : Int) ≤ 12 := by have := HPl.out; omega
          by_cases hcl : c < P.length
          · have w4 : (c : Int) < (P.length : Int) := by omega
            obtain ⟨g, rfl, hce⟩ := HEc.out c hcl
            obtain ⟨ec, Hec⟩ : ∃ ec, Hid (ec = (framesL (P.take (c + 1))).length) := ⟨_, Lib.hid rfl⟩
            rw [← Hec.out] at hce
            by_cases hle : ec ≤ r
            · have w5 : (ec : Int) ≤ (r : Int) := by omega
              go_wp2_with fail
              go_roundw
              case rel => exact ⟨c + 1, by omega, by go_num, by rw [Hec.out], Lib.hid ⟨by rw [← Hec.out]; exact hle, trivial⟩⟩
              case measure => simp [intOf]; omega
            · have w5 : (r : Int) < (ec : Int) := by omega
              have HSc := Lib.hid (show scanL (A5.take r) = (P.take c, (framesL (P.take c)).length) by
                rw [HA5.out]
                exact scan_cut P r c (fun q hq => Nat.le_trans (HPq.out q hq) (by decide)) hc hC.out.1 (fun _ => by rw [← Hec.out]; omega) (by rw [← HA5.out, ← HnA.out]; exact Hr1.out))
              have HIn := Lib.hid (ByC.pre (t := r) (p := p5) (c := c5) (l := A5) (n₀ := wr.heap.size) (w := wr) (by have := HK.out.all_.in_; rw [HnA.out] at this; exact this) (by rw [← HnA.out]; exact H5.out.1) H5.out.2 (by rw [← HnA.out]; exact Hr1.out))
              obtain ⟨ac, Hac⟩ : ∃ ac, Hid (ac = (framesL (P.take c)).length) := ⟨_, Lib.hid rfl⟩
              rw [← Hac.out] at HSc ⊢
              clear hC
              go_wp2_with fail
              refine (scan_any (.slice p5 r c5) (A5.take r) wr HIn.out (by rw [List.length_take]; have := Hr1.out; have := HnB.out; omega) (HG.out.below HK.out.below_)).mono ?_
              rintro e w1 ⟨v1, rfl, ho, hb⟩
              rw [HSc.out] at ho ⊢
              have HR1 := Lib.hid (ho.rowP hb.size (by rw [List.length_take]; have := HPl.out; omega))
              have HR2 := Lib.hid ((HPre.out c hc).below hb)
              have HB1 := Lib.hid (HK.out.below_.trans (hb.mono HK.out.below_.size))
              clear ho hb
              go_wp2_with fail
              refine (same_rows _ _ _ _ w1 HR1.out HR2.out).mono ?_
              rintro e w2 ⟨he, hb⟩
              rw [decide_eq_true rfl] at he
              subst he
              have HB2 := Lib.hid (HB1.out.trans (hb.mono HB1.out.size))
              clear hb
              go_wp2_with fail
              go_ret
              exact ⟨rfl, HB2.out⟩
          · have w4 : (P.length : Int) ≤ (c : Int) := by omega
            have HSc := Lib.hid (show scanL (A5.take r) = (P.take c, (framesL (P.take c)).length) by
              rw [HA5.out]
              exact scan_cut P r c (fun q hq => Nat.le_trans (HPq.out q hq) (by decide)) hc hC.out.1 (fun h => absurd h hcl) (by rw [← HA5.out, ← HnA.out]; exact Hr1.out))
            have HIn := Lib.hid (ByC.pre (t := r) (p := p5) (c := c5) (l := A5) (n₀ := wr.heap.size) (w := wr) (by have := HK.out.all_.in_; rw [HnA.out] at this; exact this) (by rw [← HnA.out]; exact H5.out.1) H5.out.2 (by rw [← HnA.out]; exact Hr1.out))
            obtain ⟨ac, Hac⟩ : ∃ ac, Hid (ac = (framesL (P.take c)).length) := ⟨_, Lib.hid rfl⟩
            rw [← Hac.out] at HSc ⊢
            clear hC
            go_wp2_with fail
            refine (scan_any (.slice p5 r c5) (A5.take r) wr HIn.out (by rw [List.length_take]; have := Hr1.out; have := HnB.out; omega) (HG.out.below HK.out.below_)).mono ?_
            rintro e w1 ⟨v1, rfl, ho, hb⟩
            rw [HSc.out] at ho ⊢
            have HR1 := Lib.hid (ho.rowP hb.size (by rw [List.length_take]; have := HPl.out; omega))
            have HR2 := Lib.hid ((HPre.out c hc).below hb)
            have HB1 := Lib.hid (HK.out.below_.trans (hb.mono HK.out.below_.size))
            clear ho hb
            go_wp2_with fail
            refine (same_rows _ _ _ _ w1 HR1.out HR2.out).mono ?_
            rintro e w2 ⟨he, hb⟩
            rw [decide_eq_true rfl] at he
            subst he
            have HB2 := Lib.hid (HB1.out.trans (hb.mono HB1.out.size))
            clear hb
            go_wp2_with fail
            go_ret
            exact ⟨rfl, HB2.out⟩
    have q4 : (k : Int) < (L.length : Int) := by omega
    have q5 : (k : Int) < 12 := by omega
    obtain ⟨b, off, s, hps, hb, x0, x1, hs⟩ := HP.out k hlt.1
    subst hps
    have hbw := HK.out.below_
    obtain ⟨kk, bl, y0, y1, hs', HSucc⟩ : ∃ (kk : UInt8) (bl : List UInt8), w.cell? ⟨b, off + k * 2, none⟩ = some (.int .u8 (kk.toNat : Int)) ∧ w.cell? ⟨b, off + k * 2 + 1, none⟩ = some s ∧ ByC w.heap.size w s bl ∧ Hid (pcsL L (k + 1) = pcsL L k ++ [(kk, bl.take 300)]) := ⟨_, _, x0, x1, hs, Lib.hid (pcsL_succ L k hlt.1)⟩
    clear x0 x1 hs hlt
    obtain ⟨ps, cs, es, -⟩ := hs'.2
    subst es
    have x0 := (hbw.cell (p := ⟨b, off + k * 2, none⟩) hb).trans y0
    have x1 := (hbw.cell (p := ⟨b, off + k * 2 + 1, none⟩) hb).trans y1
    have HS := Lib.hid (hs'.below hbw)
    clear hs' hb hbw y0 y1
    go_wp2_with fail
    refine (piece_any (n₀ := w.heap.size) kk (.slice ps bl.length cs) bl wr HS.out HK.out.below_.size).mono ?_
    rintro e w1 ⟨u, rfl, hu, hb1⟩
    obtain ⟨m, hm⟩ : ∃ m, m = bl.take 3000 := ⟨_, rfl⟩
    rw [← hm] at hu
    obtain ⟨pu, cu, eu, hmc, hcm⟩ := hu.2
    subst eu
    have HK1 := Lib.hid (HK.out.on hb1)
    have HU1 := Lib.hid hu
    have HML := Lib.hid hm
    clear x0 x1 hu hb1 hm HS
    obtain ⟨N, hN⟩ : ∃ N, N = w1.heap.size := ⟨_, rfl⟩
    have HN1 := Lib.hid (show w.heap.size ≤ N by rw [hN]; exact HK1.out.below_.size)
    obtain ⟨w2, hw2⟩ : ∃ w2, w2 = w1.alloc (.cells #[.int .u8 (kk.toNat : Int), .slice pu m.length cu] 35) := ⟨_, rfl⟩
    have hb := below_new w1 (.cells #[.int .u8 (kk.toNat : Int), .slice pu m.length cu] 35)
    rw [← hw2] at hb
    have HX2 := Lib.hid (show BoxQ w2 N kk (.slice pu m.length cu) by rw [hw2, hN]; exact heap_alloc_new w1 _)
    have HK2 := Lib.hid (HK1.out.on hb)
    have HU2 := Lib.hid (HU1.out.below (hb.mono HK1.out.below_.size))
    have HA := Lib.hid (show ∀ j, u7.ownBlock = some j → j < N from fun j hj => by
      obtain ⟨-, cur, hc⟩ := HK1.out.some_.toP.block j hj
      rw [hN]
      exact (Array.getElem?_eq_some_iff.1 hc).1)
    have HFr := Lib.hid (show (framesL (pcsL L k)).length ≤ 3756 by
      have h1 := framesL_len (pcsL L k) (fun q hq => by
        obtain ⟨q0, -, rfl⟩ := List.mem_map.1 hq
        show (q0.2.take 300).length ≤ 300
        rw [List.length_take]; omega)
      rw [pcsL_len L k hk] at h1
      omega)
    clear hb HK
    have HM := Lib.hid hcm
    unfold maxLen at hcm
    have g2 : (m.length : Int) ≤ (cu : Int) := by omega
    have g3 : (cu : Int) ≤ 9223372036854775807 := by omega
    obtain ⟨⟨c0, c1⟩, ⟨f0, f1⟩, -⟩ := HX2.out.facts
    by_cases h300 : m.length ≤ 300
    · have h300' : (m.length : Int) ≤ 300 := by omega
      obtain ⟨x, hx⟩ : ∃ x, x = m := ⟨_, rfl⟩
      have HL := Lib.hid (show x.length ≤ 300 by rw [hx]; exact h300)
      have HXx := Lib.hid (show bl.take 300 = x by
        have h3 := HML.out
        have h4 : bl.length ≤ 300 := by
          have := congrArg List.length h3
          rw [List.length_take] at this
          omega
        rw [hx, h3, List.take_of_length_le h4, List.take_of_length_le (by omega)])
      go_wp2_with fail
      rw [← hw2, ← hN]
      clear hw2 hN c0 c1 f0 f1 h300 HK1 HU1
      subst hx
      obtain ⟨⟨c0, c1⟩, -, -⟩ := HX2.out.facts
      go_wp2_with fail
      refine (frame_any kk pu cu x w2 (HU2.out.1.mono HK2.out.below_.size) (Nat.le_trans HL.out (by decide)) (HG.out.below HK2.out.below_)).mono ?_
      rintro e w3 ⟨vF, rfl, ho, hb⟩
      have HF3 := Lib.hid ho
      have HK3 := Lib.hid (HK2.out.on hb)
      have HX3 := Lib.hid (HX2.out.below hb HX2.out.facts.2.2)
      have HU3 := Lib.hid (HU2.out.below (hb.mono HK2.out.below_.size))
      clear ho hb c0 c1 HK2 HX2 HU2
      obtain ⟨qF, kF, eF, -⟩ := HF3.out.byC.2
      obtain ⟨nF, HnF⟩ : ∃ nF, Hid (nF = (frameL kk x).length) := ⟨_, Lib.hid rfl⟩
      rw [← HnF.out] at eF
      subst eF
      have HnF' := Lib.hid (show nF = 13 + x.length by rw [HnF.out, frameL_len])
      go_wp2_with fail
      have HUn := Lib.hid (show Calls Tryd.prog 22 #[.slice qF nF kF] w3 (UnfEnd (frameL kk x) w3) from unf_all _ (frameL kk x) w3 HF3.out.byC (by rw [frameL_len]; have := HL.out; omega) (HG.out.below HK3.out.below_))
      have HuE := Lib.hid (show unfE (frameL kk x) = (0, nF, kk, x) by
        have := unfE_frame kk x [] (Nat.le_trans HL.out (by decide))
        rw [List.append_nil] at this
        rw [this, HnF'.out])
      refine HUn.out.mono ?_
      rintro e w4 ⟨v4, rfl, ho, hb⟩
      rw [HuE.out] at ho ⊢
      obtain ⟨pd, cd, eb⟩ := ho.in_.shape
      subst eb
      clear HUn HuE
      have HO4 := Lib.hid ho.in_
      have HF4 := Lib.hid (HF3.out.in_.below hb |>.mono hb.size)
      have HK4 := Lib.hid (HK3.out.on hb)
      have HX4 := Lib.hid (HX3.out.below hb HX3.out.facts.2.2)
      have HU4 := Lib.hid (HU3.out.below (hb.mono HK3.out.below_.size))
      clear ho hb HF3 HK3 HX3 HU3
      obtain ⟨w5, hw5⟩ : ∃ w5, w5 = w4.alloc (.cells #[.int .u8 (kk.toNat : Int), .slice pd x.length cd] 35) := ⟨_, rfl⟩
      obtain ⟨M, hM⟩ : ∃ M, M = w4.heap.size := ⟨_, rfl⟩
      have hb := below_new w4 (.cells #[.int .u8 (kk.toNat : Int), .slice pd x.length cd] 35)
      rw [← hw5] at hb
      have HY5 := Lib.hid (show BoxQ w5 M kk (.slice pd x.length cd) by rw [hw5, hM]; exact heap_alloc_new w4 _)
      have HO5 := Lib.hid ((HO4.out.below hb).mono hb.size)
      have HF5 := Lib.hid ((HF4.out.below hb).mono hb.size)
      have HK5 := Lib.hid (HK4.out.on hb)
      have HX5 := Lib.hid (HX4.out.below hb HX4.out.facts.2.2)
      have HU5 := Lib.hid (HU4.out.below (hb.mono HK4.out.below_.size))
      clear hb HO4 HF4 HK4 HX4 HU4
      obtain ⟨⟨c0, c1⟩, -, -⟩ := HX5.out.facts
      rw [hw5] at c0 c1
      go_wp2_with fail
      rw [← hw5, ← hM]
      clear hw5 hM
      refine (seal_any _ x w5 (HU5.out.1.mono HK5.out.below_.size) (Nat.le_trans HL.out (by decide)) (HG.out.below HK5.out.below_)).mono ?_
      rintro e w6 ⟨v6, rfl, ho, hb⟩
      have HS6 := Lib.hid ho
      have HO6 := Lib.hid ((HO5.out.below hb).mono hb.size)
      have HF6 := Lib.hid ((HF5.out.below hb).mono hb.size)
      have HK6 := Lib.hid (HK5.out.on hb)
      have HX6 := Lib.hid (HX5.out.below hb HX5.out.facts.2.2)
      have HY6 := Lib.hid (HY5.out.below hb HY5.out.facts.2.2)
      have HU6 := Lib.hid (HU5.out.below (hb.mono HK5.out.below_.size))
      clear ho hb c0 c1 HO5 HF5 HK5 HX5 HY5 HU5
      go_wp2_with fail
      refine (open_any v6 (sealL x) w6 HS6.out.byC (by rw [sealL_len]; have := HL.out; omega) (HG.out.below HK6.out.below_)).mono ?_
      rintro e w7 ⟨v7, rfl, ho, hb⟩
      rw [openE_seal] at ho ⊢
      obtain ⟨p7, c7, e7⟩ := ho.in_.shape
      simp only at e7
      subst e7
      have HV7 := Lib.hid ho.in_
      have HO7 := Lib.hid ((HO6.out.below hb).mono hb.size)
      have HF7 := Lib.hid ((HF6.out.below hb).mono hb.size)
      have HK7 := Lib.hid (HK6.out.on hb)
      have HX7 := Lib.hid (HX6.out.below hb HX6.out.facts.2.2)
      have HY7 := Lib.hid (HY6.out.below hb HY6.out.facts.2.2)
      have HU7 := Lib.hid (HU6.out.below (hb.mono HK6.out.below_.size))
      clear ho hb HO6 HF6 HK6 HX6 HY6 HU6 HS6
      obtain ⟨⟨c0, c1⟩, -, hz1⟩ := HX7.out.facts
      obtain ⟨⟨d0, d1⟩, -, hz2⟩ := HY7.out.facts
      have r1 := run_str w7 _ _ _ HV7.out
      have r2 := run_str w7 _ _ _ HU7.out.1
      go_wp2_with fail
      obtain ⟨w8, hw8⟩ : ∃ w8, w8 = w7.alloc (.cells #[.int .u8 (kk.toNat : Int), .slice pd x.length cd] 35) := ⟨_, rfl⟩
      obtain ⟨w9, hw9⟩ : ∃ w9, w9 = w8.alloc (.cells #[.int .u8 (kk.toNat : Int), .slice pu x.length cu] 35) := ⟨_, rfl⟩
      have hb8 := below_new w7 (.cells #[.int .u8 (kk.toNat : Int), .slice pd x.length cd] 35)
      have hb9 := below_new w8 (.cells #[.int .u8 (kk.toNat : Int), .slice pu x.length cu] 35)
      have hr1 := rowP_one w7 kk pd cd x HO7.out
      rw [← hw8] at hb8 hr1
      have hr2 := rowP_one w8 kk pu cu x ((HU7.out.1.mono HK7.out.below_.size).below hb8 |>.mono hb8.size)
      rw [← hw9] at hb9 hr2
      have hs8 : w8.heap.size = w7.heap.size + 1 := by rw [hw8]; exact size_one _ _
      rw [hs8] at hr2
      have hb79 := hb8.trans (hb9.mono hb8.size)
      have HK9 := Lib.hid (HK7.out.on hb79)
      have HF9 := Lib.hid ((HF7.out.below hb79).mono hb79.size)
      have HU9 := Lib.hid (HU7.out.below (hb79.mono HK7.out.below_.size))
      have HX9 := Lib.hid (HX7.out.below hb79 hz1)
      have HSm := Lib.hid (same_rows _ _ _ _ w9 (hr1.below hb9) hr2)
      rw [← hw8, ← hw9]
      clear hw8 hw9 hb8 hb9 hb79 hr1 hr2 hs8 c0 c1 d0 d1 r1 r2 hz1 hz2 HK7 HF7 HU7 HX7 HY7 HO7 HV7
      refine HSm.out.mono ?_
      rintro e w10 ⟨he, hb⟩
      rw [decide_eq_true rfl] at he
      subst he
      have HK10 := Lib.hid (HK9.out.on hb)
      have HF10 := Lib.hid ((HF9.out.below hb).mono hb.size)
      have HU10 := Lib.hid (HU9.out.below (hb.mono HK9.out.below_.size))
      have HX10 := Lib.hid (HX9.out.below hb HX9.out.facts.2.2)
      clear hb HSm HK9 HF9 HU9 HX9
      obtain ⟨⟨c0, c1⟩, -, hz1⟩ := HX10.out.facts
      go_wp2_with fail
      have HXb := Lib.hid (show ∀ W : World, BoxQ W N kk (.slice pu x.length cu) → W.cell? ⟨N, 0, none⟩ = some (.int .u8 (kk.toNat : Int)) ∧ W.cell? ⟨N, 1, none⟩ = some (.slice pu x.length cu) from fun W h => h.facts.1)
      have HKd := Lib.hid (HK10.out.on (Below.refl _ _).drew)
      have HXd := Lib.hid (show BoxQ w10.drew N kk (.slice pu x.length cu) from HX10.out)
      have HFd := Lib.hid (show BytIn w10.drew.heap.size w10.drew (.slice qF nF kF) (frameL kk x) from HF10.out)
      have HUd := Lib.hid (show BytIn w.heap.size w10.drew (.slice pu x.length cu) x from HU10.out.1)
      have HA10 := Lib.hid (show some N ≠ u7.ownBlock from fun e => by have := HA.out N e.symm; omega)
      have HPk := Lib.hid (pcsL_len L k (by omega))
      refine wp_region_held_drew (S := fun W => W.cell? ⟨N, 0, none⟩ = some (.int .u8 (kk.toNat : Int)) ∧ W.cell? ⟨N, 1, none⟩ = some (.slice pu x.length cu)) (by kernel_rfl) (HXb.out _ HXd.out) (fun _ => ?_)
      refine take1 0 97 (v := ?_) rfl rfl (by kernel_rfl) (by kernel_rfl) (by kernel_rfl) (fun _ _ _ h => h) (by kernel_rfl) ?_ (HXb.out _ HXd.out) (by first | (simp only [put_norm]; exact rfl) | exact rfl) ?_
      rotate_left
      · intro W _; go_simp; try (with_reducible rfl)
      refine take1 1 98 (v := ?_) rfl rfl (by kernel_rfl) (by kernel_rfl) (by kernel_rfl) (fun _ _ _ h => h) (by kernel_rfl) ?_ (HXb.out _ HXd.out) (by first | (simp only [put_norm]; exact rfl) | exact rfl) ?_
      rotate_left
      · intro W _; go_simp; try (with_reducible rfl)
      refine take1 3 100 (v := ?_) rfl rfl (by kernel_rfl) (by kernel_rfl) (by kernel_rfl) (fun _ _ _ h => h) (by kernel_rfl) ?_ (HXb.out _ HXd.out) (by first | (simp only [put_norm]; exact rfl) | exact rfl) ?_
      rotate_left
      · intro W _; go_simp; try (with_reducible rfl)
      refine take1 4 101 (v := ?_) rfl rfl (by kernel_rfl) (by kernel_rfl) (by kernel_rfl) (fun _ _ _ h => h) (by kernel_rfl) ?_ (HXb.out _ HXd.out) (by first | (simp only [put_norm]; exact rfl) | exact rfl) ?_
      rotate_left
      · intro W hW; have z0 := hW.1; have z1 := hW.2; go_simp; try (with_reducible rfl)
      clear HK10 HX10 HF10 HU10 c0 c1 hz1
      refine wpAnyH_ready (rs := [2, 5]) (by kernel_rfl) (by simp) ?_
      refine AllReadyH.cons rfl (fun K hK => ?_) (AllReadyH.cons rfl (fun K hK => ?_) AllReadyH.nil)
      · refine step_appB rfl (.tmp 97) (.tmp 98) rfl w.heap.size _ u5 (.slice qF nF kF) (framesL (pcsL L k)) (frameL kk x) rfl rfl HKd.out.all_ HFd.out (by rw [frameL_len]; have := HL.out; have := HFr.out; omega) HKd.out.below_.size ?_
        intro v5 w11 ho hg
        have HK11 := Lib.hid (HKd.out.bytes ho hg)
        have HU11 := Lib.hid (HUd.out.below ((Below.refl w.heap.size _).grown hg HKd.out.below_.size (fun j e => (row_block HKd.out.all_ j e).1)))
        have HX11 := Lib.hid (show BoxQ w11 N kk (.slice pu x.length cu) from keepO HXd.out hg (fun e => by obtain ⟨-, cur, hc⟩ := row_block HKd.out.all_ N e.symm; have h2 := HXd.out; unfold BoxQ at h2; rw [hc] at h2; cases h2))
        clear ho hg
        refine hK.out _ _ (HXb.out _ HX11.out) (fun _ => ?_)
        clear hK K
        have hbl := below_new w11 (.cells #[.int .u8 (kk.toNat : Int), .slice pu x.length cu] 35)
        refine wpAnyH_ready (rs := [5]) (by kernel_rfl) (by simp) ?_
        refine AllReadyH.cons rfl (fun K hK => ?_) AllReadyH.nil
        go_simp
        have HK12 := Lib.hid (HK11.out.on hbl)
        have HX12 := Lib.hid (HX11.out.below hbl HX11.out.facts.2.2)
        refine hK.out _ _ (HXb.out _ HX12.out) (fun _ => ?_)
        clear hK K
        have HLt := Lib.hid (show BoxQ (w11.alloc (.cells #[.int .u8 (kk.toNat : Int), .slice pu x.length cu] 35)) w11.heap.size kk (.slice pu x.length cu) from heap_alloc_new w11 _)
        have HU12 := Lib.hid (HU11.out.below (hbl.mono HK11.out.below_.size))
        clear hbl
        refine wpAnyH_ready (rs := [6]) (by kernel_rfl) (by simp) ?_
        refine AllReadyH.cons rfl (fun K hK => ?_) AllReadyH.nil
        refine step_appA rfl (.tmp 100) (.tmp 102) rfl w.heap.size u7 (pcsL L k) kk pu cu x ⟨w11.heap.size, 0, none⟩ rfl rfl HK12.out.some_ HU12.out (by rw [HPk.out]; omega) HK12.out.below_.size HLt.out.facts.1.1 HLt.out.facts.1.2 ?_
        intro v7 w13 ho hg
        have HK13 := Lib.hid (HK12.out.pcs ho hg)
        have HX13 := Lib.hid (show BoxQ w13 N kk (.slice pu x.length cu) from keepO HX12.out hg HA10.out)
        clear ho hg
        refine hK.out _ _ (HXb.out _ HX13.out) (fun _ => ?_)
        clear hK K
        have HK14 := Lib.hid (show BkS w w13 v5 (framesL (pcsL L (k + 1))) v7 (pcsL L (k + 1)) u6 (endsL (pcsL L k)) by
          rw [HSucc.out, framesL_snoc, HXx.out]
          exact HK13.out)
        clear HK13
        obtain ⟨p5, k5, e5, -⟩ := HK14.out.all_.byC.2
        obtain ⟨nA, HnA⟩ : ∃ nA, Hid (nA = (framesL (pcsL L (k + 1))).length) := ⟨_, Lib.hid rfl⟩
        rw [← HnA.out] at e5
        subst e5
        refine take1 7 5 (v := ?_) rfl rfl (by kernel_rfl) (by kernel_rfl) (by kernel_rfl) (fun _ _ _ h => h) (by kernel_rfl) ?_ (HXb.out _ HX13.out) (by first | (simp only [put_norm]; exact rfl) | exact rfl) ?_
        rotate_left
        · intro W _; go_simp; try (with_reducible rfl)
        refine take1 8 7 (v := ?_) rfl rfl (by kernel_rfl) (by kernel_rfl) (by kernel_rfl) (fun _ _ _ h => h) (by kernel_rfl) ?_ (HXb.out _ HX13.out) (by first | (simp only [put_norm]; exact rfl) | exact rfl) ?_
        rotate_left
        · intro W _; go_simp; try (with_reducible rfl)
        refine wpAnyH_done (by kernel_rfl) ?_ _
        have HK15 := Lib.hid (HK14.out.on (below_new w13 (.cells #[.int .i64 (nA : Nat)] 3)))
        obtain ⟨i0, hi, hz0, hz1, hz2⟩ := info_parts Tryd.infoI
        have HEl := Lib.hid (show (endsL (pcsL L k)).length = k by rw [endsL_len, HPk.out])
        have HC := Lib.hid (cell_of_row _ w13.heap.size 0 _ _ (0, 0) (heap_alloc_new w13 (.cells #[.int .i64 (nA : Nat)] 3)))
        have HI := Lib.hid hi
        have HZ0 := Lib.hid hz0
        have HZ1 := Lib.hid hz1
        have HZ2 := Lib.hid hz2
        clear hi hz0 hz1 hz2
        go_wp2_with (at_builtin; refine wpList_append_own _ rfl (.tmp 104) (.tmp 107) 59 rfl w.heap.size 3 i0 (.int .i64 0) 1 8 Tryd.underlying59 HI.out HZ0.out HZ1.out HZ2.out rfl (by decide) u6 _ (endsL (pcsL L k)) rfl HK15.out.ends_ ⟨w13.heap.size, 0, none⟩ 1 1 [.int .i64 (nA : Nat)] rfl rfl (fun j u hu => by match j, hu with | 0, hu => cases hu; exact HC.out) (fun u hu => by simp only [List.mem_singleton] at hu; subst hu; rfl) (by unfold maxLen; rw [HEl.out]; omega) (by rw [HEl.out]; omega) HK15.out.below_.size ?_; intro v6 w16 ho hg _; have HK16 := Lib.hid (HK15.out.ends (E' := endsL (pcsL L (k + 1))) (by rw [HSucc.out, endsL_snoc, ← HSucc.out, ← HnA.out, List.length_append, List.length_singleton]; exact ho) hg); clear ho hg)
        go_roundw
        case rel => exact ⟨k + 1, by omega, by omega, by go_num, HK16⟩
        case measure => simp [intOf]; omega
      · go_simp
        have hbl : Below w10.drew.heap.size w10.drew (World.drew (w10.alloc (.cells #[.int .u8 (kk.toNat : Int), .slice pu x.length cu] 35))) := below_new w10.drew (.cells #[.int .u8 (kk.toNat : Int), .slice pu x.length cu] 35)
        have HK11 := Lib.hid (HKd.out.on hbl)
        have HX11 := Lib.hid (HXd.out.below hbl HXd.out.facts.2.2)
        have HF11 := Lib.hid ((HFd.out.below hbl).mono hbl.size)
        have HU11 := Lib.hid (HUd.out.below (hbl.mono HKd.out.below_.size))
        have HLt0 := Lib.hid (show BoxQ (World.drew (w10.alloc (.cells #[.int .u8 (kk.toNat : Int), .slice pu x.length cu] 35))) w10.heap.size kk (.slice pu x.length cu) from heap_alloc_new w10 _)
        refine hK.out _ _ (HXb.out _ HX11.out) (fun _ => ?_)
        clear hK K hbl
        refine wpAnyH_ready (rs := [2]) (by kernel_rfl) (by simp) ?_
        refine AllReadyH.cons rfl (fun K hK => ?_) AllReadyH.nil
        refine step_appB rfl (.tmp 97) (.tmp 98) rfl w.heap.size _ u5 (.slice qF nF kF) (framesL (pcsL L k)) (frameL kk x) rfl rfl HK11.out.all_ HF11.out (by rw [frameL_len]; have := HL.out; have := HFr.out; omega) HK11.out.below_.size ?_
        intro v5 w12 ho hg
        have HK12 := Lib.hid (HK11.out.bytes ho hg)
        have hap : ∀ (j : Nat) (y : Value), BoxQ (World.drew (w10.alloc (.cells #[.int .u8 (kk.toNat : Int), .slice pu x.length cu] 35))) j kk y → BoxQ w12 j kk y := fun j y h => keepO h hg (fun e => by obtain ⟨-, cur, hc⟩ := row_block HK11.out.all_ j e.symm; unfold BoxQ at h; rw [hc] at h; cases h)
        have HX12 := Lib.hid (hap _ _ HX11.out)
        have HLt := Lib.hid (hap _ _ HLt0.out)
        have HU12 := Lib.hid (HU11.out.below ((Below.refl w.heap.size _).grown hg HK11.out.below_.size (fun j e => (row_block HK11.out.all_ j e).1)))
        clear ho hg hap
        refine hK.out _ _ (HXb.out _ HX12.out) (fun _ => ?_)
        clear hK K
        refine wpAnyH_ready (rs := [6]) (by kernel_rfl) (by simp) ?_
        refine AllReadyH.cons rfl (fun K hK => ?_) AllReadyH.nil
        refine step_appA rfl (.tmp 100) (.tmp 102) rfl w.heap.size u7 (pcsL L k) kk pu cu x ⟨w10.heap.size, 0, none⟩ rfl rfl HK12.out.some_ HU12.out (by rw [HPk.out]; omega) HK12.out.below_.size HLt.out.facts.1.1 HLt.out.facts.1.2 ?_
        intro v7 w13 ho hg
        have HK13 := Lib.hid (HK12.out.pcs ho hg)
        have HX13 := Lib.hid (show BoxQ w13 N kk (.slice pu x.length cu) from keepO HX12.out hg HA10.out)
        clear ho hg
        refine hK.out _ _ (HXb.out _ HX13.out) (fun _ => ?_)
        clear hK K
        have HK14 := Lib.hid (show BkS w w13 v5 (framesL (pcsL L (k + 1))) v7 (pcsL L (k + 1)) u6 (endsL (pcsL L k)) by
          rw [HSucc.out, framesL_snoc, HXx.out]
          exact HK13.out)
        clear HK13
        obtain ⟨p5, k5, e5, -⟩ := HK14.out.all_.byC.2
        obtain ⟨nA, HnA⟩ : ∃ nA, Hid (nA = (framesL (pcsL L (k + 1))).length) := ⟨_, Lib.hid rfl⟩
        rw [← HnA.out] at e5
        subst e5
        refine take1 7 5 (v := ?_) rfl rfl (by kernel_rfl) (by kernel_rfl) (by kernel_rfl) (fun _ _ _ h => h) (by kernel_rfl) ?_ (HXb.out _ HX13.out) (by first | (simp only [put_norm]; exact rfl) | exact rfl) ?_
        rotate_left
        · intro W _; go_simp; try (with_reducible rfl)
        refine take1 8 7 (v := ?_) rfl rfl (by kernel_rfl) (by kernel_rfl) (by kernel_rfl) (fun _ _ _ h => h) (by kernel_rfl) ?_ (HXb.out _ HX13.out) (by first | (simp only [put_norm]; exact rfl) | exact rfl) ?_
        rotate_left
        · intro W _; go_simp; try (with_reducible rfl)
        refine wpAnyH_done (by kernel_rfl) ?_ _
        have HK15 := Lib.hid (HK14.out.on (below_new w13 (.cells #[.int .i64 (nA : Nat)] 3)))
        obtain ⟨i0, hi, hz0, hz1, hz2⟩ := info_parts Tryd.infoI
        have HEl := Lib.hid (show (endsL (pcsL L k)).length = k by rw [endsL_len, HPk.out])
        have HC := Lib.hid (cell_of_row _ w13.heap.size 0 _ _ (0, 0) (heap_alloc_new w13 (.cells #[.int .i64 (nA : Nat)] 3)))
        have HI := Lib.hid hi
        have HZ0 := Lib.hid hz0
        have HZ1 := Lib.hid hz1
        have HZ2 := Lib.hid hz2
        clear hi hz0 hz1 hz2
        go_wp2_with (at_builtin; refine wpList_append_own _ rfl (.tmp 104) (.tmp 107) 59 rfl w.heap.size 3 i0 (.int .i64 0) 1 8 Tryd.underlying59 HI.out HZ0.out HZ1.out HZ2.out rfl (by decide) u6 _ (endsL (pcsL L k)) rfl HK15.out.ends_ ⟨w13.heap.size, 0, none⟩ 1 1 [.int .i64 (nA : Nat)] rfl rfl (fun j u hu => by match j, hu with | 0, hu => cases hu; exact HC.out) (fun u hu => by simp only [List.mem_singleton] at hu; subst hu; rfl) (by unfold maxLen; rw [HEl.out]; omega) (by rw [HEl.out]; omega) HK15.out.below_.size ?_; intro v6 w16 ho hg _; have HK16 := Lib.hid (HK15.out.ends (E' := endsL (pcsL L (k + 1))) (by rw [HSucc.out, endsL_snoc, ← HSucc.out, ← HnA.out, List.length_append, List.length_singleton]; exact ho) hg); clear ho hg)
        go_roundw
        case rel => exact ⟨k + 1, by omega, by omega, by go_num, HK16⟩
        case measure => simp [intOf]; omega
    · have h300' : (300 : Int) < (m.length : Int) := by omega
      have hcu : ¬ cu < 300 := by omega
      have h4 : (300 : Int) ≤ (cu : Int) := by omega
      obtain ⟨a, rfl⟩ : ∃ a, pu = some a := by
        rcases HU1.out.1 with ⟨e, h5⟩ | ⟨a, c', e, -⟩
        · rw [h5] at h300; simp at h300
        · injection e with e1; exact ⟨a, e1⟩
      obtain ⟨x, hx⟩ : ∃ x, x = bl.take 300 := ⟨_, rfl⟩
      have h5 : m.take 300 = x := by rw [HML.out, hx, List.take_take]; rfl
      have h6 : x.length = 300 := by rw [← h5, List.length_take]; omega
      have HL := Lib.hid (show x.length ≤ 300 by omega)
      have HXx := Lib.hid hx.symm
      have HU1b := Lib.hid (show ByC w.heap.size w1 (.slice (some a) x.length cu) x by
        have := ByC.take HU1.out.1 hmc HM.out 300 (by omega)
        rw [h5] at this
        rw [h6]
        exact this)
      clear HX2 HK2 HU2 c0 c1 f0 f1 hw2 HML
      go_wp2_with fail
      rw [show (300 : Nat) = x.length from h6.symm]
      obtain ⟨w2, hw2⟩ : ∃ w2, w2 = w1.alloc (.cells #[.int .u8 (kk.toNat : Int), .slice (some a) x.length cu] 35) := ⟨_, rfl⟩
      have hb := below_new w1 (.cells #[.int .u8 (kk.toNat : Int), .slice (some a) x.length cu] 35)
      rw [← hw2] at hb
      have HX2 := Lib.hid (show BoxQ w2 N kk (.slice (some a) x.length cu) by rw [hw2, hN]; exact heap_alloc_new w1 _)
      have HK2 := Lib.hid (HK1.out.on hb)
      have HU2 := Lib.hid (HU1b.out.below (hb.mono HK1.out.below_.size))
      rw [← hw2, ← hN]
      clear hw2 hN hb h300 h300' hcu h4 h5 h6 hx hmc hcm g2 g3 HU1b HK1 HU1
      obtain ⟨⟨c0, c1⟩, -, -⟩ := HX2.out.facts
      go_wp2_with fail
      refine (frame_any kk (some a) cu x w2 (HU2.out.1.mono HK2.out.below_.size) (Nat.le_trans HL.out (by decide)) (HG.out.below HK2.out.below_)).mono ?_
      rintro e w3 ⟨vF, rfl, ho, hb⟩
      have HF3 := Lib.hid ho
      have HK3 := Lib.hid (HK2.out.on hb)
      have HX3 := Lib.hid (HX2.out.below hb HX2.out.facts.2.2)
      have HU3 := Lib.hid (HU2.out.below (hb.mono HK2.out.below_.size))
      clear ho hb c0 c1 HK2 HX2 HU2
      obtain ⟨qF, kF, eF, -⟩ := HF3.out.byC.2
      obtain ⟨nF, HnF⟩ : ∃ nF, Hid (nF = (frameL kk x).length) := ⟨_, Lib.hid rfl⟩
      rw [← HnF.out] at eF
      subst eF
      have HnF' := Lib.hid (show nF = 13 + x.length by rw [HnF.out, frameL_len])
      go_wp2_with fail
      have HUn := Lib.hid (show Calls Tryd.prog 22 #[.slice qF nF kF] w3 (UnfEnd (frameL kk x) w3) from unf_all _ (frameL kk x) w3 HF3.out.byC (by rw [frameL_len]; have := HL.out; omega) (HG.out.below HK3.out.below_))
      have HuE := Lib.hid (show unfE (frameL kk x) = (0, nF, kk, x) by
        have := unfE_frame kk x [] (Nat.le_trans HL.out (by decide))
        rw [List.append_nil] at this
        rw [this, HnF'.out])
      refine HUn.out.mono ?_
      rintro e w4 ⟨v4, rfl, ho, hb⟩
      rw [HuE.out] at ho ⊢
      obtain ⟨pd, cd, eb⟩ := ho.in_.shape
      subst eb
      clear HUn HuE
      have HO4 := Lib.hid ho.in_
      have HF4 := Lib.hid (HF3.out.in_.below hb |>.mono hb.size)
      have HK4 := Lib.hid (HK3.out.on hb)
      have HX4 := Lib.hid (HX3.out.below hb HX3.out.facts.2.2)
      have HU4 := Lib.hid (HU3.out.below (hb.mono HK3.out.below_.size))
      clear ho hb HF3 HK3 HX3 HU3
      obtain ⟨w5, hw5⟩ : ∃ w5, w5 = w4.alloc (.cells #[.int .u8 (kk.toNat : Int), .slice pd x.length cd] 35) := ⟨_, rfl⟩
      obtain ⟨M, hM⟩ : ∃ M, M = w4.heap.size := ⟨_, rfl⟩
      have hb := below_new w4 (.cells #[.int .u8 (kk.toNat : Int), .slice pd x.length cd] 35)
      rw [← hw5] at hb
      have HY5 := Lib.hid (show BoxQ w5 M kk (.slice pd x.length cd) by rw [hw5, hM]; exact heap_alloc_new w4 _)
      have HO5 := Lib.hid ((HO4.out.below hb).mono hb.size)
      have HF5 := Lib.hid ((HF4.out.below hb).mono hb.size)
      have HK5 := Lib.hid (HK4.out.on hb)
      have HX5 := Lib.hid (HX4.out.below hb HX4.out.facts.2.2)
      have HU5 := Lib.hid (HU4.out.below (hb.mono HK4.out.below_.size))
      clear hb HO4 HF4 HK4 HX4 HU4
      obtain ⟨⟨c0, c1⟩, -, -⟩ := HX5.out.facts
      rw [hw5] at c0 c1
      go_wp2_with fail
      rw [← hw5, ← hM]
      clear hw5 hM
      refine (seal_any _ x w5 (HU5.out.1.mono HK5.out.below_.size) (Nat.le_trans HL.out (by decide)) (HG.out.below HK5.out.below_)).mono ?_
      rintro e w6 ⟨v6, rfl, ho, hb⟩
      have HS6 := Lib.hid ho
      have HO6 := Lib.hid ((HO5.out.below hb).mono hb.size)
      have HF6 := Lib.hid ((HF5.out.below hb).mono hb.size)
      have HK6 := Lib.hid (HK5.out.on hb)
      have HX6 := Lib.hid (HX5.out.below hb HX5.out.facts.2.2)
      have HY6 := Lib.hid (HY5.out.below hb HY5.out.facts.2.2)
      have HU6 := Lib.hid (HU5.out.below (hb.mono HK5.out.below_.size))
      clear ho hb c0 c1 HO5 HF5 HK5 HX5 HY5 HU5
      go_wp2_with fail
      refine (open_any v6 (sealL x) w6 HS6.out.byC (by rw [sealL_len]; have := HL.out; omega) (HG.out.below HK6.out.below_)).mono ?_
      rintro e w7 ⟨v7, rfl, ho, hb⟩
      rw [openE_seal] at ho ⊢
      obtain ⟨p7, c7, e7⟩ := ho.in_.shape
      simp only at e7
      subst e7
      have HV7 := Lib.hid ho.in_
      have HO7 := Lib.hid ((HO6.out.below hb).mono hb.size)
      have HF7 := Lib.hid ((HF6.out.below hb).mono hb.size)
      have HK7 := Lib.hid (HK6.out.on hb)
      have HX7 := Lib.hid (HX6.out.below hb HX6.out.facts.2.2)
      have HY7 := Lib.hid (HY6.out.below hb HY6.out.facts.2.2)
      have HU7 := Lib.hid (HU6.out.below (hb.mono HK6.out.below_.size))
      clear ho hb HO6 HF6 HK6 HX6 HY6 HU6 HS6
      obtain ⟨⟨c0, c1⟩, -, hz1⟩ := HX7.out.facts
      obtain ⟨⟨d0, d1⟩, -, hz2⟩ := HY7.out.facts
      have r1 := run_str w7 _ _ _ HV7.out
      have r2 := run_str w7 _ _ _ HU7.out.1
      go_wp2_with fail
      obtain ⟨w8, hw8⟩ : ∃ w8, w8 = w7.alloc (.cells #[.int .u8 (kk.toNat : Int), .slice pd x.length cd] 35) := ⟨_, rfl⟩
      obtain ⟨w9, hw9⟩ : ∃ w9, w9 = w8.alloc (.cells #[.int .u8 (kk.toNat : Int), .slice (some a) x.length cu] 35) := ⟨_, rfl⟩
      have hb8 := below_new w7 (.cells #[.int .u8 (kk.toNat : Int), .slice pd x.length cd] 35)
      have hb9 := below_new w8 (.cells #[.int .u8 (kk.toNat : Int), .slice (some a) x.length cu] 35)
      have hr1 := rowP_one w7 kk pd cd x HO7.out
      rw [← hw8] at hb8 hr1
      have hr2 := rowP_one w8 kk (some a) cu x ((HU7.out.1.mono HK7.out.below_.size).below hb8 |>.mono hb8.size)
      rw [← hw9] at hb9 hr2
      have hs8 : w8.heap.size = w7.heap.size + 1 := by rw [hw8]; exact size_one _ _
      rw [hs8] at hr2
      have hb79 := hb8.trans (hb9.mono hb8.size)
      have HK9 := Lib.hid (HK7.out.on hb79)
      have HF9 := Lib.hid ((HF7.out.below hb79).mono hb79.size)
      have HU9 := Lib.hid (HU7.out.below (hb79.mono HK7.out.below_.size))
      have HX9 := Lib.hid (HX7.out.below hb79 hz1)
      have HSm := Lib.hid (same_rows _ _ _ _ w9 (hr1.below hb9) hr2)
      rw [← hw8, ← hw9]
      clear hw8 hw9 hb8 hb9 hb79 hr1 hr2 hs8 c0 c1 d0 d1 r1 r2 hz1 hz2 HK7 HF7 HU7 HX7 HY7 HO7 HV7
      refine HSm.out.mono ?_
      rintro e w10 ⟨he, hb⟩
      rw [decide_eq_true rfl] at he
      subst he
      have HK10 := Lib.hid (HK9.out.on hb)
      have HF10 := Lib.hid ((HF9.out.below hb).mono hb.size)
      have HU10 := Lib.hid (HU9.out.below (hb.mono HK9.out.below_.size))
      have HX10 := Lib.hid (HX9.out.below hb HX9.out.facts.2.2)
      clear hb HSm HK9 HF9 HU9 HX9
      obtain ⟨⟨c0, c1⟩, -, hz1⟩ := HX10.out.facts
      go_wp2_with fail
      have HXb := Lib.hid (show ∀ W : World, BoxQ W N kk (.slice (some a) x.length cu) → W.cell? ⟨N, 0, none⟩ = some (.int .u8 (kk.toNat : Int)) ∧ W.cell? ⟨N, 1, none⟩ = some (.slice (some a) x.length cu) from fun W h => h.facts.1)
      have HKd := Lib.hid (HK10.out.on (Below.refl _ _).drew)
      have HXd := Lib.hid (show BoxQ w10.drew N kk (.slice (some a) x.length cu) from HX10.out)
      have HFd := Lib.hid (show BytIn w10.drew.heap.size w10.drew (.slice qF nF kF) (frameL kk x) from HF10.out)
      have HUd := Lib.hid (show BytIn w.heap.size w10.drew (.slice (some a) x.length cu) x from HU10.out.1)
      have HA10 := Lib.hid (show some N ≠ u7.ownBlock from fun e => by have := HA.out N e.symm; omega)
      have HPk := Lib.hid (pcsL_len L k (by omega))
      refine wp_region_held_drew (S := fun W => W.cell? ⟨N, 0, none⟩ = some (.int .u8 (kk.toNat : Int)) ∧ W.cell? ⟨N, 1, none⟩ = some (.slice (some a) x.length cu)) (by kernel_rfl) (HXb.out _ HXd.out) (fun _ => ?_)
      refine take1 0 97 (v := ?_) rfl rfl (by kernel_rfl) (by kernel_rfl) (by kernel_rfl) (fun _ _ _ h => h) (by kernel_rfl) ?_ (HXb.out _ HXd.out) (by first | (simp only [put_norm]; exact rfl) | exact rfl) ?_
      rotate_left
      · intro W _; go_simp; try (with_reducible rfl)
      refine take1 1 98 (v := ?_) rfl rfl (by kernel_rfl) (by kernel_rfl) (by kernel_rfl) (fun _ _ _ h => h) (by kernel_rfl) ?_ (HXb.out _ HXd.out) (by first | (simp only [put_norm]; exact rfl) | exact rfl) ?_
      rotate_left
      · intro W _; go_simp; try (with_reducible rfl)
      refine take1 3 100 (v := ?_) rfl rfl (by kernel_rfl) (by kernel_rfl) (by kernel_rfl) (fun _ _ _ h => h) (by kernel_rfl) ?_ (HXb.out _ HXd.out) (by first | (simp only [put_norm]; exact rfl) | exact rfl) ?_
      rotate_left
      · intro W _; go_simp; try (with_reducible rfl)
      refine take1 4 101 (v := ?_) rfl rfl (by kernel_rfl) (by kernel_rfl) (by kernel_rfl) (fun _ _ _ h => h) (by kernel_rfl) ?_ (HXb.out _ HXd.out) (by first | (simp only [put_norm]; exact rfl) | exact rfl) ?_
      rotate_left
      · intro W hW; have z0 := hW.1; have z1 := hW.2; go_simp; try (with_reducible rfl)
      clear HK10 HX10 HF10 HU10 c0 c1 hz1
      refine wpAnyH_ready (rs := [2, 5]) (by kernel_rfl) (by simp) ?_
      refine AllReadyH.cons rfl (fun K hK => ?_) (AllReadyH.cons rfl (fun K hK => ?_) AllReadyH.nil)
      · refine step_appB rfl (.tmp 97) (.tmp 98) rfl w.heap.size _ u5 (.slice qF nF kF) (framesL (pcsL L k)) (frameL kk x) rfl rfl HKd.out.all_ HFd.out (by rw [frameL_len]; have := HL.out; have := HFr.out; omega) HKd.out.below_.size ?_
        intro v5 w11 ho hg
        have HK11 := Lib.hid (HKd.out.bytes ho hg)
        have HU11 := Lib.hid (HUd.out.below ((Below.refl w.heap.size _).grown hg HKd.out.below_.size (fun j e => (row_block HKd.out.all_ j e).1)))
        have HX11 := Lib.hid (show BoxQ w11 N kk (.slice (some a) x.length cu) from keepO HXd.out hg (fun e => by obtain ⟨-, cur, hc⟩ := row_block HKd.out.all_ N e.symm; have h2 := HXd.out; unfold BoxQ at h2; rw [hc] at h2; cases h2))
        clear ho hg
        refine hK.out _ _ (HXb.out _ HX11.out) (fun _ => ?_)
        clear hK K
        have hbl := below_new w11 (.cells #[.int .u8 (kk.toNat : Int), .slice (some a) x.length cu] 35)
        refine wpAnyH_ready (rs := [5]) (by kernel_rfl) (by simp) ?_
        refine AllReadyH.cons rfl (fun K hK => ?_) AllReadyH.nil
        go_simp
        have HK12 := Lib.hid (HK11.out.on hbl)
        have HX12 := Lib.hid (HX11.out.below hbl HX11.out.facts.2.2)
        refine hK.out _ _ (HXb.out _ HX12.out) (fun _ => ?_)
        clear hK K
        have HLt := Lib.hid (show BoxQ (w11.alloc (.cells #[.int .u8 (kk.toNat : Int), .slice (some a) x.length cu] 35)) w11.heap.size kk (.slice (some a) x.length cu) from heap_alloc_new w11 _)
        have HU12 := Lib.hid (HU11.out.below (hbl.mono HK11.out.below_.size))
        clear hbl
        refine wpAnyH_ready (rs := [6]) (by kernel_rfl) (by simp) ?_
        refine AllReadyH.cons rfl (fun K hK => ?_) AllReadyH.nil
        refine step_appA rfl (.tmp 100) (.tmp 102) rfl w.heap.size u7 (pcsL L k) kk (some a) cu x ⟨w11.heap.size, 0, none⟩ rfl rfl HK12.out.some_ HU12.out (by rw [HPk.out]; omega) HK12.out.below_.size HLt.out.facts.1.1 HLt.out.facts.1.2 ?_
        intro v7 w13 ho hg
        have HK13 := Lib.hid (HK12.out.pcs ho hg)
        have HX13 := Lib.hid (show BoxQ w13 N kk (.slice (some a) x.length cu) from keepO HX12.out hg HA10.out)
        clear ho hg
        refine hK.out _ _ (HXb.out _ HX13.out) (fun _ => ?_)
        clear hK K
        have HK14 := Lib.hid (show BkS w w13 v5 (framesL (pcsL L (k + 1))) v7 (pcsL L (k + 1)) u6 (endsL (pcsL L k)) by
          rw [HSucc.out, framesL_snoc, HXx.out]
          exact HK13.out)
        clear HK13
        obtain ⟨p5, k5, e5, -⟩ := HK14.out.all_.byC.2
        obtain ⟨nA, HnA⟩ : ∃ nA, Hid (nA = (framesL (pcsL L (k + 1))).length) := ⟨_, Lib.hid rfl⟩
        rw [← HnA.out] at e5
        subst e5
        refine take1 7 5 (v := ?_) rfl rfl (by kernel_rfl) (by kernel_rfl) (by kernel_rfl) (fun _ _ _ h => h) (by kernel_rfl) ?_ (HXb.out _ HX13.out) (by first | (simp only [put_norm]; exact rfl) | exact rfl) ?_
        rotate_left
        · intro W _; go_simp; try (with_reducible rfl)
        refine take1 8 7 (v := ?_) rfl rfl (by kernel_rfl) (by kernel_rfl) (by kernel_rfl) (fun _ _ _ h => h) (by kernel_rfl) ?_ (HXb.out _ HX13.out) (by first | (simp only [put_norm]; exact rfl) | exact rfl) ?_
        rotate_left
        · intro W _; go_simp; try (with_reducible rfl)
        refine wpAnyH_done (by kernel_rfl) ?_ _
        have HK15 := Lib.hid (HK14.out.on (below_new w13 (.cells #[.int .i64 (nA : Nat)] 3)))
        obtain ⟨i0, hi, hz0, hz1, hz2⟩ := info_parts Tryd.infoI
        have HEl := Lib.hid (show (endsL (pcsL L k)).length = k by rw [endsL_len, HPk.out])
        have HC := Lib.hid (cell_of_row _ w13.heap.size 0 _ _ (0, 0) (heap_alloc_new w13 (.cells #[.int .i64 (nA : Nat)] 3)))
        have HI := Lib.hid hi
        have HZ0 := Lib.hid hz0
        have HZ1 := Lib.hid hz1
        have HZ2 := Lib.hid hz2
        clear hi hz0 hz1 hz2
        go_wp2_with (at_builtin; refine wpList_append_own _ rfl (.tmp 104) (.tmp 107) 59 rfl w.heap.size 3 i0 (.int .i64 0) 1 8 Tryd.underlying59 HI.out HZ0.out HZ1.out HZ2.out rfl (by decide) u6 _ (endsL (pcsL L k)) rfl HK15.out.ends_ ⟨w13.heap.size, 0, none⟩ 1 1 [.int .i64 (nA : Nat)] rfl rfl (fun j u hu => by match j, hu with | 0, hu => cases hu; exact HC.out) (fun u hu => by simp only [List.mem_singleton] at hu; subst hu; rfl) (by unfold maxLen; rw [HEl.out]; omega) (by rw [HEl.out]; omega) HK15.out.below_.size ?_; intro v6 w16 ho hg _; have HK16 := Lib.hid (HK15.out.ends (E' := endsL (pcsL L (k + 1))) (by rw [HSucc.out, endsL_snoc, ← HSucc.out, ← HnA.out, List.length_append, List.length_singleton]; exact ho) hg); clear ho hg)
        go_roundw
        case rel => exact ⟨k + 1, by omega, by omega, by go_num, HK16⟩
        case measure => simp [intOf]; omega
      · go_simp
        have hbl : Below w10.drew.heap.size w10.drew (World.drew (w10.alloc (.cells #[.int .u8 (kk.toNat : Int), .slice (some a) x.length cu] 35))) := below_new w10.drew (.cells #[.int .u8 (kk.toNat : Int), .slice (some a) x.length cu] 35)
        have HK11 := Lib.hid (HKd.out.on hbl)
        have HX11 := Lib.hid (HXd.out.below hbl HXd.out.facts.2.2)
        have HF11 := Lib.hid ((HFd.out.below hbl).mono hbl.size)
        have HU11 := Lib.hid (HUd.out.below (hbl.mono HKd.out.below_.size))
        have HLt0 := Lib.hid (show BoxQ (World.drew (w10.alloc (.cells #[.int .u8 (kk.toNat : Int), .slice (some a) x.length cu] 35))) w10.heap.size kk (.slice (some a) x.length cu) from heap_alloc_new w10 _)
        refine hK.out _ _ (HXb.out _ HX11.out) (fun _ => ?_)
        clear hK K hbl
        refine wpAnyH_ready (rs := [2]) (by kernel_rfl) (by simp) ?_
        refine AllReadyH.cons rfl (fun K hK => ?_) AllReadyH.nil
        refine step_appB rfl (.tmp 97) (.tmp 98) rfl w.heap.size _ u5 (.slice qF nF kF) (framesL (pcsL L k)) (frameL kk x) rfl rfl HK11.out.all_ HF11.out (by rw [frameL_len]; have := HL.out; have := HFr.out; omega) HK11.out.below_.size ?_
        intro v5 w12 ho hg
        have HK12 := Lib.hid (HK11.out.bytes ho hg)
        have hap : ∀ (j : Nat) (y : Value), BoxQ (World.drew (w10.alloc (.cells #[.int .u8 (kk.toNat : Int), .slice (some a) x.length cu] 35))) j kk y → BoxQ w12 j kk y := fun j y h => keepO h hg (fun e => by obtain ⟨-, cur, hc⟩ := row_block HK11.out.all_ j e.symm; unfold BoxQ at h; rw [hc] at h; cases h)
        have HX12 := Lib.hid (hap _ _ HX11.out)
        have HLt := Lib.hid (hap _ _ HLt0.out)
        have HU12 := Lib.hid (HU11.out.below ((Below.refl w.heap.size _).grown hg HK11.out.below_.size (fun j e => (row_block HK11.out.all_ j e).1)))
        clear ho hg hap
        refine hK.out _ _ (HXb.out _ HX12.out) (fun _ => ?_)
        clear hK K
        refine wpAnyH_ready (rs := [6]) (by kernel_rfl) (by simp) ?_
        refine AllReadyH.cons rfl (fun K hK => ?_) AllReadyH.nil
        refine step_appA rfl (.tmp 100) (.tmp 102) rfl w.heap.size u7 (pcsL L k) kk (some a) cu x ⟨w10.heap.size, 0, none⟩ rfl rfl HK12.out.some_ HU12.out (by rw [HPk.out]; omega) HK12.out.below_.size HLt.out.facts.1.1 HLt.out.facts.1.2 ?_
        intro v7 w13 ho hg
        have HK13 := Lib.hid (HK12.out.pcs ho hg)
        have HX13 := Lib.hid (show BoxQ w13 N kk (.slice (some a) x.length cu) from keepO HX12.out hg HA10.out)
        clear ho hg
        refine hK.out _ _ (HXb.out _ HX13.out) (fun _ => ?_)
        clear hK K
        have HK14 := Lib.hid (show BkS w w13 v5 (framesL (pcsL L (k + 1))) v7 (pcsL L (k + 1)) u6 (endsL (pcsL L k)) by
          rw [HSucc.out, framesL_snoc, HXx.out]
          exact HK13.out)
        clear HK13
        obtain ⟨p5, k5, e5, -⟩ := HK14.out.all_.byC.2
        obtain ⟨nA, HnA⟩ : ∃ nA, Hid (nA = (framesL (pcsL L (k + 1))).length) := ⟨_, Lib.hid rfl⟩
        rw [← HnA.out] at e5
        subst e5
        refine take1 7 5 (v := ?_) rfl rfl (by kernel_rfl) (by kernel_rfl) (by kernel_rfl) (fun _ _ _ h => h) (by kernel_rfl) ?_ (HXb.out _ HX13.out) (by first | (simp only [put_norm]; exact rfl) | exact rfl) ?_
        rotate_left
        · intro W _; go_simp; try (with_reducible rfl)
        refine take1 8 7 (v := ?_) rfl rfl (by kernel_rfl) (by kernel_rfl) (by kernel_rfl) (fun _ _ _ h => h) (by kernel_rfl) ?_ (HXb.out _ HX13.out) (by first | (simp only [put_norm]; exact rfl) | exact rfl) ?_
        rotate_left
        · intro W _; go_simp; try (with_reducible rfl)
        refine wpAnyH_done (by kernel_rfl) ?_ _
        have HK15 := Lib.hid (HK14.out.on (below_new w13 (.cells #[.int .i64 (nA : Nat)] 3)))
        obtain ⟨i0, hi, hz0, hz1, hz2⟩ := info_parts Tryd.infoI
        have HEl := Lib.hid (show (endsL (pcsL L k)).length = k by rw [endsL_len, HPk.out])
        have HC := Lib.hid (cell_of_row _ w13.heap.size 0 _ _ (0, 0) (heap_alloc_new w13 (.cells #[.int .i64 (nA : Nat)] 3)))
        have HI := Lib.hid hi
        have HZ0 := Lib.hid hz0
        have HZ1 := Lib.hid hz1
        have HZ2 := Lib.hid hz2
        clear hi hz0 hz1 hz2
        go_wp2_with (at_builtin; refine wpList_append_own _ rfl (.tmp 104) (.tmp 107) 59 rfl w.heap.size 3 i0 (.int .i64 0) 1 8 Tryd.underlying59 HI.out HZ0.out HZ1.out HZ2.out rfl (by decide) u6 _ (endsL (pcsL L k)) rfl HK15.out.ends_ ⟨w13.heap.size, 0, none⟩ 1 1 [.int .i64 (nA : Nat)] rfl rfl (fun j u hu => by match j, hu with | 0, hu => cases hu; exact HC.out) (fun u hu => by simp only [List.mem_singleton] at hu; subst hu; rfl) (by unfold maxLen; rw [HEl.out]; omega) (by rw [HEl.out]; omega) HK15.out.below_.size ?_; intro v6 w16 ho hg _; have HK16 := Lib.hid (HK15.out.ends (E' := endsL (pcsL L (k + 1))) (by rw [HSucc.out, endsL_snoc, ← HSucc.out, ← HnA.out, List.length_append, List.length_singleton]; exact ho) hg); clear ho hg)
        go_roundw
        case rel => exact ⟨k + 1, by omega, by omega, by go_num, HK16⟩
        case measure => simp [intOf]; omega

open Go.ChangeShapes Go.WideShapes Go.ChangeAt
set_option maxRecDepth 100000 in
theorem lifted_back_any (os : Os) (started : os.Started) (H : Type) (enc : TypeId × Value → H) :
    ReturnsInHanded {} Tryd.checked os 9 .any (fun w args => (Rows.crcBackSpec.pre enc Tryd.prog Tryd.f9 [] false w args ∧ laidMetH Tryd.prog laid4 w) ∧ sizedMet enc Tryd.prog Tryd.f9 (OpenSpec.ofChange Rows.crcBackSpec) false w args)
      (Rows.crcBackSpec.post enc Tryd.prog Tryd.f9 false true false false) := by
  refine returnsInHanded_of_change_and (C := Tryd.checked) (X := fun w _ => laidMetH Tryd.prog laid4 w) (fun _ _ _ hh h => h.of_heap hh) own started (by kernel_rfl) Tryd.func9
    (ChangeSpec.witness_shaped (enc := enc) (C := Tryd.checked) (os := os) (X := fun w _ => laidMetH Tryd.prog laid4 w) false (World.doorLaid Tryd.prog 400 os) #[.slice none 0 0, .int .u64 0] 8 rfl (World.shaped_of_RefB (by kernel_rfl) (by kernel_rfl)) (by kernel_rfl) (by kernel_rfl) (by kernel_rfl) (door_met os _)) ?_
  intro W base args ds gs before hval0 hW _ _ hL _
  have hval : ∀ (j : Nat) t v, Tryd.f9.params[j]? = some t → args[j]? = some v → Value.okWide Tryd.prog W .any base t v := hval0
  have hW' := hW
  obtain ⟨p, q, hA0, hV, rfl, hfz, hnd⟩ := hW
  have hA : DataW.TrodAll enc Tryd.prog W 0 (fun _ => true) true Tryd.f9.params.toList args.toList ds p := hA0
  rw [Tryd.params9] at hA hval
  obtain ⟨v0, vs0, d0, ds0, p0, q0, hargs, rfl, rfl, h0, r0⟩ := trodAll_cons hA
  obtain ⟨v1, vs1, d1, ds1, p1, q1, rfl, rfl, rfl, h1, r1⟩ := trodAll_cons r0
  obtain ⟨rfl, rfl, rfl⟩ := trodAll_nil r1
  obtain rfl : args = #[v0, v1] := by cases args; simp_all
  obtain ⟨rfl, rfl⟩ := trodVars_none hV
  have t0 := h0
  have lt0 : ∀ x ∈ p0, x.block < W.heap.size := by obtain ⟨m, hm⟩ := t0; exact DataW.trod_lt m _ _ _ hm
  have t1 := h1
  have lt1 : ∀ x ∈ p1, x.block < W.heap.size := by obtain ⟨m, hm⟩ := t1; exact DataW.trod_lt m _ _ _ hm
  obtain ⟨l0, a0⟩ := open_pcs (hval 0 40 v0 rfl rfl) h0
  obtain ⟨x1v, rfl, -, -, wf1⟩ := open_int Tryd.underlying45 (hval 1 45 v1 rfl rfl) h1
  obtain ⟨n1, rfl⟩ := Int.eq_ofNat_of_zero_le (wf_u64 wf1).1
  clear hA0 hval0
  refine (back_any v0 l0 n1 W a0 (by have := (wf_u64 wf1).2; omega) (glob_of_laid hL)).mono fun e W' ⟨he, bel⟩ => ?_
  subst he
  exact ⟨_, rfl, _, _, _, [], _, [], hW', trodAll_mk1 (shut_bool Tryd.underlying4 _), (trodAll_cons_mk (Below.trod laidOut (by kernel_rfl) (of_decide_eq_true (by kernel_rfl)) t0 bel lt0) (trodAll_cons_mk (Below.trod laidOut (by kernel_rfl) (of_decide_eq_true (by kernel_rfl)) t1 bel lt1) trodAll_mk0)), rfl, bel.frame _, fun h => by cases h⟩

theorem holds_back_any : Rows.CrcBackSaid :=
  OpenClaim.holds_of_wide 9 Tryd.f9 rfl rfl rfl rfl rfl rfl rfl ⟨rfl, rfl, rfl, rfl, rfl⟩ rfl rfl rfl rfl rfl (by kernel_rfl) Tryd.func9 (by kernel_rfl)
    (of_decide_eq_true (by kernel_rfl)) (by unfold Func.isWrapper; rw [if_neg (of_decide_eq_false (by kernel_rfl))]; exact ⟨rfl, rfl⟩)
    (fun os started H enc _ => lifted_back_any os started H enc)

theorem card_back_any : Rows.CrcBackCardSaid :=
  Claim7.holds_tied_plain_at .later [] Rows.crcBackCard.laidKinds true Rows.crcBackCard.stood.harness Rows.crcBackCard.stood.looks
    holds_back_any (fun _ h => by cases h) (by kernel_rfl) (fun _ h => by cases h) crcBack_row_tie rfl ⟨rfl, rfl⟩ (by kernel_rfl) rfl
    (fun f fn hf hfn => by
      obtain rfl : f = 9 := Option.some.inj ((show Tryd.prog.funcNamed "pedigree/pedigreelaw04.CrcBack" = some 9 by kernel_rfl).symm.trans hf) |>.symm
      obtain rfl : fn = Tryd.f9 := (Option.some.inj (Tryd.func9.symm.trans hfn)).symm
      exact ⟨by kernel_rfl, fun j t ht => by
        rw [Tryd.params9] at ht
        have hm : t ∈ [40, 45] := by simpa using Array.mem_of_getElem? ht
        have hall : ([40, 45].all fun u => !Tryd.prog.wantsStandIn u) = true := by kernel_rfl
        exact (show Tryd.prog.wantsStandIn t = false by simpa using List.all_eq_true.1 hall t hm)⟩)
    (by kernel_rfl)
#print axioms card_back_any
end Go.Proofs.YteaeiejkdnbcnaaDoor
