/-
  The walk of the law TupleChange.
-/
import Derived.Test.YtaogfgohchpnoaaDoorTsN
namespace Go.Proofs.YtaogfgohchpnoaaDoor
open Go Go.RowKit

set_option maxHeartbeats 4000000 in
set_option maxRecDepth 100000 in
theorem lchange (v1 : Value) (LA : List (Value × List V3)) (v2 : Value) (LB : List (Value × List V3)) (w : World) (h1 : ArgR w v1 LA) (h2 : ArgR w v2 LB) (G : Glob w) :
    Calls Tryd.prog 5 #[v1, v2] w fun e w' => e = .returned (.bool true) ∧ Below w.heap.size w w' := by
  have HG := Lib.hid G
  have H1 := Lib.hid h1
  have H2 := Lib.hid h2
  obtain ⟨pa, ca, rfl, hla, hra, hta⟩ := h1
  have B0 := Lib.hid (Below.refl w.heap.size w)
  have HRa := Lib.hid (And.intro hra hta)
  unfold maxLen at hla
  clear h2 G hra hta
  go_enter Tryd.func5, Tryd.ntmps5
  cases LA with
  | nil =>
    go_wp2_with (go_at_call 18; refine (awake_true _ HG.out).mono ?_; rintro e w1 ⟨rfl, b1⟩; replace H1 := Lib.hid (H1.out.below b1); replace H2 := Lib.hid (H2.out.below b1); have B1 := Lib.hid (B0.out.trans b1); clear b1)
    refine (few_st H1.out).mono ?_
    rintro e w2 ⟨x2, T2, rfl, s2, l2, b2⟩
    replace H2 := Lib.hid (H2.out.below b2)
    have SA := Lib.hid s2
    have B2 := Lib.hid (B1.out.trans (b2.mono B1.out.size))
    clear b2 s2
    go_wp2_with fail
    refine (width_st (n := 0) SA.out l2).mono ?_
    rintro e w3 ⟨x3, T3, rfl, s3, l3, d3, b3⟩
    replace H2 := Lib.hid (H2.out.below b3)
    replace SA := Lib.hid (SA.out.on b3)
    have SB := Lib.hid s3
    have B3 := Lib.hid (B2.out.trans (b3.mono B2.out.size))
    clear b3 s3
    go_wp2_with fail
    refine (sorted_st SB.out).mono ?_
    rintro e w4 ⟨x4, rfl, s4, b4⟩
    replace H2 := Lib.hid (H2.out.below b4)
    have SX := Lib.hid s4
    have B4 := Lib.hid (B3.out.trans (b4.mono B3.out.size))
    clear b4 s4
    have HX := Lib.hid (show Ris (srtL T3) ∧ WidS (0) (srtL T3) ∧ (srtL T3).length ≤ 60 from ⟨srt_ris _, wid_srt d3, by have := srt_len T3; omega⟩)
    generalize srtL T3 = X at SX HX
    obtain ⟨aX, cX, eX⟩ := SX.out.form
    subst eX
    have qX := HX.out.2.2
    clear SA SB d3 l3 l2
    go_wp2_with fail
    refine (few_st H2.out).mono ?_
    rintro e w5 ⟨x5, T5, rfl, s5, l5, b5⟩
    replace SX := Lib.hid (SX.out.on b5)
    have SA := Lib.hid s5
    have B5 := Lib.hid (B4.out.trans (b5.mono B4.out.size))
    clear b5 s5
    go_wp2_with fail
    refine (width_st (n := 0) SA.out l5).mono ?_
    rintro e w6 ⟨x6, T6, rfl, s6, l6, d6, b6⟩
    replace SX := Lib.hid (SX.out.on b6)
    replace SA := Lib.hid (SA.out.on b6)
    have SB := Lib.hid s6
    have B6 := Lib.hid (B5.out.trans (b6.mono B5.out.size))
    clear b6 s6
    go_wp2_with fail
    refine (sorted_st SB.out).mono ?_
    rintro e w7 ⟨x7, rfl, s7, b7⟩
    replace SX := Lib.hid (SX.out.on b7)
    have SY := Lib.hid s7
    have B7 := Lib.hid (B6.out.trans (b7.mono B6.out.size))
    clear b7 s7
    have HY := Lib.hid (show Ris (srtL T6) ∧ WidS (0) (srtL T6) ∧ (srtL T6).length ≤ 60 from ⟨srt_ris _, wid_srt d6, by have := srt_len T6; omega⟩)
    generalize srtL T6 = Y at SY HY
    obtain ⟨aY, cY, eY⟩ := SY.out.form
    subst eY
    have qY := HY.out.2.2
    clear SA SB d6 l6 l5
    go_wp2_with fail
    refine (rchk_st SX.out (by omega)).mono ?_
    rintro e w8 ⟨z8, rfl, hz8, b8⟩
    replace SX := Lib.hid (SX.out.on b8)
    replace SY := Lib.hid (SY.out.on b8)
    have B8 := Lib.hid (B7.out.trans (b8.mono B7.out.size))
    clear b8
    cases hc8 : (z8 != 0) with
    | true =>
      go_wp2_with fail
      go_ret
      exact ⟨rfl, B8.out⟩
    | false =>
      obtain rfl : z8 = 0 := by simpa using hc8
      have HRX := Lib.hid (hz8.1 rfl)
      clear hz8 hc8
      go_wp2_with fail
      refine (rchk_st SY.out (by omega)).mono ?_
      rintro e w9 ⟨z9, rfl, hz9, b9⟩
      replace SX := Lib.hid (SX.out.on b9)
      replace SY := Lib.hid (SY.out.on b9)
      have B9 := Lib.hid (B8.out.trans (b9.mono B8.out.size))
      clear b9
      cases hc9 : (z9 != 0) with
      | true =>
        go_wp2_with fail
        go_ret
        exact ⟨rfl, B9.out⟩
      | false =>
        obtain rfl : z9 = 0 := by simpa using hc9
        have HRY := Lib.hid (hz9.1 rfl)
        clear hz9 hc9
        go_wp2_with fail
        refine (tdiff_any SX.out SY.out (by omega)).mono ?_
        rintro e w10 ⟨xp, xm, rfl, s10, m10, b10⟩
        replace SX := Lib.hid (SX.out.on b10)
        replace SY := Lib.hid (SY.out.on b10)
        have B10 := Lib.hid (B9.out.trans (b10.mono B9.out.size))
        clear b10
        rw [srt_self HX.out.1, srt_self HY.out.1] at s10 m10
        obtain ⟨LP, HP⟩ : ∃ L, Hid (L = pickL [-1] Y X) := ⟨_, Lib.hid rfl⟩
        obtain ⟨LM, HM⟩ : ∃ L, Hid (L = pickL [1] Y X) := ⟨_, Lib.hid rfl⟩
        rw [← HP.out] at s10
        rw [← HM.out] at m10
        have SP := Lib.hid s10
        have SM := Lib.hid m10
        clear s10 m10
        obtain ⟨aP, cP, eP⟩ := SP.out.form
        obtain ⟨aM, cM, eM⟩ := SM.out.form
        subst eP eM
        have qP : LP.length ≤ 120 := by have := pick_len [-1] Y X; rw [← HP.out] at this; omega
        have qM : LM.length ≤ 120 := by have := pick_len [1] Y X; rw [← HM.out] at this; omega
        have HrP := Lib.hid (show Ris LP by rw [HP.out]; exact pick_ris _ HY.out.1 HX.out.1)
        have HrM := Lib.hid (show Ris LM by rw [HM.out]; exact pick_ris _ HY.out.1 HX.out.1)
        have HRP := Lib.hid (show RelL LP from rel_of HrP.out (fun T hT => pick_sub _ HY.out.1 HX.out.1 (by rw [HP.out] at hT; exact hT)) HRY.out HRX.out HY.out.2.1 HX.out.2.1)
        have HRM := Lib.hid (show RelL LM from rel_of HrM.out (fun T hT => pick_sub _ HY.out.1 HX.out.1 (by rw [HM.out] at hT; exact hT)) HRY.out HRX.out HY.out.2.1 HX.out.2.1)
        go_wp2_with fail
        refine (tchk_st SP.out (by omega) HRP.out).mono ?_
        rintro e w11 ⟨rfl, b11⟩
        replace SX := Lib.hid (SX.out.on b11)
        replace SY := Lib.hid (SY.out.on b11)
        replace SP := Lib.hid (SP.out.on b11)
        replace SM := Lib.hid (SM.out.on b11)
        have B11 := Lib.hid (B10.out.trans (b11.mono B10.out.size))
        clear b11
        go_wp2_with fail
        refine (tchk_st SM.out (by omega) HRM.out).mono ?_
        rintro e w12 ⟨rfl, b12⟩
        replace SX := Lib.hid (SX.out.on b12)
        replace SY := Lib.hid (SY.out.on b12)
        replace SP := Lib.hid (SP.out.on b12)
        replace SM := Lib.hid (SM.out.on b12)
        have B12 := Lib.hid (B11.out.trans (b12.mono B11.out.size))
        clear b12
        go_wp2_with fail
        refine (tunion_any SX.out SY.out (by omega)).mono ?_
        rintro e w13 ⟨x13, rfl, s13, b13⟩
        replace SX := Lib.hid (SX.out.on b13)
        replace SY := Lib.hid (SY.out.on b13)
        replace SP := Lib.hid (SP.out.on b13)
        replace SM := Lib.hid (SM.out.on b13)
        have B13 := Lib.hid (B12.out.trans (b13.mono B12.out.size))
        clear b13
        rw [srt_self HX.out.1, srt_self HY.out.1] at s13
        obtain ⟨LU, HU⟩ : ∃ L, Hid (L = pickL [-1, 0, 1] X Y) := ⟨_, Lib.hid rfl⟩
        rw [← HU.out] at s13
        have SU := Lib.hid s13
        clear s13
        obtain ⟨aU, cU, eU⟩ := SU.out.form
        subst eU
        have qU : LU.length ≤ 120 := by have := pick_len [-1, 0, 1] X Y; rw [← HU.out] at this; omega
        have HRU := Lib.hid (show RelL LU from rel_of (by rw [HU.out]; exact pick_ris _ HX.out.1 HY.out.1) (fun T hT => pick_sub _ HX.out.1 HY.out.1 (by rw [HU.out] at hT; exact hT)) HRX.out HRY.out HX.out.2.1 HY.out.2.1)
        go_wp2_with fail
        refine (tchk_st SU.out (by omega) HRU.out).mono ?_
        rintro e w14 ⟨rfl, b14⟩
        replace SX := Lib.hid (SX.out.on b14)
        replace SY := Lib.hid (SY.out.on b14)
        replace SP := Lib.hid (SP.out.on b14)
        replace SM := Lib.hid (SM.out.on b14)
        have B14 := Lib.hid (B13.out.trans (b14.mono B13.out.size))
        clear b14
        clear SU HU HRU qU
        go_wp2_with fail
        refine (tboth_any SX.out SY.out (by omega)).mono ?_
        rintro e w15 ⟨x15, rfl, s15, b15⟩
        replace SX := Lib.hid (SX.out.on b15)
        replace SY := Lib.hid (SY.out.on b15)
        replace SP := Lib.hid (SP.out.on b15)
        replace SM := Lib.hid (SM.out.on b15)
        have B15 := Lib.hid (B14.out.trans (b15.mono B14.out.size))
        clear b15
        rw [srt_self HX.out.1, srt_self HY.out.1] at s15
        obtain ⟨LT, HT⟩ : ∃ L, Hid (L = pickL [0] X Y) := ⟨_, Lib.hid rfl⟩
        rw [← HT.out] at s15
        have ST := Lib.hid s15
        clear s15
        obtain ⟨aT, cT, eT⟩ := ST.out.form
        subst eT
        have qT : LT.length ≤ 120 := by have := pick_len [0] X Y; rw [← HT.out] at this; omega
        have HRT := Lib.hid (show RelL LT from rel_of (by rw [HT.out]; exact pick_ris _ HX.out.1 HY.out.1) (fun T hT => pick_sub _ HX.out.1 HY.out.1 (by rw [HT.out] at hT; exact hT)) HRX.out HRY.out HX.out.2.1 HY.out.2.1)
        go_wp2_with fail
        refine (tchk_st ST.out (by omega) HRT.out).mono ?_
        rintro e w16 ⟨rfl, b16⟩
        replace SX := Lib.hid (SX.out.on b16)
        replace SY := Lib.hid (SY.out.on b16)
        replace SP := Lib.hid (SP.out.on b16)
        replace SM := Lib.hid (SM.out.on b16)
        have B16 := Lib.hid (B15.out.trans (b16.mono B15.out.size))
        clear b16
        clear ST HT HRT qT
        go_wp2_with fail
        refine (tapply_any SX.out SP.out SM.out (by omega)).mono ?_
        rintro e w17 ⟨x17, rfl, s17, b17⟩
        replace SX := Lib.hid (SX.out.on b17)
        replace SY := Lib.hid (SY.out.on b17)
        replace SP := Lib.hid (SP.out.on b17)
        replace SM := Lib.hid (SM.out.on b17)
        have B17 := Lib.hid (B16.out.trans (b17.mono B16.out.size))
        clear b17
        rw [srt_self HX.out.1, srt_self HrP.out, srt_self HrM.out, HP.out, HM.out, change_eq HX.out.1 HY.out.1] at s17
        have SZ := Lib.hid s17
        clear s17
        go_wp2_with fail
        refine (samerel_st SZ.out SY.out rfl).mono ?_
        rintro e w18 ⟨rfl, b18⟩
        replace SX := Lib.hid (SX.out.on b18)
        replace SY := Lib.hid (SY.out.on b18)
        replace SP := Lib.hid (SP.out.on b18)
        replace SM := Lib.hid (SM.out.on b18)
        have B18 := Lib.hid (B17.out.trans (b18.mono B17.out.size))
        clear b18
        clear SZ
        go_wp2_with fail
        refine (tunion_any SX.out SY.out (by omega)).mono ?_
        rintro e w19 ⟨x19, rfl, s19, b19⟩
        replace SX := Lib.hid (SX.out.on b19)
        replace SY := Lib.hid (SY.out.on b19)
        replace SP := Lib.hid (SP.out.on b19)
        replace SM := Lib.hid (SM.out.on b19)
        have B19 := Lib.hid (B18.out.trans (b19.mono B18.out.size))
        clear b19
        rw [srt_self HX.out.1, srt_self HY.out.1] at s19
        obtain ⟨LU, HU⟩ : ∃ L, Hid (L = pickL [-1, 0, 1] X Y) := ⟨_, Lib.hid rfl⟩
        rw [← HU.out] at s19
        have SU := Lib.hid s19
        clear s19
        obtain ⟨aU, cU, eU⟩ := SU.out.form
        subst eU
        have qU : LU.length ≤ 120 := by have := pick_len [-1, 0, 1] X Y; rw [← HU.out] at this; omega
        have gU : (LU.length : Int) = (X.length : Int) + (LP.length : Int) := by have := change_union HX.out.1 HY.out.1; rw [← HU.out, ← HP.out] at this; omega
        have g1 : (X.length : Int) + (LP.length : Int) ≤ 1000000 := by omega
        have g2 : (0 : Int) ≤ (X.length : Int) + (LP.length : Int) := by omega
        go_wp2_with fail
        refine (tboth_any SX.out SY.out (by omega)).mono ?_
        rintro e w20 ⟨x20, rfl, s20, b20⟩
        replace SX := Lib.hid (SX.out.on b20)
        replace SY := Lib.hid (SY.out.on b20)
        replace SP := Lib.hid (SP.out.on b20)
        replace SM := Lib.hid (SM.out.on b20)
        have B20 := Lib.hid (B19.out.trans (b20.mono B19.out.size))
        clear b20
        rw [srt_self HX.out.1, srt_self HY.out.1] at s20
        obtain ⟨LT, HT⟩ : ∃ L, Hid (L = pickL [0] X Y) := ⟨_, Lib.hid rfl⟩
        rw [← HT.out] at s20
        have ST := Lib.hid s20
        clear s20
        obtain ⟨aT, cT, eT⟩ := ST.out.form
        subst eT
        have qT : LT.length ≤ 120 := by have := pick_len [0] X Y; rw [← HT.out] at this; omega
        have gT : (LT.length : Int) = (X.length : Int) - (LM.length : Int) := by have := change_both HX.out.1 HY.out.1; rw [← HT.out, ← HM.out] at this; omega
        have g3 : (X.length : Int) - (LM.length : Int) ≤ 1000000 := by omega
        have g4 : (0 : Int) ≤ (X.length : Int) - (LM.length : Int) := by have := change_both HX.out.1 HY.out.1; rw [← HT.out, ← HM.out] at this; omega
        go_wp2_with fail
        go_ret
        exact ⟨by simp, B20.out⟩
  | cons q R =>
    obtain ⟨b, off, rfl, hb, hr⟩ : ∃ b off, pa = some ⟨b, off, none⟩ ∧ b < w.heap.size ∧ RowAt w b off (q :: R) := by
      rcases HRa.out.1 with h | h
      · cases h
      · exact h
    have hx := hr 0 (by simp)
    obtain ⟨pq, cq, eq, hq1, hq2, -⟩ := HRa.out.2 q List.mem_cons_self
    obtain ⟨qv, qT⟩ := q
    simp only at eq hq1
    subst eq
    have hxa : ∀ W, Below w.heap.size w W → W.cell? ⟨b, off, none⟩ = some (.slice pq qT.length cq) := fun W h => (h.cell (p := ⟨b, off, none⟩) hb).trans hx
    clear hx hr HRa
    have g0 : (0 : Int) < ((R.length + 1 : Nat) : Int) := by omega
    go_wp2_with (go_at_call 18; refine (awake_true _ HG.out).mono ?_; rintro e w1 ⟨rfl, b1⟩; replace H1 := Lib.hid (H1.out.below b1); replace H2 := Lib.hid (H2.out.below b1); have B1 := Lib.hid (B0.out.trans b1); have hxb := hxa _ b1; clear b1)
    refine (few_st H1.out).mono ?_
    rintro e w2 ⟨x2, T2, rfl, s2, l2, b2⟩
    replace H2 := Lib.hid (H2.out.below b2)
    have SA := Lib.hid s2
    have B2 := Lib.hid (B1.out.trans (b2.mono B1.out.size))
    clear b2 s2
    go_wp2_with fail
    refine (width_st (n := qT.length) SA.out l2).mono ?_
    rintro e w3 ⟨x3, T3, rfl, s3, l3, d3, b3⟩
    replace H2 := Lib.hid (H2.out.below b3)
    replace SA := Lib.hid (SA.out.on b3)
    have SB := Lib.hid s3
    have B3 := Lib.hid (B2.out.trans (b3.mono B2.out.size))
    clear b3 s3
    go_wp2_with fail
    refine (sorted_st SB.out).mono ?_
    rintro e w4 ⟨x4, rfl, s4, b4⟩
    replace H2 := Lib.hid (H2.out.below b4)
    have SX := Lib.hid s4
    have B4 := Lib.hid (B3.out.trans (b4.mono B3.out.size))
    clear b4 s4
    have HX := Lib.hid (show Ris (srtL T3) ∧ WidS (qT.length) (srtL T3) ∧ (srtL T3).length ≤ 60 from ⟨srt_ris _, wid_srt d3, by have := srt_len T3; omega⟩)
    generalize srtL T3 = X at SX HX
    obtain ⟨aX, cX, eX⟩ := SX.out.form
    subst eX
    have qX := HX.out.2.2
    clear SA SB d3 l3 l2
    go_wp2_with fail
    refine (few_st H2.out).mono ?_
    rintro e w5 ⟨x5, T5, rfl, s5, l5, b5⟩
    replace SX := Lib.hid (SX.out.on b5)
    have SA := Lib.hid s5
    have B5 := Lib.hid (B4.out.trans (b5.mono B4.out.size))
    clear b5 s5
    go_wp2_with fail
    refine (width_st (n := qT.length) SA.out l5).mono ?_
    rintro e w6 ⟨x6, T6, rfl, s6, l6, d6, b6⟩
    replace SX := Lib.hid (SX.out.on b6)
    replace SA := Lib.hid (SA.out.on b6)
    have SB := Lib.hid s6
    have B6 := Lib.hid (B5.out.trans (b6.mono B5.out.size))
    clear b6 s6
    go_wp2_with fail
    refine (sorted_st SB.out).mono ?_
    rintro e w7 ⟨x7, rfl, s7, b7⟩
    replace SX := Lib.hid (SX.out.on b7)
    have SY := Lib.hid s7
    have B7 := Lib.hid (B6.out.trans (b7.mono B6.out.size))
    clear b7 s7
    have HY := Lib.hid (show Ris (srtL T6) ∧ WidS (qT.length) (srtL T6) ∧ (srtL T6).length ≤ 60 from ⟨srt_ris _, wid_srt d6, by have := srt_len T6; omega⟩)
    generalize srtL T6 = Y at SY HY
    obtain ⟨aY, cY, eY⟩ := SY.out.form
    subst eY
    have qY := HY.out.2.2
    clear SA SB d6 l6 l5
    go_wp2_with fail
    refine (rchk_st SX.out (by omega)).mono ?_
    rintro e w8 ⟨z8, rfl, hz8, b8⟩
    replace SX := Lib.hid (SX.out.on b8)
    replace SY := Lib.hid (SY.out.on b8)
    have B8 := Lib.hid (B7.out.trans (b8.mono B7.out.size))
    clear b8
    cases hc8 : (z8 != 0) with
    | true =>
      go_wp2_with fail
      go_ret
      exact ⟨rfl, B8.out⟩
    | false =>
      obtain rfl : z8 = 0 := by simpa using hc8
      have HRX := Lib.hid (hz8.1 rfl)
      clear hz8 hc8
      go_wp2_with fail
      refine (rchk_st SY.out (by omega)).mono ?_
      rintro e w9 ⟨z9, rfl, hz9, b9⟩
      replace SX := Lib.hid (SX.out.on b9)
      replace SY := Lib.hid (SY.out.on b9)
      have B9 := Lib.hid (B8.out.trans (b9.mono B8.out.size))
      clear b9
      cases hc9 : (z9 != 0) with
      | true =>
        go_wp2_with fail
        go_ret
        exact ⟨rfl, B9.out⟩
      | false =>
        obtain rfl : z9 = 0 := by simpa using hc9
        have HRY := Lib.hid (hz9.1 rfl)
        clear hz9 hc9
        go_wp2_with fail
        refine (tdiff_any SX.out SY.out (by omega)).mono ?_
        rintro e w10 ⟨xp, xm, rfl, s10, m10, b10⟩
        replace SX := Lib.hid (SX.out.on b10)
        replace SY := Lib.hid (SY.out.on b10)
        have B10 := Lib.hid (B9.out.trans (b10.mono B9.out.size))
        clear b10
        rw [srt_self HX.out.1, srt_self HY.out.1] at s10 m10
        obtain ⟨LP, HP⟩ : ∃ L, Hid (L = pickL [-1] Y X) := ⟨_, Lib.hid rfl⟩
        obtain ⟨LM, HM⟩ : ∃ L, Hid (L = pickL [1] Y X) := ⟨_, Lib.hid rfl⟩
        rw [← HP.out] at s10
        rw [← HM.out] at m10
        have SP := Lib.hid s10
        have SM := Lib.hid m10
        clear s10 m10
        obtain ⟨aP, cP, eP⟩ := SP.out.form
        obtain ⟨aM, cM, eM⟩ := SM.out.form
        subst eP eM
        have qP : LP.length ≤ 120 := by have := pick_len [-1] Y X; rw [← HP.out] at this; omega
        have qM : LM.length ≤ 120 := by have := pick_len [1] Y X; rw [← HM.out] at this; omega
        have HrP := Lib.hid (show Ris LP by rw [HP.out]; exact pick_ris _ HY.out.1 HX.out.1)
        have HrM := Lib.hid (show Ris LM by rw [HM.out]; exact pick_ris _ HY.out.1 HX.out.1)
        have HRP := Lib.hid (show RelL LP from rel_of HrP.out (fun T hT => pick_sub _ HY.out.1 HX.out.1 (by rw [HP.out] at hT; exact hT)) HRY.out HRX.out HY.out.2.1 HX.out.2.1)
        have HRM := Lib.hid (show RelL LM from rel_of HrM.out (fun T hT => pick_sub _ HY.out.1 HX.out.1 (by rw [HM.out] at hT; exact hT)) HRY.out HRX.out HY.out.2.1 HX.out.2.1)
        go_wp2_with fail
        refine (tchk_st SP.out (by omega) HRP.out).mono ?_
        rintro e w11 ⟨rfl, b11⟩
        replace SX := Lib.hid (SX.out.on b11)
        replace SY := Lib.hid (SY.out.on b11)
        replace SP := Lib.hid (SP.out.on b11)
        replace SM := Lib.hid (SM.out.on b11)
        have B11 := Lib.hid (B10.out.trans (b11.mono B10.out.size))
        clear b11
        go_wp2_with fail
        refine (tchk_st SM.out (by omega) HRM.out).mono ?_
        rintro e w12 ⟨rfl, b12⟩
        replace SX := Lib.hid (SX.out.on b12)
        replace SY := Lib.hid (SY.out.on b12)
        replace SP := Lib.hid (SP.out.on b12)
        replace SM := Lib.hid (SM.out.on b12)
        have B12 := Lib.hid (B11.out.trans (b12.mono B11.out.size))
        clear b12
        go_wp2_with fail
        refine (tunion_any SX.out SY.out (by omega)).mono ?_
        rintro e w13 ⟨x13, rfl, s13, b13⟩
        replace SX := Lib.hid (SX.out.on b13)
        replace SY := Lib.hid (SY.out.on b13)
        replace SP := Lib.hid (SP.out.on b13)
        replace SM := Lib.hid (SM.out.on b13)
        have B13 := Lib.hid (B12.out.trans (b13.mono B12.out.size))
        clear b13
        rw [srt_self HX.out.1, srt_self HY.out.1] at s13
        obtain ⟨LU, HU⟩ : ∃ L, Hid (L = pickL [-1, 0, 1] X Y) := ⟨_, Lib.hid rfl⟩
        rw [← HU.out] at s13
        have SU := Lib.hid s13
        clear s13
        obtain ⟨aU, cU, eU⟩ := SU.out.form
        subst eU
        have qU : LU.length ≤ 120 := by have := pick_len [-1, 0, 1] X Y; rw [← HU.out] at this; omega
        have HRU := Lib.hid (show RelL LU from rel_of (by rw [HU.out]; exact pick_ris _ HX.out.1 HY.out.1) (fun T hT => pick_sub _ HX.out.1 HY.out.1 (by rw [HU.out] at hT; exact hT)) HRX.out HRY.out HX.out.2.1 HY.out.2.1)
        go_wp2_with fail
        refine (tchk_st SU.out (by omega) HRU.out).mono ?_
        rintro e w14 ⟨rfl, b14⟩
        replace SX := Lib.hid (SX.out.on b14)
        replace SY := Lib.hid (SY.out.on b14)
        replace SP := Lib.hid (SP.out.on b14)
        replace SM := Lib.hid (SM.out.on b14)
        have B14 := Lib.hid (B13.out.trans (b14.mono B13.out.size))
        clear b14
        clear SU HU HRU qU
        go_wp2_with fail
        refine (tboth_any SX.out SY.out (by omega)).mono ?_
        rintro e w15 ⟨x15, rfl, s15, b15⟩
        replace SX := Lib.hid (SX.out.on b15)
        replace SY := Lib.hid (SY.out.on b15)
        replace SP := Lib.hid (SP.out.on b15)
        replace SM := Lib.hid (SM.out.on b15)
        have B15 := Lib.hid (B14.out.trans (b15.mono B14.out.size))
        clear b15
        rw [srt_self HX.out.1, srt_self HY.out.1] at s15
        obtain ⟨LT, HT⟩ : ∃ L, Hid (L = pickL [0] X Y) := ⟨_, Lib.hid rfl⟩
        rw [← HT.out] at s15
        have ST := Lib.hid s15
        clear s15
        obtain ⟨aT, cT, eT⟩ := ST.out.form
        subst eT
        have qT : LT.length ≤ 120 := by have := pick_len [0] X Y; rw [← HT.out] at this; omega
        have HRT := Lib.hid (show RelL LT from rel_of (by rw [HT.out]; exact pick_ris _ HX.out.1 HY.out.1) (fun T hT => pick_sub _ HX.out.1 HY.out.1 (by rw [HT.out] at hT; exact hT)) HRX.out HRY.out HX.out.2.1 HY.out.2.1)
        go_wp2_with fail
        refine (tchk_st ST.out (by omega) HRT.out).mono ?_
        rintro e w16 ⟨rfl, b16⟩
        replace SX := Lib.hid (SX.out.on b16)
        replace SY := Lib.hid (SY.out.on b16)
        replace SP := Lib.hid (SP.out.on b16)
        replace SM := Lib.hid (SM.out.on b16)
        have B16 := Lib.hid (B15.out.trans (b16.mono B15.out.size))
        clear b16
        clear ST HT HRT qT
        go_wp2_with fail
        refine (tapply_any SX.out SP.out SM.out (by omega)).mono ?_
        rintro e w17 ⟨x17, rfl, s17, b17⟩
        replace SX := Lib.hid (SX.out.on b17)
        replace SY := Lib.hid (SY.out.on b17)
        replace SP := Lib.hid (SP.out.on b17)
        replace SM := Lib.hid (SM.out.on b17)
        have B17 := Lib.hid (B16.out.trans (b17.mono B16.out.size))
        clear b17
        rw [srt_self HX.out.1, srt_self HrP.out, srt_self HrM.out, HP.out, HM.out, change_eq HX.out.1 HY.out.1] at s17
        have SZ := Lib.hid s17
        clear s17
        go_wp2_with fail
        refine (samerel_st SZ.out SY.out rfl).mono ?_
        rintro e w18 ⟨rfl, b18⟩
        replace SX := Lib.hid (SX.out.on b18)
        replace SY := Lib.hid (SY.out.on b18)
        replace SP := Lib.hid (SP.out.on b18)
        replace SM := Lib.hid (SM.out.on b18)
        have B18 := Lib.hid (B17.out.trans (b18.mono B17.out.size))
        clear b18
        clear SZ
        go_wp2_with fail
        refine (tunion_any SX.out SY.out (by omega)).mono ?_
        rintro e w19 ⟨x19, rfl, s19, b19⟩
        replace SX := Lib.hid (SX.out.on b19)
        replace SY := Lib.hid (SY.out.on b19)
        replace SP := Lib.hid (SP.out.on b19)
        replace SM := Lib.hid (SM.out.on b19)
        have B19 := Lib.hid (B18.out.trans (b19.mono B18.out.size))
        clear b19
        rw [srt_self HX.out.1, srt_self HY.out.1] at s19
        obtain ⟨LU, HU⟩ : ∃ L, Hid (L = pickL [-1, 0, 1] X Y) := ⟨_, Lib.hid rfl⟩
        rw [← HU.out] at s19
        have SU := Lib.hid s19
        clear s19
        obtain ⟨aU, cU, eU⟩ := SU.out.form
        subst eU
        have qU : LU.length ≤ 120 := by have := pick_len [-1, 0, 1] X Y; rw [← HU.out] at this; omega
        have gU : (LU.length : Int) = (X.length : Int) + (LP.length : Int) := by have := change_union HX.out.1 HY.out.1; rw [← HU.out, ← HP.out] at this; omega
        have g1 : (X.length : Int) + (LP.length : Int) ≤ 1000000 := by omega
        have g2 : (0 : Int) ≤ (X.length : Int) + (LP.length : Int) := by omega
        go_wp2_with fail
        refine (tboth_any SX.out SY.out (by omega)).mono ?_
        rintro e w20 ⟨x20, rfl, s20, b20⟩
        replace SX := Lib.hid (SX.out.on b20)
        replace SY := Lib.hid (SY.out.on b20)
        replace SP := Lib.hid (SP.out.on b20)
        replace SM := Lib.hid (SM.out.on b20)
        have B20 := Lib.hid (B19.out.trans (b20.mono B19.out.size))
        clear b20
        rw [srt_self HX.out.1, srt_self HY.out.1] at s20
        obtain ⟨LT, HT⟩ : ∃ L, Hid (L = pickL [0] X Y) := ⟨_, Lib.hid rfl⟩
        rw [← HT.out] at s20
        have ST := Lib.hid s20
        clear s20
        obtain ⟨aT, cT, eT⟩ := ST.out.form
        subst eT
        have qT : LT.length ≤ 120 := by have := pick_len [0] X Y; rw [← HT.out] at this; omega
        have gT : (LT.length : Int) = (X.length : Int) - (LM.length : Int) := by have := change_both HX.out.1 HY.out.1; rw [← HT.out, ← HM.out] at this; omega
        have g3 : (X.length : Int) - (LM.length : Int) ≤ 1000000 := by omega
        have g4 : (0 : Int) ≤ (X.length : Int) - (LM.length : Int) := by have := change_both HX.out.1 HY.out.1; rw [← HT.out, ← HM.out] at this; omega
        go_wp2_with fail
        go_ret
        exact ⟨by simp, B20.out⟩
end Go.Proofs.YtaogfgohchpnoaaDoor
