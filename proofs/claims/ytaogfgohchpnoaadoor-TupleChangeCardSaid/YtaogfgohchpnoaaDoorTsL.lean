/-
  The walk of the law TupleSets.
-/
import Derived.Test.YtaogfgohchpnoaaDoorTsB
import Derived.Test.YtaogfgohchpnoaaDoorTsD
import Derived.Test.YtaogfgohchpnoaaDoorTlF
namespace Go.Proofs.YtaogfgohchpnoaaDoor
open Go Go.RowKit

theorem arg_inS {w : World} {v : Value} {T : List V3} (h : ArgT w v T) (hl : T.length ≤ 20) : TupIn w.heap.size w v T := by
  obtain ⟨pa, cap, rfl, -, -, hc, -⟩ := h
  exact ⟨pa, cap, rfl, by omega, hc⟩
/-- What few leaves: a row of at most sixty tuples. -/
theorem few_st {w : World} {v : Value} {L : List (Value × List V3)} (h : ArgR w v L) : Calls Tryd.prog 7 #[v] w fun e w' => ∃ (v' : Value) (Ts : List (List V3)), e = .returned v' ∧ St4 Ts v' w' ∧ Ts.length ≤ 60 ∧ Below w.heap.size w w' := by
  refine (few_any w v L h).mono ?_
  rintro e w1 ⟨v1, P, rfl, hown, h60, hmem, hb1⟩
  obtain ⟨_, _, -, -, -, ha⟩ := h
  exact ⟨v1, P.map (·.2), rfl, ⟨P, (rows_own hown (by omega) fun x hx => ((arg_inS (ha x (hmem x hx).1) (hmem x hx).2).below hb1).mono hb1.size).1, rfl⟩, by rw [List.length_map]; exact h60, hb1⟩
theorem samerel_st {w : World} {v1 v2 : Value} {L L' : List (List V3)} (h1 : St4 L v1 w) (h2 : St4 L' v2 w) (he : L = L') : Calls Tryd.prog 9 #[v1, v2] w fun e w' => e = .returned (.bool true) ∧ Below w.heap.size w w' := by
  obtain ⟨P, hP, rfl⟩ := h1
  obtain ⟨P', hP', rfl⟩ := h2
  exact samerel_any v1 v2 P P' w hP hP' he
set_option maxHeartbeats 2000000 in
set_option maxRecDepth 100000 in
theorem lsets (v1 : Value) (LA : List (Value × List V3)) (v2 : Value) (LB : List (Value × List V3)) (v3 : Value) (LC : List (Value × List V3)) (w : World) (h1 : ArgR w v1 LA) (h2 : ArgR w v2 LB) (h3 : ArgR w v3 LC) (G : Glob w) :
    Calls Tryd.prog 3 #[v1, v2, v3] w fun e w' => e = .returned (.bool true) ∧ Below w.heap.size w w' := by
  have HG := Lib.hid G
  have H1 := Lib.hid h1
  have H2 := Lib.hid h2
  have H3 := Lib.hid h3
  have B0 := Lib.hid (Below.refl w.heap.size w)
  clear h1 h2 h3 G
  go_enter Tryd.func3, Tryd.ntmps3
  go_wp2_with fail
  refine (few_st H1.out).mono ?_
  rintro e w1 ⟨x1, T1, rfl, s1, l1, b1⟩
  replace H2 := Lib.hid (H2.out.below b1)
  replace H3 := Lib.hid (H3.out.below b1)
  have SA := Lib.hid s1
  have B1 := Lib.hid (B0.out.trans (b1.mono B0.out.size))
  clear b1 s1
  go_wp2_with fail
  refine (few_st H2.out).mono ?_
  rintro e w2 ⟨x2, T2, rfl, s2, l2, b2⟩
  replace H3 := Lib.hid (H3.out.below b2)
  replace SA := Lib.hid (SA.out.on b2)
  have SB := Lib.hid s2
  have B2 := Lib.hid (B1.out.trans (b2.mono B1.out.size))
  clear b2 s2
  go_wp2_with fail
  refine (few_st H3.out).mono ?_
  rintro e w3 ⟨x3, T3, rfl, s3, l3, b3⟩
  replace SA := Lib.hid (SA.out.on b3)
  replace SB := Lib.hid (SB.out.on b3)
  have SC := Lib.hid s3
  have B3 := Lib.hid (B2.out.trans (b3.mono B2.out.size))
  clear b3 s3
  go_wp2_with fail
  refine (tdiff_any SA.out SB.out (by omega)).mono ?_
  rintro e w4 ⟨xp, xm, rfl, s4, m4, b4⟩
  replace SA := Lib.hid (SA.out.on b4)
  replace SB := Lib.hid (SB.out.on b4)
  replace SC := Lib.hid (SC.out.on b4)
  have SP := Lib.hid s4
  have SM := Lib.hid m4
  have B4 := Lib.hid (B3.out.trans (b4.mono B3.out.size))
  clear b4 s4 m4
  go_wp2_with fail
  refine (tunion_any SA.out SB.out (by omega)).mono ?_
  rintro e w5 ⟨x5, rfl, s5, b5⟩
  replace SA := Lib.hid (SA.out.on b5)
  replace SB := Lib.hid (SB.out.on b5)
  replace SC := Lib.hid (SC.out.on b5)
  replace SP := Lib.hid (SP.out.on b5)
  replace SM := Lib.hid (SM.out.on b5)
  have SX := Lib.hid s5
  have B5 := Lib.hid (B4.out.trans (b5.mono B4.out.size))
  clear b5 s5
  go_wp2_with fail
  refine (runion_any SA.out SB.out (by omega)).mono ?_
  rintro e w6 ⟨x6, rfl, s6, b6⟩
  replace SA := Lib.hid (SA.out.on b6)
  replace SB := Lib.hid (SB.out.on b6)
  replace SC := Lib.hid (SC.out.on b6)
  replace SP := Lib.hid (SP.out.on b6)
  replace SM := Lib.hid (SM.out.on b6)
  replace SX := Lib.hid (SX.out.on b6)
  have SY := Lib.hid s6
  have B6 := Lib.hid (B5.out.trans (b6.mono B5.out.size))
  clear b6 s6
  go_wp2_with fail
  refine (samerel_st SX.out SY.out (union_eq T1 T2)).mono ?_
  rintro e w7 ⟨rfl, b7⟩
  replace SA := Lib.hid (SA.out.on b7)
  replace SB := Lib.hid (SB.out.on b7)
  replace SC := Lib.hid (SC.out.on b7)
  replace SP := Lib.hid (SP.out.on b7)
  replace SM := Lib.hid (SM.out.on b7)
  have B7 := Lib.hid (B6.out.trans (b7.mono B6.out.size))
  clear b7
  go_wp2_with fail
  refine (tminus_any SA.out SB.out (by omega)).mono ?_
  rintro e w8 ⟨x8, rfl, s8, b8⟩
  replace SA := Lib.hid (SA.out.on b8)
  replace SB := Lib.hid (SB.out.on b8)
  replace SC := Lib.hid (SC.out.on b8)
  replace SP := Lib.hid (SP.out.on b8)
  replace SM := Lib.hid (SM.out.on b8)
  have SX := Lib.hid s8
  have B8 := Lib.hid (B7.out.trans (b8.mono B7.out.size))
  clear b8 s8
  go_wp2_with fail
  refine (rminus_any SA.out SB.out (by omega)).mono ?_
  rintro e w9 ⟨x9, rfl, s9, b9⟩
  replace SA := Lib.hid (SA.out.on b9)
  replace SB := Lib.hid (SB.out.on b9)
  replace SC := Lib.hid (SC.out.on b9)
  replace SP := Lib.hid (SP.out.on b9)
  replace SM := Lib.hid (SM.out.on b9)
  replace SX := Lib.hid (SX.out.on b9)
  have SY := Lib.hid s9
  have B9 := Lib.hid (B8.out.trans (b9.mono B8.out.size))
  clear b9 s9
  go_wp2_with fail
  refine (samerel_st SX.out SY.out (minus_eq T1 T2)).mono ?_
  rintro e w10 ⟨rfl, b10⟩
  replace SA := Lib.hid (SA.out.on b10)
  replace SB := Lib.hid (SB.out.on b10)
  replace SC := Lib.hid (SC.out.on b10)
  replace SP := Lib.hid (SP.out.on b10)
  replace SM := Lib.hid (SM.out.on b10)
  have B10 := Lib.hid (B9.out.trans (b10.mono B9.out.size))
  clear b10
  go_wp2_with fail
  refine (tboth_any SA.out SB.out (by omega)).mono ?_
  rintro e w11 ⟨x11, rfl, s11, b11⟩
  replace SA := Lib.hid (SA.out.on b11)
  replace SB := Lib.hid (SB.out.on b11)
  replace SC := Lib.hid (SC.out.on b11)
  replace SP := Lib.hid (SP.out.on b11)
  replace SM := Lib.hid (SM.out.on b11)
  have SX := Lib.hid s11
  have B11 := Lib.hid (B10.out.trans (b11.mono B10.out.size))
  clear b11 s11
  go_wp2_with fail
  refine (rboth_any SA.out SB.out (by omega)).mono ?_
  rintro e w12 ⟨x12, rfl, s12, b12⟩
  replace SA := Lib.hid (SA.out.on b12)
  replace SB := Lib.hid (SB.out.on b12)
  replace SC := Lib.hid (SC.out.on b12)
  replace SP := Lib.hid (SP.out.on b12)
  replace SM := Lib.hid (SM.out.on b12)
  replace SX := Lib.hid (SX.out.on b12)
  have SY := Lib.hid s12
  have B12 := Lib.hid (B11.out.trans (b12.mono B11.out.size))
  clear b12 s12
  go_wp2_with fail
  refine (samerel_st SX.out SY.out (both_eq T1 T2)).mono ?_
  rintro e w13 ⟨rfl, b13⟩
  replace SA := Lib.hid (SA.out.on b13)
  replace SB := Lib.hid (SB.out.on b13)
  replace SC := Lib.hid (SC.out.on b13)
  replace SP := Lib.hid (SP.out.on b13)
  replace SM := Lib.hid (SM.out.on b13)
  have B13 := Lib.hid (B12.out.trans (b13.mono B12.out.size))
  clear b13
  go_wp2_with fail
  refine (tapply_any SA.out SB.out SC.out (by omega)).mono ?_
  rintro e w14 ⟨x14, rfl, s14, b14⟩
  replace SA := Lib.hid (SA.out.on b14)
  replace SB := Lib.hid (SB.out.on b14)
  replace SC := Lib.hid (SC.out.on b14)
  replace SP := Lib.hid (SP.out.on b14)
  replace SM := Lib.hid (SM.out.on b14)
  have SX := Lib.hid s14
  have B14 := Lib.hid (B13.out.trans (b14.mono B13.out.size))
  clear b14 s14
  go_wp2_with fail
  refine (rapply_any SA.out SB.out SC.out (by omega)).mono ?_
  rintro e w15 ⟨x15, rfl, s15, b15⟩
  replace SA := Lib.hid (SA.out.on b15)
  replace SB := Lib.hid (SB.out.on b15)
  replace SC := Lib.hid (SC.out.on b15)
  replace SP := Lib.hid (SP.out.on b15)
  replace SM := Lib.hid (SM.out.on b15)
  replace SX := Lib.hid (SX.out.on b15)
  have SY := Lib.hid s15
  have B15 := Lib.hid (B14.out.trans (b15.mono B14.out.size))
  clear b15 s15
  go_wp2_with fail
  refine (samerel_st SX.out SY.out (apply_eq T2 T1 T3)).mono ?_
  rintro e w16 ⟨rfl, b16⟩
  replace SA := Lib.hid (SA.out.on b16)
  replace SB := Lib.hid (SB.out.on b16)
  replace SC := Lib.hid (SC.out.on b16)
  replace SP := Lib.hid (SP.out.on b16)
  replace SM := Lib.hid (SM.out.on b16)
  have B16 := Lib.hid (B15.out.trans (b16.mono B15.out.size))
  clear b16
  go_wp2_with fail
  refine (rminus_any SB.out SA.out (by omega)).mono ?_
  rintro e w17 ⟨x17, rfl, s17, b17⟩
  replace SA := Lib.hid (SA.out.on b17)
  replace SB := Lib.hid (SB.out.on b17)
  replace SC := Lib.hid (SC.out.on b17)
  replace SP := Lib.hid (SP.out.on b17)
  replace SM := Lib.hid (SM.out.on b17)
  have SY := Lib.hid s17
  have B17 := Lib.hid (B16.out.trans (b17.mono B16.out.size))
  clear b17 s17
  go_wp2_with fail
  refine (samerel_st SP.out SY.out (minus_eq T2 T1)).mono ?_
  rintro e w18 ⟨rfl, b18⟩
  replace SA := Lib.hid (SA.out.on b18)
  replace SB := Lib.hid (SB.out.on b18)
  replace SC := Lib.hid (SC.out.on b18)
  replace SP := Lib.hid (SP.out.on b18)
  replace SM := Lib.hid (SM.out.on b18)
  have B18 := Lib.hid (B17.out.trans (b18.mono B17.out.size))
  clear b18
  go_wp2_with fail
  refine (rminus_any SA.out SB.out (by omega)).mono ?_
  rintro e w19 ⟨x19, rfl, s19, b19⟩
  replace SA := Lib.hid (SA.out.on b19)
  replace SB := Lib.hid (SB.out.on b19)
  replace SC := Lib.hid (SC.out.on b19)
  replace SP := Lib.hid (SP.out.on b19)
  replace SM := Lib.hid (SM.out.on b19)
  have SY := Lib.hid s19
  have B19 := Lib.hid (B18.out.trans (b19.mono B18.out.size))
  clear b19 s19
  go_wp2_with fail
  refine (samerel_st SM.out SY.out (right_eq T1 T2)).mono ?_
  rintro e w20 ⟨rfl, b20⟩
  replace SA := Lib.hid (SA.out.on b20)
  replace SB := Lib.hid (SB.out.on b20)
  replace SC := Lib.hid (SC.out.on b20)
  replace SP := Lib.hid (SP.out.on b20)
  replace SM := Lib.hid (SM.out.on b20)
  have B20 := Lib.hid (B19.out.trans (b20.mono B19.out.size))
  clear b20
  go_wp2_with (go_at_call 18; refine (awake_true _ (HG.out.below B20.out)).mono ?_; rintro e wz ⟨rfl, bz⟩; have BZ := Lib.hid (B20.out.trans (bz.mono B20.out.size)); clear bz)
  go_ret
  exact ⟨by simp, BZ.out⟩
end Go.Proofs.YtaogfgohchpnoaaDoor
