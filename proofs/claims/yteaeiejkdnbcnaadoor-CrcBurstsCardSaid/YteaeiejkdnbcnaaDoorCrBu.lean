/-
  For every piece, place and number the law CrcBursts returns true and leaves its arguments as they were: up to 32 bits in a row, turned in the sealed bytes or in the frame of the piece's first 3000 bytes, are told.
  Conditions: those that the row prints (the size of memory that is read); the table crc.nibbles holds what its initialiser lays, which the card ties to the program's text; none of the proof's own.
-/
import Derived.Test.YteaeiejkdnbcnaaDoorCrTu
import Derived.Test.YteaeiejkdnbcnaaDoorTie
import Derived.Test.YteaeiejkdnbcnaaDoorCards
namespace Go.Proofs.YteaeiejkdnbcnaaDoor
open Go Go.RowKit

/-- Block N is a box with a piece. -/
def BoxAt (w : World) (N : Nat) (k : UInt8) (v : Value) : Prop := w.heap[N]? = some (.cells #[.int .u8 (k.toNat : Int), v] 35 (0, 0))
theorem BoxAt.facts {w : World} {N : Nat} {k : UInt8} {v : Value} (h : BoxAt w N k v) : (w.cell? ⟨N, 0, none⟩ = some (.int .u8 (k.toNat : Int)) ∧ w.cell? ⟨N, 1, none⟩ = some v) ∧ (w.frozen? ⟨N, 0, none⟩ = false ∧ w.frozen? ⟨N, 1, none⟩ = false) ∧ N < w.heap.size :=
  ⟨⟨cell_of_row w N 0 _ _ (0, 0) h, cell_of_row w N 1 _ _ (0, 0) h⟩, ⟨frozen_of_row w N 0 _ _ h, frozen_of_row w N 1 _ _ h⟩, (Array.getElem?_eq_some_iff.1 h).1⟩
theorem BoxAt.below {w w' : World} {N B : Nat} {k : UInt8} {v : Value} (h : BoxAt w N k v) (hb : Below B w w') (hB : N < B) : BoxAt w' N k v := (hb.block N hB).trans h
theorem BoxAt.set {w : World} {N : Nat} {k : UInt8} {v : Value} (h : BoxAt w N k v) (u : Value) : BoxAt ((w.setCell ⟨N, 0, none⟩ (.int .u8 (k.toNat : Int))).setCell ⟨N, 1, none⟩ u) N k u :=
  heap_setCell_same _ N 1 _ _ u (heap_setCell_same w N 0 _ _ (.int .u8 (k.toNat : Int)) h)
set_option maxHeartbeats 2000000 in
set_option maxRecDepth 100000 in
theorem bursts_any (v : Value) (k : UInt8) (l : List UInt8) (at_ : Nat) (x : Reg) (w : World) (hv : PcV w v k l) (hat : at_ < 18446744073709551616) (HG0 : Glob w) :
    Calls Tryd.prog 8 #[v, .int .u64 (at_ : Nat), regV x] w fun e w' => e = .returned (.bool true) ∧ Below w.heap.size w w' := by
  have HG := Lib.hid HG0
  obtain ⟨s, rfl, hb⟩ := hv
  obtain ⟨p, c, hs, -⟩ := hb.2
  subst hs
  have H := Lib.hid hb
  clear HG0 hb
  obtain ⟨N, hN⟩ : ∃ N, N = w.heap.size := ⟨_, rfl⟩
  obtain ⟨w0, hw0⟩ : ∃ w0, w0 = w.alloc (.cells #[.int .u8 (k.toNat : Int), .slice p l.length c] 35) := ⟨_, rfl⟩
  have HB0 := Lib.hid (show Below w.heap.size w w0 by rw [hw0]; exact (Below.refl _ _).alloc (Nat.le_refl _) _)
  have HX0 := Lib.hid (show BoxAt w0 N k (.slice p l.length c) by rw [hw0, hN]; exact heap_alloc_new w _)
  have HN := Lib.hid hN
  go_enter Tryd.func8, Tryd.ntmps8
  go_wp2_with fail
  rw [← hw0, ← hN]
  clear hw0 hN
  refine (awake_true w0 (HG.out.below HB0.out)).mono ?_
  rintro e w1 ⟨rfl, hb1⟩
  have HB1 := Lib.hid (HB0.out.trans (hb1.mono HB0.out.size))
  have HX1 := Lib.hid (HX0.out.below hb1 HX0.out.facts.2.2)
  have HI1 := Lib.hid (H.out.below HB1.out)
  obtain ⟨⟨c0, c1⟩, ⟨f0, f1⟩, hz⟩ := HX1.out.facts
  clear hb1
  go_wp2_with fail
  refine (piece_any k (.slice p l.length c) l w1 HI1.out HB1.out.size).mono ?_
  rintro e w2 ⟨u, rfl, hu, hb2⟩
  obtain ⟨m, hm⟩ : ∃ m, m = l.take 3000 := ⟨_, rfl⟩
  have HL := Lib.hid (show m.length ≤ 3000 by rw [hm, List.length_take]; omega)
  rw [← hm] at hu
  obtain ⟨pu, cu, eu, -⟩ := hu.2
  subst eu
  have HB2 := Lib.hid (HB1.out.trans (hb2.mono HB1.out.size))
  have HX2 := Lib.hid (HX1.out.below hb2 hz)
  have HU2 := Lib.hid hu
  have HZ2 := Lib.hid hb2.size
  clear hu hb2 hm c0 c1 f0 f1
  obtain ⟨⟨c0, c1⟩, ⟨f0, f1⟩, hz2⟩ := HX2.out.facts
  have HX3 := Lib.hid (HX2.out.set (.slice pu m.length cu))
  obtain ⟨⟨d0, d1⟩, -, -⟩ := HX3.out.facts
  have HB3 := Lib.hid ((HB2.out.setCell (p := ⟨N, 0, none⟩) (Nat.le_of_eq HN.out.symm) (.int .u8 (k.toNat : Int))).setCell (p := ⟨N, 1, none⟩) (Nat.le_of_eq HN.out.symm) (.slice pu m.length cu))
  go_wp2_with fail
  obtain ⟨w3, hw3⟩ : ∃ w3, w3 = (w2.setCell ⟨N, 0, none⟩ (.int .u8 (k.toNat : Int))).setCell ⟨N, 1, none⟩ (.slice pu m.length cu) := ⟨_, rfl⟩
  have HU3 := Lib.hid (show ByC w.heap.size w3 (.slice pu m.length cu) m by rw [hw3]; exact HU2.out.below (((Below.refl w.heap.size w2).setCell (p := ⟨N, 0, none⟩) (Nat.le_of_eq HN.out.symm) _).setCell (p := ⟨N, 1, none⟩) (Nat.le_of_eq HN.out.symm) _))
  rw [← hw3] at HX3 HB3 d0 d1 ⊢
  clear hw3 c0 c1 f0 f1
  refine (seal_any _ m w3 (HU3.out.1.mono HB3.out.size) (Nat.le_trans HL.out (by decide)) (HG.out.below HB3.out)).mono ?_
  rintro e w4 ⟨v4, rfl, ho4, hb4⟩
  have HO4 := Lib.hid ho4
  have HB4 := Lib.hid (HB3.out.trans (hb4.mono HB3.out.size))
  have HX4 := Lib.hid (HX3.out.below hb4 HX3.out.facts.2.2)
  have HU4 := Lib.hid (HU3.out.1.below (hb4.mono HB3.out.size))
  clear ho4 hb4 d0 d1
  obtain ⟨p4, k4, hv4, -⟩ := HO4.out.byC.2
  obtain ⟨nS, hnS⟩ : ∃ nS, nS = (sealL m).length := ⟨_, rfl⟩
  rw [← hnS] at hv4
  subst hv4
  have HnS := Lib.hid (show nS = m.length + 4 by rw [hnS, sealL_len])
  have HnS2 := Lib.hid hnS
  clear hnS
  obtain ⟨⟨c0, c1⟩, -, -⟩ := HX4.out.facts
  go_wp2_with fail
  refine (frame_any k pu cu m w4 (HU4.out.mono HB4.out.size) (Nat.le_trans HL.out (by decide)) (HG.out.below HB4.out)).mono ?_
  rintro e w5 ⟨v5, rfl, ho5, hb5⟩
  have HO5 := Lib.hid ho5
  have HI5 := Lib.hid ((HO4.out.in_.below hb5).mono hb5.size)
  have HB5 := Lib.hid (HB4.out.trans (hb5.mono HB4.out.size))
  clear ho5 hb5 c0 c1 HX4 HX3 HX2 HX1 HX0
  obtain ⟨p5, k5, hv5, -⟩ := HO5.out.byC.2
  obtain ⟨nF, hnF⟩ : ∃ nF, nF = (frameL k m).length := ⟨_, rfl⟩
  rw [← hnF] at hv5
  subst hv5
  have HnF := Lib.hid (show nF = 13 + m.length by rw [hnF, frameL_len])
  have HnF2 := Lib.hid hnF
  clear hnF
  have g1 : ¬ nS = 0 := by have := HnS.out; omega
  have g2 : ¬ nF = 0 := by have := HnF.out; omega
  have g3 : ((nS : Int) == 0) = false := by simp [g1]
  have g4 : ((nF : Int) == 0) = false := by simp [g2]
  go_wp2_with fail
  have hl4 : (sealL m).length ≤ 2000000 := by have := HL.out; rw [sealL_len]; omega
  have hl5 : (frameL k m).length ≤ 2000000 := by have := HL.out; rw [frameL_len]; omega
  have HT1 := Lib.hid (turned_any (.slice p4 nS k4) (sealL m) at_ x w5 HI5.out (by rw [sealL_len]; omega) hl4 hat)
  refine HT1.out.mono ?_
  rintro e w6 ⟨v6, c6, some, rfl, ho6, hb6, ht6, hs6⟩
  have HO6 := Lib.hid ho6
  have HB6 := Lib.hid (HB5.out.trans (hb6.mono HB5.out.size))
  have HI6 := Lib.hid ((HO5.out.in_.below hb6).mono hb6.size)
  have HT6 := Lib.hid ht6
  have HS6 := Lib.hid hs6
  clear ho6 hb6 ht6 hs6 g1 g2 g3 g4 HT1
  go_wp2_with fail
  refine (turned_any (.slice p5 nF k5) (frameL k m) at_ x w6 HI6.out (by rw [frameL_len]; omega) hl5 hat).mono ?_
  rintro e w7 ⟨v7, c7, any, rfl, ho7, hb7, ht7, hs7⟩
  have HO7 := Lib.hid ho7
  have HB7 := Lib.hid (HB6.out.trans (hb7.mono HB6.out.size))
  have HC6 := Lib.hid ((HO6.out.byC.below hb7).mono hb7.size)
  have HT7 := Lib.hid ht7
  have HS7 := Lib.hid hs7
  clear ho7 hb7 ht7 hs7
  go_wp2_with fail
  have hl6 : c6.length = m.length + 4 := by rw [← HT6.out.1, sealL_len]
  have hl7 : c7.length = 13 + m.length := by rw [← HT7.out.1, frameL_len]
  refine (open_any v6 c6 w7 HC6.out (by have := HL.out; omega) (HG.out.below HB7.out)).mono ?_
  rintro e w8 ⟨v8, rfl, ho8, hb8⟩
  have HB8 := Lib.hid (HB7.out.trans (hb8.mono HB7.out.size))
  have HC7 := Lib.hid ((HO7.out.byC.below hb8).mono hb8.size)
  clear ho8 hb8
  obtain ⟨g, HG8⟩ : ∃ g, Hid (g = (openE c6).1) := ⟨_, Lib.hid rfl⟩
  rw [← HG8.out]
  go_wp2_with fail
  refine (unf_any v7 c7 w8 HC7.out (by omega) (by have := HL.out; omega) (HG.out.below HB8.out)).mono ?_
  rintro e w9 ⟨v9, rfl, ho9, hb9⟩
  have HB9 := Lib.hid (HB8.out.trans (hb9.mono HB8.out.size))
  obtain ⟨p9, q9, e9⟩ := ho9.in_.shape
  subst e9
  clear ho9 hb9
  obtain ⟨h, HH9⟩ : ∃ h, Hid (h = (unfE c7).1) := ⟨_, Lib.hid rfl⟩
  rw [← HH9.out]
  have hsome : some = true → g = 40 := fun hs => by
    obtain ⟨i, hi, hf⟩ := HS6.out hs
    have ho := seal_burst (sealL m) c6 _ (at_ % (8 * (sealL m).length)) (openB_seal m) HT6.out.1 HT6.out.2 (fun i hi => by unfold winK; rw [decide_eq_false (by omega)]; rfl) (fun i hi => by unfold winK; rw [decide_eq_false (show ¬ i < at_ % (8 * (sealL m).length) + 32 by omega)]; simp) i hi hf
    rw [HG8.out, openE_err (by omega) ho]
  have hany : any = true → h ≠ 0 := fun hs => by
    obtain ⟨i, hi, hf⟩ := HS7.out hs
    rw [HH9.out]
    exact frame_burst k m c7 _ (at_ % (8 * (frameL k m).length)) (Nat.le_trans HL.out (by decide)) HT7.out.1 HT7.out.2 (fun i hi => by unfold winK; rw [decide_eq_false (by omega)]; rfl) (fun i hi => by unfold winK; rw [decide_eq_false (show ¬ i < at_ % (8 * (frameL k m).length) + 32 by omega)]; simp) i hi hf
  have HFin := Lib.hid (HB9.out.alloc HB9.out.size (.cells #[.int .u8 ((unfE c7).2.2.1.toNat : Int), .slice p9 (unfE c7).2.2.2.length q9] 35))
  clear hl6 hl7 hl4 hl5
  cases some <;> cases any
  · clear hsome hany
    go_wp2_with fail
    go_ret
    exact ⟨rfl, HFin.out⟩
  · have hh := hany rfl
    have h1 : (h == 0) = false := by simpa using hh
    have h2 : (h != 0) = true := by simpa using hh
    clear hsome hany hh
    go_wp2_with fail
    go_ret
    exact ⟨rfl, HFin.out⟩
  · have hg := hsome rfl
    clear hsome hany
    subst hg
    go_wp2_with fail
    go_ret
    exact ⟨rfl, HFin.out⟩
  · have hg := hsome rfl
    have hh := hany rfl
    have h1 : (h == 0) = false := by simpa using hh
    have h2 : (h != 0) = true := by simpa using hh
    clear hsome hany hh
    subst hg
    go_wp2_with fail
    go_ret
    exact ⟨rfl, HFin.out⟩

open Go.ChangeShapes Go.WideShapes Go.ChangeAt
set_option maxRecDepth 100000 in
theorem lifted_bursts_any (os : Os) (started : os.Started) (H : Type) (enc : TypeId × Value → H) :
    ReturnsInHanded {} Tryd.checked os 8 .any (fun w args => (Rows.crcBurstsSpec.pre enc Tryd.prog Tryd.f8 [] false w args ∧ laidMetH Tryd.prog laid4 w) ∧ sizedMet enc Tryd.prog Tryd.f8 (OpenSpec.ofChange Rows.crcBurstsSpec) false w args)
      (Rows.crcBurstsSpec.post enc Tryd.prog Tryd.f8 false true false false) := by
  refine returnsInHanded_of_change_and (C := Tryd.checked) (X := fun w _ => laidMetH Tryd.prog laid4 w) (fun _ _ _ hh h => h.of_heap hh) own started (by kernel_rfl) Tryd.func8
    (ChangeSpec.witness_shaped (enc := enc) (C := Tryd.checked) (os := os) (X := fun w _ => laidMetH Tryd.prog laid4 w) false (World.doorLaid Tryd.prog 400 os) #[.agg #[.int .u8 0, .slice none 0 0], .int .u64 0, .int .u32 0] 8 rfl (World.shaped_of_RefB (by kernel_rfl) (by kernel_rfl)) (by kernel_rfl) (by kernel_rfl) (by kernel_rfl) (door_met os _)) ?_
  intro W base args ds gs before hval0 hW _ _ hL _
  have hval : ∀ (j : Nat) t v, Tryd.f8.params[j]? = some t → args[j]? = some v → Value.okWide Tryd.prog W .any base t v := hval0
  have hW' := hW
  obtain ⟨p, q, hA0, hV, rfl, hfz, hnd⟩ := hW
  have hA : DataW.TrodAll enc Tryd.prog W 0 (fun _ => true) true Tryd.f8.params.toList args.toList ds p := hA0
  rw [Tryd.params8] at hA hval
  obtain ⟨v0, vs0, d0, ds0, p0, q0, hargs, rfl, rfl, h0, r0⟩ := trodAll_cons hA
  obtain ⟨v1, vs1, d1, ds1, p1, q1, rfl, rfl, rfl, h1, r1⟩ := trodAll_cons r0
  obtain ⟨v2, vs2, d2, ds2, p2, q2, rfl, rfl, rfl, h2, r2⟩ := trodAll_cons r1
  obtain ⟨rfl, rfl, rfl⟩ := trodAll_nil r2
  obtain rfl : args = #[v0, v1, v2] := by cases args; simp_all
  obtain ⟨rfl, rfl⟩ := trodVars_none hV
  have t0 := h0
  have lt0 : ∀ x ∈ p0, x.block < W.heap.size := by obtain ⟨m, hm⟩ := t0; exact DataW.trod_lt m _ _ _ hm
  have t1 := h1
  have lt1 : ∀ x ∈ p1, x.block < W.heap.size := by obtain ⟨m, hm⟩ := t1; exact DataW.trod_lt m _ _ _ hm
  have t2 := h2
  have lt2 : ∀ x ∈ p2, x.block < W.heap.size := by obtain ⟨m, hm⟩ := t2; exact DataW.trod_lt m _ _ _ hm
  obtain ⟨k0, l0, a0⟩ := open_piece (hval 0 35 v0 rfl rfl) h0
  obtain ⟨x1v, rfl, -, -, wf1⟩ := open_int Tryd.underlying45 (hval 1 45 v1 rfl rfl) h1
  obtain ⟨n1, rfl⟩ := Int.eq_ofNat_of_zero_le (wf_u64 wf1).1
  obtain ⟨x2v, rfl, -, -, wf2⟩ := open_int Tryd.underlying27 (hval 2 27 v2 rfl rfl) h2
  obtain ⟨x2, e2⟩ := reg_of (wf_u32 wf2)
  subst e2
  clear hA0 hval0
  refine (bursts_any v0 k0 l0 n1 x2 W a0 (by have := (wf_u64 wf1).2; omega) (glob_of_laid hL)).mono fun e W' ⟨he, bel⟩ => ?_
  subst he
  exact ⟨_, rfl, _, _, _, [], _, [], hW', trodAll_mk1 (shut_bool Tryd.underlying4 _), (trodAll_cons_mk (Below.trod laidOut (by kernel_rfl) (of_decide_eq_true (by kernel_rfl)) t0 bel lt0) (trodAll_cons_mk (Below.trod laidOut (by kernel_rfl) (of_decide_eq_true (by kernel_rfl)) t1 bel lt1) (trodAll_cons_mk (Below.trod laidOut (by kernel_rfl) (of_decide_eq_true (by kernel_rfl)) t2 bel lt2) trodAll_mk0))), rfl, bel.frame _, fun h => by cases h⟩

theorem holds_bursts_any : Rows.CrcBurstsSaid :=
  OpenClaim.holds_of_wide 8 Tryd.f8 rfl rfl rfl rfl rfl rfl rfl ⟨rfl, rfl, rfl, rfl, rfl⟩ rfl rfl rfl rfl rfl (by kernel_rfl) Tryd.func8 (by kernel_rfl)
    (of_decide_eq_true (by kernel_rfl)) (by unfold Func.isWrapper; rw [if_neg (of_decide_eq_false (by kernel_rfl))]; exact ⟨rfl, rfl⟩)
    (fun os started H enc _ => lifted_bursts_any os started H enc)

theorem card_bursts_any : Rows.CrcBurstsCardSaid :=
  Claim7.holds_tied_plain_at .later [] Rows.crcBurstsCard.laidKinds true Rows.crcBurstsCard.stood.harness Rows.crcBurstsCard.stood.looks
    holds_bursts_any (fun _ h => by cases h) (by kernel_rfl) (fun _ h => by cases h) crcBursts_row_tie rfl ⟨rfl, rfl⟩ (by kernel_rfl) rfl
    (fun f fn hf hfn => by
      obtain rfl : f = 8 := Option.some.inj ((show Tryd.prog.funcNamed "pedigree/pedigreelaw04.CrcBursts" = some 8 by kernel_rfl).symm.trans hf) |>.symm
      obtain rfl : fn = Tryd.f8 := (Option.some.inj (Tryd.func8.symm.trans hfn)).symm
      exact ⟨by kernel_rfl, fun j t ht => by
        rw [Tryd.params8] at ht
        have hm : t ∈ [35, 45, 27] := by simpa using Array.mem_of_getElem? ht
        have hall : ([35, 45, 27].all fun u => !Tryd.prog.wantsStandIn u) = true := by kernel_rfl
        exact (show Tryd.prog.wantsStandIn t = false by simpa using List.all_eq_true.1 hall t hm)⟩)
    (by kernel_rfl)
#print axioms card_bursts_any


end Go.Proofs.YteaeiejkdnbcnaaDoor
