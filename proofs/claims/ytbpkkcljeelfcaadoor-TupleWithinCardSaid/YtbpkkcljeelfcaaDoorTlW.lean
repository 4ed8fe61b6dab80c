/-
  For every three tuples the law TupleWithin returns true and leaves its arguments as they were: which tuples lie within two is as the document says.
  Conditions: those that the row and its tied card print (the library's listed variables hold what their initialisers laid; the size of memory that is read); none of the proof's own.
-/
import Derived.Test.YtbpkkcljeelfcaaDoorTlF
import Derived.Test.YtbpkkcljeelfcaaDoorWinR
import Derived.Test.YtbpkkcljeelfcaaDoorTie
import Derived.Test.YtbpkkcljeelfcaaDoorCards
namespace Go.Proofs.YtbpkkcljeelfcaaDoor
open Go Go.RowKit

set_option maxHeartbeats 1000000 in
set_option maxRecDepth 100000 in
theorem lwithin (a : Value) (T1 : List V3) (b : Value) (T2 : List V3) (c : Value) (T3 : List V3) (w : World) (h1 : ArgT w a T1) (h2 : ArgT w b T2) (h3 : ArgT w c T3) (G : Glob w) :
    Calls Tryd.prog 5 #[a, b, c] w fun e w' => e = .returned (.bool true) ∧ Below w.heap.size w w' := by
  have H1 := Lib.hid h1
  have H2 := Lib.hid h2
  have H3 := Lib.hid h3
  have HG := Lib.hid G
  clear h1 h2 h3 G
  go_enter Tryd.func5, Tryd.ntmps5
  go_wp2_with fail
  refine (cut_any a T1 w H1.out).mono ?_
  rintro e w1 ⟨v1, rfl, c1, rfl⟩
  have C1 := Lib.hid c1
  clear c1
  go_wp2_with fail
  refine (cut_any b T2 w H2.out).mono ?_
  rintro e w2 ⟨v2, rfl, c2, rfl⟩
  have C2 := Lib.hid c2
  clear c2
  go_wp2_with fail
  refine (cut_any c T3 w H3.out).mono ?_
  rintro e w3 ⟨v3, rfl, c3, rfl⟩
  have C3 := Lib.hid c3
  clear c3
  go_wp2_with fail
  refine (within_any v1 v2 v3 _ _ _ _ w C1.out.1 C2.out C3.out.1 (Nat.le_refl _)).mono ?_
  rintro e w4 ⟨rfl, g4⟩
  have G4 := Lib.hid g4
  clear g4
  go_wp2_with fail
  refine (rwithin_any v1 v2 v3 _ _ _ w.heap.size w4 (C1.out.1.below G4.out.below) (C2.out.below G4.out.below) (C3.out.1.below G4.out.below) G4.out.size).mono ?_
  rintro e w5 ⟨rfl, g5⟩
  have B5 := Lib.hid (G4.out.trans g5).below
  clear g5
  go_wp2_with (go_at_call 15; refine (awake_true _ (HG.out.below B5.out)).mono ?_; rintro e w6 ⟨rfl, b6⟩; have B6 := Lib.hid (B5.out.trans (b6.mono B5.out.size)); clear b6)
  go_ret
  exact ⟨by simp, B6.out⟩

open Go.ChangeShapes Go.WideShapes Go.ChangeAt
set_option maxRecDepth 100000 in
theorem lifted_lwithin (os : Os) (started : os.Started) (H : Type) (enc : TypeId × Value → H) :
    ReturnsInHanded {} Tryd.checked os 5 .any (fun w args => (Rows.tupleWithinSpec.pre enc Tryd.prog Tryd.f5 [] false w args ∧ laidMetH Tryd.prog laid3 w) ∧ sizedMet enc Tryd.prog Tryd.f5 (OpenSpec.ofChange Rows.tupleWithinSpec) false w args)
      (Rows.tupleWithinSpec.post enc Tryd.prog Tryd.f5 false true false false) := by
  refine returnsInHanded_of_change_and (C := Tryd.checked) (X := fun w _ => laidMetH Tryd.prog laid3 w) (fun _ _ _ hh h => h.of_heap hh) own started (by kernel_rfl) Tryd.func5
    (ChangeSpec.witness_shaped (enc := enc) (C := Tryd.checked) (os := os) (X := fun w _ => laidMetH Tryd.prog laid3 w) false (World.doorLaid Tryd.prog 400 os) #[.slice none 0 0, .slice none 0 0, .slice none 0 0] 8 rfl (World.shaped_of_RefB (by kernel_rfl) (by kernel_rfl)) (by kernel_rfl) (by kernel_rfl) (by kernel_rfl) (door_met os _)) ?_
  intro W base args ds gs before hval0 hW _ _ hL _
  have hval : ∀ (j : Nat) t v, Tryd.f5.params[j]? = some t → args[j]? = some v → Value.okWide Tryd.prog W .any base t v := hval0
  have hW' := hW
  obtain ⟨p, q, hA0, hV, rfl, hfz, hnd⟩ := hW
  have hA : DataW.TrodAll enc Tryd.prog W 0 (fun _ => true) true Tryd.f5.params.toList args.toList ds p := hA0
  rw [Tryd.params5] at hA hval
  obtain ⟨v0, vs0, d0, ds0, p0, q0, hargs, rfl, rfl, h0, r0⟩ := trodAll_cons hA
  obtain ⟨v1, vs1, d1, ds1, p1, q1, rfl, rfl, rfl, h1, r1⟩ := trodAll_cons r0
  obtain ⟨v2, vs2, d2, ds2, p2, q2, rfl, rfl, rfl, h2, r2⟩ := trodAll_cons r1
  obtain ⟨rfl, rfl, rfl⟩ := trodAll_nil r2
  obtain rfl : args = #[v0, v1, v2] := by cases args; simp_all
  obtain ⟨rfl, rfl⟩ := trodVars_none hV
  have t0 := h0
  have lt0 : ∀ x ∈ p0, x.block < W.heap.size := by obtain ⟨m, hm⟩ := t0; exact DataW.trod_lt m _ _ _ hm
  have t1 := h1
  have lt1 : ∀ x ∈ p1, x.block < W.heap.size := by obtain ⟨m, hm⟩ := t1; exact DataW.trod_lt m _ _ _ hm
  have t2 := h2
  have lt2 : ∀ x ∈ p2, x.block < W.heap.size := by obtain ⟨m, hm⟩ := t2; exact DataW.trod_lt m _ _ _ hm
  obtain ⟨T0, a0⟩ := open_tup (hval 0 23 v0 rfl rfl) h0
  obtain ⟨T1, a1⟩ := open_tup (hval 1 23 v1 rfl rfl) h1
  obtain ⟨T2, a2⟩ := open_tup (hval 2 23 v2 rfl rfl) h2
  clear hA0 hval0
  refine (lwithin v0 T0 v1 T1 v2 T2 W a0 a1 a2 (glob_of_laid hL)).mono fun e W' ⟨he, bel⟩ => ?_
  subst he
  exact ⟨_, rfl, _, _, _, [], _, [], hW', trodAll_mk1 (shut_bool Tryd.underlying4 _), (trodAll_cons_mk (Below.trod laidOut (by kernel_rfl) (of_decide_eq_true (by kernel_rfl)) t0 bel lt0) (trodAll_cons_mk (Below.trod laidOut (by kernel_rfl) (of_decide_eq_true (by kernel_rfl)) t1 bel lt1) (trodAll_cons_mk (Below.trod laidOut (by kernel_rfl) (of_decide_eq_true (by kernel_rfl)) t2 bel lt2) trodAll_mk0))), rfl, bel.frame _, fun h => by cases h⟩

theorem holds_lwithin : Rows.TupleWithinSaid :=
  OpenClaim.holds_of_wide 5 Tryd.f5 rfl rfl rfl rfl rfl rfl rfl ⟨rfl, rfl, rfl, rfl, rfl⟩ rfl rfl rfl rfl rfl (by kernel_rfl) Tryd.func5 (by kernel_rfl)
    (of_decide_eq_true (by kernel_rfl)) (by unfold Func.isWrapper; rw [if_neg (of_decide_eq_false (by kernel_rfl))]; exact ⟨rfl, rfl⟩)
    (fun os started H enc _ => lifted_lwithin os started H enc)

theorem card_lwithin : Rows.TupleWithinCardSaid :=
  Claim7.holds_tied_plain_at .later [] Rows.tupleWithinCard.laidKinds true Rows.tupleWithinCard.stood.harness Rows.tupleWithinCard.stood.looks
    holds_lwithin (fun _ h => by cases h) (by kernel_rfl) (fun _ h => by cases h) tupleWithin_row_tie rfl ⟨rfl, rfl⟩ (by kernel_rfl) rfl
    (fun f fn hf hfn => by
      obtain rfl : f = 5 := Option.some.inj ((show Tryd.prog.funcNamed "pedigree/pedigreelaw02.TupleWithin" = some 5 by kernel_rfl).symm.trans hf) |>.symm
      obtain rfl : fn = Tryd.f5 := (Option.some.inj (Tryd.func5.symm.trans hfn)).symm
      exact ⟨by kernel_rfl, fun j t ht => by
        rw [Tryd.params5] at ht
        have hm : t ∈ [23, 23, 23] := by simpa using Array.mem_of_getElem? ht
        have hall : ([23, 23, 23].all fun u => !Tryd.prog.wantsStandIn u) = true := by kernel_rfl
        exact (show Tryd.prog.wantsStandIn t = false by simpa using List.all_eq_true.1 hall t hm)⟩)
    (by kernel_rfl)
#print axioms card_lwithin

end Go.Proofs.YtbpkkcljeelfcaaDoor
