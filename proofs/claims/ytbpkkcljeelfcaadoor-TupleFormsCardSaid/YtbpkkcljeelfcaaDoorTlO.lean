/-
  For every two tuples and every row of types the law TupleForms returns true and leaves its arguments as they were: which tuples may be, which types they have, which one stands ahead.
  Conditions: those that the row and its tied card print (the library's listed variables hold what their initialisers laid; the size of memory that is read); none of the proof's own.
-/
import Derived.Test.YtbpkkcljeelfcaaDoorTlY
import Derived.Test.YtbpkkcljeelfcaaDoorTie
import Derived.Test.YtbpkkcljeelfcaaDoorCards
namespace Go.Proofs.YtbpkkcljeelfcaaDoor
open Go Go.RowKit

open Classical in
/-- The number that tells whether a tuple may be. -/
noncomputable def errC (T : List V3) : Int := if OkT T then 0 else 20
open Classical in
/-- Has it these types? -/
noncomputable def typC (T : List V3) (Z : List Int) : Bool := if TypedP T Z then true else false
theorem errC_of {T : List V3} {e : Ending} (h : (OkT T ∧ e = .returned (.int .i64 0)) ∨ (¬ OkT T ∧ e = .returned (.int .i64 20))) : e = .returned (.int .i64 (errC T)) := by
  unfold errC
  rcases h with ⟨h, e⟩ | ⟨h, e⟩
  · rw [if_pos h]; exact e
  · rw [if_neg h]; exact e
theorem typC_of {T : List V3} {Z : List Int} {e : Ending} (h : (TypedP T Z ∧ e = .returned (.bool true)) ∨ (¬ TypedP T Z ∧ e = .returned (.bool false))) : e = .returned (.bool (typC T Z)) := by
  unfold typC
  rcases h with ⟨h, e⟩ | ⟨h, e⟩
  · rw [if_pos h]; exact e
  · rw [if_neg h]; exact e

set_option maxHeartbeats 1000000 in
set_option maxRecDepth 100000 in
theorem lforms (a : Value) (T1 : List V3) (b : Value) (T2 : List V3) (c : Value) (Z : List Int) (w : World) (h1 : ArgT w a T1) (h2 : ArgT w b T2) (h3 : TypIn w.heap.size w c Z) (G : Glob w) :
    Calls Tryd.prog 3 #[a, b, c] w fun e w' => e = .returned (.bool true) ∧ Below w.heap.size w w' := by
  have H1 := Lib.hid h1
  have H2 := Lib.hid h2
  have H3 := Lib.hid h3
  have HG := Lib.hid G
  clear h1 h2 h3 G
  go_enter Tryd.func3, Tryd.ntmps3
  go_wp2_with fail
  refine (cut_any a T1 w H1.out).mono ?_
  rintro e w1' ⟨v1, rfl, c1, rfl⟩
  have C1 := Lib.hid c1.1
  clear c1
  go_wp2_with fail
  refine (cut_any b T2 w H2.out).mono ?_
  rintro e w1' ⟨v2, rfl, c2, rfl⟩
  have C2 := Lib.hid c2.1
  clear c2
  obtain ⟨A, hA⟩ : ∃ A, A = T1.take 20 := ⟨_, rfl⟩
  obtain ⟨B, hB⟩ : ∃ B, B = T2.take 20 := ⟨_, rfl⟩
  rw [← hA] at C1
  rw [← hB] at C2
  clear hA hB
  obtain ⟨er, her⟩ : ∃ er, er = errC A := ⟨_, rfl⟩
  obtain ⟨ty, hty⟩ : ∃ ty, ty = typC A Z := ⟨_, rfl⟩
  obtain ⟨x, hx⟩ : ∃ x, x = cmpT A B := ⟨_, rfl⟩
  have HE := Lib.hid her
  have HY := Lib.hid hty
  have HX := Lib.hid hx
  clear her hty hx
  go_wp2_with (first
    | (go_at_call 9; refine (tcheck_any v1 A w.heap.size w C1.out (Nat.le_refl _)).mono ?_; rintro e w2 ⟨he, b2⟩; obtain rfl := errC_of he; have B2 := Lib.hid b2; clear he b2; rw [← HE.out])
    | (go_at_call 10; refine (rcheck_any v1 A w.heap.size w2 (C1.out.below B2.out) B2.out.size).mono ?_; rintro e w3 ⟨he, b3⟩; obtain rfl := errC_of he; have B3 := Lib.hid (B2.out.trans (b3.mono B2.out.size)); clear he b3; rw [← HE.out])
    | (go_at_call 11; refine (typed_any v1 c A Z w.heap.size w3 (C1.out.below B3.out) (H3.out.below B3.out) B3.out.size).mono ?_; rintro e w4 ⟨he, b4⟩; obtain rfl := typC_of he; have B4 := Lib.hid (B3.out.trans (b4.mono B3.out.size)); clear he b4; rw [← HY.out])
    | (go_at_call 12; refine (rtyped_any v1 c A Z w.heap.size w4 (C1.out.below B4.out) (H3.out.below B4.out) B4.out.size).mono ?_; rintro e w5 ⟨he, b5⟩; obtain rfl := typC_of he; have B5 := Lib.hid (B4.out.trans (b5.mono B4.out.size)); clear he b5; rw [← HY.out])
    | (go_at_call 13; refine (tcompare_any v1 v2 A B w.heap.size w5 (C1.out.below B5.out) (C2.out.below B5.out) B5.out.size).mono ?_; rintro e w6 ⟨rfl, g6⟩; have B6 := Lib.hid (B5.out.trans (g6.below.mono B5.out.size)); clear g6; rw [← HX.out])
    | (go_at_call 14; refine (rcompare_any v1 v2 A B w.heap.size w6 (C1.out.below B6.out) (C2.out.below B6.out) B6.out.size).mono ?_; rintro e w7 ⟨rfl, g7⟩; have B7 := Lib.hid (B6.out.trans (g7.below.mono B6.out.size)); clear g7; rw [← HX.out])
    | (go_at_call 15; refine (awake_true w7 (HG.out.below B7.out)).mono ?_; rintro e w8 ⟨rfl, b8⟩; have B8 := Lib.hid (B7.out.trans (b8.mono B7.out.size)); clear b8))
  go_ret
  exact ⟨by simp, B8.out⟩

open Go.ChangeShapes Go.WideShapes Go.ChangeAt
set_option maxRecDepth 100000 in
theorem lifted_lforms (os : Os) (started : os.Started) (H : Type) (enc : TypeId × Value → H) :
    ReturnsInHanded {} Tryd.checked os 3 .any (fun w args => (Rows.tupleFormsSpec.pre enc Tryd.prog Tryd.f3 [] false w args ∧ laidMetH Tryd.prog laid3 w) ∧ sizedMet enc Tryd.prog Tryd.f3 (OpenSpec.ofChange Rows.tupleFormsSpec) false w args)
      (Rows.tupleFormsSpec.post enc Tryd.prog Tryd.f3 false true false false) := by
  refine returnsInHanded_of_change_and (C := Tryd.checked) (X := fun w _ => laidMetH Tryd.prog laid3 w) (fun _ _ _ hh h => h.of_heap hh) own started (by kernel_rfl) Tryd.func3
    (ChangeSpec.witness_shaped (enc := enc) (C := Tryd.checked) (os := os) (X := fun w _ => laidMetH Tryd.prog laid3 w) false (World.doorLaid Tryd.prog 400 os) #[.slice none 0 0, .slice none 0 0, .slice none 0 0] 8 rfl (World.shaped_of_RefB (by kernel_rfl) (by kernel_rfl)) (by kernel_rfl) (by kernel_rfl) (by kernel_rfl) (door_met os _)) ?_
  intro W base args ds gs before hval0 hW _ _ hL _
  have hval : ∀ (j : Nat) t v, Tryd.f3.params[j]? = some t → args[j]? = some v → Value.okWide Tryd.prog W .any base t v := hval0
  have hW' := hW
  obtain ⟨p, q, hA0, hV, rfl, hfz, hnd⟩ := hW
  have hA : DataW.TrodAll enc Tryd.prog W 0 (fun _ => true) true Tryd.f3.params.toList args.toList ds p := hA0
  rw [Tryd.params3] at hA hval
  obtain ⟨v0, vs0, d0, ds0, p0, q0, hargs, rfl, rfl, h0, r0⟩ := trodAll_cons hA
  obtain ⟨v1, vs1, d1, ds1, p1, q1, rfl, rfl, rfl, h1, r1⟩ := trodAll_cons r0
  obtain ⟨v2, vs2, d2, ds2, p2, q2, rfl, rfl, rfl, h2, r2⟩ := trodAll_cons r1
  obtain ⟨rfl, rfl, rfl⟩ := trodAll_nil r2
  obtain rfl : args = #[v0, v1, v2] := by cases args; simp_all
  obtain ⟨rfl, rfl⟩ := trodVars_none hV
  have t0 := h0
  have lt0 : ∀ x ∈ p0, x.block < W.heap.size := by obtain ⟨m, hm⟩ := t0; exact DataW.trod_lt m _ _ _ hm
  have t1 := h1
  have lt1 : ∀ x ∈ p1, x.block < W.heap.size := by obtain ⟨m, hm⟩ := t1; exact DataW.trod_lt m _ _ _ hm
  have t2 := h2
  have lt2 : ∀ x ∈ p2, x.block < W.heap.size := by obtain ⟨m, hm⟩ := t2; exact DataW.trod_lt m _ _ _ hm
  obtain ⟨T0, a0⟩ := open_tup (hval 0 23 v0 rfl rfl) h0
  obtain ⟨T1, a1⟩ := open_tup (hval 1 23 v1 rfl rfl) h1
  obtain ⟨z2, a2⟩ := open_typ (hval 2 24 v2 rfl rfl) h2
  clear hA0 hval0
  refine (lforms v0 T0 v1 T1 v2 z2 W a0 a1 a2 (glob_of_laid hL)).mono fun e W' ⟨he, bel⟩ => ?_
  subst he
  exact ⟨_, rfl, _, _, _, [], _, [], hW', trodAll_mk1 (shut_bool Tryd.underlying4 _), (trodAll_cons_mk (Below.trod laidOut (by kernel_rfl) (of_decide_eq_true (by kernel_rfl)) t0 bel lt0) (trodAll_cons_mk (Below.trod laidOut (by kernel_rfl) (of_decide_eq_true (by kernel_rfl)) t1 bel lt1) (trodAll_cons_mk (Below.trod laidOut (by kernel_rfl) (of_decide_eq_true (by kernel_rfl)) t2 bel lt2) trodAll_mk0))), rfl, bel.frame _, fun h => by cases h⟩

theorem holds_lforms : Rows.TupleFormsSaid :=
  OpenClaim.holds_of_wide 3 Tryd.f3 rfl rfl rfl rfl rfl rfl rfl ⟨rfl, rfl, rfl, rfl, rfl⟩ rfl rfl rfl rfl rfl (by kernel_rfl) Tryd.func3 (by kernel_rfl)
    (of_decide_eq_true (by kernel_rfl)) (by unfold Func.isWrapper; rw [if_neg (of_decide_eq_false (by kernel_rfl))]; exact ⟨rfl, rfl⟩)
    (fun os started H enc _ => lifted_lforms os started H enc)

theorem card_lforms : Rows.TupleFormsCardSaid :=
  Claim7.holds_tied_plain_at .later [] Rows.tupleFormsCard.laidKinds true Rows.tupleFormsCard.stood.harness Rows.tupleFormsCard.stood.looks
    holds_lforms (fun _ h => by cases h) (by kernel_rfl) (fun _ h => by cases h) tupleForms_row_tie rfl ⟨rfl, rfl⟩ (by kernel_rfl) rfl
    (fun f fn hf hfn => by
      obtain rfl : f = 3 := Option.some.inj ((show Tryd.prog.funcNamed "pedigree/pedigreelaw02.TupleForms" = some 3 by kernel_rfl).symm.trans hf) |>.symm
      obtain rfl : fn = Tryd.f3 := (Option.some.inj (Tryd.func3.symm.trans hfn)).symm
      exact ⟨by kernel_rfl, fun j t ht => by
        rw [Tryd.params3] at ht
        have hm : t ∈ [23, 23, 24] := by simpa using Array.mem_of_getElem? ht
        have hall : ([23, 23, 24].all fun u => !Tryd.prog.wantsStandIn u) = true := by kernel_rfl
        exact (show Tryd.prog.wantsStandIn t = false by simpa using List.all_eq_true.1 hall t hm)⟩)
    (by kernel_rfl)
#print axioms card_lforms

end Go.Proofs.YtbpkkcljeelfcaaDoor
