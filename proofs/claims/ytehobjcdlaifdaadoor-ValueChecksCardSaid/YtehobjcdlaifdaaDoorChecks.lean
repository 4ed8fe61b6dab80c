/-
  For every value the law ValueChecks returns true and leaves its argument as it was: value.Check, value.Type and value.Text answer as the document says.
  Conditions: those that the row and its tied card print (the library's listed variables hold what their initialisers laid; the size of memory that is read); none of the proof's own.
-/
import Derived.Test.YtehobjcdlaifdaaDoorFrame
import Derived.Test.YtehobjcdlaifdaaDoorCut
import Derived.Test.YtehobjcdlaifdaaDoorRtext
import Derived.Test.YtehobjcdlaifdaaDoorTie
import Derived.Test.YtehobjcdlaifdaaDoorCards
import Derived.Deep.RegionHeld3
import Derived.Deep.RegionWith
import Derived.Deep.DeepCutAuto
namespace Go.Proofs.YtehobjcdlaifdaaDoor
open Go Go.RowKit

/-- What the cut of one argument leaves: its box, cut. -/
structure One (w wx : World) (k n : Int) (s : ByteArray) : Prop where
  below : Below w.heap.size w wx
  size : w.heap.size < wx.heap.size
  fst : Cells3 wx w.heap.size (.int .i64 k) (.int .i64 n) (.string s)
theorem One.on {w w1 w2 : World} {k n : Int} {s : ByteArray} (h : One w w1 k n s) (hb : Below w1.heap.size w1 w2) : One w w2 k n s := by
  have hz := h.size
  have hz2 := hb.size
  exact ⟨h.below.trans (hb.mono (by omega)), by omega, h.fst.keep hb (by omega)⟩
theorem One.drew {w w1 : World} {k n : Int} {s : ByteArray} (h : One w w1 k n s) : One w w1.drew k n s := ⟨h.below.drew, h.size, h.fst⟩
theorem One.on' {w w1 w2 : World} {k n : Int} {s : ByteArray} (h : One w w1 k n s) (hb : Below w1.drew.heap.size w1.drew w2) : One w w2 k n s := h.drew.on hb
theorem One.mk_ {w W : World} {k n : Int} {s : ByteArray} {T : TypeId} (hb : Below (w.heap.size + 1) (w.alloc (.cells #[.int .i64 k, .int .i64 n, .string s] T)) W) : One w W k n s := by
  have h1 := Cells3.new w (.int .i64 k) (.int .i64 n) (.string s) T
  have hz := hb.size
  simp at hz
  exact ⟨((Below.refl _ _).alloc (Nat.le_refl _) _).trans (hb.mono (by omega)), by omega, h1.keep hb (by omega)⟩

set_option maxHeartbeats 4000000 in
set_option maxRecDepth 100000 in
theorem checks_yes (k n : Int) (s : ByteArray) (w : World) (hm : s.size ≤ maxLen) (hI : I64 n) (G : Glob w) (h : IsV k n (cutS s)) :
    Calls Tryd.prog 3 #[.agg #[.int .i64 k, .int .i64 n, .string s]] w fun e w' => e = .returned (.bool true) ∧ Below w.heap.size w w' := by
  go_enter Tryd.func3, Tryd.ntmps3
  go_upto_region 6 with (first
    | (go_at_call 11; refine (cut_any k n s _ hm).mono ?_; rintro e w0 ⟨rfl, rfl⟩)
    | (go_at_call 12; refine (type_yes _ _ _ _ h).mono ?_; rintro e w1 ⟨rfl, hb⟩; have hX : One w w1 k n (cutS s) := One.on (One.mk_ (T := 24) (by repeat (first | exact Below.refl _ _ | refine Below.drew ?_ | refine Below.alloc ?_ (by simp) _))) hb; have hX1 := hX; obtain ⟨-, -, ⟨c10, c11, c12⟩⟩ := hX1)
    | (go_at_call 13; refine (rtype_yes _ _ _ _ h).mono ?_; rintro e w2 ⟨rfl, hb⟩; have hX := hX.on hb; have hX2 := hX; obtain ⟨-, -, ⟨c20, c21, c22⟩⟩ := hX2)
    | (go_at_call 14; refine (text_yes _ _ _ _ h hI (G.below hX.below)).mono ?_; rintro e w3 ⟨rfl, hb⟩; have hX := hX.on hb; have hX3 := hX; obtain ⟨-, -, ⟨c30, c31, c32⟩⟩ := hX3)
    | (go_at_call 15; refine (rtext_yes _ _ _ _ h hI).mono ?_; rintro e w4 ⟨rfl, hb⟩; have hX := hX.on hb; have hX4 := hX; obtain ⟨-, -, ⟨c40, c41, c42⟩⟩ := hX4))
  clear c10 c11 c12 c20 c21 c22 c30 c31 c32
  go_region_held3 (fun w' => w'.cell? ⟨w.heap.size, 0, none⟩ = some (.int .i64 k) ∧ w'.cell? ⟨w.heap.size, 1, none⟩ = some (.int .i64 n) ∧ w'.cell? ⟨w.heap.size, 2, none⟩ = some (.string (cutS s)))
    (first
      | (obtain ⟨-, -, ⟨x0, x1, x2⟩⟩ := hX; exact ⟨x0, x1, x2⟩)
      | go_keep)
    (first
      | (go_at_call 16; refine (check_yes _ _ _ _ h).mono ?_; rintro e w5 ⟨rfl, hb⟩; first | (have hX := hX.on hb) | (have hX := hX.on' hb))
      | (go_at_call 17; refine (is_yes _ _ _ _ h).mono ?_; rintro e w6 ⟨rfl, hb⟩; first | (have hX := hX.on hb) | (have hX := hX.on' hb))
      | (go_at_call 18; refine (alive_true _ (G.below (by first | exact hX.below | exact hX.below.drew))).mono ?_; rintro e w7 ⟨rfl, hb⟩; first | (have hX := hX.on hb) | (have hX := hX.on' hb)))
  all_goals
    go_wp2
    go_ret
    exact ⟨by simp, hX.below⟩
set_option maxHeartbeats 4000000 in
set_option maxRecDepth 100000 in
theorem checks_no (k n : Int) (s : ByteArray) (w : World) (hm : s.size ≤ maxLen) (_hI : I64 n) (G : Glob w) (h : ¬ IsV k n (cutS s)) :
    Calls Tryd.prog 3 #[.agg #[.int .i64 k, .int .i64 n, .string s]] w fun e w' => e = .returned (.bool true) ∧ Below w.heap.size w w' := by
  go_enter Tryd.func3, Tryd.ntmps3
  go_upto_region 6 with (first
    | (go_at_call 11; refine (cut_any k n s _ hm).mono ?_; rintro e w0 ⟨rfl, rfl⟩)
    | (go_at_call 12; refine (type_no _ _ _ _ h).mono ?_; rintro e w1 ⟨rfl, hb⟩; have hX : One w w1 k n (cutS s) := One.on (One.mk_ (T := 24) (by repeat (first | exact Below.refl _ _ | refine Below.drew ?_ | refine Below.alloc ?_ (by simp) _))) hb; have hX1 := hX; obtain ⟨-, -, ⟨c10, c11, c12⟩⟩ := hX1)
    | (go_at_call 13; refine (rtype_no _ _ _ _ h).mono ?_; rintro e w2 ⟨rfl, hb⟩; have hX := hX.on hb; have hX2 := hX; obtain ⟨-, -, ⟨c20, c21, c22⟩⟩ := hX2)
    | (go_at_call 14; refine (text_no _ _ _ _ h).mono ?_; rintro e w3 ⟨rfl, hb⟩; have hX := hX.on hb; have hX3 := hX; obtain ⟨-, -, ⟨c30, c31, c32⟩⟩ := hX3)
    | (go_at_call 15; refine (rtext_no _ _ _ _ h).mono ?_; rintro e w4 ⟨rfl, hb⟩; have hX := hX.on hb; have hX4 := hX; obtain ⟨-, -, ⟨c40, c41, c42⟩⟩ := hX4))
  clear c10 c11 c12 c20 c21 c22 c30 c31 c32
  go_region_held3 (fun w' => w'.cell? ⟨w.heap.size, 0, none⟩ = some (.int .i64 k) ∧ w'.cell? ⟨w.heap.size, 1, none⟩ = some (.int .i64 n) ∧ w'.cell? ⟨w.heap.size, 2, none⟩ = some (.string (cutS s)))
    (first
      | (obtain ⟨-, -, ⟨x0, x1, x2⟩⟩ := hX; exact ⟨x0, x1, x2⟩)
      | go_keep)
    (first
      | (go_at_call 16; refine (check_no _ _ _ _ h).mono ?_; rintro e w5 ⟨rfl, hb⟩; first | (have hX := hX.on hb) | (have hX := hX.on' hb))
      | (go_at_call 17; refine (is_no _ _ _ _ h).mono ?_; rintro e w6 ⟨rfl, hb⟩; first | (have hX := hX.on hb) | (have hX := hX.on' hb))
      | (go_at_call 18; refine (alive_true _ (G.below (by first | exact hX.below | exact hX.below.drew))).mono ?_; rintro e w7 ⟨rfl, hb⟩; first | (have hX := hX.on hb) | (have hX := hX.on' hb)))
  all_goals
    go_wp2
    go_ret
    exact ⟨by simp, hX.below⟩

theorem checks (k n : Int) (s : ByteArray) (w : World) (_ : I64 k) (hI : I64 n) (hm : s.size ≤ maxLen) (G : Glob w) :
    Calls Tryd.prog 3 #[.agg #[.int .i64 k, .int .i64 n, .string s]] w fun e w' => e = .returned (.bool true) ∧ Below w.heap.size w w' := by
  by_cases h : IsV k n (cutS s)
  · exact checks_yes k n s w hm hI G h
  · exact checks_no k n s w hm hI G h

open Go.ChangeShapes Go.WideShapes Go.ChangeAt
set_option maxRecDepth 100000 in
theorem lifted_checks (os : Os) (started : os.Started) (H : Type) (enc : TypeId × Value → H) :
    ReturnsInHanded {} Tryd.checked os 3 .any (fun w args => (Rows.valueChecksSpec.pre enc Tryd.prog Tryd.f3 [] false w args ∧ laidMetH Tryd.prog laid5 w) ∧ sizedMet enc Tryd.prog Tryd.f3 (OpenSpec.ofChange Rows.valueChecksSpec) false w args)
      (Rows.valueChecksSpec.post enc Tryd.prog Tryd.f3 false true false false) := by
  refine returnsInHanded_of_change_and (C := Tryd.checked) (X := fun w _ => laidMetH Tryd.prog laid5 w) (fun _ _ _ hh h => h.of_heap hh) own started (by kernel_rfl) Tryd.func3
    (ChangeSpec.witness_shaped (enc := enc) (C := Tryd.checked) (os := os) (X := fun w _ => laidMetH Tryd.prog laid5 w) false (World.doorLaid Tryd.prog 400 os) #[.agg #[.int .i64 0, .int .i64 0, .string ⟨#[]⟩]] 8 rfl (World.shaped_of_RefB (by kernel_rfl) (by kernel_rfl)) (by kernel_rfl) (by kernel_rfl) (by kernel_rfl) (door_met os _)) ?_
  intro W base args ds gs before hval0 hW _ _ hL _
  have hval : ∀ (j : Nat) t v, Tryd.f3.params[j]? = some t → args[j]? = some v → Value.okWide Tryd.prog W .any base t v := hval0
  have hW' := hW
  obtain ⟨p, q, hA0, hV, rfl, hfz, hnd⟩ := hW
  have hA : DataW.TrodAll enc Tryd.prog W 0 (fun _ => true) true Tryd.f3.params.toList args.toList ds p := hA0
  rw [Tryd.params3] at hA hval
  obtain ⟨v0, vs0, d0, ds0, p0, q0, hargs, rfl, rfl, h0, r0⟩ := trodAll_cons hA
  obtain ⟨rfl, rfl, rfl⟩ := trodAll_nil r0
  obtain rfl : args = #[v0] := by cases args; simp_all
  obtain ⟨rfl, rfl⟩ := trodVars_none hV
  have t0 := h0
  have lt0 : ∀ x ∈ p0, x.block < W.heap.size := by obtain ⟨m, hm⟩ := t0; exact DataW.trod_lt m _ _ _ hm
  obtain ⟨k0v, n0v, s0v, rfl, ik0, in0, iz0⟩ := open_val (hval 0 24 v0 rfl rfl) h0
  clear hA0 hval0
  refine (checks k0v n0v s0v W ik0 in0 iz0 (glob_of_laid hL)).mono fun e W' ⟨he, bel⟩ => ?_
  subst he
  exact ⟨_, rfl, _, _, _, [], _, [], hW', trodAll_mk1 (shut_bool Tryd.underlying4 _), (trodAll_cons_mk (Below.trod laidOut (by kernel_rfl) (of_decide_eq_true (by kernel_rfl)) t0 bel lt0) trodAll_mk0), rfl, bel.frame _, fun h => by cases h⟩

theorem holds_checks : Rows.ValueChecksSaid :=
  OpenClaim.holds_of_wide 3 Tryd.f3 rfl rfl rfl rfl rfl rfl rfl ⟨rfl, rfl, rfl, rfl, rfl⟩ rfl rfl rfl rfl rfl (by kernel_rfl) Tryd.func3 (by kernel_rfl)
    (of_decide_eq_true (by kernel_rfl)) (by unfold Func.isWrapper; rw [if_neg (of_decide_eq_false (by kernel_rfl))]; exact ⟨rfl, rfl⟩)
    (fun os started H enc _ => lifted_checks os started H enc)

theorem card_checks : Rows.ValueChecksCardSaid :=
  Claim7.holds_tied_plain_at .later [] Rows.valueChecksCard.laidKinds true Rows.valueChecksCard.stood.harness true
    holds_checks (fun _ h => by cases h) (by kernel_rfl) (fun _ h => by cases h) valueChecks_row_tie rfl ⟨rfl, rfl⟩ (by kernel_rfl) rfl
    (fun f fn hf hfn => by
      obtain rfl : f = 3 := Option.some.inj ((show Tryd.prog.funcNamed "pedigree/pedigreelaw01.ValueChecks" = some 3 by kernel_rfl).symm.trans hf) |>.symm
      obtain rfl : fn = Tryd.f3 := (Option.some.inj (Tryd.func3.symm.trans hfn)).symm
      exact ⟨by kernel_rfl, fun j t ht => by
        rw [Tryd.params3] at ht
        have hm : t ∈ [24] := by simpa using Array.mem_of_getElem? ht
        have hall : ([24].all fun u => !Tryd.prog.wantsStandIn u) = true := by kernel_rfl
        exact (show Tryd.prog.wantsStandIn t = false by simpa using List.all_eq_true.1 hall t hm)⟩)
    (by kernel_rfl)
#print axioms card_checks


end Go.Proofs.YtehobjcdlaifdaaDoor
