/-
  For every two values the law ValueBack returns true and leaves its arguments as they were.
  Conditions: those that the row and its tied card print; none of the proof's own.
-/
import Derived.Test.YtgblnkogglagdaaDoorFrame
import Derived.Test.YtgblnkogglagdaaDoorCut
import Derived.Test.YtgblnkogglagdaaDoorRead
import Derived.Test.YtgblnkogglagdaaDoorTie
import Derived.Test.YtgblnkogglagdaaDoorCards
import Derived.Deep.RegionHeld3
import Derived.Deep.RegionWith
import Derived.Deep.DeepCutAuto
import Derived.Outline
namespace Go.Proofs.YtgblnkogglagdaaDoor
open Go Go.RowKit

set_option maxHeartbeats 1000000 in
set_option maxRecDepth 100000 in
theorem back_no (k n : Int) (s : ByteArray) (k' n' : Int) (s' : ByteArray) (w : World) (hm : s.size ≤ maxLen) (_hI : I64 n) (hm' : s'.size ≤ maxLen) (_hI' : I64 n') (G : Glob w) (T : ByteArray) (f : Int) (h : ¬ IsV k n (cutS s)) (ht : Hid (∀ w, Glob w → Calls Tryd.prog 17 #[.agg #[.int .i64 k', .int .i64 n', .string (cutS s')]] w fun e w' => e = .returned (.tuple #[.string T, .int .i64 f]) ∧ Below w.heap.size w w')) :
    Calls Tryd.prog 5 #[.agg #[.int .i64 k, .int .i64 n, .string s], .agg #[.int .i64 k', .int .i64 n', .string s']] w fun e w' => e = .returned (.bool true) ∧ Below w.heap.size w w' := by
  go_enter Tryd.func5, Tryd.ntmps5
  go_upto_region 1 with fail
  go_cut [3] (fun s3 wx => s3 = .pointer (some ⟨w.heap.size + 1, 0, none⟩) ∧ Two w wx k n (cutS s) k' n' (cutS s'))
  case first =>
    go_region_with (first
      | (go_at_call_of 11 (Value.agg #[.int .i64 k, .int .i64 n, .string s]); refine (cut_any k n s _ hm).mono ?_; rintro e w1 ⟨rfl, rfl⟩)
      | (go_at_call_of 11 (Value.agg #[.int .i64 k', .int .i64 n', .string s']); refine (cut_any k' n' s' _ hm').mono ?_; rintro e w1 ⟨rfl, rfl⟩))
    all_goals (go_wp2_with fail; go_meet; exact ⟨rfl, Two.mk_ (t := 24) (by repeat (first | exact Below.refl _ _ | refine Below.drew ?_ | refine Below.alloc ?_ (by simp) _))⟩)
  case rest =>
    obtain ⟨rfl, hT⟩ := hcut
    have hT' := hT
    obtain ⟨hb, hz, ⟨c0, c1, c2⟩, ⟨d0, d1, d2⟩⟩ := hT'
    have tok : True := trivial
    go_wp2_with (first
      | (go_at_call 17; have _t := tok; clear tok; refine (text_no _ _ _ _ h).mono ?_; rintro e w1 ⟨rfl, hb1⟩; have hT1 := hT.on hb1; have hT1' := hT1; obtain ⟨-, -, ⟨c10, c11, c12⟩, ⟨d10, d11, d12⟩⟩ := hT1')
      | (go_at_call 17; refine (ht.out _ (G.below hT1.below)).mono ?_; rintro e w2 ⟨rfl, hb2⟩; have hT2 := hT1.on hb2; have hT2' := hT2; obtain ⟨-, -, ⟨c20, c21, c22⟩, ⟨d20, d21, d22⟩⟩ := hT2')
      | (go_at_call 18; refine (is_no _ _ _ _ h).mono ?_; rintro e w3 ⟨rfl, hb3⟩; have hT3 := hT2.on hb3)
      | (go_at_call 9; refine (alive_true _ (G.below hT3.below)).mono ?_; rintro e w5 ⟨rfl, hb5⟩; have hT5 := hT3.on hb5))
    all_goals first
      | (go_ret; exact ⟨by simp, hT5.below⟩)
      | skip
set_option maxHeartbeats 1000000 in
set_option maxRecDepth 100000 in
theorem back_half (k n : Int) (s : ByteArray) (k' n' : Int) (s' : ByteArray) (w : World) (hm : s.size ≤ maxLen) (hI : I64 n) (hm' : s'.size ≤ maxLen) (_hI' : I64 n') (G : Glob w) (h : IsV k n (cutS s)) (h' : ¬ IsV k' n' (cutS s')) :
    Calls Tryd.prog 5 #[.agg #[.int .i64 k, .int .i64 n, .string s], .agg #[.int .i64 k', .int .i64 n', .string s']] w fun e w' => e = .returned (.bool true) ∧ Below w.heap.size w w' := by
  go_enter Tryd.func5, Tryd.ntmps5
  go_upto_region 1 with fail
  go_cut [3] (fun s3 wx => s3 = .pointer (some ⟨w.heap.size + 1, 0, none⟩) ∧ Two w wx k n (cutS s) k' n' (cutS s'))
  case first =>
    go_region_with (first
      | (go_at_call_of 11 (Value.agg #[.int .i64 k, .int .i64 n, .string s]); refine (cut_any k n s _ hm).mono ?_; rintro e w1 ⟨rfl, rfl⟩)
      | (go_at_call_of 11 (Value.agg #[.int .i64 k', .int .i64 n', .string s']); refine (cut_any k' n' s' _ hm').mono ?_; rintro e w1 ⟨rfl, rfl⟩))
    all_goals (go_wp2_with fail; go_meet; exact ⟨rfl, Two.mk_ (t := 24) (by repeat (first | exact Below.refl _ _ | refine Below.drew ?_ | refine Below.alloc ?_ (by simp) _))⟩)
  case rest =>
    obtain ⟨rfl, hT⟩ := hcut
    have hT' := hT
    obtain ⟨hb, hz, ⟨c0, c1, c2⟩, ⟨d0, d1, d2⟩⟩ := hT'
    have tok : True := trivial
    go_wp2_with (first
      | (go_at_call 17; have _t := tok; clear tok; refine (text_yes _ _ _ _ h hI (G.below hT.below)).mono ?_; rintro e w1 ⟨rfl, hb1⟩; have hT1 := hT.on hb1; have hT1' := hT1; obtain ⟨-, -, ⟨c10, c11, c12⟩, ⟨d10, d11, d12⟩⟩ := hT1')
      | (go_at_call 17; refine (text_no _ _ _ _ h').mono ?_; rintro e w2 ⟨rfl, hb2⟩; have hT2 := hT1.on hb2; have hT2' := hT2; obtain ⟨-, -, ⟨c20, c21, c22⟩, ⟨d20, d21, d22⟩⟩ := hT2')
      | (go_at_call 7; refine (read_own k n (cutS s) _ h hI (G.below hT2.below)).mono ?_; rintro e w3 ⟨rfl, hb3⟩; have hT3 := hT2.on hb3; have hT3' := hT3; have hT4 : Two w (w3.alloc (.cells #[.int .i64 k, .int .i64 n, .string (cutS s)] 24)) k n (cutS s) k' n' (cutS s') := hT3.on (below_box _ _); have hT4' := hT4; obtain ⟨-, hz3, -, -⟩ := hT3'; obtain ⟨-, -, ⟨c40, c41, c42⟩, ⟨d40, d41, d42⟩⟩ := hT4')
      | (go_at_call 9; refine (alive_true _ (G.below (hT3.on (below_box _ _)).below)).mono ?_; rintro e w5 ⟨rfl, hb5⟩; have hT5 := (hT3.on (below_box _ _)).on hb5))
    all_goals first
      | (go_ret; exact ⟨by simp, hT5.below⟩)
      | skip
set_option maxHeartbeats 1000000 in
set_option maxRecDepth 100000 in
theorem back_diff (k n : Int) (s : ByteArray) (k' n' : Int) (s' : ByteArray) (w : World) (hm : s.size ≤ maxLen) (hI : I64 n) (hm' : s'.size ≤ maxLen) (hI' : I64 n') (G : Glob w) (h : IsV k n (cutS s)) (h' : IsV k' n' (cutS s')) (hd : Hid (¬ (k = k' ∧ n = n' ∧ cutS s = cutS s'))) (ht : ((textS k n (cutS s)).toList == (textS k' n' (cutS s')).toList) = false) :
    Calls Tryd.prog 5 #[.agg #[.int .i64 k, .int .i64 n, .string s], .agg #[.int .i64 k', .int .i64 n', .string s']] w fun e w' => e = .returned (.bool true) ∧ Below w.heap.size w w' := by
  go_enter Tryd.func5, Tryd.ntmps5
  go_upto_region 1 with fail
  go_cut [3] (fun s3 wx => s3 = .pointer (some ⟨w.heap.size + 1, 0, none⟩) ∧ Two w wx k n (cutS s) k' n' (cutS s'))
  case first =>
    go_region_with (first
      | (go_at_call_of 11 (Value.agg #[.int .i64 k, .int .i64 n, .string s]); refine (cut_any k n s _ hm).mono ?_; rintro e w1 ⟨rfl, rfl⟩)
      | (go_at_call_of 11 (Value.agg #[.int .i64 k', .int .i64 n', .string s']); refine (cut_any k' n' s' _ hm').mono ?_; rintro e w1 ⟨rfl, rfl⟩))
    all_goals (go_wp2_with fail; go_meet; exact ⟨rfl, Two.mk_ (t := 24) (by repeat (first | exact Below.refl _ _ | refine Below.drew ?_ | refine Below.alloc ?_ (by simp) _))⟩)
  case rest =>
    obtain ⟨rfl, hT⟩ := hcut
    have hT' := hT
    obtain ⟨hb, hz, ⟨c0, c1, c2⟩, ⟨d0, d1, d2⟩⟩ := hT'
    go_wp2_with (first
      | (go_at_call_of 17 (Value.agg #[.int .i64 k, .int .i64 n, .string (cutS s)]); refine (text_yes _ _ _ _ h hI (G.below hT.below)).mono ?_; rintro e w1 ⟨rfl, hb1⟩; have hT1 := hT.on hb1; have hT1' := hT1; obtain ⟨-, -, ⟨c10, c11, c12⟩, ⟨d10, d11, d12⟩⟩ := hT1')
      | (go_at_call_of 17 (Value.agg #[.int .i64 k', .int .i64 n', .string (cutS s')]); refine (text_yes _ _ _ _ h' hI' (G.below hT1.below)).mono ?_; rintro e w2 ⟨rfl, hb2⟩; have hT2 := hT1.on hb2; have hT2' := hT2; obtain ⟨-, -, ⟨c20, c21, c22⟩, ⟨d20, d21, d22⟩⟩ := hT2')
      | (go_at_call 7; refine (read_own k n (cutS s) _ h hI (G.below hT2.below)).mono ?_; rintro e w3 ⟨rfl, hb3⟩; have hT3 := hT2.on hb3; have hT3' := hT3; have hT4 : Two w (w3.alloc (.cells #[.int .i64 k, .int .i64 n, .string (cutS s)] 24)) k n (cutS s) k' n' (cutS s') := hT3.on (below_box _ _); have hT4' := hT4; obtain ⟨-, hz3, -, -⟩ := hT3'; obtain ⟨-, -, ⟨c40, c41, c42⟩, ⟨d40, d41, d42⟩⟩ := hT4')
      | (go_at_call 9; refine (alive_true _ (G.below (hT3.on (below_box _ _)).below)).mono ?_; rintro e w5 ⟨rfl, hb5⟩; have hT5 := (hT3.on (below_box _ _)).on hb5))
    all_goals
      first
        | (exfalso; apply hd.out; refine ⟨?_, ?_, ?_⟩ <;> first | rfl | assumption | (apply str_ext; assumption) | (simp_all; done))
        | (go_ret; exact ⟨by simp, hT5.below⟩)
        | skip
set_option maxHeartbeats 1000000 in
set_option maxRecDepth 100000 in
theorem back_same (k n : Int) (s : ByteArray) (k' n' : Int) (s' : ByteArray) (w : World) (hm : s.size ≤ maxLen) (hI : I64 n) (hm' : s'.size ≤ maxLen) (hI' : I64 n') (G : Glob w) (h : IsV k n (cutS s)) (h' : IsV k' n' (cutS s')) (hd : Hid (k = k' ∧ n = n' ∧ cutS s = cutS s')) :
    Calls Tryd.prog 5 #[.agg #[.int .i64 k, .int .i64 n, .string s], .agg #[.int .i64 k', .int .i64 n', .string s']] w fun e w' => e = .returned (.bool true) ∧ Below w.heap.size w w' := by
  go_enter Tryd.func5, Tryd.ntmps5
  go_upto_region 1 with fail
  go_cut [3] (fun s3 wx => s3 = .pointer (some ⟨w.heap.size + 1, 0, none⟩) ∧ Two w wx k n (cutS s) k' n' (cutS s'))
  case first =>
    go_region_with (first
      | (go_at_call_of 11 (Value.agg #[.int .i64 k, .int .i64 n, .string s]); refine (cut_any k n s _ hm).mono ?_; rintro e w1 ⟨rfl, rfl⟩)
      | (go_at_call_of 11 (Value.agg #[.int .i64 k', .int .i64 n', .string s']); refine (cut_any k' n' s' _ hm').mono ?_; rintro e w1 ⟨rfl, rfl⟩))
    all_goals (go_wp2_with fail; go_meet; exact ⟨rfl, Two.mk_ (t := 24) (by repeat (first | exact Below.refl _ _ | refine Below.drew ?_ | refine Below.alloc ?_ (by simp) _))⟩)
  case rest =>
    obtain ⟨rfl, hT⟩ := hcut
    have hT' := hT
    obtain ⟨hb, hz, ⟨c0, c1, c2⟩, ⟨d0, d1, d2⟩⟩ := hT'
    obtain ⟨rfl, rfl, hcs⟩ := hd.out
    rw [← hcs] at hT h' d2
    clear hm' hcs
    have tok : True := trivial
    go_wp2_with (first
      | (go_at_call 17; have _t := tok; clear tok; refine (text_yes _ _ _ _ h hI (G.below hT.below)).mono ?_; rintro e w1 ⟨rfl, hb1⟩; have hT1 := hT.on hb1; have hT1' := hT1; obtain ⟨-, -, ⟨c10, c11, c12⟩, ⟨d10, d11, d12⟩⟩ := hT1')
      | (go_at_call_of 17 (Value.agg #[.int .i64 k, .int .i64 n, .string (cutS s)]); refine (text_yes _ _ _ _ h' hI' (G.below hT1.below)).mono ?_; rintro e w2 ⟨rfl, hb2⟩; have hT2 := hT1.on hb2; have hT2' := hT2; obtain ⟨-, -, ⟨c20, c21, c22⟩, ⟨d20, d21, d22⟩⟩ := hT2')
      | (go_at_call 7; refine (read_own k n (cutS s) _ h hI (G.below hT2.below)).mono ?_; rintro e w3 ⟨rfl, hb3⟩; have hT3 := hT2.on hb3; have hT3' := hT3; have hT4 : Two w (w3.alloc (.cells #[.int .i64 k, .int .i64 n, .string (cutS s)] 24)) k n (cutS s) k n (cutS s) := hT3.on (below_box _ _); have hT4' := hT4; obtain ⟨-, hz3, -, -⟩ := hT3'; obtain ⟨-, -, ⟨c40, c41, c42⟩, ⟨d40, d41, d42⟩⟩ := hT4')
      | (go_at_call 9; refine (alive_true _ (G.below (hT3.on (below_box _ _)).below)).mono ?_; rintro e w5 ⟨rfl, hb5⟩; have hT5 := (hT3.on (below_box _ _)).on hb5))
    all_goals first
      | (go_ret; exact ⟨by simp, hT5.below⟩)
      | skip
theorem back (k n : Int) (s : ByteArray) (k' n' : Int) (s' : ByteArray) (w : World) (_ : I64 k) (hI : I64 n) (hm : s.size ≤ maxLen) (_ : I64 k') (hI' : I64 n') (hm' : s'.size ≤ maxLen) (G : Glob w) :
    Calls Tryd.prog 5 #[.agg #[.int .i64 k, .int .i64 n, .string s], .agg #[.int .i64 k', .int .i64 n', .string s']] w fun e w' => e = .returned (.bool true) ∧ Below w.heap.size w w' := by
  by_cases h : IsV k n (cutS s)
  · by_cases h' : IsV k' n' (cutS s')
    · by_cases hd : k = k' ∧ n = n' ∧ cutS s = cutS s'
      · exact back_same k n s k' n' s' w hm hI hm' hI' G h h' (Lib.hid hd)
      · exact back_diff k n s k' n' s' w hm hI hm' hI' G h h' (Lib.hid hd) (by
          rw [beq_eq_false_iff_ne]
          intro e
          exact hd (textS_inj h hI h' hI' (str_ext e)))
    · exact back_half k n s k' n' s' w hm hI hm' hI' G h h'
  · by_cases h' : IsV k' n' (cutS s')
    · exact back_no k n s k' n' s' w hm hI hm' hI' G _ _ h (Lib.hid fun w G => text_yes _ _ _ w h' hI' G)
    · exact back_no k n s k' n' s' w hm hI hm' hI' G _ _ h (Lib.hid fun w _ => text_no _ _ _ w h')

open Go.ChangeShapes Go.WideShapes Go.ChangeAt
set_option maxRecDepth 100000 in
theorem lifted_back (os : Os) (started : os.Started) (H : Type) (enc : TypeId × Value → H) :
    ReturnsInHanded {} Tryd.checked os 5 .any (fun w args => (Rows.valueBackSpec.pre enc Tryd.prog Tryd.f5 [] false w args ∧ laidMetH Tryd.prog laid5 w) ∧ sizedMet enc Tryd.prog Tryd.f5 (OpenSpec.ofChange Rows.valueBackSpec) false w args)
      (Rows.valueBackSpec.post enc Tryd.prog Tryd.f5 false true false false) := by
  refine returnsInHanded_of_change_and (C := Tryd.checked) (X := fun w _ => laidMetH Tryd.prog laid5 w) (fun _ _ _ hh h => h.of_heap hh) own started (by kernel_rfl) Tryd.func5
    (ChangeSpec.witness_shaped (enc := enc) (C := Tryd.checked) (os := os) (X := fun w _ => laidMetH Tryd.prog laid5 w) false (World.doorLaid Tryd.prog 400 os) #[.agg #[.int .i64 0, .int .i64 0, .string ⟨#[]⟩], .agg #[.int .i64 0, .int .i64 0, .string ⟨#[]⟩]] 8 rfl (World.shaped_of_RefB (by kernel_rfl) (by kernel_rfl)) (by kernel_rfl) (by kernel_rfl) (by kernel_rfl) (door_met os _)) ?_
  intro W base args ds gs before hval0 hW _ _ hL _
  have hval : ∀ (j : Nat) t v, Tryd.f5.params[j]? = some t → args[j]? = some v → Value.okWide Tryd.prog W .any base t v := hval0
  have hW' := hW
  obtain ⟨p, q, hA0, hV, rfl, hfz, hnd⟩ := hW
  have hA : DataW.TrodAll enc Tryd.prog W 0 (fun _ => true) true Tryd.f5.params.toList args.toList ds p := hA0
  rw [Tryd.params5] at hA hval
  obtain ⟨v0, vs0, d0, ds0, p0, q0, hargs, rfl, rfl, h0, r0⟩ := trodAll_cons hA
  obtain ⟨v1, vs1, d1, ds1, p1, q1, rfl, rfl, rfl, h1, r1⟩ := trodAll_cons r0
  obtain ⟨rfl, rfl, rfl⟩ := trodAll_nil r1
  obtain rfl : args = #[v0, v1] := by cases args; simp_all
  obtain ⟨rfl, rfl⟩ := trodVars_none hV
  have t0 := h0
  have lt0 : ∀ x ∈ p0, x.block < W.heap.size := by obtain ⟨m, hm⟩ := t0; exact DataW.trod_lt m _ _ _ hm
  have t1 := h1
  have lt1 : ∀ x ∈ p1, x.block < W.heap.size := by obtain ⟨m, hm⟩ := t1; exact DataW.trod_lt m _ _ _ hm
  obtain ⟨k0v, n0v, s0v, rfl, ik0, in0, iz0⟩ := open_val (hval 0 24 v0 rfl rfl) h0
  obtain ⟨k1v, n1v, s1v, rfl, ik1, in1, iz1⟩ := open_val (hval 1 24 v1 rfl rfl) h1
  clear hA0 hval0
  refine (back k0v n0v s0v k1v n1v s1v W ik0 in0 iz0 ik1 in1 iz1 (glob_of_laid hL)).mono fun e W' ⟨he, bel⟩ => ?_
  subst he
  exact ⟨_, rfl, _, _, _, [], _, [], hW', trodAll_mk1 (shut_bool Tryd.underlying4 _), (trodAll_cons_mk (Below.trod laidOut (by kernel_rfl) (of_decide_eq_true (by kernel_rfl)) t0 bel lt0) (trodAll_cons_mk (Below.trod laidOut (by kernel_rfl) (of_decide_eq_true (by kernel_rfl)) t1 bel lt1) trodAll_mk0)), rfl, bel.frame _, fun h => by cases h⟩

theorem holds_back : Rows.ValueBackSaid :=
  OpenClaim.holds_of_wide 5 Tryd.f5 rfl rfl rfl rfl rfl rfl rfl ⟨rfl, rfl, rfl, rfl, rfl⟩ rfl rfl rfl rfl rfl (by kernel_rfl) Tryd.func5 (by kernel_rfl)
    (of_decide_eq_true (by kernel_rfl)) (by unfold Func.isWrapper; rw [if_neg (of_decide_eq_false (by kernel_rfl))]; exact ⟨rfl, rfl⟩)
    (fun os started H enc _ => lifted_back os started H enc)

theorem card_back : Rows.ValueBackCardSaid :=
  Claim7.holds_tied_plain_at .later [] Rows.valueBackCard.laidKinds true Rows.valueBackCard.stood.harness true
    holds_back (fun _ h => by cases h) (by kernel_rfl) (fun _ h => by cases h) valueBack_row_tie rfl ⟨rfl, rfl⟩ (by kernel_rfl) rfl
    (fun f fn hf hfn => by
      obtain rfl : f = 5 := Option.some.inj ((show Tryd.prog.funcNamed "pedigree/pedigreelaw01.ValueBack" = some 5 by kernel_rfl).symm.trans hf) |>.symm
      obtain rfl : fn = Tryd.f5 := (Option.some.inj (Tryd.func5.symm.trans hfn)).symm
      exact ⟨by kernel_rfl, fun j t ht => by
        rw [Tryd.params5] at ht
        have hm : t ∈ [24, 24] := by simpa using Array.mem_of_getElem? ht
        have hall : ([24, 24].all fun u => !Tryd.prog.wantsStandIn u) = true := by kernel_rfl
        exact (show Tryd.prog.wantsStandIn t = false by simpa using List.all_eq_true.1 hall t hm)⟩)
    (by kernel_rfl)
#print axioms card_back


end Go.Proofs.YtgblnkogglagdaaDoor
