/-
  For every two values and every op the law ValueCompares returns true and leaves its arguments as they were: value.Compare and value.Holds answer as the document says.
  Conditions: those that the row and its tied card print (the library's listed variables hold what their initialisers laid; the size of memory that is read); none of the proof's own.
-/
import Derived.Test.YtehobjcdlaifdaaDoorFrame
import Derived.Test.YtehobjcdlaifdaaDoorCut
import Derived.Test.YtehobjcdlaifdaaDoorTie
import Derived.Test.YtehobjcdlaifdaaDoorCards
import Derived.Deep.RegionHeld3
import Derived.Deep.RegionWith
import Derived.Deep.DeepCutAuto
import Derived.Outline
namespace Go.Proofs.YtehobjcdlaifdaaDoor
open Go Go.RowKit

set_option maxHeartbeats 1000000 in
set_option maxRecDepth 100000 in
theorem compares (k n : Int) (s : ByteArray) (k' n' : Int) (s' : ByteArray) (op : Int) (w : World) (_ : I64 k) (_ : I64 n) (hm : s.size ≤ maxLen) (_ : I64 k') (_ : I64 n') (hm' : s'.size ≤ maxLen) (_ : I64 op) (G : Glob w) :
    Calls Tryd.prog 4 #[.agg #[.int .i64 k, .int .i64 n, .string s], .agg #[.int .i64 k', .int .i64 n', .string s'], .int .i64 op] w fun e w' => e = .returned (.bool true) ∧ Below w.heap.size w w' := by
  go_enter Tryd.func4, Tryd.ntmps4
  go_upto_region 1 with fail
  go_cut [3] (fun s3 wx => s3 = .pointer (some ⟨w.heap.size, 0, none⟩) ∧ Two w wx k n (cutS s) k' n' (cutS s'))
  case first =>
    go_region_with (first
      | (go_at_call_of 11 (Value.agg #[.int .i64 k, .int .i64 n, .string s]); refine (cut_any k n s _ hm).mono ?_; rintro e w1 ⟨rfl, rfl⟩)
      | (go_at_call_of 11 (Value.agg #[.int .i64 k', .int .i64 n', .string s']); refine (cut_any k' n' s' _ hm').mono ?_; rintro e w1 ⟨rfl, rfl⟩))
    all_goals (go_wp2_with fail; go_meet; exact ⟨rfl, Two.mk_ (t := 24) (by repeat (first | exact Below.refl _ _ | refine Below.drew ?_ | refine Below.alloc ?_ (by simp) _))⟩)
  case rest =>
    obtain ⟨rfl, hT⟩ := hcut
    have hT' := hT
    obtain ⟨hb, hz, ⟨c0, c1, c2⟩, ⟨d0, d1, d2⟩⟩ := hT'
    go_upto_region 4 with (first
      | (go_at_call 19; refine (holds_any _ _ _ _ _ _ _ _).mono ?_; rintro e w1 ⟨rfl, hb1⟩; have hT1 := hT.on hb1; have hT1' := hT1; obtain ⟨-, -, ⟨c10, c11, c12⟩, ⟨d10, d11, d12⟩⟩ := hT1')
      | (go_at_call 20; refine (rholds_any _ _ _ _ _ _ _ _).mono ?_; rintro e w2 ⟨rfl, hb2⟩; have hT2 := hT1.on hb2; have hT2' := hT2; obtain ⟨-, -, ⟨c20, c21, c22⟩, ⟨d20, d21, d22⟩⟩ := hT2'))
    clear c0 c1 c2 d0 d1 d2 c10 c11 c12 d10 d11 d12
    go_region_held3 (fun w' => w'.cell? ⟨w.heap.size, 0, none⟩ = some (.int .i64 k) ∧ w'.cell? ⟨w.heap.size, 1, none⟩ = some (.int .i64 n) ∧ w'.cell? ⟨w.heap.size, 2, none⟩ = some (.string (cutS s)) ∧
        w'.cell? ⟨w.heap.size + 1, 0, none⟩ = some (.int .i64 k') ∧ w'.cell? ⟨w.heap.size + 1, 1, none⟩ = some (.int .i64 n') ∧ w'.cell? ⟨w.heap.size + 1, 2, none⟩ = some (.string (cutS s')))
      (first
        | (obtain ⟨-, -, ⟨x0, x1, x2⟩, ⟨y0, y1, y2⟩⟩ := hT5; exact ⟨x0, x1, x2, y0, y1, y2⟩)
        | (obtain ⟨-, -, ⟨x0, x1, x2⟩, ⟨y0, y1, y2⟩⟩ := hT4; exact ⟨x0, x1, x2, y0, y1, y2⟩)
        | (obtain ⟨-, -, ⟨x0, x1, x2⟩, ⟨y0, y1, y2⟩⟩ := hT3; exact ⟨x0, x1, x2, y0, y1, y2⟩)
        | go_keep)
      (first
        | (go_at_call 21; refine (compare_any _ _ _ _ _ _ _).mono ?_; rintro e w3 ⟨rfl, hb3⟩; first | (have hT4 := hT3.on hb3) | (have hT4 := hT3.drew.on hb3) | (have hT3 := hT2.on hb3) | (have hT3 := hT2.drew.on hb3))
        | (go_at_call 22; refine (ref_compare_any _ _ _ _ _ _ _).mono ?_; rintro e w4 ⟨rfl, hb4⟩; first | (have hT4 := hT3.on hb4) | (have hT4 := hT3.drew.on hb4) | (have hT3 := hT2.on hb4) | (have hT3 := hT2.drew.on hb4))
        | (go_at_call 18; refine (alive_true _ (G.below (by first | exact hT4.below | exact hT4.below.drew))).mono ?_; rintro e w5 ⟨rfl, hb5⟩; first | (have hT5 := hT4.on hb5) | (have hT5 := hT4.drew.on hb5)))
    all_goals
      go_wp2
      go_ret
      exact ⟨by simp, hT5.below⟩

open Go.ChangeShapes Go.WideShapes Go.ChangeAt
set_option maxRecDepth 100000 in
theorem lifted_compares (os : Os) (started : os.Started) (H : Type) (enc : TypeId × Value → H) :
    ReturnsInHanded {} Tryd.checked os 4 .any (fun w args => (Rows.valueComparesSpec.pre enc Tryd.prog Tryd.f4 [] false w args ∧ laidMetH Tryd.prog laid5 w) ∧ sizedMet enc Tryd.prog Tryd.f4 (OpenSpec.ofChange Rows.valueComparesSpec) false w args)
      (Rows.valueComparesSpec.post enc Tryd.prog Tryd.f4 false true false false) := by
  refine returnsInHanded_of_change_and (C := Tryd.checked) (X := fun w _ => laidMetH Tryd.prog laid5 w) (fun _ _ _ hh h => h.of_heap hh) own started (by kernel_rfl) Tryd.func4
    (ChangeSpec.witness_shaped (enc := enc) (C := Tryd.checked) (os := os) (X := fun w _ => laidMetH Tryd.prog laid5 w) false (World.doorLaid Tryd.prog 400 os) #[.agg #[.int .i64 0, .int .i64 0, .string ⟨#[]⟩], .agg #[.int .i64 0, .int .i64 0, .string ⟨#[]⟩], .int .i64 0] 8 rfl (World.shaped_of_RefB (by kernel_rfl) (by kernel_rfl)) (by kernel_rfl) (by kernel_rfl) (by kernel_rfl) (door_met os _)) ?_
  intro W base args ds gs before hval0 hW _ _ hL _
  have hval : ∀ (j : Nat) t v, Tryd.f4.params[j]? = some t → args[j]? = some v → Value.okWide Tryd.prog W .any base t v := hval0
  have hW' := hW
  obtain ⟨p, q, hA0, hV, rfl, hfz, hnd⟩ := hW
  have hA : DataW.TrodAll enc Tryd.prog W 0 (fun _ => true) true Tryd.f4.params.toList args.toList ds p := hA0
  rw [Tryd.params4] at hA hval
  obtain ⟨v0, vs0, d0, ds0, p0, q0, hargs, rfl, rfl, h0, r0⟩ := trodAll_cons hA
  obtain ⟨v1, vs1, d1, ds1, p1, q1, rfl, rfl, rfl, h1, r1⟩ := trodAll_cons r0
  obtain ⟨v2, vs2, d2, ds2, p2, q2, rfl, rfl, rfl, h2, r2⟩ := trodAll_cons r1
  obtain ⟨rfl, rfl, rfl⟩ := trodAll_nil r2
  obtain rfl : args = #[v0, v1, v2] := by cases args; simp_all
  obtain ⟨rfl, rfl⟩ := trodVars_none hV
  have t0 := h0
  have lt0 : ∀ x ∈ p0, x.block < W.heap.size := by obtain ⟨m, hm⟩ := t0; exact DataW.trod_lt m _ _ _ hm
  have t1 := h1
  have lt1 : ∀ x ∈ p1, x.block < W.heap.size := by obtain ⟨m, hm⟩ := t1; exact DataW.trod_lt m _ _ _ hm
  have t2 := h2
  have lt2 : ∀ x ∈ p2, x.block < W.heap.size := by obtain ⟨m, hm⟩ := t2; exact DataW.trod_lt m _ _ _ hm
  obtain ⟨k0v, n0v, s0v, rfl, ik0, in0, iz0⟩ := open_val (hval 0 24 v0 rfl rfl) h0
  obtain ⟨k1v, n1v, s1v, rfl, ik1, in1, iz1⟩ := open_val (hval 1 24 v1 rfl rfl) h1
  obtain ⟨x2v, rfl, -, -, wf2⟩ := open_int Tryd.underlying39 (hval 2 39 v2 rfl rfl) h2
  clear hA0 hval0
  refine (compares k0v n0v s0v k1v n1v s1v x2v W ik0 in0 iz0 ik1 in1 iz1 (wf_I64 wf2) (glob_of_laid hL)).mono fun e W' ⟨he, bel⟩ => ?_
  subst he
  exact ⟨_, rfl, _, _, _, [], _, [], hW', trodAll_mk1 (shut_bool Tryd.underlying4 _), (trodAll_cons_mk (Below.trod laidOut (by kernel_rfl) (of_decide_eq_true (by kernel_rfl)) t0 bel lt0) (trodAll_cons_mk (Below.trod laidOut (by kernel_rfl) (of_decide_eq_true (by kernel_rfl)) t1 bel lt1) (trodAll_cons_mk (Below.trod laidOut (by kernel_rfl) (of_decide_eq_true (by kernel_rfl)) t2 bel lt2) trodAll_mk0))), rfl, bel.frame _, fun h => by cases h⟩

theorem holds_compares : Rows.ValueComparesSaid :=
  OpenClaim.holds_of_wide 4 Tryd.f4 rfl rfl rfl rfl rfl rfl rfl ⟨rfl, rfl, rfl, rfl, rfl⟩ rfl rfl rfl rfl rfl (by kernel_rfl) Tryd.func4 (by kernel_rfl)
    (of_decide_eq_true (by kernel_rfl)) (by unfold Func.isWrapper; rw [if_neg (of_decide_eq_false (by kernel_rfl))]; exact ⟨rfl, rfl⟩)
    (fun os started H enc _ => lifted_compares os started H enc)

theorem card_compares : Rows.ValueComparesCardSaid :=
  Claim7.holds_tied_plain_at .later [] Rows.valueComparesCard.laidKinds true Rows.valueComparesCard.stood.harness true
    holds_compares (fun _ h => by cases h) (by kernel_rfl) (fun _ h => by cases h) valueCompares_row_tie rfl ⟨rfl, rfl⟩ (by kernel_rfl) rfl
    (fun f fn hf hfn => by
      obtain rfl : f = 4 := Option.some.inj ((show Tryd.prog.funcNamed "pedigree/pedigreelaw01.ValueCompares" = some 4 by kernel_rfl).symm.trans hf) |>.symm
      obtain rfl : fn = Tryd.f4 := (Option.some.inj (Tryd.func4.symm.trans hfn)).symm
      exact ⟨by kernel_rfl, fun j t ht => by
        rw [Tryd.params4] at ht
        have hm : t ∈ [24, 24, 39] := by simpa using Array.mem_of_getElem? ht
        have hall : ([24, 24, 39].all fun u => !Tryd.prog.wantsStandIn u) = true := by kernel_rfl
        exact (show Tryd.prog.wantsStandIn t = false by simpa using List.all_eq_true.1 hall t hm)⟩)
    (by kernel_rfl)
#print axioms card_compares


end Go.Proofs.YtehobjcdlaifdaaDoor
