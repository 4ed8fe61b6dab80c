/-
  For every three values the law ValueOrder returns true and leaves its arguments as they were: value.Compare is a total order.
  Conditions: those that the row and its tied card print (the library's listed variables hold what their initialisers laid; the size of memory that is read); none of the proof's own.
-/
import Derived.Test.YtehobjcdlaifdaaDoorFrame
import Derived.Test.YtehobjcdlaifdaaDoorThree
import Derived.Test.YtehobjcdlaifdaaDoorTie
import Derived.Test.YtehobjcdlaifdaaDoorCards
import Derived.Deep.RegionHeld3
import Derived.Deep.RegionWith
import Derived.Deep.DeepCutAuto
namespace Go.Proofs.YtehobjcdlaifdaaDoor
open Go Go.RowKit

set_option maxHeartbeats 16000000 in
set_option maxRecDepth 100000 in
theorem order (k n : Int) (s : ByteArray) (k' n' : Int) (s' : ByteArray) (l m : Int) (t : ByteArray) (w : World) (_ : I64 k) (_ : I64 n) (hm : s.size ≤ maxLen) (_ : I64 k') (_ : I64 n') (hm' : s'.size ≤ maxLen) (_ : I64 l) (_ : I64 m) (ht : t.size ≤ maxLen) (G : Glob w) :
    Calls Tryd.prog 7 #[.agg #[.int .i64 k, .int .i64 n, .string s], .agg #[.int .i64 k', .int .i64 n', .string s'], .agg #[.int .i64 l, .int .i64 m, .string t]] w fun e w' => e = .returned (.bool true) ∧ Below w.heap.size w w' := by
  go_enter Tryd.func7, Tryd.ntmps7
  go_upto_region 1 with fail
  go_cut [3] (fun s3 wx => s3 = .pointer (some ⟨w.heap.size, 0, none⟩) ∧ Three w wx k n (cutS s) k' n' (cutS s') l m (cutS t))
  case first =>
    go_region_with (first
      | (go_at_call_of 11 (Value.agg #[.int .i64 k, .int .i64 n, .string s]); refine (cut_any k n s _ hm).mono ?_; rintro e w1 ⟨rfl, rfl⟩)
      | (go_at_call_of 11 (Value.agg #[.int .i64 k', .int .i64 n', .string s']); refine (cut_any k' n' s' _ hm').mono ?_; rintro e w1 ⟨rfl, rfl⟩)
      | (go_at_call_of 11 (Value.agg #[.int .i64 l, .int .i64 m, .string t]); refine (cut_any l m t _ ht).mono ?_; rintro e w1 ⟨rfl, rfl⟩))
    all_goals (go_wp2_with fail; go_meet; exact ⟨rfl, Three.mk_ (T := 24) (by repeat (first | exact Below.refl _ _ | refine Below.drew ?_ | refine Below.alloc ?_ (by simp) _))⟩)
  case rest =>
    obtain ⟨rfl, hT⟩ := hcut
    go_upto_region 2 with fail
    go_cut [7, 8, 9, 10] (fun s7 s8 s9 s10 wx => s7 = .int .i64 (cmpV k n (cutS s) k' n' (cutS s')) ∧ s8 = .int .i64 (cmpV k' n' (cutS s') k n (cutS s)) ∧ s9 = .int .i64 (cmpV k' n' (cutS s') l m (cutS t)) ∧ s10 = .int .i64 (cmpV k n (cutS s) l m (cutS t)) ∧
      Three w wx k n (cutS s) k' n' (cutS s') l m (cutS t))
    case first =>
      have hT' := hT
      obtain ⟨-, -, ⟨c0, c1, c2⟩, ⟨d0, d1, d2⟩, ⟨f0, f1, f2⟩⟩ := hT'
      go_region_held3 (fun w' => w'.cell? ⟨w.heap.size, 0, none⟩ = some (.int .i64 k) ∧ w'.cell? ⟨w.heap.size, 1, none⟩ = some (.int .i64 n) ∧ w'.cell? ⟨w.heap.size, 2, none⟩ = some (.string (cutS s)) ∧
          w'.cell? ⟨w.heap.size + 1, 0, none⟩ = some (.int .i64 k') ∧ w'.cell? ⟨w.heap.size + 1, 1, none⟩ = some (.int .i64 n') ∧ w'.cell? ⟨w.heap.size + 1, 2, none⟩ = some (.string (cutS s')) ∧
          w'.cell? ⟨w.heap.size + 1 + 1, 0, none⟩ = some (.int .i64 l) ∧ w'.cell? ⟨w.heap.size + 1 + 1, 1, none⟩ = some (.int .i64 m) ∧ w'.cell? ⟨w.heap.size + 1 + 1, 2, none⟩ = some (.string (cutS t)))
        (first
          | (obtain ⟨-, -, ⟨x0, x1, x2⟩, ⟨y0, y1, y2⟩, ⟨z0, z1, z2⟩⟩ := hT; exact ⟨x0, x1, x2, y0, y1, y2, z0, z1, z2⟩)
          | go_keep)
        (first
          | (go_at_call 21; refine (compare_any _ _ _ _ _ _ _).mono ?_; rintro e w3 ⟨rfl, hb⟩; first | (have hT := hT.on hb) | (have hT := hT.on' hb)))
      all_goals (go_wp2_with fail; go_meet; exact ⟨rfl, rfl, rfl, rfl, hT⟩)
    case rest =>
      obtain ⟨rfl, rfl, rfl, rfl, hT⟩ := hcut
      have hXY := cmpV_neg k' n' (cutS s') k n (cutS s)
      have hX0 := cmpV_zero k n (cutS s) k' n' (cutS s')
      have hXc := cmpV_cases k n (cutS s) k' n' (cutS s')
      have hZc := cmpV_cases k' n' (cutS s') l m (cutS t)
      have hWc := cmpV_cases k n (cutS s) l m (cutS t)
      have hT1 := cmpV_trans (k := k) (n := n) (s := cutS s) (k' := k') (n' := n') (s' := cutS s') (l := l) (m := m) (t := cutS t)
      have hT2 := cmpV_trans_lt (k := k) (n := n) (s := cutS s) (k' := k') (n' := n') (s' := cutS s') (l := l) (m := m) (t := cutS t)
      generalize cmpV k n (cutS s) k' n' (cutS s') = X at *
      generalize cmpV k' n' (cutS s') k n (cutS s) = Y at *
      generalize hZd : cmpV k' n' (cutS s') l m (cutS t) = Z at *
      generalize hWd : cmpV k n (cutS s) l m (cutS t) = W at *
      have hZdef := Lib.hid hZd
      have hWdef := Lib.hid hWd
      clear hZd hWd
      subst hXY
      obtain ⟨hbT, -, ⟨c0, c1, c2⟩, ⟨d0, d1, d2⟩, -⟩ := hT
      rcases hXc with rfl | rfl | rfl
      · have hne : ¬(k = k' ∧ n = n' ∧ cutS s = cutS s') := fun h => absurd (hX0.2 h) (by decide)
        clear hX0
        rcases hZc with rfl | rfl | rfl
        · have hW : W = -1 := by have := hT2 (by decide) (by decide); omega
          subst hW
          clear hT1 hT2 hWc
          go_wp2_with (go_at_call 18; refine (alive_true _ (G.below hbT)).mono ?_; rintro e w7 ⟨rfl, hb⟩)
          all_goals first
            | exact absurd ⟨by assumption, by assumption, str_ext (by assumption)⟩ hne
            | (go_ret; exact ⟨by simp, hbT.trans (hb.mono hbT.size)⟩)
        · have hW : W = -1 := by have := hT2 (by decide) (by decide); omega
          subst hW
          clear hT1 hT2 hWc
          go_wp2_with (go_at_call 18; refine (alive_true _ (G.below hbT)).mono ?_; rintro e w7 ⟨rfl, hb⟩)
          all_goals first
            | exact absurd ⟨by assumption, by assumption, str_ext (by assumption)⟩ hne
            | (go_ret; exact ⟨by simp, hbT.trans (hb.mono hbT.size)⟩)
        · clear hT1 hT2 hWc
          go_wp2_with (go_at_call 18; refine (alive_true _ (G.below hbT)).mono ?_; rintro e w7 ⟨rfl, hb⟩)
          all_goals first
            | exact absurd ⟨by assumption, by assumption, str_ext (by assumption)⟩ hne
            | (go_ret; exact ⟨by simp, hbT.trans (hb.mono hbT.size)⟩)
      · have hWZ : W = Z := by
          rw [← hWdef.out, ← hZdef.out]
          obtain ⟨e1, e2, e3⟩ := hX0.1 rfl
          rw [e1, e2, e3]
        obtain ⟨rfl, rfl, hs⟩ := hX0.1 rfl
        have hsl : (cutS s).toList = (cutS s').toList := by rw [hs]
        clear hX0 hs hT1 hT2 hWc hWdef hZdef
        subst hWZ
        rcases hZc with rfl | rfl | rfl
        · go_wp2_with (go_at_call 18; refine (alive_true _ (G.below hbT)).mono ?_; rintro e w7 ⟨rfl, hb⟩)
          go_ret
          exact ⟨by simp, hbT.trans (hb.mono hbT.size)⟩
        · go_wp2_with (go_at_call 18; refine (alive_true _ (G.below hbT)).mono ?_; rintro e w7 ⟨rfl, hb⟩)
          go_ret
          exact ⟨by simp, hbT.trans (hb.mono hbT.size)⟩
        · go_wp2_with (go_at_call 18; refine (alive_true _ (G.below hbT)).mono ?_; rintro e w7 ⟨rfl, hb⟩)
          go_ret
          exact ⟨by simp, hbT.trans (hb.mono hbT.size)⟩
      · have hne : ¬(k = k' ∧ n = n' ∧ cutS s = cutS s') := fun h => absurd (hX0.2 h) (by decide)
        clear hX0 hT1 hT2 hWc hZc
        go_wp2_with (go_at_call 18; refine (alive_true _ (G.below hbT)).mono ?_; rintro e w7 ⟨rfl, hb⟩)
        all_goals first
          | exact absurd ⟨by assumption, by assumption, str_ext (by assumption)⟩ hne
          | (go_ret; exact ⟨by simp, hbT.trans (hb.mono hbT.size)⟩)

open Go.ChangeShapes Go.WideShapes Go.ChangeAt
set_option maxRecDepth 100000 in
theorem lifted_order (os : Os) (started : os.Started) (H : Type) (enc : TypeId × Value → H) :
    ReturnsInHanded {} Tryd.checked os 7 .any (fun w args => (Rows.valueOrderSpec.pre enc Tryd.prog Tryd.f7 [] false w args ∧ laidMetH Tryd.prog laid5 w) ∧ sizedMet enc Tryd.prog Tryd.f7 (OpenSpec.ofChange Rows.valueOrderSpec) false w args)
      (Rows.valueOrderSpec.post enc Tryd.prog Tryd.f7 false true false false) := by
  refine returnsInHanded_of_change_and (C := Tryd.checked) (X := fun w _ => laidMetH Tryd.prog laid5 w) (fun _ _ _ hh h => h.of_heap hh) own started (by kernel_rfl) Tryd.func7
    (ChangeSpec.witness_shaped (enc := enc) (C := Tryd.checked) (os := os) (X := fun w _ => laidMetH Tryd.prog laid5 w) false (World.doorLaid Tryd.prog 400 os) #[.agg #[.int .i64 0, .int .i64 0, .string ⟨#[]⟩], .agg #[.int .i64 0, .int .i64 0, .string ⟨#[]⟩], .agg #[.int .i64 0, .int .i64 0, .string ⟨#[]⟩]] 8 rfl (World.shaped_of_RefB (by kernel_rfl) (by kernel_rfl)) (by kernel_rfl) (by kernel_rfl) (by kernel_rfl) (door_met os _)) ?_
  intro W base args ds gs before hval0 hW _ _ hL _
  have hval : ∀ (j : Nat) t v, Tryd.f7.params[j]? = some t → args[j]? = some v → Value.okWide Tryd.prog W .any base t v := hval0
  have hW' := hW
  obtain ⟨p, q, hA0, hV, rfl, hfz, hnd⟩ := hW
  have hA : DataW.TrodAll enc Tryd.prog W 0 (fun _ => true) true Tryd.f7.params.toList args.toList ds p := hA0
  rw [Tryd.params7] at hA hval
  obtain ⟨v0, vs0, d0, ds0, p0, q0, hargs, rfl, rfl, h0, r0⟩ := trodAll_cons hA
  obtain ⟨v1, vs1, d1, ds1, p1, q1, rfl, rfl, rfl, h1, r1⟩ := trodAll_cons r0
  obtain ⟨v2, vs2, d2, ds2, p2, q2, rfl, rfl, rfl, h2, r2⟩ := trodAll_cons r1
  obtain ⟨rfl, rfl, rfl⟩ := trodAll_nil r2
  obtain rfl : args = #[v0, v1, v2] := by cases args; simp_all
  obtain ⟨rfl, rfl⟩ := trodVars_none hV
  have t0 := h0
  have lt0 : ∀ x ∈ p0, x.block < W.heap.size := by obtain ⟨m, hm⟩ := t0; exact DataW.trod_lt m _ _ _ hm
  have t1 := h1
  have lt1 : ∀ x ∈ p1, x.block < W.heap.size := by obtain ⟨m, hm⟩ := t1; exact DataW.trod_lt m _ _ _ hm
  have t2 := h2
  have lt2 : ∀ x ∈ p2, x.block < W.heap.size := by obtain ⟨m, hm⟩ := t2; exact DataW.trod_lt m _ _ _ hm
  obtain ⟨k0v, n0v, s0v, rfl, ik0, in0, iz0⟩ := open_val (hval 0 24 v0 rfl rfl) h0
  obtain ⟨k1v, n1v, s1v, rfl, ik1, in1, iz1⟩ := open_val (hval 1 24 v1 rfl rfl) h1
  obtain ⟨k2v, n2v, s2v, rfl, ik2, in2, iz2⟩ := open_val (hval 2 24 v2 rfl rfl) h2
  clear hA0 hval0
  refine (order k0v n0v s0v k1v n1v s1v k2v n2v s2v W ik0 in0 iz0 ik1 in1 iz1 ik2 in2 iz2 (glob_of_laid hL)).mono fun e W' ⟨he, bel⟩ => ?_
  subst he
  exact ⟨_, rfl, _, _, _, [], _, [], hW', trodAll_mk1 (shut_bool Tryd.underlying4 _), (trodAll_cons_mk (Below.trod laidOut (by kernel_rfl) (of_decide_eq_true (by kernel_rfl)) t0 bel lt0) (trodAll_cons_mk (Below.trod laidOut (by kernel_rfl) (of_decide_eq_true (by kernel_rfl)) t1 bel lt1) (trodAll_cons_mk (Below.trod laidOut (by kernel_rfl) (of_decide_eq_true (by kernel_rfl)) t2 bel lt2) trodAll_mk0))), rfl, bel.frame _, fun h => by cases h⟩

theorem holds_order : Rows.ValueOrderSaid :=
  OpenClaim.holds_of_wide 7 Tryd.f7 rfl rfl rfl rfl rfl rfl rfl ⟨rfl, rfl, rfl, rfl, rfl⟩ rfl rfl rfl rfl rfl (by kernel_rfl) Tryd.func7 (by kernel_rfl)
    (of_decide_eq_true (by kernel_rfl)) (by unfold Func.isWrapper; rw [if_neg (of_decide_eq_false (by kernel_rfl))]; exact ⟨rfl, rfl⟩)
    (fun os started H enc _ => lifted_order os started H enc)

theorem card_order : Rows.ValueOrderCardSaid :=
  Claim7.holds_tied_plain_at .later [] Rows.valueOrderCard.laidKinds true Rows.valueOrderCard.stood.harness true
    holds_order (fun _ h => by cases h) (by kernel_rfl) (fun _ h => by cases h) valueOrder_row_tie rfl ⟨rfl, rfl⟩ (by kernel_rfl) rfl
    (fun f fn hf hfn => by
      obtain rfl : f = 7 := Option.some.inj ((show Tryd.prog.funcNamed "pedigree/pedigreelaw01.ValueOrder" = some 7 by kernel_rfl).symm.trans hf) |>.symm
      obtain rfl : fn = Tryd.f7 := (Option.some.inj (Tryd.func7.symm.trans hfn)).symm
      exact ⟨by kernel_rfl, fun j t ht => by
        rw [Tryd.params7] at ht
        have hm : t ∈ [24, 24, 24] := by simpa using Array.mem_of_getElem? ht
        have hall : ([24, 24, 24].all fun u => !Tryd.prog.wantsStandIn u) = true := by kernel_rfl
        exact (show Tryd.prog.wantsStandIn t = false by simpa using List.all_eq_true.1 hall t hm)⟩)
    (by kernel_rfl)
#print axioms card_order


end Go.Proofs.YtehobjcdlaifdaaDoor
