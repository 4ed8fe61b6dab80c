/-
  For every two byte slices the law CrcJoined returns true and leaves its arguments as they were: the sum of their first 3000 bytes each, one behind the other, is what crc.Join makes of the document's sums of the two.
  Conditions: those that the row prints (the size of memory that is read); the table crc.nibbles holds what its initialiser lays, which the card ties to the program's text; none of the proof's own.
-/
import Derived.Test.YteaeiejkdnbcnaaDoorCrM
import Derived.Test.YteaeiejkdnbcnaaDoorTie
import Derived.Test.YteaeiejkdnbcnaaDoorCards
namespace Go.Proofs.YteaeiejkdnbcnaaDoor
open Go Go.RowKit

set_option maxHeartbeats 1000000 in
set_option maxRecDepth 100000 in
theorem joined_any (v : Value) (l : List UInt8) (v' : Value) (l' : List UInt8) (w : World) (hb : ByC w.heap.size w v l) (hb' : ByC w.heap.size w v' l') (HG0 : Glob w) :
    Calls Tryd.prog 4 #[v, v'] w fun e w' => e = .returned (.bool true) ∧ Below w.heap.size w w' := by
  have HG := Lib.hid HG0
  have H := Lib.hid hb
  have H' := Lib.hid hb'
  clear HG0 hb hb'
  go_enter Tryd.func4, Tryd.ntmps4
  go_wp2_with fail
  refine (cut_any v l w H.out).mono ?_
  rintro e w' ⟨u, rfl, hu, rfl⟩
  obtain ⟨m, hm⟩ : ∃ m, m = l.take 3000 := ⟨_, rfl⟩
  have HL := Lib.hid (show m.length ≤ 3000 by rw [hm, List.length_take]; omega)
  rw [← hm] at hu
  have HU := Lib.hid hu
  clear hm hu
  go_wp2_with fail
  refine (cut_any v' l' w H'.out).mono ?_
  rintro e w' ⟨u', rfl, hu, rfl⟩
  obtain ⟨m', hm⟩ : ∃ m', m' = l'.take 3000 := ⟨_, rfl⟩
  have HL' := Lib.hid (show m'.length ≤ 3000 by rw [hm, List.length_take]; omega)
  rw [← hm] at hu
  obtain ⟨q, d, hv⟩ := hu.1.shape
  subst hv
  have HU' := Lib.hid hu
  clear hm hu
  go_wp2_with fail
  refine (rsum_any u m w HU.out.1 (Nat.le_trans HL.out (by decide))).mono ?_
  rintro e w' ⟨rfl, rfl⟩
  go_wp2_with fail
  refine (rsum_any _ m' w HU'.out.1 (Nat.le_trans HL'.out (by decide))).mono ?_
  rintro e w' ⟨rfl, rfl⟩
  go_wp2_with fail
  refine (join_any (sumL m) (sumL m') m'.length w (Nat.le_trans HL'.out (by decide))).mono ?_
  rintro e w' ⟨rfl, rfl⟩
  rw [← sum_join]
  have HO : Hid (OwnB w.heap.size (w.alloc (.cells #[] 5)) (.slice (some ⟨w.heap.size, 0, none⟩) 0 0) []) := Lib.hid (OwnB.lit w.heap.size w #[] [] 0 (Nat.le_refl _) rfl (by decide) rfl)
  have HW : Hid (Below w.heap.size w (w.alloc (.cells #[] 5))) := Lib.hid ((Below.refl _ _).alloc (Nat.le_refl _) _)
  have HI := Lib.hid (HU.out.1.below HW.out)
  have HR := Lib.hid (show ([] : List UInt8).length + m.length ≤ 100000000000000 by have := HL.out; rw [List.length_nil]; omega)
  have HR2 := Lib.hid (show m.length + m'.length ≤ 100000000000000 by have := HL.out; have := HL'.out; omega)
  obtain ⟨x, HX⟩ : ∃ x, Hid (x = sumL (m ++ m')) := ⟨_, Lib.hid rfl⟩
  rw [← HX.out]
  go_wp2_with (first
    | (at_builtin; refine wpList_app rfl (.tmp 22) (.tmp 23) rfl w.heap.size w.heap.size w _ _ [] m rfl rfl HO.out HI.out HR.out HW.out (Nat.le_refl _) ?_; intro z1 w1 ho1 hb1; have HO1 := Lib.hid ho1; have HB1 := Lib.hid hb1; have HI1 := Lib.hid (HU'.out.1.below hb1); clear ho1 hb1)
    | (at_builtin; refine wpList_app rfl (.tmp 24) (.tmp 25) rfl w.heap.size w.heap.size w _ _ m m' rfl rfl HO1.out HI1.out HR2.out HB1.out (Nat.le_refl _) ?_; intro z2 w2 ho2 hb2; have HO2 := Lib.hid ho2; have HB2 := Lib.hid hb2; clear ho2 hb2))
  have HS := Lib.hid (rsum_any z2 (m ++ m') w2 HO2.out.in_ (by have := HR2.out; rw [List.length_append]; omega))
  rw [← HX.out] at HS
  refine HS.out.mono ?_
  rintro e w' ⟨rfl, rfl⟩
  go_wp2_with fail
  refine (awake_true w2 (HG.out.below HB2.out)).mono ?_
  rintro e w3 ⟨rfl, hb3⟩
  have HB3 := Lib.hid (HB2.out.trans (hb3.mono HB2.out.size))
  clear hb3
  go_wp2_with fail
  go_ret
  exact ⟨rfl, HB3.out⟩

open Go.ChangeShapes Go.WideShapes Go.ChangeAt
set_option maxRecDepth 100000 in
theorem lifted_joined_any (os : Os) (started : os.Started) (H : Type) (enc : TypeId × Value → H) :
    ReturnsInHanded {} Tryd.checked os 4 .any (fun w args => (Rows.crcJoinedSpec.pre enc Tryd.prog Tryd.f4 [] false w args ∧ laidMetH Tryd.prog laid4 w) ∧ sizedMet enc Tryd.prog Tryd.f4 (OpenSpec.ofChange Rows.crcJoinedSpec) false w args)
      (Rows.crcJoinedSpec.post enc Tryd.prog Tryd.f4 false true false false) := by
  refine returnsInHanded_of_change_and (C := Tryd.checked) (X := fun w _ => laidMetH Tryd.prog laid4 w) (fun _ _ _ hh h => h.of_heap hh) own started (by kernel_rfl) Tryd.func4
    (ChangeSpec.witness_shaped (enc := enc) (C := Tryd.checked) (os := os) (X := fun w _ => laidMetH Tryd.prog laid4 w) false (World.doorLaid Tryd.prog 400 os) #[.slice none 0 0, .slice none 0 0] 8 rfl (World.shaped_of_RefB (by kernel_rfl) (by kernel_rfl)) (by kernel_rfl) (by kernel_rfl) (by kernel_rfl) (door_met os _)) ?_
  intro W base args ds gs before hval0 hW _ _ hL _
  have hval : ∀ (j : Nat) t v, Tryd.f4.params[j]? = some t → args[j]? = some v → Value.okWide Tryd.prog W .any base t v := hval0
  have hW' := hW
  obtain ⟨p, q, hA0, hV, rfl, hfz, hnd⟩ := hW
  have hA : DataW.TrodAll enc Tryd.prog W 0 (fun _ => true) true Tryd.f4.params.toList args.toList ds p := hA0
  rw [Tryd.params4] at hA hval
  obtain ⟨v0, vs0, d0, ds0, p0, q0, hargs, rfl, rfl, h0, r0⟩ := trodAll_cons hA
  obtain ⟨v1, vs1, d1, ds1, p1, q1, rfl, rfl, rfl, h1, r1⟩ := trodAll_cons r0
  obtain ⟨rfl, rfl, rfl⟩ := trodAll_nil r1
  obtain rfl : args = #[v0, v1] := by cases args; simp_all
  obtain ⟨rfl, rfl⟩ := trodVars_none hV
  have t0 := h0
  have lt0 : ∀ x ∈ p0, x.block < W.heap.size := by obtain ⟨m, hm⟩ := t0; exact DataW.trod_lt m _ _ _ hm
  have t1 := h1
  have lt1 : ∀ x ∈ p1, x.block < W.heap.size := by obtain ⟨m, hm⟩ := t1; exact DataW.trod_lt m _ _ _ hm
  obtain ⟨l0, a0⟩ := open_byt (hval 0 22 v0 rfl rfl) h0
  obtain ⟨l1, a1⟩ := open_byt (hval 1 22 v1 rfl rfl) h1
  clear hA0 hval0
  refine (joined_any v0 l0 v1 l1 W a0 a1 (glob_of_laid hL)).mono fun e W' ⟨he, bel⟩ => ?_
  subst he
  exact ⟨_, rfl, _, _, _, [], _, [], hW', trodAll_mk1 (shut_bool Tryd.underlying4 _), (trodAll_cons_mk (Below.trod laidOut (by kernel_rfl) (of_decide_eq_true (by kernel_rfl)) t0 bel lt0) (trodAll_cons_mk (Below.trod laidOut (by kernel_rfl) (of_decide_eq_true (by kernel_rfl)) t1 bel lt1) trodAll_mk0)), rfl, bel.frame _, fun h => by cases h⟩

theorem holds_joined_any : Rows.CrcJoinedSaid :=
  OpenClaim.holds_of_wide 4 Tryd.f4 rfl rfl rfl rfl rfl rfl rfl ⟨rfl, rfl, rfl, rfl, rfl⟩ rfl rfl rfl rfl rfl (by kernel_rfl) Tryd.func4 (by kernel_rfl)
    (of_decide_eq_true (by kernel_rfl)) (by unfold Func.isWrapper; rw [if_neg (of_decide_eq_false (by kernel_rfl))]; exact ⟨rfl, rfl⟩)
    (fun os started H enc _ => lifted_joined_any os started H enc)

theorem card_joined_any : Rows.CrcJoinedCardSaid :=
  Claim7.holds_tied_plain_at .later [] Rows.crcJoinedCard.laidKinds true Rows.crcJoinedCard.stood.harness Rows.crcJoinedCard.stood.looks
    holds_joined_any (fun _ h => by cases h) (by kernel_rfl) (fun _ h => by cases h) crcJoined_row_tie rfl ⟨rfl, rfl⟩ (by kernel_rfl) rfl
    (fun f fn hf hfn => by
      obtain rfl : f = 4 := Option.some.inj ((show Tryd.prog.funcNamed "pedigree/pedigreelaw04.CrcJoined" = some 4 by kernel_rfl).symm.trans hf) |>.symm
      obtain rfl : fn = Tryd.f4 := (Option.some.inj (Tryd.func4.symm.trans hfn)).symm
      exact ⟨by kernel_rfl, fun j t ht => by
        rw [Tryd.params4] at ht
        have hm : t ∈ [22, 22] := by simpa using Array.mem_of_getElem? ht
        have hall : ([22, 22].all fun u => !Tryd.prog.wantsStandIn u) = true := by kernel_rfl
        exact (show Tryd.prog.wantsStandIn t = false by simpa using List.all_eq_true.1 hall t hm)⟩)
    (by kernel_rfl)
#print axioms card_joined_any


end Go.Proofs.YteaeiejkdnbcnaaDoor
