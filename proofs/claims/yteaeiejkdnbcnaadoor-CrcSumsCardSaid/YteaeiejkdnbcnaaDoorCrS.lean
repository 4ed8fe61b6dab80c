/-
  For every byte slice the law CrcSums returns true and leaves its argument as it was: the sum of its first 3000 bytes, what they are sealed to and what they open to are the document's.
  Conditions: those that the row prints (the size of memory that is read); the table crc.nibbles holds what its initialiser lays, which the card ties to the program's text; none of the proof's own.
-/
import Derived.Test.YteaeiejkdnbcnaaDoorCrH
import Derived.Test.YteaeiejkdnbcnaaDoorTie
import Derived.Test.YteaeiejkdnbcnaaDoorCards
namespace Go.Proofs.YteaeiejkdnbcnaaDoor
open Go Go.RowKit

set_option maxHeartbeats 1000000 in
set_option maxRecDepth 100000 in
theorem sums_any (v : Value) (l : List UInt8) (w : World) (hb : ByC w.heap.size w v l) (HG0 : Glob w) :
    Calls Tryd.prog 3 #[v] w fun e w' => e = .returned (.bool true) ∧ Below w.heap.size w w' := by
  have HG := Lib.hid HG0
  have H := Lib.hid hb
  clear HG0 hb
  go_enter Tryd.func3, Tryd.ntmps3
  go_wp2_with fail
  refine (cut_any v l w H.out).mono ?_
  rintro e w' ⟨u, rfl, hu, rfl⟩
  obtain ⟨m, hm⟩ : ∃ m, m = l.take 3000 := ⟨_, rfl⟩
  have HL := Lib.hid (show m.length ≤ 3000 by rw [hm, List.length_take]; omega)
  rw [← hm] at hu
  have HU := Lib.hid hu
  clear hm hu
  go_wp2_with fail
  refine (open_any u m w HU.out (Nat.le_trans HL.out (by decide)) HG.out).mono ?_
  rintro e w1 ⟨z1, rfl, ho1, hb1⟩
  obtain ⟨er, her⟩ : ∃ er, er = (openE m).1 := ⟨_, rfl⟩
  obtain ⟨bo, hbo⟩ : ∃ bo, bo = (openE m).2 := ⟨_, rfl⟩
  rw [← hbo] at ho1
  rw [← her]
  have HB1 := Lib.hid hb1
  have HI1 := Lib.hid ho1.in_
  have HU1 := Lib.hid ((HU.out.below hb1).mono hb1.size)
  clear ho1 hb1
  go_wp2_with fail
  refine (ropen_any u m w1 HU1.out (Nat.le_trans HL.out (by decide))).mono ?_
  rintro e w2 ⟨z2, rfl, ho2, hb2⟩
  rw [← hbo] at ho2
  rw [← her]
  have HB2 := Lib.hid (HB1.out.trans (hb2.mono HB1.out.size))
  have HI2 := Lib.hid ((HI1.out.below hb2).mono hb2.size)
  have HJ2 := Lib.hid ho2.in_
  have HU2 := Lib.hid ((HU1.out.below hb2).mono hb2.size)
  have HG2 := Lib.hid (HG.out.below HB2.out)
  clear ho2 hb2 her hbo HU1 HI1 HB1
  have G := Lib.hid ((((Held.nil w2).put HI2.out).put HJ2.out).drew)
  go_wp2_with fail
  refine wp_region_held_drew (S := Held w2 [(z2, bo), (z1, bo)]) (by kernel_rfl) G.out (fun _ => ?_)
  refine take1 0 19 (v := ?_) rfl rfl (by kernel_rfl) (by kernel_rfl) (by kernel_rfl) (fun _ _ _ h => h) (by kernel_rfl) ?_ G.out (by simp only [put_norm]; exact rfl) ?_
  rotate_left
  · intro W _; go_simp; try (with_reducible rfl)
  refine take1 2 21 (v := ?_) rfl rfl (by kernel_rfl) (by kernel_rfl) (by kernel_rfl) (fun _ _ _ h => h) (by kernel_rfl) ?_ G.out (by simp only [put_norm]; exact rfl) ?_
  rotate_left
  · intro W _; go_simp; try (with_reducible rfl)
  refine wpAnyH_ready (rs := [1]) (by kernel_rfl) (by simp) ?_
  refine AllReadyH.cons rfl (fun K hK => ?_) AllReadyH.nil
  go_simp
  refine (sum_any _ m _ ((G.out.old HU2.out.1 (Nat.le_refl _)).mono G.out.below.size) (Nat.le_trans HL.out (by decide)) (HG2.out.below G.out.below)).mono ?_
  rintro e u1 ⟨rfl, rfl⟩
  have G1 := G
  go_wp2_with fail
  refine hK.out _ _ G1.out.self (fun _ => ?_)
  clear hK K
  refine wpAnyH_ready (rs := [3]) (by kernel_rfl) (by simp) ?_
  refine AllReadyH.cons rfl (fun K hK => ?_) AllReadyH.nil
  go_simp
  refine (rsum_any _ m _ ((G1.out.old HU2.out.1 (Nat.le_refl _)).mono G1.out.below.size) (Nat.le_trans HL.out (by decide))).mono ?_
  rintro e u2 ⟨rfl, rfl⟩
  have G2 := G1
  go_wp2_with fail
  refine hK.out _ _ G2.out.self (fun _ => ?_)
  clear hK K
  refine take1 4 23 (v := ?_) rfl rfl (by kernel_rfl) (by kernel_rfl) (by kernel_rfl) (fun _ _ _ h => h) (by kernel_rfl) ?_ G2.out (by simp only [put_norm]; exact rfl) ?_
  rotate_left
  · intro W _; go_simp; try (with_reducible rfl)
  refine take1 5 24 (v := ?_) rfl rfl (by kernel_rfl) (by kernel_rfl) (by kernel_rfl) (fun _ _ _ h => h) (by kernel_rfl) ?_ G2.out (by simp only [put_norm]; exact rfl) ?_
  rotate_left
  · intro W _; go_simp; try (with_reducible rfl)
  refine take1 6 25 (v := ?_) rfl rfl (by kernel_rfl) (by kernel_rfl) (by kernel_rfl) (fun _ _ _ h => h) (by kernel_rfl) ?_ G2.out (by simp only [put_norm]; exact rfl) ?_
  rotate_left
  · intro W _; go_simp; try (with_reducible rfl)
  refine take1 9 28 (v := ?_) rfl rfl (by kernel_rfl) (by kernel_rfl) (by kernel_rfl) (fun _ _ _ h => h) (by kernel_rfl) ?_ G2.out (by simp only [put_norm]; exact rfl) ?_
  rotate_left
  · intro W _; go_simp; try (with_reducible rfl)
  refine wpAnyH_ready (rs := [7]) (by kernel_rfl) (by simp) ?_
  refine AllReadyH.cons rfl (fun K hK => ?_) AllReadyH.nil
  go_simp
  refine (seal_any _ m _ ((G2.out.old HU2.out.1 (Nat.le_refl _)).mono G2.out.below.size) (Nat.le_trans HL.out (by decide)) (HG2.out.below G2.out.below)).mono ?_
  rintro e u3 ⟨y3, rfl, o, b⟩
  have G3 := Lib.hid (G2.out.call b o)
  clear o b
  go_wp2_with fail
  refine hK.out _ _ G3.out.tail (fun _ => ?_)
  clear hK K
  refine wpAnyH_more G3.out ?_
  refine take1 8 27 rfl rfl (by kernel_rfl) (by kernel_rfl) (by kernel_rfl) (fun _ _ _ h => h) (by kernel_rfl) (fun W hW => exec_str rfl rfl (hW.at_ 0 rfl)) G3.out (by simp only [put_norm]; exact rfl) ?_
  refine wpAnyH_ready (rs := [10]) (by kernel_rfl) (by simp) ?_
  refine AllReadyH.cons rfl (fun K hK => ?_) AllReadyH.nil
  go_simp
  refine (rseal_any _ m _ ((G3.out.old HU2.out.1 (Nat.le_refl _)).mono G3.out.below.size) (Nat.le_trans HL.out (by decide))).mono ?_
  rintro e u4 ⟨y4, rfl, o, b⟩
  have G4 := Lib.hid (G3.out.call b o)
  clear o b
  go_wp2_with fail
  refine hK.out _ _ G4.out.tail (fun _ => ?_)
  clear hK K
  refine wpAnyH_more G4.out ?_
  refine take1 11 30 rfl rfl (by kernel_rfl) (by kernel_rfl) (by kernel_rfl) (fun _ _ _ h => h) (by kernel_rfl) (fun W hW => exec_str rfl rfl (hW.at_ 0 rfl)) G4.out (by simp only [put_norm]; exact rfl) ?_
  refine take1 12 31 (v := ?_) rfl rfl (by kernel_rfl) (by kernel_rfl) (by kernel_rfl) (fun _ _ _ h => h) (by kernel_rfl) ?_ G4.out (by simp only [put_norm]; exact rfl) ?_
  rotate_left
  · intro W _; go_simp; try (with_reducible rfl)
  refine take1 13 32 (v := ?_) rfl rfl (by kernel_rfl) (by kernel_rfl) (by kernel_rfl) (fun _ _ _ h => h) (by kernel_rfl) ?_ G4.out (by simp only [put_norm]; exact rfl) ?_
  rotate_left
  · intro W _; go_simp; try (with_reducible rfl)
  refine take1 14 33 (v := ?_) rfl rfl (by kernel_rfl) (by kernel_rfl) (by kernel_rfl) (fun _ _ _ h => h) (by kernel_rfl) ?_ G4.out (by simp only [put_norm]; exact rfl) ?_
  rotate_left
  · intro W _; go_simp; try (with_reducible rfl)
  refine take1 15 34 (v := ?_) rfl rfl (by kernel_rfl) (by kernel_rfl) (by kernel_rfl) (fun _ _ _ h => h) (by kernel_rfl) ?_ G4.out (by simp only [put_norm]; exact rfl) ?_
  rotate_left
  · intro W _; go_simp; try (with_reducible rfl)
  refine take1 16 35 rfl rfl (by kernel_rfl) (by kernel_rfl) (by kernel_rfl) (fun _ _ _ h => h) (by kernel_rfl) (fun W hW => exec_str rfl rfl (hW.at_ 3 rfl)) G4.out (by simp only [put_norm]; exact rfl) ?_
  refine take1 17 36 (v := ?_) rfl rfl (by kernel_rfl) (by kernel_rfl) (by kernel_rfl) (fun _ _ _ h => h) (by kernel_rfl) ?_ G4.out (by simp only [put_norm]; exact rfl) ?_
  rotate_left
  · intro W _; go_simp; try (with_reducible rfl)
  refine take1 18 37 rfl rfl (by kernel_rfl) (by kernel_rfl) (by kernel_rfl) (fun _ _ _ h => h) (by kernel_rfl) (fun W hW => exec_str rfl rfl (hW.at_ 2 rfl)) G4.out (by simp only [put_norm]; exact rfl) ?_
  refine take1 19 38 (v := ?_) rfl rfl (by kernel_rfl) (by kernel_rfl) (by kernel_rfl) (fun _ _ _ h => h) (by kernel_rfl) ?_ G4.out (by simp only [put_norm]; exact rfl) ?_
  rotate_left
  · intro W _; go_simp; try (with_reducible rfl)
  refine take1 20 39 (v := ?_) rfl rfl (by kernel_rfl) (by kernel_rfl) (by kernel_rfl) (fun _ _ _ h => h) (by kernel_rfl) ?_ G4.out (by simp only [put_norm]; exact rfl) ?_
  rotate_left
  · intro W _; go_simp; try (with_reducible rfl)
  refine take1 21 40 (v := ?_) rfl rfl (by kernel_rfl) (by kernel_rfl) (by kernel_rfl) (fun _ _ _ h => h) (by kernel_rfl) ?_ G4.out (by simp only [put_norm]; exact rfl) ?_
  rotate_left
  · intro W _; go_simp; try (with_reducible rfl)
  refine take1 22 41 (v := ?_) rfl rfl (by kernel_rfl) (by kernel_rfl) (by kernel_rfl) (fun _ _ _ h => h) (by kernel_rfl) ?_ G4.out (by simp only [put_norm]; exact rfl) ?_
  rotate_left
  · intro W _; go_simp; try (with_reducible rfl)
  refine take1 23 42 (v := ?_) rfl rfl (by kernel_rfl) (by kernel_rfl) (by kernel_rfl) (fun _ _ _ h => h) (by kernel_rfl) ?_ G4.out (by simp only [put_norm]; exact rfl) ?_
  rotate_left
  · intro W _; go_simp; try (with_reducible rfl)
  refine take1 24 43 (v := ?_) rfl rfl (by kernel_rfl) (by kernel_rfl) (by kernel_rfl) (fun _ _ _ h => h) (by kernel_rfl) ?_ G4.out (by simp only [put_norm]; exact rfl) ?_
  rotate_left
  · intro W _; go_simp; try (with_reducible rfl)
  refine take1 25 44 (v := ?_) rfl rfl (by kernel_rfl) (by kernel_rfl) (by kernel_rfl) (fun _ _ _ h => h) (by kernel_rfl) ?_ G4.out (by simp only [put_norm]; exact rfl) ?_
  rotate_left
  · intro W _; go_simp; try (with_reducible rfl)
  refine take1 26 45 (v := ?_) rfl rfl (by kernel_rfl) (by kernel_rfl) (by kernel_rfl) (fun _ _ _ h => h) (by kernel_rfl) ?_ G4.out (by simp only [put_norm]; exact rfl) ?_
  rotate_left
  · intro W _; go_simp; try (with_reducible rfl)
  refine wpAnyH_ready (rs := [27]) (by kernel_rfl) (by simp) ?_
  refine AllReadyH.cons rfl (fun K hK => ?_) AllReadyH.nil
  go_simp
  refine (awake_true _ (HG2.out.below G4.out.below)).mono ?_
  rintro e u5 ⟨rfl, b⟩
  have G5 := Lib.hid (G4.out.on b)
  clear b
  go_wp2_with fail
  refine hK.out _ _ G5.out.self (fun _ => ?_)
  clear hK K
  refine take1 28 47 (v := ?_) rfl rfl (by kernel_rfl) (by kernel_rfl) (by kernel_rfl) (fun _ _ _ h => h) (by kernel_rfl) ?_ G5.out (by simp only [put_norm]; exact rfl) ?_
  rotate_left
  · intro W _; go_simp; try (with_reducible rfl)
  refine take1 29 2 (v := ?_) rfl rfl (by kernel_rfl) (by kernel_rfl) (by kernel_rfl) (fun _ _ _ h => h) (by kernel_rfl) ?_ G5.out (by simp only [put_norm]; exact rfl) ?_
  rotate_left
  · intro W _; go_simp; try (with_reducible rfl)
  refine wpAnyH_done (by kernel_rfl) ?_ _
  go_wp2
  go_ret
  exact ⟨by simp, HB2.out.trans (G5.out.below.mono HB2.out.size)⟩

open Go.ChangeShapes Go.WideShapes Go.ChangeAt
set_option maxRecDepth 100000 in
theorem lifted_sums_any (os : Os) (started : os.Started) (H : Type) (enc : TypeId × Value → H) :
    ReturnsInHanded {} Tryd.checked os 3 .any (fun w args => (Rows.crcSumsSpec.pre enc Tryd.prog Tryd.f3 [] false w args ∧ laidMetH Tryd.prog laid4 w) ∧ sizedMet enc Tryd.prog Tryd.f3 (OpenSpec.ofChange Rows.crcSumsSpec) false w args)
      (Rows.crcSumsSpec.post enc Tryd.prog Tryd.f3 false true false false) := by
  refine returnsInHanded_of_change_and (C := Tryd.checked) (X := fun w _ => laidMetH Tryd.prog laid4 w) (fun _ _ _ hh h => h.of_heap hh) own started (by kernel_rfl) Tryd.func3
    (ChangeSpec.witness_shaped (enc := enc) (C := Tryd.checked) (os := os) (X := fun w _ => laidMetH Tryd.prog laid4 w) false (World.doorLaid Tryd.prog 400 os) #[.slice none 0 0] 8 rfl (World.shaped_of_RefB (by kernel_rfl) (by kernel_rfl)) (by kernel_rfl) (by kernel_rfl) (by kernel_rfl) (door_met os _)) ?_
  intro W base args ds gs before hval0 hW _ _ hL _
  have hval : ∀ (j : Nat) t v, Tryd.f3.params[j]? = some t → args[j]? = some v → Value.okWide Tryd.prog W .any base t v := hval0
  have hW' := hW
  obtain ⟨p, q, hA0, hV, rfl, hfz, hnd⟩ := hW
  have hA : DataW.TrodAll enc Tryd.prog W 0 (fun _ => true) true Tryd.f3.params.toList args.toList ds p := hA0
  rw [Tryd.params3] at hA hval
  obtain ⟨v0, vs0, d0, ds0, p0, q0, hargs, rfl, rfl, h0, r0⟩ := trodAll_cons hA
  obtain ⟨rfl, rfl, rfl⟩ := trodAll_nil r0
  obtain rfl : args = #[v0] := by cases args; simp_all
  obtain ⟨rfl, rfl⟩ := trodVars_none hV
  have t0 := h0
  have lt0 : ∀ x ∈ p0, x.block < W.heap.size := by obtain ⟨m, hm⟩ := t0; exact DataW.trod_lt m _ _ _ hm
  obtain ⟨l0, a0⟩ := open_byt (hval 0 22 v0 rfl rfl) h0
  clear hA0 hval0
  refine (sums_any v0 l0 W a0 (glob_of_laid hL)).mono fun e W' ⟨he, bel⟩ => ?_
  subst he
  exact ⟨_, rfl, _, _, _, [], _, [], hW', trodAll_mk1 (shut_bool Tryd.underlying4 _), (trodAll_cons_mk (Below.trod laidOut (by kernel_rfl) (of_decide_eq_true (by kernel_rfl)) t0 bel lt0) trodAll_mk0), rfl, bel.frame _, fun h => by cases h⟩

theorem holds_sums_any : Rows.CrcSumsSaid :=
  OpenClaim.holds_of_wide 3 Tryd.f3 rfl rfl rfl rfl rfl rfl rfl ⟨rfl, rfl, rfl, rfl, rfl⟩ rfl rfl rfl rfl rfl (by kernel_rfl) Tryd.func3 (by kernel_rfl)
    (of_decide_eq_true (by kernel_rfl)) (by unfold Func.isWrapper; rw [if_neg (of_decide_eq_false (by kernel_rfl))]; exact ⟨rfl, rfl⟩)
    (fun os started H enc _ => lifted_sums_any os started H enc)

theorem card_sums_any : Rows.CrcSumsCardSaid :=
  Claim7.holds_tied_plain_at .later [] Rows.crcSumsCard.laidKinds true Rows.crcSumsCard.stood.harness Rows.crcSumsCard.stood.looks
    holds_sums_any (fun _ h => by cases h) (by kernel_rfl) (fun _ h => by cases h) crcSums_row_tie rfl ⟨rfl, rfl⟩ (by kernel_rfl) rfl
    (fun f fn hf hfn => by
      obtain rfl : f = 3 := Option.some.inj ((show Tryd.prog.funcNamed "pedigree/pedigreelaw04.CrcSums" = some 3 by kernel_rfl).symm.trans hf) |>.symm
      obtain rfl : fn = Tryd.f3 := (Option.some.inj (Tryd.func3.symm.trans hfn)).symm
      exact ⟨by kernel_rfl, fun j t ht => by
        rw [Tryd.params3] at ht
        have hm : t ∈ [22] := by simpa using Array.mem_of_getElem? ht
        have hall : ([22].all fun u => !Tryd.prog.wantsStandIn u) = true := by kernel_rfl
        exact (show Tryd.prog.wantsStandIn t = false by simpa using List.all_eq_true.1 hall t hm)⟩)
    (by kernel_rfl)
#print axioms card_sums_any


end Go.Proofs.YteaeiejkdnbcnaaDoor
