/-
  The walk of MergeNone.
-/
import Derived.Test.YtlccleafjpeccaaMhX
import Derived.Test.YtlccleafjpeccaaMgX
import Derived.Test.YtlccleafjpeccaaMcG
namespace Go.Proofs.Ytlccleafjpeccaa
open Go Go.RowKit Go.Shelf

theorem curs_one {b : Nat} {Y : Nat → Prop} {L : List Th} {w : World} (h : MadeAt Tt b Y L w) : Curs [(none, []), (some b, L), (none, [])] (fun k => ((False ∨ False) ∨ Y k) ∨ False) w :=
  (((Curs.nil w).snoc (c := (none, [])) (Yb := fun _ => False) ⟨rfl, fun _ e => e⟩ (fun _ e => e.elim)).snoc (c := (some b, L)) h (fun k _ e => by rcases e with e | e <;> exact e)).snoc (c := (none, [])) (Yb := fun _ => False) ⟨rfl, fun _ e => e⟩ (fun _ e => e.elim)
set_option maxRecDepth 100000 in
set_option maxHeartbeats 20000000 in
theorem lnone (va : Value) (A0 : List Th) (w : World) (ha : ThIn (fun b => b < w.heap.size) w va A0) :
    Calls Try.prog 11 #[va] w fun e w' => e = .returned (.bool true) ∧ Below w.heap.size w w' := by
  have HSh := Lib.hid (short_any ha)
  clear ha
  go_enter Try.func11, Try.ntmps11
  go_wp2_with fail
  refine HSh.out.mono ?_
  rintro e w0 ⟨v1, rfl, hv1, rfl⟩
  obtain ⟨A, hA⟩ : ∃ A, A = A0.take 30 := ⟨_, rfl⟩
  have hAl : A.length ≤ 30 := by rw [hA, List.length_take]; omega
  rw [← hA] at hv1
  have HA := Lib.hid hv1
  have HL := Lib.hid hAl
  obtain ⟨pa, ca, rfl, -, -, -⟩ := hv1
  clear hA hAl HSh
  have B0 := Lib.hid (Below.refl w.heap.size w)
  go_wp2_with fail
  refine (of_any (ThIn.up HA.out B0.out) (by have := HL.out; omega)).mono ?_
  rintro e w1 ⟨b1, Y1, rfl, hm1, hy1, hb1⟩
  have B1 := Lib.hid (B0.out.trans (hb1.mono B0.out.size))
  have hb2 := below_new' w1 (.cells #[.nilIface, curV b1, .nilIface] 30)
  have HMe := Lib.hid (merge_any (S := fun _ => True) (curs_one (hm1.below hb2)) (curIn_block [none, some b1, none] (heap_alloc_new w1 _) rfl (by simp) trivial) (by simp))
  have HY1 := Lib.hid (And.intro hy1 (B1.out.trans (hb2.mono B1.out.size)))
  clear hm1 hy1 hb1 hb2
  go_wp2_with fail
  refine HMe.out.mono ?_
  rintro e w2 ⟨b2, Y2, rfl, hm2, hy2, hb2⟩
  have hm2 : MadeAt Tt b2 Y2 A w2 := by have := merge_mid A; rw [← this]; exact hm2
  have B2 := Lib.hid (HY1.out.2.trans (hb2.mono HY1.out.2.size))
  have HM2 := Lib.hid (And.intro hm2 (show ∀ k, Y2 k → w.heap.size ≤ k from fun k e => by
    rcases hy2 k e with (((e | e) | e) | e) | e
    · exact e.elim
    · exact e.elim
    · exact HY1.out.1 k e
    · exact e.elim
    · exact Nat.le_trans HY1.out.2.size e))
  clear hm2 hy2 hb2 HMe HY1
  go_wp2_with fail
  refine (rest_any HM2.out.1 (by have := HL.out; omega)).mono ?_
  rintro e w3 ⟨v3, rfl, ho3, hu3, -⟩
  have B3 := Lib.hid (B2.out.trans (hu3.below B2.out.size (fun x _ e => HM2.out.2 x e)))
  have ht3 : ThIn (fun k => k < w3.heap.size) w3 v3 A := ho3.in_ _ (fun k e => (ho3.lt k e).2)
  have HT3 := Lib.hid (fun W (hb : Below w3.heap.size w3 W) => ht3.keep (S' := fun _ => True) hb.size (fun k e _ => ⟨trivial, hb.block k e⟩))
  obtain ⟨p3, c3, rfl, -⟩ := id ht3
  have C3 := Lib.hid (Below.refl w3.heap.size w3)
  clear ho3 hu3 ht3 HM2
  go_wp2_with fail
  refine (of_any (ThIn.up HA.out B3.out) (by have := HL.out; omega)).mono ?_
  rintro e w4 ⟨b4, Y4, rfl, hm4, hy4, hb4⟩
  have C4 := Lib.hid (C3.out.trans (hb4.mono C3.out.size))
  clear hm4 hy4 hb4
  go_wp2_with fail
  refine (once_nil (some b4) w4).mono ?_
  rintro e w5 ⟨b5, Y5, rfl, hm5, hy5, hb5⟩
  have C5 := Lib.hid (C4.out.trans (hb5.mono C4.out.size))
  have HM5 := Lib.hid (And.intro hm5 hy5)
  clear hm5 hy5 hb5
  go_wp2_with fail
  refine (rest_any HM5.out.1 (by simp)).mono ?_
  rintro e w6 ⟨v6, rfl, ho6, hu6, -⟩
  have C6 := Lib.hid (C5.out.trans (hu6.below C5.out.size (fun x _ e => Nat.le_trans C4.out.size (HM5.out.2 x e))))
  obtain ⟨p6, c6, rfl, -⟩ := ho6.in_ (fun _ => True) (fun _ _ => trivial)
  clear ho6 hu6 HM5
  go_wp2_with fail
  refine (of_any (ThIn.up HA.out (B3.out.trans (C6.out.mono B3.out.size))) (by have := HL.out; omega)).mono ?_
  rintro e w7 ⟨b7, Y7, rfl, hm7, hy7, hb7⟩
  have C7 := Lib.hid (C6.out.trans (hb7.mono C6.out.size))
  have HBo := Lib.hid (both_any (a := (none, [])) (b := (some b7, A)) (F := fun _ => False) (G := Y7) (w := w7) ⟨rfl, fun _ e => e⟩ hm7 (fun _ e => e.elim))
  have HY7 := Lib.hid hy7
  clear hm7 hy7 hb7
  go_wp2_with fail
  refine HBo.out.mono ?_
  rintro e w8 ⟨b8, Y8, rfl, hm8, hy8, hb8⟩
  have C8 := Lib.hid (C7.out.trans (hb8.mono C7.out.size))
  have hm8 : MadeAt Tt b8 Y8 [] w8 := hm8
  have HM8 := Lib.hid (And.intro hm8 (show ∀ k, Y8 k → w3.heap.size ≤ k from fun k e => by
    rcases hy8 k e with (e | e) | e
    · exact e.elim
    · exact Nat.le_trans C6.out.size (HY7.out k e)
    · exact Nat.le_trans C7.out.size e))
  clear hm8 hy8 hb8 HBo HY7
  go_wp2_with fail
  refine (rest_any HM8.out.1 (by simp)).mono ?_
  rintro e w9 ⟨v9, rfl, ho9, hu9, -⟩
  have C9 := Lib.hid (C8.out.trans (hu9.below C8.out.size (fun x _ e => HM8.out.2 x e)))
  obtain ⟨p9, c9, rfl, -⟩ := ho9.in_ (fun _ => True) (fun _ _ => trivial)
  clear ho9 hu9 HM8
  go_wp2_with fail
  refine (of_any (ThIn.up HA.out (B3.out.trans (C9.out.mono B3.out.size))) (by have := HL.out; omega)).mono ?_
  rintro e w10 ⟨b10, Y10, rfl, hm10, hy10, hb10⟩
  have C10 := Lib.hid (C9.out.trans (hb10.mono C9.out.size))
  have HLe := Lib.hid (less_any (a := (some b10, A)) (b := (none, [])) (F := Y10) (G := fun _ => False) (w := w10) hm10 ⟨rfl, fun _ e => e⟩ (fun _ _ e => e))
  have HY10 := Lib.hid hy10
  clear hm10 hy10 hb10
  go_wp2_with fail
  refine HLe.out.mono ?_
  rintro e w11 ⟨b11, Y11, rfl, hm11, hy11, hb11⟩
  have C11 := Lib.hid (C10.out.trans (hb11.mono C10.out.size))
  have hm11 : MadeAt Tt b11 Y11 A w11 := by have := less_all A; rw [← this]; exact hm11
  have HM11 := Lib.hid (And.intro hm11 (show ∀ k, Y11 k → w3.heap.size ≤ k from fun k e => by
    rcases hy11 k e with (e | e) | e
    · exact Nat.le_trans C9.out.size (HY10.out k e)
    · exact e.elim
    · exact Nat.le_trans C10.out.size e))
  clear hm11 hy11 hb11 HLe HY10
  go_wp2_with fail
  refine (rest_any HM11.out.1 (by have := HL.out; omega)).mono ?_
  rintro e w12 ⟨v12, rfl, ho12, hu12, -⟩
  have C12 := Lib.hid (C11.out.trans (hu12.below C11.out.size (fun x _ e => HM11.out.2 x e)))
  have ht12 : ThIn (fun k => k < w12.heap.size) w12 v12 A := ho12.in_ _ (fun k e => (ho12.lt k e).2)
  have HT12 := Lib.hid (fun W (hb : Below w12.heap.size w12 W) => ht12.keep (S' := fun _ => True) hb.size (fun k e _ => ⟨trivial, hb.block k e⟩))
  obtain ⟨p12, c12, rfl, -⟩ := id ht12
  have D12 := Lib.hid (Below.refl w12.heap.size w12)
  clear ho12 hu12 ht12 HM11
  go_wp2_with fail
  refine (of_any (ThIn.up HA.out (B3.out.trans (C12.out.mono B3.out.size))) (by have := HL.out; omega)).mono ?_
  rintro e w13 ⟨b13, Y13, rfl, hm13, hy13, hb13⟩
  have D13 := Lib.hid (D12.out.trans (hb13.mono D12.out.size))
  clear hm13 hy13 hb13
  go_wp2_with fail
  refine (only_nil (some b13) w13).mono ?_
  rintro e w14 ⟨b14, Y14, rfl, hm14, hy14, hb14⟩
  have D14 := Lib.hid (D13.out.trans (hb14.mono D13.out.size))
  have HM14 := Lib.hid (And.intro hm14 hy14)
  clear hm14 hy14 hb14
  go_wp2_with fail
  refine (rest_any HM14.out.1 (by simp)).mono ?_
  rintro e w15 ⟨v15, rfl, ho15, hu15, -⟩
  have D15 := Lib.hid (D14.out.trans (hu15.below D14.out.size (fun x _ e => Nat.le_trans D13.out.size (HM14.out.2 x e))))
  obtain ⟨p15, c15, rfl, -⟩ := ho15.in_ (fun _ => True) (fun _ _ => trivial)
  clear ho15 hu15 HM14
  go_wp2_with fail
  refine (first_nil 3 (by omega) w15).mono ?_
  rintro e w16 ⟨b16, Y16, rfl, hm16, hy16, hb16⟩
  have D16 := Lib.hid (D15.out.trans (hb16.mono D15.out.size))
  have HM16 := Lib.hid (And.intro hm16 hy16)
  clear hm16 hy16 hb16
  go_wp2_with fail
  refine (rest_any HM16.out.1 (by simp)).mono ?_
  rintro e w17 ⟨v17, rfl, ho17, hu17, -⟩
  have D17 := Lib.hid (D16.out.trans (hu17.below D16.out.size (fun x _ e => Nat.le_trans D15.out.size (HM16.out.2 x e))))
  obtain ⟨p17, c17, rfl, -⟩ := ho17.in_ (fun _ => True) (fun _ _ => trivial)
  clear ho17 hu17 HM16
  go_wp2_with fail
  refine (sum_zero w17).mono ?_
  rintro e w18 ⟨b18, Y18, rfl, hm18, hy18, hb18⟩
  have D18 := Lib.hid (D17.out.trans (hb18.mono D17.out.size))
  have HR18 := Lib.hid (And.intro (rest_zeroC hm18) hy18)
  clear hm18 hy18 hb18
  go_wp2_with fail
  refine HR18.out.1.mono ?_
  rintro e w19 ⟨rfl, hu19⟩
  have D19 := Lib.hid (D18.out.trans (hu19.below D18.out.size (fun x _ e => Nat.le_trans D17.out.size (HR18.out.2 x e))))
  have HT3' := Lib.hid (HT3.out w19 (C12.out.trans (D19.out.mono C12.out.size)))
  have B19 := Lib.hid (B3.out.trans ((C12.out.trans (D19.out.mono C12.out.size)).mono B3.out.size))
  clear hu19 HR18
  go_wp2_with fail
  refine (same_any HT3'.out (ThIn.up HA.out B19.out) (by have := HL.out; omega) (by have := HL.out; omega)).mono ?_
  rintro e w20 ⟨rfl, hb20⟩
  rw [decide_eq_true rfl]
  have D20 := Lib.hid (D19.out.trans (hb20.mono D19.out.size))
  have B20 := Lib.hid (B19.out.trans (hb20.mono B19.out.size))
  clear hb20
  go_wp2_with fail
  refine (same_any (HT12.out w20 D20.out) (ThIn.up HA.out B20.out) (by have := HL.out; omega) (by have := HL.out; omega)).mono ?_
  rintro e w21 ⟨rfl, hb21⟩
  rw [decide_eq_true rfl]
  have B21 := Lib.hid (B20.out.trans (hb21.mono B20.out.size))
  clear hb21
  go_wp2_with fail
  refine (restm_any (c := (none, [])) (F := fun _ => False) (w := w21) ⟨rfl, fun _ e => e⟩ (by simp)).mono ?_
  rintro e w22 ⟨v22, rfl, ho22, hu22⟩
  have B22 := Lib.hid (B21.out.trans (hu22.below B21.out.size (fun _ _ e => e.elim)))
  obtain ⟨p22, c22, rfl, -⟩ := ho22.in_ (fun _ => True) (fun _ _ => trivial)
  clear ho22 hu22
  go_wp2_with fail
  refine (alive_true w22).mono ?_
  rintro e w23 ⟨rfl, hb23⟩
  have B23 := Lib.hid (B22.out.trans (hb23.mono B22.out.size))
  clear hb23
  go_wp2_with fail
  go_ret
  exact ⟨rfl, B23.out⟩
end Go.Proofs.Ytlccleafjpeccaa
