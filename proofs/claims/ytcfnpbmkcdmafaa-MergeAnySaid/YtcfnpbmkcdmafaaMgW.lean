/-
  The walk of MergeHolds.
-/
import Derived.Test.YtcfnpbmkcdmafaaMgV
import Derived.Test.YtcfnpbmkcdmafaaMgGh
namespace Go.Proofs.Ytcfnpbmkcdmafaa
open Go Go.RowKit Go.Shelf

set_option maxRecDepth 100000 in
set_option maxHeartbeats 8000000 in
theorem lholds (va : Value) (A0 : List Th) (vb : Value) (B0 : List Th) (w : World) (ha : ThIn (fun b => b < w.heap.size) w va A0) (hb : ThIn (fun b => b < w.heap.size) w vb B0) :
    Calls Try.prog 5 #[va, vb] w fun e w' => e = .returned (.bool true) ∧ Below w.heap.size w w' := by
  have HSa := Lib.hid (short_any ha)
  have HSb := Lib.hid (short_any hb)
  clear ha hb
  go_enter Try.func5, Try.ntmps5
  go_wp2_with fail
  refine HSa.out.mono ?_
  rintro e w1 ⟨a1, rfl, ha, rfl⟩
  go_wp2_with fail
  refine HSb.out.mono ?_
  rintro e w1 ⟨b1, rfl, hb, rfl⟩
  clear HSa HSb
  obtain ⟨A, hA⟩ : ∃ A, A = A0.take 30 := ⟨_, rfl⟩
  obtain ⟨B, hB⟩ : ∃ B, B = B0.take 30 := ⟨_, rfl⟩
  rw [← hA] at ha
  rw [← hB] at hb
  have hAl : A.length ≤ 30 := by rw [hA, List.length_take]; omega
  have hBl : B.length ≤ 30 := by rw [hB, List.length_take]; omega
  have HA := Lib.hid ha
  have HB := Lib.hid hb
  have HLa := Lib.hid hAl
  have HLb := Lib.hid hBl
  obtain ⟨pa, ca, rfl, -, -, -⟩ := ha
  obtain ⟨pb, cb, rfl, -, -, -⟩ := hb
  clear hA hB hAl hBl
  have B0 := Lib.hid (Below.refl w.heap.size w)
  go_wp2_with fail
  refine (of_any (ThIn.up HA.out B0.out) (by have := HLa.out; omega)).mono ?_
  rintro e w1 ⟨b1, Y1, rfl, hm1, hy1, hb1⟩
  have B1 := Lib.hid (B0.out.trans (hb1.mono B0.out.size))
  have HM1 := Lib.hid (And.intro hm1 hy1)
  clear hm1 hy1 hb1
  go_wp2_with fail
  refine (of_any (ThIn.up HB.out B1.out) (by have := HLb.out; omega)).mono ?_
  rintro e w2 ⟨b2, Y2, rfl, hm2, hy2, hb2⟩
  have B2 := Lib.hid (B1.out.trans (hb2.mono B1.out.size))
  have HC := Lib.hid (both_any (a := (some b1, A)) (b := (some b2, B)) (F := Y1) (G := Y2) (w := w2) (HM1.out.1.below hb2) hm2 (fun k e e' => by have := HM1.out.1.inside k e; have := hy2 k e'; omega))
  have HY := Lib.hid (show ∀ k, (Y1 k ∨ Y2 k) ∨ w2.heap.size ≤ k → w.heap.size ≤ k from fun k e => by
    have := B1.out.size
    have := B2.out.size
    rcases e with (e | e) | e
    · have := HM1.out.2 k e; omega
    · have := hy2 k e; omega
    · omega)
  clear hm2 hy2 hb2 HM1
  go_wp2_with fail
  refine HC.out.mono ?_
  rintro e w3 ⟨b3, Y3, rfl, hm3, hy3, hb3⟩
  have B3 := Lib.hid (B2.out.trans (hb3.mono B2.out.size))
  have HM3 := Lib.hid (And.intro hm3 (show ∀ k, Y3 k → w.heap.size ≤ k from fun k e => HY.out k (hy3 k e)))
  have hol : (onlyL (amStep true) B A).length ≤ 30 := Nat.le_trans (only_len _ _ _) HLa.out
  have HOl := Lib.hid hol
  clear hm3 hy3 hb3 HC HY hol
  go_wp2_with fail
  refine (rest_any HM3.out.1 (by have := HOl.out; omega)).mono ?_
  rintro e w4 ⟨v4, rfl, ho4, hu4, -⟩
  have B4 := Lib.hid (B3.out.trans (hu4.below B3.out.size (fun x _ e => HM3.out.2 x e)))
  have HO4 := Lib.hid ho4
  have HV4 := Lib.hid (fun k (e : v4.ownBlock = some k) => (ho4.lt k e).2)
  clear ho4 hu4 HM3
  go_wp2_with fail
  refine (of_any (ThIn.up HA.out B4.out) (by have := HLa.out; omega)).mono ?_
  rintro e w5 ⟨b5, Y5, rfl, hm5, hy5, hb5⟩
  have B5 := Lib.hid (B4.out.trans (hb5.mono B4.out.size))
  have HM5 := Lib.hid (And.intro hm5 hy5)
  have HO5 := Lib.hid (HO4.out.keep (fun k e => hb5.block k (HO4.out.lt k e).2))
  clear hm5 hy5 hb5 HO4
  go_wp2_with fail
  refine (of_any (ThIn.up HB.out B5.out) (by have := HLb.out; omega)).mono ?_
  rintro e w6 ⟨b6, Y6, rfl, hm6, hy6, hb6⟩
  have B6 := Lib.hid (B5.out.trans (hb6.mono B5.out.size))
  have HO6 := Lib.hid (HO5.out.keep (fun k e => hb6.block k (HO5.out.lt k e).2))
  have HC := Lib.hid (less_any (a := (some b5, A)) (b := (some b6, B)) (F := Y5) (G := Y6) (w := w6) (HM5.out.1.below hb6) hm6 (fun k e e' => by have := HM5.out.1.inside k e; have := hy6 k e'; omega))
  have HY := Lib.hid (show ∀ k, (Y5 k ∨ Y6 k) ∨ w6.heap.size ≤ k → w4.heap.size ≤ k from fun k e => by
    have s5 : w4.heap.size ≤ w5.heap.size := by have := HO5.out; have h := hb6.size; exact Nat.le_of_not_lt fun hlt => by have := HM5.out.2 b5 HM5.out.1.has; have := HM5.out.1.inside b5 HM5.out.1.has; omega
    have := hb6.size
    rcases e with (e | e) | e
    · have := HM5.out.2 k e; omega
    · have := hy6 k e; omega
    · omega)
  clear hm6 hy6 hb6 HM5 HO5
  go_wp2_with fail
  refine HC.out.mono ?_
  rintro e w7 ⟨b7, Y7, rfl, hm7, hy7, hb7⟩
  have B7 := Lib.hid (B6.out.trans (hb7.mono B6.out.size))
  have HM7 := Lib.hid (And.intro hm7 (show ∀ k, Y7 k → w4.heap.size ≤ k from fun k e => HY.out k (hy7 k e)))
  have HO7 := Lib.hid (HO6.out.keep (fun k e => hb7.block k (HO6.out.lt k e).2))
  have hol : (onlyL (amStep false) B A).length ≤ 30 := Nat.le_trans (only_len _ _ _) HLa.out
  have HOm := Lib.hid hol
  clear hm7 hy7 hb7 HC HY hol HO6
  go_wp2_with fail
  refine (rest_any HM7.out.1 (by have := HOm.out; omega)).mono ?_
  rintro e w8 ⟨v8, rfl, ho8, hu8, -⟩
  have B8 := Lib.hid (B7.out.trans (hu8.below B7.out.size (fun x _ e => by have := HM7.out.2 x e; have := B4.out.size; omega)))
  have HO8 := Lib.hid (HO7.out.off hu8 (fun k e e' => by have := HV4.out k e; have := HM7.out.2 k e'; omega))
  have HP8 := Lib.hid ho8
  clear ho8 hu8 HM7 HO7
  go_wp2_with fail
  refine (held_any (ThIn.up HA.out B8.out) (ThIn.up HB.out B8.out) (by have := HLa.out; omega) (by have := HLb.out; omega) true).mono ?_
  rintro e w9 ⟨v9, rfl, ho9, hb9⟩
  have B9 := Lib.hid (B8.out.trans (hb9.mono B8.out.size))
  have HO9 := Lib.hid (HO8.out.below hb9)
  have HP9 := Lib.hid (HP8.out.below hb9)
  have HR9 := Lib.hid ho9
  clear ho9 hb9 HO8 HP8
  go_wp2_with fail
  refine (same_any (HO9.out.in_ (fun _ => True) (fun _ _ => trivial)) (HR9.out.in_ (fun _ => True) (fun _ _ => trivial)) (by have := HOl.out; omega) (by have := HOl.out; omega)).mono ?_
  rintro e w10 ⟨rfl, hb10⟩
  have B10 := Lib.hid (B9.out.trans (hb10.mono B9.out.size))
  have HP10 := Lib.hid (HP9.out.below hb10)
  rw [decide_eq_true rfl]
  clear hb10 HO9 HP9 HR9
  go_wp2_with fail
  refine (held_any (ThIn.up HA.out B10.out) (ThIn.up HB.out B10.out) (by have := HLa.out; omega) (by have := HLb.out; omega) false).mono ?_
  rintro e w11 ⟨v11, rfl, ho11, hb11⟩
  have B11 := Lib.hid (B10.out.trans (hb11.mono B10.out.size))
  have HP11 := Lib.hid (HP10.out.below hb11)
  have HR11 := Lib.hid ho11
  clear ho11 hb11 HP10
  go_wp2_with fail
  refine (same_any (HP11.out.in_ (fun _ => True) (fun _ _ => trivial)) (HR11.out.in_ (fun _ => True) (fun _ _ => trivial)) (by have := HOm.out; omega) (by have := HOm.out; omega)).mono ?_
  rintro e w12 ⟨rfl, hb12⟩
  have B12 := Lib.hid (B11.out.trans (hb12.mono B11.out.size))
  rw [decide_eq_true rfl]
  clear hb12 HP11 HR11
  go_wp2_with fail
  refine (alive_true w12).mono ?_
  rintro e w13 ⟨rfl, hb13⟩
  have B13 := Lib.hid (B12.out.trans (hb13.mono B12.out.size))
  clear hb13
  go_wp2_with fail
  go_ret
  exact ⟨rfl, B13.out⟩
end Go.Proofs.Ytcfnpbmkcdmafaa
