/-
  The walk of MergeSums.
-/
import Derived.Test.YtcfnpbmkcdmafaaMdC
import Derived.Test.YtcfnpbmkcdmafaaMgO
import Derived.Test.YtcfnpbmkcdmafaaMcTX
namespace Go.Proofs.Ytcfnpbmkcdmafaa
open Go Go.RowKit Go.Shelf

theorem cutC_facts (LL : List (List Ct)) : (cutC LL).length ≤ 6 ∧ (∀ L ∈ cutC LL, L.length ≤ 30) ∧ totC (cutC LL) ≤ 180 := by
  have h1 : (cutC LL).length ≤ 6 := by unfold cutC; rw [List.length_map, List.length_take]; omega
  have h2 : ∀ L ∈ cutC LL, L.length ≤ 30 := by
    intro L hL
    unfold cutC at hL
    obtain ⟨M, -, rfl⟩ := List.mem_map.1 hL
    rw [List.length_take]; omega
  refine ⟨h1, h2, ?_⟩
  have := totC_le (cutC LL) 30 h2
  have : (cutC LL).length * 30 ≤ 6 * 30 := Nat.mul_le_mul_right _ h1
  omega
theorem LikeC.inside {St : Nat → Prop} {w : World} {H : List Raw} {L : List Ct} (h : LikeC St w H L) : LikeC (fun k => St k ∧ k < w.heap.size) w H L := ⟨h.1, fun j a b => ⟨(h.2 j a b).1, (h.2 j a b).2.inside⟩⟩
set_option maxRecDepth 100000 in
set_option maxHeartbeats 20000000 in
theorem lsums (va : Value) (LL0 : List (List Ct)) (w : World) (ha : RowsCt (fun b => b < w.heap.size) w va LL0) :
    Calls Try.prog 7 #[va] w fun e w' => e = .returned (.bool true) ∧ Below w.heap.size w w' := by
  have HCut := Lib.hid (counted_any ha)
  clear ha
  go_enter Try.func7, Try.ntmps7
  go_wp2_with fail
  refine HCut.out.mono ?_
  rintro e W1 ⟨v1, rfl, hr, hb1⟩
  obtain ⟨LL, hLL⟩ : ∃ LL, LL = cutC LL0 := ⟨_, rfl⟩
  obtain ⟨f1, f2, f3⟩ := cutC_facts LL0
  rw [← hLL] at hr f1 f2 f3
  have hri : RowsCt (fun k => k < W1.heap.size) W1 v1 LL := hr.in_ (fun k e => Nat.lt_of_lt_of_le e.2 hb1.size) (fun k e => (hr.lt k e).2)
  have HR := Lib.hid (fun W (hb : Below W1.heap.size W1 W) => hri.below hb)
  have HF := Lib.hid (And.intro f1 f3)
  have HB1 := Lib.hid hb1
  have HSu := Lib.hid (sums_any hri (by omega) (fun L hL => by have := f2 L hL; omega))
  obtain ⟨p1, c1, rfl, -⟩ := id hri
  clear hr hLL hri hb1 HCut f1 f2 f3
  go_wp2_with fail
  refine HSu.out.mono ?_
  rintro e w2 ⟨b2, Y2, rfl, hm2, hy2, hb2⟩
  have HM2 := Lib.hid (And.intro hm2 (And.intro hy2 hb2))
  clear hm2 hy2 hb2 HSu
  go_wp2_with fail
  refine (rest_anyC HM2.out.2.2.size HM2.out.1 (by have := sumsL_len LL; have := HF.out.2; omega)).mono ?_
  rintro e w3 ⟨v3, H3, rfl, ho3, hl3, hu3⟩
  have hb3 : Below W1.heap.size W1 w3 := HM2.out.2.2.trans (hu3.below HM2.out.2.2.size (fun x _ e => HM2.out.2.1 x e))
  have B3 := Lib.hid hb3
  have HO3 := Lib.hid (And.intro ho3 hl3)
  have hsz := HM2.out.2.2.size
  have HSm := Lib.hid (rsum_any (HR.out w3 hb3) (by have := HF.out.1; omega) (by have := HF.out.2; omega))
  clear ho3 hl3 hu3 hb3 HM2
  go_wp2_with fail
  refine HSm.out.mono ?_
  rintro e w4 ⟨v4, H4, rfl, ho4, hl4, hb4⟩
  have B4 := Lib.hid (B3.out.trans (hb4.mono B3.out.size))
  have HS4 := Lib.hid (show Calls Try.prog 39 #[v3, v4] w4 fun e w' => e = .returned (.bool true) ∧ Grown w4 w' from
    rsame_like v3 v4 H3 H4 (sumsL LL) w4 ((HO3.out.1.keep (fun k e => hb4.block k (HO3.out.1.lt k e).2)).in_ (fun _ => True) (fun _ _ => trivial)) (ho4.in_ (fun _ => True) (fun _ _ => trivial)) (by have := sumsL_len LL; have := HF.out.2; omega)
      ((HO3.out.2.inside).keep (fun _ _ _ => trivial) (fun k e _ => hb4.block k e.2)) (hl4.keep (fun _ _ _ => trivial) (fun _ _ _ => rfl)))
  clear ho4 hl4 hb4 HO3 HSm
  go_wp2_with fail
  refine HS4.out.mono ?_
  rintro e w5 ⟨rfl, hg5⟩
  have B5 := Lib.hid (B4.out.trans (hg5.below.mono B4.out.size))
  clear hg5 HS4
  go_wp2_with fail
  refine (alive_true w5).mono ?_
  rintro e w6 ⟨rfl, hb6⟩
  have B6 := Lib.hid (HB1.out.trans ((B5.out.trans (hb6.mono B5.out.size)).mono HB1.out.size))
  clear hb6
  go_wp2_with fail
  go_ret
  exact ⟨rfl, B6.out⟩
end Go.Proofs.Ytcfnpbmkcdmafaa
