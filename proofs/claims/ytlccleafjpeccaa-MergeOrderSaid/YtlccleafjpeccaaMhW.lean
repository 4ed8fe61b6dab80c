/-
  The walk of MergeMerges.
-/
import Derived.Test.YtlccleafjpeccaaMhC
import Derived.Test.YtlccleafjpeccaaMhE
import Derived.Test.YtlccleafjpeccaaMhG
namespace Go.Proofs.Ytlccleafjpeccaa
open Go Go.RowKit Go.Shelf

theorem cutL_facts (LL : List (List Th)) : (cutL LL).length ≤ 6 ∧ (∀ L ∈ cutL LL, L.length ≤ 30) ∧ tot (cutL LL) ≤ 180 := by
  have h1 : (cutL LL).length ≤ 6 := by unfold cutL; rw [List.length_map, List.length_take]; omega
  have h2 : ∀ L ∈ cutL LL, L.length ≤ 30 := by
    intro L hL
    unfold cutL at hL
    obtain ⟨M, -, rfl⟩ := List.mem_map.1 hL
    rw [List.length_take]; omega
  refine ⟨h1, h2, ?_⟩
  have := tot_le (cutL LL) 30 h2
  have : (cutL LL).length * 30 ≤ 6 * 30 := Nat.mul_le_mul_right _ h1
  omega
theorem once_len (L : List Th) : (onceL L).length ≤ L.length := only_len _ _ _
set_option maxRecDepth 100000 in
set_option maxHeartbeats 20000000 in
theorem lmerges (va : Value) (LL0 : List (List Th)) (w : World) (ha : ArgRr w va LL0) :
    Calls Try.prog 4 #[va] w fun e w' => e = .returned (.bool true) ∧ Below w.heap.size w w' := by
  have HCut := Lib.hid (cut_any ha)
  clear ha
  go_enter Try.func4, Try.ntmps4
  go_wp2_with fail
  refine HCut.out.mono ?_
  rintro e W1 ⟨v1, rfl, hr, hb1⟩
  obtain ⟨LL, hLL⟩ : ∃ LL, LL = cutL LL0 := ⟨_, rfl⟩
  obtain ⟨f1, f2, f3⟩ := cutL_facts LL0
  rw [← hLL] at hr f1 f2 f3
  have hri : RowsIn (fun k => k < W1.heap.size) W1 v1 LL := hr.in_ (fun k e => Nat.lt_of_lt_of_le e.2 hb1.size) (fun k e => (hr.lt k e).2)
  have HR := Lib.hid (fun W (hb : Below W1.heap.size W1 W) => hri.below hb)
  have HF := Lib.hid (And.intro f1 (And.intro f2 f3))
  have HB1 := Lib.hid hb1
  have HCu := Lib.hid (cursors_any hri (by omega) (fun L hL => by have := f2 L hL; omega))
  obtain ⟨p1, c1, rfl, -⟩ := id hri
  clear hr hLL hri hb1 HCut f2 f3
  have B1 := Lib.hid (Below.refl W1.heap.size W1)
  go_wp2_with fail
  refine HCu.out.mono ?_
  rintro e w2 ⟨v2, rfl, C, Y, k1, k2, k3, k4, k5, k6⟩
  rw [List.take_length] at k1
  have hCl : C.length ≤ 1000 := by
    have := congrArg List.length k1
    rw [List.length_map] at this
    omega
  have HMe := Lib.hid (merge_any k2 (own_curIn (cs := C.map (·.1)) (by rw [List.map_map]; exact k3)) hCl)
  have HC2 := Lib.hid (And.intro k1 k4)
  have B2 := Lib.hid k6
  clear k1 k2 k3 k4 k5 k6 hCl HCu
  go_wp2_with fail
  refine HMe.out.mono ?_
  rintro e w3 ⟨b3, Y3, rfl, hm3, hy3, hb3⟩
  rw [HC2.out.1] at hm3
  have B3 := Lib.hid (B2.out.trans (hb3.mono B2.out.size))
  have HM3 := Lib.hid (And.intro hm3 (show ∀ k, Y3 k → W1.heap.size ≤ k from fun k e => by
    rcases hy3 k e with e | e
    · exact HC2.out.2 k e
    · exact Nat.le_trans B2.out.size e))
  clear hm3 hy3 hb3 HMe HC2
  go_wp2_with fail
  refine (rest_any HM3.out.1 (by rw [mergeL_len]; have := HF.out.2.2; omega)).mono ?_
  rintro e w4 ⟨v4, rfl, ho4, hu4, -⟩
  have B4 := Lib.hid (B3.out.trans (hu4.below B3.out.size (fun x _ e => HM3.out.2 x e)))
  have HO4 := Lib.hid ho4
  clear ho4 hu4 HM3
  have HRm := Lib.hid (rmerge_any (HR.out w4 B4.out) (by have := HF.out.1; omega) (by have := HF.out.2.2; omega))
  go_wp2_with fail
  refine HRm.out.mono ?_
  rintro e w5 ⟨v5, rfl, ho5, hb5⟩
  have B5 := Lib.hid (B4.out.trans (hb5.mono B4.out.size))
  have HO5 := Lib.hid (HO4.out.below hb5)
  have HP5 := Lib.hid ho5
  clear ho5 hb5 HO4 HRm
  go_wp2_with fail
  refine (same_any (HO5.out.in_ (fun _ => True) (fun _ _ => trivial)) (HP5.out.in_ (fun _ => True) (fun _ _ => trivial)) (by rw [mergeL_len]; have := HF.out.2.2; omega) (by rw [mergeL_len]; have := HF.out.2.2; omega)).mono ?_
  rintro e w6 ⟨rfl, hb6⟩
  rw [decide_eq_true rfl]
  have B6 := Lib.hid (B5.out.trans (hb6.mono B5.out.size))
  clear hb6 HO5 HP5
  go_wp2_with fail
  go_loopw [5] (fun i wr => ∃ n : Nat, n ≤ LL.length ∧ i = .int .i64 n ∧ Hid (Below W1.heap.size W1 wr)) (fun i _ => LL.length - (intOf i).toNat)
  case atStart => exact ⟨0, Nat.zero_le _, rfl, B6⟩
  case round =>
    obtain ⟨n, hn, rfl, HBr⟩ := hrel
    by_cases hlt : n < LL.length
    · have hlt' : (n : Int) < (LL.length : Int) := by omega
      obtain ⟨b, off, rfl, hbS, hbl, hrows⟩ := (HR.out wr HBr.out).rows (by rintro rfl; simp at hlt)
      obtain ⟨pu, cu, hcell, hth⟩ := hrows n hlt
      obtain ⟨L, hL⟩ : ∃ L, L = LL[n] := ⟨_, rfl⟩
      have hLl : L.length ≤ 30 := by rw [hL]; exact HF.out.2.1 _ (List.getElem_mem _)
      rw [← hL] at hcell hth
      have HLl := Lib.hid hLl
      have HT := Lib.hid (show ∀ W, Below wr.heap.size wr W → ThIn (fun k => k < W1.heap.size) W (.slice pu L.length cu) L ∧ W.cell? ⟨b, off + n, none⟩ = some (.slice pu L.length cu) from fun W hb => ⟨hth.keep hb.size (fun k e hk => ⟨e, hb.block k hk⟩), (hb.cell (p := ⟨b, off + n, none⟩) hbl).trans hcell⟩)
      clear hrows hth hL hLl
      have Br := Lib.hid (Below.refl wr.heap.size wr)
      go_wp2_with fail
      refine (of_any (HT.out wr Br.out).1 (by have := HLl.out; omega)).mono ?_
      rintro e w7 ⟨b7, Y7, rfl, hm7, hy7, hb7⟩
      have B7 := Lib.hid (Br.out.trans (hb7.mono Br.out.size))
      have HM7 := Lib.hid hy7
      have HOn := Lib.hid (once_any (c := (some b7, L)) (F := Y7) hm7)
      clear hm7 hy7 hb7
      go_wp2_with fail
      refine HOn.out.mono ?_
      rintro e w8 ⟨b8, Y8, rfl, hm8, hy8, hb8⟩
      have B8 := Lib.hid (B7.out.trans (hb8.mono B7.out.size))
      have HM8 := Lib.hid (And.intro hm8 (show ∀ k, Y8 k → wr.heap.size ≤ k from fun k e => by
        rcases hy8 k e with e | e
        · exact HM7.out k e
        · exact Nat.le_trans B7.out.size e))
      clear hm8 hy8 hb8 HM7 HOn
      go_wp2_with fail
      refine (rest_any HM8.out.1 (by have := once_len L; have := HLl.out; show (onceL L).length ≤ 1999; omega)).mono ?_
      rintro e w9 ⟨v9, rfl, ho9, hu9, -⟩
      have B9 := Lib.hid (B8.out.trans (hu9.below B8.out.size (fun x _ e => HM8.out.2 x e)))
      have HO9 := Lib.hid ho9
      obtain ⟨ht9, hc9⟩ := HT.out w9 B9.out
      have HRo := Lib.hid (ronce_any ht9 (by have := HLl.out; omega))
      clear ho9 hu9 HM8 ht9
      go_wp2_with fail
      refine HRo.out.mono ?_
      rintro e w10 ⟨v10, rfl, ho10, hb10⟩
      have B10 := Lib.hid (B9.out.trans (hb10.mono B9.out.size))
      have HO10 := Lib.hid (HO9.out.below hb10)
      have HP10 := Lib.hid ho10
      clear ho10 hb10 HO9 HRo
      go_wp2_with fail
      refine (same_any (HO10.out.in_ (fun _ => True) (fun _ _ => trivial)) (HP10.out.in_ (fun _ => True) (fun _ _ => trivial)) (by have := once_len L; have := HLl.out; show (onceL L).length ≤ _; omega) (by have := once_len L; have := HLl.out; omega)).mono ?_
      rintro e w11 ⟨rfl, hb11⟩
      rw [decide_eq_true rfl]
      have B11 := Lib.hid (HBr.out.trans ((B10.out.trans (hb11.mono B10.out.size)).mono HBr.out.size))
      clear hb11 HO10 HP10
      go_wp2_with fail
      go_roundw
      case rel => exact ⟨n + 1, hlt, by simp, B11⟩
      case measure => simp [intOf]; omega
    · obtain rfl : n = LL.length := by omega
      go_wp2_with fail
      refine (alive_true wr).mono ?_
      rintro e w12 ⟨rfl, hb12⟩
      have B12 := Lib.hid (HB1.out.trans ((HBr.out.trans (hb12.mono HBr.out.size)).mono HB1.out.size))
      clear hb12
      go_wp2_with fail
      go_ret
      exact ⟨rfl, B12.out⟩
end Go.Proofs.Ytlccleafjpeccaa
