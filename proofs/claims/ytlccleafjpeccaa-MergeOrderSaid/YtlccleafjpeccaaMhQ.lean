/-
  The walk of MergeOrder.
-/
import Derived.Test.YtlccleafjpeccaaMhP
import Derived.Test.YtlccleafjpeccaaMhW
import Derived.Test.YtlccleafjpeccaaMhT
import Derived.BigQuiet
namespace Go.Proofs.Ytlccleafjpeccaa
open Go Go.RowKit Go.Shelf Go.Maps

theorem OwnRr.inside {B : Nat} {S : Nat → Prop} {w : World} {v : Value} {LL : List (List Th)} (h : OwnRr B S w v LL) : OwnRr B (fun k => S k ∧ k < w.heap.size) w v LL := by
  obtain ⟨us, g1, g2, g3⟩ := h
  exact ⟨us, g1, g2, fun j hj hj' => (g3 j hj hj').keep (Nat.le_refl _) (fun k e hk => ⟨⟨e, hk⟩, rfl⟩)⟩
theorem OdJ.row {LL : List (List Th)} {w W1 : World} {n : Nat} {vL va : Value} {W : World} (h : OdJ LL w W1 n vL va W) (hn : n < LL.length) : ∃ gL cap pu cu, vL = .slice (some ⟨gL, 0, none⟩) LL.length cap ∧ w.heap.size ≤ gL ∧ gL < W.heap.size ∧ W.cell? ⟨gL, n, none⟩ = some (.slice pu LL[n].length cu) ∧ W.frozen? ⟨gL, n, none⟩ = false ∧ ThIn (fun k => k < W.heap.size) W (.slice pu LL[n].length cu) LL[n] := by
  have hl : ((markL LL).take n ++ LL.drop n).length = LL.length := by rw [List.length_append, List.length_take, markL_len, List.length_drop]; omega
  have hl2 : ((markL LL).take n).length = n := by rw [List.length_take, markL_len]; omega
  obtain ⟨us, h1, h2, h3⟩ := h.1
  rw [hl] at h1 h2
  have hnu : n < us.length := by omega
  have ht := h3 n hnu (by rw [hl]; exact hn)
  have e : ((markL LL).take n ++ LL.drop n)[n]'(by rw [hl]; exact hn) = LL[n] := by
    rw [List.getElem_append_right (by omega)]
    simp only [hl2, Nat.sub_self, List.getElem_drop, Nat.add_zero]
  rw [e] at ht
  rcases h2.2 with ⟨-, e0⟩ | ⟨g, cap, cur, rfl, hB, hg, -⟩
  · omega
  · obtain ⟨pu, cu, eu, -⟩ := id ht
    have hc := World.ownsRow.cells h2 (g := g) rfl n us[n] (List.getElem?_eq_getElem hnu)
    rw [addr_add, Nat.zero_add, eu] at hc
    rw [eu] at ht
    have hlt := (Array.getElem?_eq_some_iff.1 hg).1
    refine ⟨g, cap, pu, cu, rfl, hB, hlt, hc, frozen_of_row _ _ _ _ _ hg, ?_⟩
    obtain ⟨p, c, e2, g1, g2, g3⟩ := ht
    refine ⟨p, c, e2, g1, g2, g3.imp_right ?_⟩
    rintro ⟨b, off, q1, -, q3, q4⟩
    exact ⟨b, off, q1, q3, q3, q4⟩
theorem MkJ.spot {W1 W4 : World} {i : Nat} {L : List Th} {k g cap : Nat} {v : Value} {W : World} (h : MkJ W1 W4 i L k v W) (hk : k < L.length) (hv : v = .slice (some ⟨g, 0, none⟩) L.length cap) : (∃ u, W.cell? ⟨g, k * 2 + 1, none⟩ = some u) ∧ W.frozen? ⟨g, k * 2 + 1, none⟩ = false := by
  have e1 : ((markR i L).take k ++ L.drop k).length = L.length := by
    rw [List.length_append, List.length_take, markR_len, List.length_drop]; omega
  have h1 := h.1
  subst hv
  rcases h1.2 with ⟨e, -⟩ | ⟨g', cap', cur, e, hB, hg, -⟩
  · cases e
  · injection e with e _ _
    injection e with e
    injection e with e _ _
    subst e
    have hc := World.ownsRow.cells h1 (g := g) rfl (k * 2 + 1) _ (cellsTh_at ((markR i L).take k ++ L.drop k) k (by rw [e1]; exact hk)).2
    rw [addr_add, Nat.zero_add] at hc
    exact ⟨⟨_, hc⟩, frozen_of_row _ _ _ _ _ hg⟩
theorem own_shape {B : Nat} {w : World} {v : Value} {L : List Th} (h : OwnTh B w v L) (hL : 0 < L.length) : ∃ g cap, v = .slice (some ⟨g, 0, none⟩) L.length cap := by
  obtain ⟨g, cap, e, -⟩ := World.ownsRow.form h hL
  exact ⟨g, cap, e⟩
set_option maxRecDepth 100000 in
set_option maxHeartbeats 20000000 in
theorem lorder (va : Value) (LL0 : List (List Th)) (w : World) (ha : ArgRr w va LL0) :
    Calls Try.prog 8 #[va] w fun e w' => e = .returned (.bool true) ∧ Below w.heap.size w w' := by
  have HCut := Lib.hid (cut_any ha)
  clear ha
  go_enter Try.func8, Try.ntmps8
  go_wp2_with fail
  refine HCut.out.mono ?_
  rintro e W1 ⟨v1, rfl, hr, hb1⟩
  obtain ⟨LL, hLL⟩ : ∃ LL, LL = cutL LL0 := ⟨_, rfl⟩
  obtain ⟨f1, f2, f3⟩ := cutL_facts LL0
  rw [← hLL] at hr f1 f2 f3
  have hlt1 := fun k (e : v1.ownBlock = some k) => hr.lt k e
  have H0 : Hid (OdJ LL w W1 0 v1 (.slice none 0 0) W1) := Lib.hid (by
    obtain ⟨us, g1, g2, g3⟩ := hr
    exact ⟨⟨us, g1, g2, fun j hj hj' => (g3 j hj hj').keep (Nat.le_refl _) (fun k e _ => ⟨⟨.inl e.2, fun e' => by cases e'⟩, rfl⟩)⟩, OwnTh.nil _ _, hb1, Nat.le_refl _, fun i hi => by omega⟩)
  have HF := Lib.hid (And.intro f1 (And.intro f2 f3))
  have HB1 := Lib.hid hb1
  have HG := Lib.hid hlt1
  obtain ⟨p1, c1, rfl, -⟩ := hr.in_ (S' := fun _ => True) (fun _ _ => trivial) (fun _ _ => trivial)
  clear hr hLL hb1 HCut f2 f3 hlt1
  go_wp2_with fail
  go_loopw [3, 4] (fun va i wr => ∃ n : Nat, n ≤ LL.length ∧ i = .int .i64 n ∧ Hid (OdJ LL w W1 n (.slice p1 LL.length c1) va wr)) (fun _ i _ => LL.length - (intOf i).toNat)
  case atStart => exact ⟨0, Nat.zero_le _, rfl, H0⟩
  case round =>
    obtain ⟨n, hn, rfl, HJ⟩ := hrel
    by_cases hlt : n < LL.length
    · have hlt' : (n : Int) < (LL.length : Int) := by omega
      have hn63 : (n : Int) + 1 ≤ 1000 := by omega
      have hn30 : (n : Int) * 30 ≤ 1000 := by omega
      obtain ⟨gL, cap, pu, cu, eL, hgL1, hgL2, hcell, -, hth⟩ := HJ.out.row hlt
      injection eL with eL _ eC
      subst eL eC
      have hgL3 := (HG.out gL rfl).2
      obtain ⟨L, hL⟩ : ∃ L, L = LL[n] := ⟨_, rfl⟩
      have hLl : L.length ≤ 30 := by rw [hL]; exact HF.out.2.1 _ (List.getElem_mem _)
      rw [← hL] at hcell hth
      have HLl := Lib.hid hLl
      have HRs := Lib.hid (rises_any hth (by omega))
      have HTh := Lib.hid hth
      have HL := Lib.hid hL
      have HGl := Lib.hid (And.intro hgL1 (And.intro hgL2 hgL3))
      clear hth hL hLl
      go_wp2_with fail
      refine HRs.out.mono ?_
      rintro e w2 ⟨b, rfl, hbt, -, hb2⟩
      cases b with
      | false =>
        have HBx := Lib.hid (HJ.out.2.2.1.trans (hb2.mono HJ.out.2.2.1.size))
        clear hbt hb2
        go_wp2_with fail
        refine (alive_true w2).mono ?_
        rintro e w3 ⟨rfl, hb3⟩
        have HBy := Lib.hid (HBx.out.trans (hb3.mono HBx.out.size))
        clear hb3
        go_wp2_with fail
        go_ret
        exact ⟨rfl, HBy.out⟩
      | true =>
        have hri := hbt rfl
        have HRi := Lib.hid hri
        have hJ2 := HJ.out.below hb2
        have hg2 : gL < w2.heap.size := Nat.lt_of_lt_of_le hgL2 hb2.size
        have hc2 := (hb2.cell (p := ⟨gL, n, none⟩) hgL2).trans hcell
        have hth2 : ThIn (fun k => k < w2.heap.size) w2 (.slice pu L.length cu) L := HTh.out.keep hb2.size (fun k e hk => ⟨Nat.lt_of_lt_of_le hk hb2.size, hb2.block k hk⟩)
        have hW1 : W1.heap.size ≤ w2.heap.size := hJ2.2.2.2.1
        have hthA : ThIn (fun _ => True) (w2.alloc (.cells #[] 28)) (.slice pu L.length cu) L := hth2.keep (by simp) (fun k e hk => ⟨trivial, Below.heap_alloc _ _ _ (by omega)⟩)
        have HThA := Lib.hid hthA
        have HO0 := Lib.hid (own_lit0 (B := W1.heap.size) (w := w2) hW1)
        have HJ2 := Lib.hid hJ2
        have HSz := Lib.hid (show W1.heap.size ≤ (w2.alloc (.cells #[] 28)).heap.size by simp; omega)
        have HL2 := Lib.hid (show L.length ≤ 1000000 by have := HLl.out; omega)
        clear hbt hb2 hri hJ2 hth2 hthA hcell HRs HTh HJ hW1
        go_wp2_with (at_builtin; refine wpList_appTh rfl (.tmp 27) (.tmp 31) rfl W1.heap.size _ _ _ [] L rfl rfl HO0.out HThA.out (by simp) HL2.out HSz.out ?_; intro v5 w5 ho5 hg5 hv5; have HN5 := Lib.hid (And.intro ho5 (And.intro hg5 hv5)); obtain ⟨p5, c5, e5, -⟩ := ho5.in_ (fun _ => True) (fun _ _ => trivial); rw [List.nil_append] at e5; clear ho5 hg5 hv5; subst e5)
        have HM0 := Lib.hid (show MkJ W1 w5 n L 0 (.slice p5 L.length c5) w5 from ⟨by simpa using HN5.out.1, ⟨rfl, rfl, rfl, Nat.le_refl _, fun _ _ _ => rfl⟩⟩)
        have HB5 := Lib.hid (show Below w2.heap.size w2 w5 from ((below_new' w2 _).grown HN5.out.2.1 (by simp) (fun k e => by cases e; exact Nat.le_refl _)))
        have HV5 := Lib.hid (show ∀ k, (Value.slice p5 L.length c5).ownBlock = some k → w2.heap.size ≤ k from fun k e => by
          rcases HN5.out.2.2 with hv | hv
          · rw [hv] at e; cases e; exact Nat.le_refl _
          · rw [hv] at e; cases e; simp)
        clear HN5 hc2
        go_wp2_with fail
        go_loopw [6] (fun i wq => ∃ k : Nat, k ≤ L.length ∧ i = .int .i64 k ∧ Hid (MkJ W1 w5 n L k (.slice p5 L.length c5) wq)) (fun i _ => L.length - (intOf i).toNat)
        case atStart => exact ⟨0, Nat.zero_le _, rfl, HM0⟩
        case round =>
          obtain ⟨k, hk, rfl, HM⟩ := hrel
          by_cases hkl : k < L.length
          · have hkl' : (k : Int) < (L.length : Int) := by omega
            have hk63 : (k : Int) + 1 ≤ 1000 := by have := HLl.out; omega
            have hnk : (n : Int) * 30 + (k : Int) ≤ 1000 := by have := HLl.out; omega
            have e1 : ((markR n L).take k ++ L.drop k).length = L.length := by
              rw [List.length_append, List.length_take, markR_len, List.length_drop]; omega
            obtain ⟨g5, cap5, e5⟩ := own_shape HM.out.1 (by rw [e1]; omega)
            rw [e1] at e5
            injection e5 with e5 _ eC5
            subst e5 eC5
            obtain ⟨⟨u, hu⟩, hfz⟩ := HM.out.spot hkl rfl
            have HMn := Lib.hid (HM.out.step hkl rfl)
            clear e1
            go_wp2_with fail
            go_roundw
            case rel => exact ⟨k + 1, hkl, by simp, HMn⟩
            case measure => simp [intOf]; omega
          · obtain rfl : k = L.length := by omega
            have hmk : OwnTh W1.heap.size wr (.slice p5 L.length c5) (markR n L) := by
              have h := HM.out.1
              rw [List.drop_length, List.append_nil, List.take_of_length_le (by rw [markR_len]; exact Nat.le_refl _)] at h
              exact h
            have hbq : Below w2.heap.size w2 wr := HB5.out.grown HM.out.2 HB5.out.size HV5.out
            obtain ⟨gL', cap', pu', cu', eL', -, hgL4, hcL, hfL, -⟩ := (HJ2.out.below hbq).row hlt
            injection eL' with eL' _ eC'
            injection eL' with eL'
            injection eL' with eL'
            subst eL' eC'
            have HBq := Lib.hid hbq
            have HMk := Lib.hid hmk
            have hbs : Below w2.heap.size w2 (wr.setCell ⟨gL, n, none⟩ (.slice p5 L.length c5)) ∨ True := .inr trivial
            have HIn := Lib.hid (show ThIn (fun _ => True) (wr.setCell ⟨gL, n, none⟩ (.slice p5 L.length c5)) (.slice p5 L.length c5) (markR n L) from by
              have h1 : OwnTh W1.heap.size (wr.setCell ⟨gL, n, none⟩ (.slice p5 L.length c5)) (.slice p5 L.length c5) (markR n L) := hmk.keep (fun k e => Below.heap_setCell _ _ _ _ (by have := (hmk.lt k e).1; have := HGl.out.2.2; show k ≠ gL; omega))
              exact h1.in_ _ (fun _ _ => trivial))
            have HAl := Lib.hid (show OwnTh W1.heap.size (wr.setCell ⟨gL, n, none⟩ (.slice p5 L.length c5)) u3 ((markL LL).take n).flatten from
              (HJ2.out.below hbq).2.1.keep (fun k e => Below.heap_setCell _ _ _ _ (by have := ((HJ2.out.below hbq).2.1.lt k e).1; have := HGl.out.2.2; show k ≠ gL; omega)))
            have HSz2 := Lib.hid (show W1.heap.size ≤ (wr.setCell ⟨gL, n, none⟩ (.slice p5 L.length c5)).heap.size by have := (HJ2.out.below hbq).2.2.2.1; simpa [World.setCell] using this)
            have HFl := Lib.hid (show ((markL LL).take n).flatten.length ≤ 1000000 by
              have h := tot_le ((markL LL).take n) 30 (fun M hM => by
                obtain ⟨i, hi⟩ := List.getElem?_of_mem (List.mem_of_mem_take hM)
                obtain ⟨M', hM', rfl⟩ := markL_at hi
                rw [markR_len]
                exact HF.out.2.1 _ (List.mem_of_getElem? hM'))
              have h2 : ((markL LL).take n).length * 30 ≤ 6 * 30 := Nat.mul_le_mul_right _ (by rw [List.length_take, markL_len]; omega)
              rw [List.length_flatten]
              unfold tot at h
              omega)
            have HMl := Lib.hid (show (markR n L).length ≤ 1000000 by rw [markR_len]; exact HL2.out)
            clear hmk hbq hbs HM
            go_wp2_with (at_builtin; refine wpList_appTh rfl (.tmp 51) (.tmp 52) rfl W1.heap.size _ _ _ _ (markR n L) rfl rfl HAl.out HIn.out HFl.out HMl.out HSz2.out ?_; intro v7 w7 ho7 hg7 hv7; have HN7 := Lib.hid (OdJ.step HJ2.out hlt rfl (And.intro HGl.out.1 HGl.out.2.2) (by rw [← HL.out]; exact HRi.out) HBq.out (by rw [← HL.out]; exact HMk.out) HV5.out (by rw [← HL.out]; exact ho7) hg7 hv7); clear ho7 hg7 hv7)
            go_roundw
            case rel => exact ⟨n + 1, hlt, by simp, HN7⟩
            case measure => simp [intOf]; omega
    · obtain rfl : n = LL.length := by omega
      obtain ⟨ML, hML⟩ : ∃ ML, ML = markL LL := ⟨_, rfl⟩
      have hMl : ML.length = LL.length := by rw [hML, markL_len]
      have hR : ∀ (i : Nat) (L : List Th), LL[i]? = some L → Rise L := fun i L hi => by
        obtain ⟨h1, h2⟩ := List.getElem?_eq_some_iff.1 hi
        rw [← h2]
        exact HJ.out.2.2.2.2 i h1 h1
      have hof := order_facts hR HF.out.2.1
      have hM30 : ∀ M ∈ ML, M.length ≤ 30 := fun M hM => by
        rw [hML] at hM
        obtain ⟨i, hi⟩ := List.getElem?_of_mem hM
        obtain ⟨M', hM', rfl⟩ := markL_at hi
        rw [markR_len]
        exact HF.out.2.1 _ (List.mem_of_getElem? hM')
      have hMt : tot ML ≤ 180 := by
        have h := tot_le ML 30 hM30
        have h2 : ML.length * 30 ≤ 6 * 30 := Nat.mul_le_mul_right _ (by omega)
        omega
      have hmarks : ∀ x ∈ ML.flatten, 0 ≤ x.2 ∧ x.2 ≤ 1000 := fun x hx => by
        obtain ⟨M, hM, hxM⟩ := List.mem_flatten.1 hx
        rw [hML] at hM
        obtain ⟨i, hi⟩ := List.getElem?_of_mem hM
        obtain ⟨M', hM', rfl⟩ := markL_at hi
        obtain ⟨k, hk, rfl⟩ := markR_mem hxM
        have h1 := HF.out.2.1 _ (List.mem_of_getElem? hM')
        have h2 := (List.getElem?_eq_some_iff.1 hM').1
        simp only
        omega
      have hJw := HJ.out
      unfold OdJ at hJw
      rw [← hML, List.drop_length, List.append_nil, List.take_of_length_le (by omega)] at hJw
      rw [← hML] at hof
      obtain ⟨F, hFe⟩ : ∃ F, F = ML.flatten := ⟨_, rfl⟩
      obtain ⟨Z, hZ⟩ : ∃ Z, Z = mergeL ML := ⟨_, rfl⟩
      have hFZ : F.length = Z.length := by rw [hFe, hZ, mergeL_len, List.length_flatten]; rfl
      have hZl : Z.length ≤ 180 := by rw [hZ, mergeL_len]; exact hMt
      have hZm : ∀ x ∈ Z, 0 ≤ x.2 ∧ x.2 ≤ 1000 := fun x hx => hmarks x ((merge_perm _ ML rfl).subset (by rw [← hZ]; exact hx))
      rw [← hFe, ← hZ] at hof
      rw [← hFe] at hmarks
      have hri : RowsIn (fun k => k < wr.heap.size) wr (.slice p1 LL.length c1) ML := hJw.1.inside.in_ (fun k e => e.2) (fun k e => (hJw.1.lt k e).2)
      have HRo := Lib.hid (fun W (hb : Below wr.heap.size wr W) => hri.below hb)
      have HCu := Lib.hid (cursors_any hri (by omega) (fun L hL => by have := hM30 L hL; omega))
      have hFo : OwnTh W1.heap.size wr u3 F := by rw [hFe]; exact hJw.2.1
      have htf : ThIn (fun k => k < wr.heap.size) wr u3 F := hFo.in_ _ (fun k e => (hFo.lt k e).2)
      have HTf := Lib.hid (fun W (hb : Below wr.heap.size wr W) => htf.keep (S' := fun _ => True) hb.size (fun k e _ => ⟨trivial, hb.block k e⟩))
      obtain ⟨pF, cF, eF, hcF, -⟩ := id htf
      rw [hFZ] at eF
      have HB := Lib.hid hJw.2.2.1
      have HFa := Lib.hid (And.intro hFZ (And.intro hZl (And.intro hZm (And.intro hmarks (And.intro hof hMl)))))
      have HZe := Lib.hid (And.intro hZ (And.intro hMt hFe))
      subst eF
      clear hFo htf hri hJw HJ hML hR hof hM30 hMt hmarks hFe hZ hZm H0 HG hFZ hcF
      have D0 := Lib.hid (Below.refl wr.heap.size wr)
      obtain ⟨wo, rfl⟩ : ∃ wo, wo = wr := ⟨_, rfl⟩
      go_wp2_with fail
      refine HCu.out.mono ?_
      rintro e w2 ⟨v2, rfl, C, Y, k1, k2, k3, k4, k5, k6⟩
      rw [List.take_length] at k1
      have hCl : C.length ≤ 1000 := by
        have := congrArg List.length k1
        rw [List.length_map] at this
        omega
      have HMe := Lib.hid (merge_any k2 (own_curIn (cs := C.map (·.1)) (by rw [List.map_map]; exact k3)) hCl)
      have HC2 := Lib.hid (And.intro k1 k4)
      have B2 := Lib.hid k6
      clear k1 k2 k3 k4 k5 k6 hCl HCu
      go_wp2_with fail
      refine HMe.out.mono ?_
      rintro e w3 ⟨b3, Y3, rfl, hm3, hy3, hb3⟩
      rw [HC2.out.1, ← HZe.out.1] at hm3
      have B3 := Lib.hid (B2.out.trans (hb3.mono B2.out.size))
      have HM3 := Lib.hid (And.intro hm3 (show ∀ k, Y3 k → wo.heap.size ≤ k from fun k e => by
        rcases hy3 k e with e | e
        · exact HC2.out.2 k e
        · exact Nat.le_trans B2.out.size e))
      clear hm3 hy3 hb3 HMe HC2
      go_wp2_with fail
      refine (rest_any HM3.out.1 (by have := HFa.out.2.1; omega)).mono ?_
      rintro e w4 ⟨v4, rfl, ho4, hu4, -⟩
      have B4 := Lib.hid (B3.out.trans (hu4.below B3.out.size (fun x _ e => HM3.out.2 x e)))
      have hts : ThIn (fun k => k < w4.heap.size) w4 v4 Z := ho4.in_ _ (fun k e => (ho4.lt k e).2)
      have HTz := Lib.hid (fun W (hb : Below w4.heap.size w4 W) => hts.keep (S' := fun _ => True) hb.size (fun k e _ => ⟨trivial, hb.block k e⟩))
      have HRi := Lib.hid (rises_any hts (by omega))
      obtain ⟨p4, c4, rfl, -⟩ := id hts
      clear ho4 hu4 HM3 hts
      go_wp2_with fail
      refine HRi.out.mono ?_
      rintro e w5 ⟨b, rfl, -, hbt, hb5⟩
      have hbb := hbt ((HFa.out.2.2.2.2.1.1).imp (fun h => by rcases h with h | h <;> omega))
      subst hbb
      have E5 := Lib.hid hb5
      clear hbt hb5 HRi
      have HTz5 := Lib.hid (fun W (hb : Below w5.heap.size w5 W) => HTz.out W (E5.out.trans (hb.mono E5.out.size)))
      have HTf5 := Lib.hid (fun W (hb : Below w5.heap.size w5 W) => HTf.out W (B4.out.trans ((E5.out.trans (hb.mono E5.out.size)).mono B4.out.size)))
      have HB5 := Lib.hid (HB.out.trans ((B4.out.trans (E5.out.mono B4.out.size)).mono HB.out.size))
      have HS0 := Lib.hid (And.intro (SeenAt.made w5) (below_new' w5 (.map #[] 0)))
      clear HTz HTf
      have hmm := @run_makeMap Try.prog
      go_wp2_with fail
      go_loopw [10] (fun i wq => ∃ n : Nat, n ≤ Z.length ∧ i = .int .i64 n ∧ Hid (SeenAt wq w5.heap.size n ((Z.take n).map (·.2)).reverse ∧ Below w5.heap.size w5 wq)) (fun i _ => Z.length - (intOf i).toNat)
      case atStart => exact ⟨0, Nat.zero_le _, rfl, HS0⟩
      case round =>
        obtain ⟨n, hn, rfl, HS⟩ := hrel
        by_cases hlz : n < Z.length
        · have hlz' : (n : Int) < (Z.length : Int) := by omega
          have hn63 : (n : Int) + 1 ≤ 1000 := by omega
          obtain ⟨x, hx⟩ : ∃ x, x = Z[n] := ⟨_, rfl⟩
          obtain ⟨b4, o4, c4', e4, -, xc0, xc1⟩ := (HTz5.out wr HS.out.2).cell_at (j := n) (x := x) (by rw [hx]; exact List.getElem?_eq_getElem hlz)
          injection e4 with e4 _ eC
          subst e4 eC
          have hxm := HFa.out.2.2.1 x (by rw [hx]; exact List.getElem_mem _)
          have hnot : decide (x.2 ∈ ((Z.take n).map (·.2)).reverse) = false := by
            refine decide_eq_false fun h => ?_
            rw [List.mem_reverse] at h
            obtain ⟨y, hy, hyx⟩ := List.mem_map.1 h
            obtain ⟨j, hj, rfl⟩ := List.getElem_of_mem hy
            rw [List.length_take] at hj
            rw [List.getElem_take] at hyx
            have hnd := HFa.out.2.2.2.2.1.2.1
            unfold List.Nodup at hnd
            rw [List.pairwise_map] at hnd
            exact List.pairwise_iff_getElem.1 hnd j n (by omega) hlz (by omega) (by rw [hyx, hx])
          have hrun := (HS.out.1.below (w' := wr.drew) (m := wr.heap.size) ((Below.refl _ _).drew) HS.out.1.lt).look hxm.1 hxm.2 hnot
          have HSd := Lib.hid (And.intro (HS.out.1.below (w' := wr.drew) (m := wr.heap.size) ((Below.refl _ _).drew) HS.out.1.lt) (HS.out.2.drew))
          have HX := Lib.hid hx
          have HXm := Lib.hid hxm
          have HE := Lib.hid (show x.2 :: ((Z.take n).map (·.2)).reverse = ((Z.take (n + 1)).map (·.2)).reverse by rw [List.take_succ_eq_append_getElem hlz, List.map_append, List.reverse_append, hx]; rfl)
          clear hnot hxm hx
          have HTl := Lib.hid (HTz5.out)
          obtain ⟨Dm, hD1, hD2, hD3⟩ := HSd.out.1
          have HD := Lib.hid (And.intro hD1 (And.intro hD2 hD3))
          have HP := Lib.hid (fun (w' : World) (h : MapAt w' Try.prog 3 w5.heap.size (n + 1) (Dm.put (.int .i64 x.2) (.held (.bool true)))) (hg : wr.drew.grownBy w' (some w5.heap.size)) => show SeenAt w' w5.heap.size (n + 1) ((Z.take (n + 1)).map (·.2)).reverse ∧ Below w5.heap.size w5 w' from
            ⟨by rw [← HE.out]; exact SeenAt.put hD2 hD3 h, HSd.out.2.grown hg HSd.out.2.size (fun k e => by cases e; exact Nat.le_refl _)⟩)
          have x0d : wr.drew.cell? ⟨b4, o4 + n * 2, none⟩ = some (.int .i8 x.1) := xc0
          have x1d : wr.drew.cell? ⟨b4, o4 + n * 2 + 1, none⟩ = some (.int .i64 x.2) := xc1
          clear hD1 hD2 hD3
          rcases Nat.eq_zero_or_pos n with h0 | h0
          · subst h0
            go_wp2_with fail
            go_region
            obtain ⟨W, hW⟩ : ∃ W, W = wr.drew := ⟨_, rfl⟩
            rw [← hW] at HP HD x0d x1d ⊢
            clear hW
            go_wp2_with (refine wpList_store_any _ rfl (.tmp 121) (.tmp 126) (.const (.bool true)) 76 rfl 3 4 keyInt Try.underlying76 _ _ _ rfl HD.out.1 (by unfold maxLen; omega) _ _ _ rfl rfl (keyOf_small HXm.out.1 HXm.out.2) ?_; intro w9 hm9 hg9; have HN9 := Lib.hid (HP.out w9 hm9 hg9); clear hm9 hg9)
            go_roundw
            case rel => exact ⟨_, hlz, by simp, HN9⟩
            case measure => simp [intOf]; omega
          · obtain ⟨k, hk⟩ : ∃ k, n = k + 1 := ⟨n - 1, by omega⟩
            obtain ⟨y, hy⟩ : ∃ y, y = Z[k] := ⟨_, rfl⟩
            obtain ⟨b4', o4', c4', e4, -, yc0, yc1⟩ := (HTl.out wr HS.out.2).cell_at (j := k) (x := y) (by rw [hy]; exact List.getElem?_eq_getElem (by omega))
            injection e4 with e4 _ eC
            injection e4 with e4
            injection e4 with e4 e4o
            subst e4 e4o eC
            have hlex := List.pairwise_iff_getElem.1 HFa.out.2.2.2.2.1.1 k n (by omega) hlz (by omega)
            rw [← hy, ← HX.out] at hlex
            have hw : IntKind.i64.wrap ((n : Int) - 1) = (k : Int) := by rw [IntKind.wrap_i64]; omega
            have hk1 : (k : Int) < (Z.length : Int) := by omega
            have hn0 : (0 : Int) < (n : Int) := by omega
            clear hk hy
            by_cases hkey : x.1 = y.1
            · have hm2 : ¬ x.2 < y.2 := by rcases hlex with h | h <;> omega
              have hm3 : y.2 ≤ x.2 := by omega
              have hkq : (x.1 == y.1) = true := by simpa using hkey
              clear hlex
              go_wp2_with fail
              go_region
              obtain ⟨W, hW⟩ : ∃ W, W = wr.drew := ⟨_, rfl⟩
              rw [← hW] at HP HD x0d x1d ⊢
              clear hW
              go_wp2_with (refine wpList_store_any _ rfl (.tmp 121) (.tmp 126) (.const (.bool true)) 76 rfl 3 4 keyInt Try.underlying76 _ _ _ rfl HD.out.1 (by unfold maxLen; omega) _ _ _ rfl rfl (keyOf_small HXm.out.1 HXm.out.2) ?_; intro w9 hm9 hg9; have HN9 := Lib.hid (HP.out w9 hm9 hg9); clear hm9 hg9)
              go_roundw
              case rel => exact ⟨_, hlz, by simp, HN9⟩
              case measure => simp [intOf]; omega
            · have hkq : (x.1 == y.1) = false := by simpa using hkey
              clear hlex
              go_wp2_with fail
              go_region
              obtain ⟨W, hW⟩ : ∃ W, W = wr.drew := ⟨_, rfl⟩
              rw [← hW] at HP HD x0d x1d ⊢
              clear hW
              go_wp2_with (refine wpList_store_any _ rfl (.tmp 121) (.tmp 126) (.const (.bool true)) 76 rfl 3 4 keyInt Try.underlying76 _ _ _ rfl HD.out.1 (by unfold maxLen; omega) _ _ _ rfl rfl (keyOf_small HXm.out.1 HXm.out.2) ?_; intro w9 hm9 hg9; have HN9 := Lib.hid (HP.out w9 hm9 hg9); clear hm9 hg9)
              go_roundw
              case rel => exact ⟨_, hlz, by simp, HN9⟩
              case measure => simp [intOf]; omega
        · obtain rfl : n = Z.length := by omega
          obtain ⟨wm, rfl⟩ : ∃ wm, wm = wr := ⟨_, rfl⟩
          go_wp2_with fail
          go_loopw [11] (fun i wq => ∃ k : Nat, k ≤ Z.length ∧ i = .int .i64 k ∧ Hid (wq = wm)) (fun i _ => Z.length - (intOf i).toNat)
          case atStart => exact ⟨0, Nat.zero_le _, rfl, Lib.hid rfl⟩
          case round =>
            obtain ⟨k, hk, rfl, HQ⟩ := hrel
            obtain rfl := HQ.out
            by_cases hkz : k < Z.length
            · have hkz' : (k : Int) < (Z.length : Int) := by omega
              have hk63 : (k : Int) + 1 ≤ 1000 := by omega
              have hkF : k < F.length := by rw [HFa.out.1]; exact hkz
              obtain ⟨x, hx⟩ : ∃ x, x = F[k] := ⟨_, rfl⟩
              have htf := HTf5.out wr HS.out.2
              obtain ⟨bF, oF, cF', eF, -, xf0, xf1⟩ := htf.cell_at (j := k) (x := x) (by rw [hx]; exact List.getElem?_eq_getElem hkF)
              injection eF with eF _ eC
              subst eF eC
              have hxm := HFa.out.2.2.2.1 x (by rw [hx]; exact List.getElem_mem _)
              have hin : decide (x.2 ∈ ((Z.take Z.length).map (·.2)).reverse) = true := by
                refine decide_eq_true ?_
                rw [List.mem_reverse, List.take_length]
                exact HFa.out.2.2.2.2.1.2.2 x (by rw [hx]; exact List.getElem_mem _)
              have hrun := HS.out.1.look hxm.1 hxm.2 hin
              clear htf hx hxm hin
              go_wp2_with fail
              go_roundw
              case rel => exact ⟨k + 1, hkz, by simp, by first | exact Lib.hid rfl | exact Lib.hid trivial⟩
              case measure => simp [intOf]; omega
            · obtain rfl : k = Z.length := by omega
              go_wp2_with fail
              refine (alive_true wr).mono ?_
              rintro e w15 ⟨rfl, hb15⟩
              have B15 := Lib.hid (HB5.out.trans ((HS.out.2.trans (hb15.mono HS.out.2.size)).mono HB5.out.size))
              clear hb15
              go_wp2_with fail
              go_ret
              exact ⟨rfl, B15.out⟩
end Go.Proofs.Ytlccleafjpeccaa
