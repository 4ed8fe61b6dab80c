/-
  An open run's page, read from its file.
  An open run's page: Page, and what it calls.
  An open run's Find.
-/
import Derived.Test.YtdjhfcopnhcljaaGreatDoorW45
namespace Go.Proofs.YtdjhfcopnhcljaaGreatDoor
section
open Go Go.RowKit

theorem IsRun.mid {A P B : List Ct} (h : IsRun (A ++ P ++ B)) : IsRun P := by
  have key : ∀ j (hj : j < P.length), (A ++ P ++ B)[A.length + j]'(by simp; omega) = P[j] := fun j hj => by
    rw [List.getElem_append_left (by simp; omega), List.getElem_append_right (by omega)]
    simp
  refine ⟨fun j hj _ => ?_, fun j hj hj' => ?_⟩
  · have := h.1 (A.length + j) (by simp; omega) (by simp; omega)
    rwa [key j hj] at this
  · have := h.2 (A.length + j) (by simp; omega) (by simp; omega)
    rw [key j (by omega)] at this
    simp only [Nat.add_assoc] at this
    rwa [key (j + 1) hj'] at this
theorem page_cut {E : List Ct} {i : Nat} (hi : i < (pagesL E).length) : E = ((pagesL E).take i).flatten ++ (pagesL E)[i] ++ ((pagesL E).drop (i + 1)).flatten := by
  have h1 : pagesL E = (pagesL E).take i ++ (pagesL E)[i] :: (pagesL E).drop (i + 1) := by rw [← List.drop_eq_getElem_cons hi, List.take_append_drop]
  have h2 := congrArg List.flatten h1
  rw [pagesL_flat, List.flatten_append, List.flatten_cons] at h2
  rw [List.append_assoc]
  exact h2
theorem page_run {E : List Ct} {i : Nat} (hi : i < (pagesL E).length) (h : IsRun E) : IsRun (pagesL E)[i] := by
  rw [page_cut hi] at h
  exact h.mid
theorem page_kin {E : List Ct} {i : Nat} (hi : i < (pagesL E).length) (h : Kin E) : Kin (pagesL E)[i] := fun c hc => h c (page_mem (List.getElem_mem hi) c hc)
theorem page_len {E : List Ct} {i : Nat} (hi : i < (pagesL E).length) : (pagesL E)[i].length ≤ E.length := by
  have := congrArg List.length (page_cut hi)
  rw [List.length_append, List.length_append] at this
  omega
theorem runL_cut {E : List Ct} {i : Nat} (hi : i < (pagesL E).length) : ∃ r, runL E = ((pagesL E).take i).flatMap pageL ++ (pageL (pagesL E)[i] ++ r) := by
  have h1 : pagesL E = (pagesL E).take i ++ (pagesL E)[i] :: (pagesL E).drop (i + 1) := by rw [← List.drop_eq_getElem_cons hi, List.take_append_drop]
  have h2 := congrArg (List.flatMap pageL) h1
  rw [List.flatMap_append, List.flatMap_cons] at h2
  refine ⟨((pagesL E).drop (i + 1)).flatMap pageL ++ (indexL E ++ tailL E), ?_⟩
  unfold runL
  rw [h2]
  simp only [List.append_assoc]
theorem runL_page {E : List Ct} {i : Nat} (hi : i < (pagesL E).length) : (((runL E).drop (((pagesL E).take i).flatMap pageL).length).take (pageL (pagesL E)[i]).length) = pageL (pagesL E)[i] ∧ (((pagesL E).take i).flatMap pageL).length + (pageL (pagesL E)[i]).length ≤ (runL E).length := by
  obtain ⟨r, h⟩ := runL_cut hi
  rw [h]
  refine ⟨?_, by simp only [List.length_append]; omega⟩
  rw [List.drop_left, List.take_left]
theorem pageL_pos (P : List Ct) : 0 < (pageL P).length := by
  unfold pageL
  rw [sealL_len]
  omega
end
section
open Go Go.RowKit

def PageR (n : Nat) (P : List Ct) (v : Value) (W : World) : Prop := ∃ Rr, OwnCt n W v Rr ∧ Rr.map (·.1) = P
set_option maxRecDepth 100000 in
set_option maxHeartbeats 8000000 in
theorem page1_any {Y : Nat → Prop} {n d : Nat} (br bi r : Nat) (w : World) (s : ByteArray) (E : List Ct) (i : Nat) (hRun : RunAt n w r d s E) (hF : FlAt w d s (runL E) Y) (hr : w.heap[br]? = some (.cells #[.pointer (some ⟨r, 0, none⟩)] 53 (0, 0))) (hbi : w.heap[bi]? = some (.cells #[.int .i64 (i : Nat)] 3 (0, 0)))
    (h64 : s.size ≤ 64) (hE : E.length ≤ 1000) (hK : Kin E) (hR : IsRun E) (hL : (runL E).length ≤ 500000) (hi : i < (pagesL E).length) (G : Glob w) :
    Calls Tryz.prog 80 #[.pointer (some ⟨br, 0, none⟩), .pointer (some ⟨bi, 0, none⟩)] w (AnsC (PageR w.heap.size (pagesL E)[i]) (fun _ _ => False) w) := by
  have hpl : (pagesL E).length ≤ 1000 := by have := pgRest_len E []; unfold pagesL; simp at this; omega
  have HSp := Lib.hid (spanOf_yes hRun i hi (by omega))
  obtain ⟨z, hz⟩ : ∃ z, z = (((pagesL E).take i).flatMap pageL).length := ⟨_, rfl⟩
  obtain ⟨P, hP⟩ : ∃ P, P = (pagesL E)[i] := ⟨_, rfl⟩
  obtain ⟨S, hS⟩ : ∃ S, S = (pageL P).length := ⟨_, rfl⟩
  have hpg := runL_page hi
  have hPr := page_run hi hR
  have hPk := page_kin hi hK
  have hPl := page_len hi
  have hPn := page_ne hi
  rw [← hz, ← hP] at hpg
  rw [← hP] at hPr hPk hPl hPn
  simp only [← hz, ← hP] at HSp
  rw [← hS] at HSp hpg
  rw [← hP]
  have hS0 : 0 < S := by rw [hS]; exact pageL_pos P
  have HPg := Lib.hid (And.intro hpg (And.intro hPr (And.intro hPk (And.intro hPn hS))))
  have HNum := Lib.hid (And.intro hS0 (And.intro (show P.length ≤ 1000 by omega) (And.intro h64 hL)))
  have HRun := Lib.hid hRun
  have HF := Lib.hid hF
  have HG := Lib.hid G
  have HBr := Lib.hid hr
  have HBi := Lib.hid hbi
  have c0 := (cell_at hr).1
  have c1 := (cell_at hbi).1
  clear hpg hPr hPk hPl hPn hS0 hz hP hS hRun hF G hr hbi h64 hE hK hR hL hi hpl
  go_enter Tryz.func80, Tryz.ntmps80
  go_wp2_with fail
  refine HSp.out.mono ?_
  rintro e w1 ⟨u, rfl, hu, hb1⟩
  obtain ⟨pu, hl8, cu, rfl⟩ : ∃ p l c, u = .slice p l c := by
    rcases hu.2 with ⟨rfl, -⟩ | ⟨g, cap, cur, rfl, -⟩
    · exact ⟨_, _, _, rfl⟩
    · exact ⟨_, _, _, rfl⟩
  have HB1 := Lib.hid hb1
  have HU1 := Lib.hid hu
  clear hu hb1 HSp c0 c1
  go_wp2_with fail
  refine (gotS_ok z S pu hl8 cu _).mono ?_
  rintro e w2 ⟨rfl, hb2⟩
  obtain ⟨W4, hW4⟩ : ∃ W4, W4 = w2.alloc (.cells #[.int .i64 (z : Int), .int .i64 (S : Int), .slice pu hl8 cu] 110) := ⟨_, rfl⟩
  have hb3 : Below w2.heap.size w2 W4 := by rw [hW4]; exact below_new w2 _
  have hB3 : W4.heap[w2.heap.size]? = some (.cells #[.int .i64 (z : Int), .int .i64 (S : Int), .slice pu hl8 cu] 110 (0, 0)) := by rw [hW4]; exact World.alloc_heap_new w2 _
  have hb03 : Below w1.heap.size w1 W4 := hb2.trans (hb3.mono hb2.size)
  have HU4 := Lib.hid (HU1.out.below hb03)
  have hb4 : Below w.heap.size w W4 := HB1.out.trans (hb03.mono HB1.out.size)
  obtain ⟨rp, rc, Rr, hrb, -⟩ := (HRun.out.below hb4).cells
  have c5 := (HRun.out.below hb4).cells
  obtain ⟨_, _, _, -, -, -, k0, k1, k2, k3, k4⟩ := c5
  have hbr := (hb4.block _ (Array.getElem?_eq_some_iff.1 HBr.out).1).trans HBr.out
  have HS := Lib.hid (show ∀ W, Below W4.heap.size W4 W → W.cell? ⟨br, 0, none⟩ = some (.pointer (some ⟨r, 0, none⟩)) ∧ W.cell? ⟨r, 1, none⟩ = some (.pointer (some ⟨d, 0, none⟩)) ∧ W.cell? ⟨r, 2, none⟩ = some (.string s) ∧ W.cell? ⟨w2.heap.size, 0, none⟩ = some (.int .i64 (z : Int)) ∧ W.cell? ⟨w2.heap.size, 1, none⟩ = some (.int .i64 (S : Int)) ∧ W.cell? ⟨w2.heap.size, 2, none⟩ = some (.slice pu hl8 cu) from fun W hW => by
    have l1 := (Array.getElem?_eq_some_iff.1 hbr).1
    have l2 := (Array.getElem?_eq_some_iff.1 hrb).1
    have l3 := (Array.getElem?_eq_some_iff.1 hB3).1
    obtain ⟨⟨e0, e1, e2⟩, -⟩ := cells3 hB3
    exact ⟨(hW.cell (p := ⟨br, 0, none⟩) l1).trans (cell_at hbr).1, (hW.cell (p := ⟨r, 1, none⟩) l2).trans k1, (hW.cell (p := ⟨r, 2, none⟩) l2).trans k2, (hW.cell (p := ⟨w2.heap.size, 0, none⟩) l3).trans e0, (hW.cell (p := ⟨w2.heap.size, 1, none⟩) l3).trans e1, (hW.cell (p := ⟨w2.heap.size, 2, none⟩) l3).trans e2⟩)
  have HB4 := Lib.hid hb4
  clear hb2 hb3 hB3 hb03 hb4 k0 k1 k2 k3 k4 hrb hbr HU1
  go_wp2_with fail
  rw [← hW4]
  clear hW4
  generalize w2.heap.size = x at *
  have HRd := Lib.hid (show ∀ W, Below W4.heap.size W4 W → Calls Tryz.prog 78 #[.pointer (some ⟨d, 0, none⟩), .string s, .int .i64 (z : Int), .int .i64 (S : Int)] W fun e w' => ∃ b c, e = .returned (.tuple #[.slice (some ⟨b, 0, none⟩) S c, .int .i64 0]) ∧ ByC w'.heap.size w' (.slice (some ⟨b, 0, none⟩) S c) (pageL P) ∧ Below W4.heap.size W4 w' from fun W hW => by
    refine (flread_mid (HF.out.below (HB4.out.trans (hW.mono HB4.out.size))) HNum.out.2.2.1 z S HPg.out.1.2 HNum.out.1 (by have := HPg.out.1.2; have := HNum.out.2.2.2; omega)).mono ?_
    rintro e w' ⟨v, rfl, hv, hg⟩
    obtain ⟨b, c, rfl, -, hby⟩ := ownF_byC hv (by rw [HPg.out.1.1]; exact pageL_pos P)
    rw [HPg.out.1.1] at hby ⊢
    rw [HPg.out.2.2.2.2]
    exact ⟨b, c, rfl, hby, hW.trans (hg.none_below.mono hW.size)⟩)
  have HEn := Lib.hid (show ∀ W b c, Below W4.heap.size W4 W → ByC W.heap.size W (.slice (some ⟨b, 0, none⟩) S c) (pageL P) → Calls Tryz.prog 52 #[.agg #[.int .i64 (z : Int), .int .i64 (S : Int), .slice pu hl8 cu], .slice (some ⟨b, 0, none⟩) S c] W fun e w' => ∃ p l c, e = .returned (.slice p l c) ∧ PageR w.heap.size P (.slice p l c) w' ∧ Below W4.heap.size W4 w' from fun W b c hW hby => by
    have hsz := HB4.out.size
    rw [HPg.out.2.2.2.2] at hby ⊢
    refine (entries_ok z (pageL P).length (.slice pu hl8 cu) ⟨b, 0, none⟩ c P W hby (HU4.out.below hW) HPg.out.2.2.2.1 HPg.out.2.1 HPg.out.2.2.1 HNum.out.2.1 (by have := HPg.out.1.2; have := HNum.out.2.2.2; have := HPg.out.2.2.2.2; omega) (HG.out.below (HB4.out.trans (hW.mono hsz)))).mono ?_
    rintro e w' ⟨v, Rr, rfl, ho, hm, hb⟩
    obtain ⟨p, c, rfl⟩ := ho.shape
    exact ⟨p, _, c, rfl, ⟨Rr, ho.weak (Nat.le_trans hsz hW.size), hm⟩, hW.trans (hb.mono hW.size)⟩)
  have HN4 := Lib.hid (Below.refl W4.heap.size W4).drew
  clear HF HU4 HRun HPg HNum HBr HBi
  generalize pageL P = pg at *
  go_region_held3 (fun W => W.cell? ⟨br, 0, none⟩ = some (.pointer (some ⟨r, 0, none⟩)) ∧ W.cell? ⟨r, 1, none⟩ = some (.pointer (some ⟨d, 0, none⟩)) ∧ W.cell? ⟨r, 2, none⟩ = some (.string s) ∧ W.cell? ⟨x, 0, none⟩ = some (.int .i64 (z : Int)) ∧ W.cell? ⟨x, 1, none⟩ = some (.int .i64 (S : Int)) ∧ W.cell? ⟨x, 2, none⟩ = some (.slice pu hl8 cu))
    (first | exact HS.out _ HB7.out | exact HS.out _ HB5.out | exact HS.out _ HN4.out)
    (first
      | (go_at_call 78; refine (HRd.out _ HN4.out).mono ?_; rintro e w5 ⟨b5, c5, rfl, hby, hb5⟩; have HBy := Lib.hid hby; have HB5 := Lib.hid hb5; clear hby hb5)
      | (go_at_call 68; refine (gotB_ok _ _).mono ?_; rintro e w6 ⟨rfl, rfl⟩)
      | (go_at_call 52; refine (HEn.out _ b5 c5 HB5.out HBy.out).mono ?_; rintro e w7 ⟨p7, l7, c7, rfl, ho7, hb7⟩; have HO7 := Lib.hid ho7; have HB7 := Lib.hid hb7; clear ho7 hb7))
  go_wp2_with fail
  go_ret
  exact ⟨HB4.out.trans (HB7.out.mono HB4.out.size), .inl ⟨_, rfl, HO7.out, _, _, _, rfl⟩⟩
theorem ownCt_turn {Y : Nat → Prop} {B : Nat} {w w' : World} {v : Value} {R : List (Ct × Value)} (h : OwnCt B w v R) (ht : Turned Y w w') (hY : ∀ k, Y k → ∃ u t, w.heap[k]? = some (.cells #[u] t (0, 0)) ∧ t ≠ 66 ∧ t ≠ 92) : OwnCt B w' v R := by
  refine ⟨ownsRow_off h.1 ht (fun k hk e => ?_), fun x hx => ⟨ownsRow_off (h.2 x hx).1 ht (fun k hk e => ?_), (h.2 x hx).2⟩⟩
  · obtain ⟨-, cur, hc⟩ := ownsRow_block h.1 k hk
    obtain ⟨u, t, h1, h2, h3⟩ := hY k e
    rw [h1] at hc
    injection hc with hc
    injection hc with _ hc _
    exact h2 hc
  · obtain ⟨-, cur, hc⟩ := ownsRow_block (h.2 x hx).1 k hk
    obtain ⟨u, t, h1, h2, h3⟩ := hY k e
    rw [h1] at hc
    injection hc with hc
    injection hc with _ hc _
    exact h3 hc
set_option maxRecDepth 100000 in
set_option maxHeartbeats 4000000 in
theorem rpage_yes {Y : Nat → Prop} {n d r : Nat} (w : World) (s : ByteArray) (E : List Ct) (i : Nat) (hRun : RunAt n w r d s E) (hF : FlAt w d s (runL E) Y)
    (h64 : s.size ≤ 64) (hE : E.length ≤ 1000) (hK : Kin E) (hR : IsRun E) (hL : (runL E).length ≤ 500000) (hi : i < (pagesL E).length) (G : Glob w) :
    Calls Tryz.prog 28 #[.pointer (some ⟨r, 0, none⟩), .int .i64 (i : Nat)] w fun e w' => ∃ v Rr, e = .returned (.tuple #[v, .int .i64 0]) ∧ OwnCt w.heap.size w' v Rr ∧ Rr.map (·.1) = (pagesL E)[i] ∧ Below w.heap.size w w' := by
  obtain ⟨wb, hwb⟩ : ∃ wb, wb = (w.alloc (.cells #[.pointer (some ⟨r, 0, none⟩)] 53)).alloc (.cells #[.int .i64 (i : Nat)] 3) := ⟨_, rfl⟩
  have hbb : Below w.heap.size w wb := by
    rw [hwb]
    exact ((Below.refl _ _).alloc (Nat.le_refl _) _).alloc (by simp) _
  have h0 : wb.heap[w.heap.size]? = some (.cells #[.pointer (some ⟨r, 0, none⟩)] 53 (0, 0)) := by
    rw [hwb]
    exact (Below.heap_alloc _ _ _ (by simp only [World.size_alloc]; omega)).trans (World.alloc_heap_new w _)
  have h1 : wb.heap[w.heap.size + 1]? = some (.cells #[.int .i64 (i : Nat)] 3 (0, 0)) := by
    rw [hwb]
    have n1 := World.alloc_heap_new (w.alloc (.cells #[.pointer (some ⟨r, 0, none⟩)] 53)) (.cells #[.int .i64 (i : Nat)] 3)
    simp only [World.size_alloc] at n1
    exact n1
  obtain ⟨P, hP⟩ : ∃ P, P = (pagesL E)[i] := ⟨_, rfl⟩
  have HA := Lib.hid (answeredC_any 80 #[.pointer (some ⟨w.heap.size, 0, none⟩), .pointer (some ⟨w.heap.size + 1, 0, none⟩)] wb
    (fun v W => PageR (wb.heap.size + 3) P v W ∧ W.heap[wb.heap.size + 1]? = some (.cells #[.slice none 0 0] 22 (0, 0)) ∧ W.heap[wb.heap.size + 2]? = some (.cells #[.int .i64 0] 25 (0, 0))) (fun _ _ => False) (enters_of Tryz.func80 (by kernel_rfl) rfl)
    (fun wE hbE ⟨hsE, e1, e2⟩ => by
      have hb := hbb.trans (hbE.mono hbb.size)
      refine (page1_any _ _ r wE s E i (hRun.below hb) (hF.below hb) ((hbE.block _ (Array.getElem?_eq_some_iff.1 h0).1).trans h0) ((hbE.block _ (Array.getElem?_eq_some_iff.1 h1).1).trans h1) h64 hE hK hR hL hi (G.below hb)).mono ?_
      rintro e W ⟨hB, ⟨v, rfl, hv, hp⟩ | ⟨_, _, hf⟩⟩
      · refine ⟨hB, .inl ⟨v, rfl, ⟨by rw [← hsE, hP]; exact hv, ?_, ?_⟩, hp⟩⟩
        · exact (hB.block _ (Array.getElem?_eq_some_iff.1 e1).1).trans e1
        · exact (hB.block _ (Array.getElem?_eq_some_iff.1 e2).1).trans e2
      · exact hf.elim))
  rw [← hP]
  have HB := Lib.hid hbb
  clear h0 h1 hbb hF h64 hE hK hR hL G hi hP hRun
  go_enter Tryz.func28, Tryz.ntmps28
  go_wp2_with fail
  rw [← hwb]
  clear hwb
  refine HA.out.mono ?_
  rintro e w2 ⟨hb, W, ht, ⟨u, rfl, ⟨Rr, hr, hm⟩, e1, e2⟩ | ⟨n, -, hf⟩⟩
  rotate_left
  · exact hf.elim
  obtain ⟨p, c, rfl⟩ := hr.shape
  have hrun : OwnCt w.heap.size w2 (.slice p Rr.length c) Rr := by
    have hsz := HB.out.size
    refine (ownCt_turn hr ht ?_).weak (by omega)
    rintro k (rfl | rfl)
    · exact ⟨_, _, e1, by decide, by decide⟩
    · exact ⟨_, _, e2, by decide, by decide⟩
  have HE := Lib.hid (And.intro hrun (And.intro hm (HB.out.trans (hb.mono HB.out.size))))
  clear hb ht hr e1 e2 hrun HA
  go_wp2_with fail
  go_ret2
  exact ⟨_, Rr, rfl, HE.out⟩
end
section
open Go Go.RowKit

/-- Whether page h starts behind a tuple. -/
def above (L : List (List Ct)) (T : List V3) (h : Nat) : Bool := decide (0 < cmpT (headT (L.getD h [])) T)
set_option maxRecDepth 100000 in
set_option maxHeartbeats 2000000 in
theorem find1_any {B : Nat} (bl bt : Nat) (w : World) (sv tv : Value) (L : List (List Ct)) (Rr : List (Sp × Value)) (T : List V3) (h : Nat) (hh : h < L.length) (hL : L.length ≤ 100000) (hbl : w.heap[bl]? = some (.cells #[sv] 80 (0, 0))) (hbt : w.heap[bt]? = some (.cells #[tv] 64 (0, 0)))
    (hsp : OwnSp B w sv Rr) (hm : Rr.map (·.1) = spL 0 L) (ht : TupIn w.heap.size w tv T) :
    Calls Tryz.prog 86 #[.int .i64 (h : Nat), .pointer (some ⟨bl, 0, none⟩), .pointer (some ⟨bt, 0, none⟩)] w fun e w' => e = .returned (.bool (above L T h)) ∧ Below w.heap.size w w' := by
  have hl : Rr.length = L.length := by
    have := congrArg List.length hm
    rw [List.length_map, spL_len] at this
    exact this
  obtain ⟨p, c, rfl, hc, -, hg⟩ := hsp.shape
  obtain ⟨g, rfl, hgl, hcs⟩ := hg (by omega)
  obtain ⟨-, -, g2⟩ := hcs h (by omega)
  have hx : Rr[h].1.2.2 = headT L[h] := by
    have h1 : (Rr.map (·.1))[h]'(by rw [List.length_map]; omega) = (spL 0 L)[h]'(by rw [spL_len]; exact hh) := by simp only [hm]
    rw [List.getElem_map, spL_at 0 hh] at h1
    rw [h1]
  have hu := hsp.2 _ (List.getElem_mem (by omega : h < Rr.length))
  rw [hx] at hu
  have hab : above L T h = decide (0 < cmpT (headT L[h]) T) := by unfold above; rw [List.getD_eq_getElem?_getD, List.getElem?_eq_getElem hh, Option.getD_some]
  rw [hab]
  generalize headT L[h] = H at *
  generalize Rr[h].2 = u at *
  obtain ⟨pu, cu, rfl⟩ : ∃ p c, u = .slice p H.length c := by
    rcases hu.1.2 with ⟨rfl, h0⟩ | ⟨g, cap, cur, rfl, -⟩
    · exact ⟨none, 0, by rw [show H.length = 0 from h0]⟩
    · exact ⟨_, cap, rfl⟩
  obtain ⟨pt, ct, rfl⟩ : ∃ p c, tv = .slice p T.length c := by
    obtain ⟨p, c, rfl, -⟩ := ht
    exact ⟨p, c, rfl⟩
  have HPT := Lib.hid (show TupS (fun k => k < w.heap.size) w (.slice pu H.length cu) H from (hu.1.in_ (by omega)).wide)
  have HXT := Lib.hid (show TupS (fun k => k < w.heap.size) w (.slice pt T.length ct) T from ht.wide)
  obtain ⟨hl8, hh8⟩ : ∃ n, n = H.length := ⟨_, rfl⟩
  obtain ⟨tl8, ht8⟩ : ∃ n, n = T.length := ⟨_, rfl⟩
  obtain ⟨n, hn⟩ : ∃ n, n = Rr.length := ⟨_, rfl⟩
  rw [← hh8] at HPT g2
  rw [← ht8] at HXT hbt
  rw [← hn] at hbl
  have hhn : (h : Int) < (n : Int) := by omega
  have hhn' : h < n := by omega
  have hh0 : (0 : Int) ≤ (h : Int) := by omega
  have HS := Lib.hid (show w.cell? ⟨bl, 0, none⟩ = some (.slice (some ⟨g, 0, none⟩) n c) ∧ w.cell? ⟨g, h * 3 + 2, none⟩ = some (.slice pu hl8 cu) ∧ w.cell? ⟨bt, 0, none⟩ = some (.slice pt tl8 ct) from ⟨(cell_at hbl).1, g2, (cell_at hbt).1⟩)
  have HLt := Lib.hid (show bl < w.heap.size ∧ g < w.heap.size ∧ bt < w.heap.size from ⟨(Array.getElem?_eq_some_iff.1 hbl).1, hgl, (Array.getElem?_eq_some_iff.1 hbt).1⟩)
  obtain ⟨zc, hzc⟩ : ∃ zc, zc = cmpT H T := ⟨_, rfl⟩
  rw [← hzc]
  have HZc := Lib.hid hzc
  clear hzc hn ht8 hh8 hu ht hab hx g2 hcs hg hgl hc hl hsp hm hbl hbt hh hL
  go_enter Tryz.func86, Tryz.ntmps86
  go_wp2_with fail
  go_region_held3 (fun X => X.cell? ⟨bl, 0, none⟩ = some (.slice (some ⟨g, 0, none⟩) n c) ∧ X.cell? ⟨g, h * 3 + 2, none⟩ = some (.slice pu hl8 cu) ∧ X.cell? ⟨bt, 0, none⟩ = some (.slice pt tl8 ct)) (first | exact HS4.out | exact HS.out)
    ((go_at_call 45; refine (tcompareS_any _ _ H T _ ?_ ?_).mono ?_; exact HPT.out; exact HXT.out; rintro e w4 ⟨rfl, hg4⟩; have hb4 := (Below.refl w.heap.size w).drew.trans hg4.below; rw [← HZc.out]; have HB4 := Lib.hid hb4; have HS4 := Lib.hid (And.intro ((hb4.cell (p := ⟨bl, 0, none⟩) HLt.out.1).trans HS.out.1) (And.intro ((hb4.cell (p := ⟨g, h * 3 + 2, none⟩) HLt.out.2.1).trans HS.out.2.1) ((hb4.cell (p := ⟨bt, 0, none⟩) HLt.out.2.2).trans HS.out.2.2))); clear hb4 hg4))
  go_wp2_with fail
  go_ret
  exact ⟨rfl, HB4.out⟩
/-- Pages start ever later. -/
theorem above_rise {E : List Ct} (hR : IsRun E) (T : List V3) : ∀ h j, h ≤ j → j < (pagesL E).length → above (pagesL E) T h = true → above (pagesL E) T j = true := by
  intro h j hj hl ha
  rcases Nat.eq_or_lt_of_le hj with rfl | hlt
  · exact ha
  · have hr := heads_rise hR h j (by omega) hl hlt
    unfold above at ha ⊢
    rw [List.getD_eq_getElem?_getD, List.getElem?_eq_getElem (by omega), Option.getD_some] at ha ⊢
    have ha := of_decide_eq_true ha
    refine decide_eq_true ?_
    refine Decidable.byContradiction fun hn => ?_
    have := cmpT_trans _ _ T (Int.le_of_lt hr) (by omega)
    omega
set_option maxRecDepth 100000 in
set_option maxHeartbeats 2000000 in
theorem rfind_yes {n : Nat} {w : World} {r d : Nat} {s : ByteArray} {E : List Ct} (h : RunAt n w r d s E) (tv : Value) (T : List V3) (ht : TupIn w.heap.size w tv T) (hR : IsRun E) (hE : E.length ≤ 1000) :
    Calls Tryz.prog 30 #[.pointer (some ⟨r, 0, none⟩), tv] w fun e w' => ∃ i, i ≤ (pagesL E).length ∧ e = .returned (.int .i64 ((i : Int) - 1)) ∧ (∀ j, j < i → above (pagesL E) T j = false) ∧ (∀ j, i ≤ j → j < (pagesL E).length → above (pagesL E) T j = true) ∧ Below w.heap.size w w' := by
  have hpl : (pagesL E).length ≤ 1000 := by have := pgRest_len E []; unfold pagesL; simp at this; omega
  obtain ⟨W0, hW0⟩ : ∃ W, W = w.alloc (.cells #[tv] 64) := ⟨_, rfl⟩
  have hb0 : Below w.heap.size w W0 := by rw [hW0]; exact below_new w _
  have h0 : W0.heap[w.heap.size]? = some (.cells #[tv] 64 (0, 0)) := by rw [hW0]; exact World.alloc_heap_new w _
  have hs0 : W0.heap.size = w.heap.size + 1 := by rw [hW0]; simp
  obtain ⟨p, c, Rr, hrb, hsp, hm, c0, c1, c2, c3, c4⟩ := (h.below hb0).cells
  obtain ⟨W1, hW1⟩ : ∃ W, W = W0.alloc (.cells #[.slice p (pagesL E).length c] 80) := ⟨_, rfl⟩
  have hb1 : Below W0.heap.size W0 W1 := by rw [hW1]; exact below_new W0 _
  have h1 : W1.heap[W0.heap.size]? = some (.cells #[.slice p (pagesL E).length c] 80 (0, 0)) := by rw [hW1]; exact World.alloc_heap_new W0 _
  have hS := search_any (pagesL E).length 86 #[.pointer (some ⟨W0.heap.size, 0, none⟩), .pointer (some ⟨w.heap.size, 0, none⟩)] (above (pagesL E) T) W1 (by omega) (enters_of Tryz.func86 (by kernel_rfl) rfl) (above_rise hR T)
    (fun W j hj hW => by
      have hbW := hb0.trans ((hb1.trans (hW.mono hb1.size)).mono hb0.size)
      exact find1_any W0.heap.size w.heap.size W _ tv (pagesL E) Rr T j hj (by omega) ((hW.block _ (Array.getElem?_eq_some_iff.1 h1).1).trans h1) ((hW.block _ (Nat.lt_of_lt_of_le (Array.getElem?_eq_some_iff.1 h0).1 hb1.size)).trans ((hb1.block _ (Array.getElem?_eq_some_iff.1 h0).1).trans h0)) ((hsp.below hb1).below hW) hm ((ht.below hbW).mono hbW.size))
  rw [hs0] at hS
  have HS := Lib.hid hS
  have HB := Lib.hid (hb0.trans (hb1.mono hb0.size))
  have HM := Lib.hid (rmade_yes W0 r c0)
  have k0 := (cell_at h1).1
  rw [hs0] at k0
  obtain ⟨m, hmm⟩ : ∃ m, m = (pagesL E).length := ⟨_, rfl⟩
  have hm1 : m ≤ 1000 := by omega
  rw [← hmm] at HS c3 hW1 k0 ⊢
  obtain ⟨pt, lt, ct, rfl⟩ : ∃ p n c, tv = .slice p n c := by
    obtain ⟨p, c, rfl, -⟩ := ht
    exact ⟨p, _, c, rfl⟩
  clear hS hb0 h0 hrb hsp hm hb1 h1 ht hpl hmm h
  go_enter Tryz.func30, Tryz.ntmps30
  go_wp2_with fail
  rw [← hW0]
  clear hW0
  refine HM.out.mono ?_
  rintro e w1 ⟨rfl, rfl⟩
  go_wp2_with fail
  rw [← hW1]
  clear hW1
  refine HS.out.mono ?_
  rintro e w2 ⟨i, hi, rfl, hlo, hup, hb2⟩
  have hw : IntKind.i64.wrap ((i : Int) - 1) = (i : Int) - 1 := by rw [IntKind.wrap_i64]; omega
  have HE := Lib.hid (And.intro hi (And.intro hlo (And.intro hup (HB.out.trans (hb2.mono HB.out.size)))))
  clear hi hlo hup hb2 HS
  go_wp2_with fail
  go_ret
  exact ⟨i, HE.out.1, rfl, HE.out.2⟩
end
end Go.Proofs.YtdjhfcopnhcljaaGreatDoor
