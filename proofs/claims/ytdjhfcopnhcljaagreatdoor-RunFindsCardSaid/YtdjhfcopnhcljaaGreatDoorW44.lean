/-
  run.Open of a run's file: the run that it makes.
  An open run: what its methods answer out of its index.
  Where an open run's page lies.
-/
import Derived.Test.YtdjhfcopnhcljaaGreatDoorW43
namespace Go.Proofs.YtdjhfcopnhcljaaGreatDoor
section
open Go Go.RowKit

theorem RunAt.mono {n m : Nat} {W : World} {r d : Nat} {s : ByteArray} {E : List Ct} (h : RunAt n W r d s E) (hm : m ≤ n) : RunAt m W r d s E := by
  obtain ⟨h1, sv, Rr, h2, h3, h4⟩ := h
  exact ⟨by omega, sv, Rr, h2, h3.weak hm, h4⟩
theorem RunAt.below {n : Nat} {w w' : World} {r d : Nat} {s : ByteArray} {E : List Ct} (h : RunAt n w r d s E) (hb : Below w.heap.size w w') : RunAt n w' r d s E := by
  obtain ⟨h1, sv, Rr, h2, h3, h4⟩ := h
  exact ⟨h1, sv, Rr, (hb.block _ (Array.getElem?_eq_some_iff.1 h2).1).trans h2, h3.below hb, h4⟩
/-- A change of a block that holds neither a run, nor spans, nor values. -/
theorem RunAt.other {n b : Nat} {w w' : World} {r d : Nat} {s : ByteArray} {E : List Ct} {o : Obj} (h : RunAt n w r d s E) (ht : Turned (fun k => k = b) w w') (ho : w.heap[b]? = some o) (h0 : r ≠ b) (h1 : ∀ cur, o ≠ .cells cur 110 (0, 0)) (h2 : ∀ cur, o ≠ .cells cur 92 (0, 0)) : RunAt n w' r d s E := by
  obtain ⟨e1, sv, Rr, e2, e3, e4⟩ := h
  exact ⟨e1, sv, Rr, (ht.block _ (Array.getElem?_eq_some_iff.1 e2).1 h0).trans e2, e3.other ht ho h1 h2, e4⟩
theorem ownSp_turn {Y : Nat → Prop} {B : Nat} {w w' : World} {v : Value} {R : List (Sp × Value)} (h : OwnSp B w v R) (ht : Turned Y w w') (hY : ∀ k, Y k → ∃ u t, w.heap[k]? = some (.cells #[u] t (0, 0)) ∧ t ≠ 110 ∧ t ≠ 92) : OwnSp B w' v R := by
  refine ⟨ownsRow_off h.1 ht (fun k hk e => ?_), fun x hx => ⟨ownsRow_off (h.2 x hx).1 ht (fun k hk e => ?_), (h.2 x hx).2⟩⟩
  · obtain ⟨-, cur, hc⟩ := ownsRow_block h.1 k hk
    obtain ⟨u, t, h1, h2, h3⟩ := hY k e
    rw [h1] at hc
    injection hc with hc
    injection hc with _ hc _
    exact h2 hc
  · obtain ⟨-, cur, hc⟩ := ownsRow_block (h.2 x hx).1 k hk
    obtain ⟨u, t, h1, h2, h3⟩ := hY k e
    rw [h1] at hc
    injection hc with hc
    injection hc with _ hc _
    exact h3 hc
set_option maxRecDepth 100000 in
set_option maxHeartbeats 4000000 in
theorem runOpen_any {Y : Nat → Prop} {d : Nat} (w : World) (s : ByteArray) (E : List Ct) (hF : FlAt w d s (runL E) Y) (h64 : s.size ≤ 64) (hE : E.length ≤ 1000) (hK : Kin E) (hR : IsRun E) (hL : (runL E).length ≤ 500000) (G : Glob w) :
    Calls Tryz.prog 26 #[.pointer (some ⟨d, 0, none⟩), .string s] w fun e w' => ∃ r, e = .returned (.tuple #[.pointer (some ⟨r, 0, none⟩), .int .i64 0]) ∧ RunAt w.heap.size w' r d s E ∧ Below w.heap.size w w' := by
  obtain ⟨wb, hwb⟩ : ∃ wb, wb = (w.alloc (.cells #[.pointer (some ⟨d, 0, none⟩)] 43)).alloc (.cells #[.string s] 9) := ⟨_, rfl⟩
  have hbb : Below w.heap.size w wb := by
    rw [hwb]
    exact ((Below.refl _ _).alloc (Nat.le_refl _) _).alloc (by simp) _
  have h0 : wb.heap[w.heap.size]? = some (.cells #[.pointer (some ⟨d, 0, none⟩)] 43 (0, 0)) := by
    rw [hwb]
    exact (Below.heap_alloc _ _ _ (by simp only [World.size_alloc]; omega)).trans (World.alloc_heap_new w _)
  have h1 : wb.heap[w.heap.size + 1]? = some (.cells #[.string s] 9 (0, 0)) := by
    rw [hwb]
    have n1 := World.alloc_heap_new (w.alloc (.cells #[.pointer (some ⟨d, 0, none⟩)] 43)) (.cells #[.string s] 9)
    simp only [World.size_alloc] at n1
    exact n1
  have HA := Lib.hid (answeredR_any 75 #[.pointer (some ⟨w.heap.size, 0, none⟩), .pointer (some ⟨w.heap.size + 1, 0, none⟩)] wb
    (fun v W => OpenR (wb.heap.size + 3) d s E v W ∧ W.heap[wb.heap.size + 1]? = some (.cells #[.pointer none] 53 (0, 0)) ∧ W.heap[wb.heap.size + 2]? = some (.cells #[.int .i64 0] 25 (0, 0))) (fun _ _ => False) (enters_of Tryz.func75 (by kernel_rfl) rfl)
    (fun wE hbE ⟨hsE, e1, e2⟩ => by
      have hb := hbb.trans (hbE.mono hbb.size)
      refine (open1_any _ _ wE s E (hF.below hb) ((hbE.block _ (Array.getElem?_eq_some_iff.1 h0).1).trans h0) ((hbE.block _ (Array.getElem?_eq_some_iff.1 h1).1).trans h1) h64 hE hK hR hL (G.below hb)).mono ?_
      rintro e W ⟨hB, ⟨v, rfl, hv, hp⟩ | ⟨_, _, hf⟩⟩
      · refine ⟨hB, .inl ⟨v, rfl, ⟨by rw [← hsE]; exact hv, ?_, ?_⟩, hp⟩⟩
        · exact (hB.block _ (Array.getElem?_eq_some_iff.1 e1).1).trans e1
        · exact (hB.block _ (Array.getElem?_eq_some_iff.1 e2).1).trans e2
      · exact hf.elim))
  have HB := Lib.hid hbb
  clear h0 h1 hbb hF h64 hE hK hR hL G
  go_enter Tryz.func26, Tryz.ntmps26
  go_wp2_with fail
  rw [← hwb]
  clear hwb
  refine HA.out.mono ?_
  rintro e w2 ⟨hb, W, ht, ⟨u, rfl, ⟨r, rfl, hr⟩, e1, e2⟩ | ⟨n, -, hf⟩⟩
  rotate_left
  · exact hf.elim
  have hrun : RunAt w.heap.size w2 r d s E := by
    have hsz := HB.out.size
    obtain ⟨q1, sv, Rr, q2, q3, q4⟩ := hr
    refine ⟨by omega, sv, Rr, (ht.block _ (Array.getElem?_eq_some_iff.1 q2).1 (by omega)).trans q2, (ownSp_turn q3 ht ?_).weak (by omega), q4⟩
    rintro k (rfl | rfl)
    · exact ⟨_, _, e1, by decide, by decide⟩
    · exact ⟨_, _, e2, by decide, by decide⟩
  have HE := Lib.hid (And.intro hrun (HB.out.trans (hb.mono HB.out.size)))
  clear hb ht hr e1 e2 hrun HA
  go_wp2_with fail
  go_ret2
  exact ⟨r, rfl, HE.out⟩
end
section
open Go Go.RowKit

theorem infoRn : (Tryz.prog.info? 84).isSome = true := by kernel_rfl
theorem RunAt.cells {n : Nat} {W : World} {r d : Nat} {s : ByteArray} {E : List Ct} (h : RunAt n W r d s E) : ∃ p c Rr, W.heap[r]? = some (.cells #[.pointer (some ⟨r, 0, none⟩), .pointer (some ⟨d, 0, none⟩), .string s, .slice p (pagesL E).length c, .int .i64 (E.length : Nat)] 84 (0, 0)) ∧ OwnSp n W (.slice p (pagesL E).length c) Rr ∧ Rr.map (·.1) = spL 0 (pagesL E) ∧
    (W.cell? ⟨r, 0, none⟩ = some (.pointer (some ⟨r, 0, none⟩)) ∧ W.cell? ⟨r, 1, none⟩ = some (.pointer (some ⟨d, 0, none⟩)) ∧ W.cell? ⟨r, 2, none⟩ = some (.string s) ∧ W.cell? ⟨r, 3, none⟩ = some (.slice p (pagesL E).length c) ∧ W.cell? ⟨r, 4, none⟩ = some (.int .i64 (E.length : Nat))) := by
  obtain ⟨-, sv, Rr, h1, h2, h3⟩ := h
  have hl : Rr.length = (pagesL E).length := by
    have := congrArg List.length h3
    rw [List.length_map, spL_len] at this
    exact this
  obtain ⟨p, c, e, -⟩ := h2.shape
  rw [hl] at e
  subst e
  exact ⟨p, c, Rr, h1, h2, h3, (cell_of_row _ r 0 _ _ (0, 0) h1).trans rfl, (cell_of_row _ r 1 _ _ (0, 0) h1).trans rfl, (cell_of_row _ r 2 _ _ (0, 0) h1).trans rfl, (cell_of_row _ r 3 _ _ (0, 0) h1).trans rfl, (cell_of_row _ r 4 _ _ (0, 0) h1).trans rfl⟩
set_option maxRecDepth 100000 in
theorem rmade_yes (w : World) (r : Nat) (h : w.cell? ⟨r, 0, none⟩ = some (.pointer (some ⟨r, 0, none⟩))) : Says 79 #[.pointer (some ⟨r, 0, none⟩)] w (.bool true) := by
  obtain ⟨j, hj⟩ := Option.isSome_iff_exists.1 infoRn
  have q := fun W : World => run_eql_ptr_same W ⟨r, 0, none⟩ Tryz.underlying53 hj
  have c0 := h
  go_enter Tryz.func79, Tryz.ntmps79
  go_wp2_with fail
  go_ret
  exact ⟨rfl, rfl⟩
set_option maxRecDepth 100000 in
theorem rname_yes {n : Nat} {w : World} {r d : Nat} {s : ByteArray} {E : List Ct} (h : RunAt n w r d s E) : Says 34 #[.pointer (some ⟨r, 0, none⟩)] w (.string s) := by
  obtain ⟨p, c, Rr, -, -, -, c0, c1, c2, c3, c4⟩ := h.cells
  have HM := Lib.hid (rmade_yes w r c0)
  clear h
  go_enter Tryz.func34, Tryz.ntmps34
  go_wp2_with fail
  refine HM.out.mono ?_
  rintro e w1 ⟨rfl, rfl⟩
  go_wp2_with fail
  go_ret
  exact ⟨rfl, rfl⟩
set_option maxRecDepth 100000 in
theorem rlen_yes {n : Nat} {w : World} {r d : Nat} {s : ByteArray} {E : List Ct} (h : RunAt n w r d s E) : Calls Tryz.prog 27 #[.pointer (some ⟨r, 0, none⟩)] w fun e w' => e = .returned (.tuple #[.int .i64 ((pagesL E).length : Nat), .int .i64 (E.length : Nat)]) ∧ Below w.heap.size w w' := by
  obtain ⟨p, c, Rr, -, -, -, c0, c1, c2, c3, c4⟩ := h.cells
  have HM := Lib.hid (rmade_yes w r c0)
  obtain ⟨m, hm⟩ : ∃ m, m = (pagesL E).length := ⟨_, rfl⟩
  obtain ⟨k, hk⟩ : ∃ k, k = E.length := ⟨_, rfl⟩
  rw [← hm] at c3 ⊢
  rw [← hk] at c4 ⊢
  clear h hm hk
  go_enter Tryz.func27, Tryz.ntmps27
  go_wp2_with fail
  refine HM.out.mono ?_
  rintro e w1 ⟨rfl, rfl⟩
  go_wp2_with fail
  go_quiet (fail)
  go_wp2_with fail
  go_ret2
  exact ⟨rfl, ⟨rfl, rfl, rfl, Nat.le_refl _, fun _ _ => rfl⟩⟩
end
section
open Go Go.RowKit

set_option maxRecDepth 100000 in
set_option maxHeartbeats 2000000 in
theorem spanOf_yes {n : Nat} {w : World} {r d : Nat} {s : ByteArray} {E : List Ct} (h : RunAt n w r d s E) (i : Nat) (hi : i < (pagesL E).length) (hbig : (pagesL E).length ≤ 1000000) :
    Calls Tryz.prog 82 #[.pointer (some ⟨r, 0, none⟩), .int .i64 (i : Nat)] w fun e w' => ∃ u, e = .returned (.tuple #[.agg #[.int .i64 ((((pagesL E).take i).flatMap pageL).length : Nat), .int .i64 ((pageL (pagesL E)[i]).length : Nat), u], .int .i64 0]) ∧ OwnR 0 w' u (headT (pagesL E)[i]) ∧ Below w.heap.size w w' := by
  obtain ⟨p, c, Rr, hrb, hsp, hm, c0, c1, c2, c3, c4⟩ := h.cells
  have hl : Rr.length = (pagesL E).length := by
    have := congrArg List.length hm
    rw [List.length_map, spL_len] at this
    exact this
  obtain ⟨p', c', e, hc, -, hg⟩ := hsp.shape
  rw [hl] at e
  injection e with e1 _ e3
  subst e1 e3
  obtain ⟨g, rfl, hgl, hcs⟩ := hg (by omega)
  obtain ⟨g0, g1, g2⟩ := hcs i (by omega)
  have hx : Rr[i].1 = (0 + (((pagesL E).take i).flatMap pageL).length, (pageL (pagesL E)[i]).length, headT (pagesL E)[i]) := by
    have h1 : (Rr.map (·.1))[i]'(by rw [List.length_map]; omega) = (spL 0 (pagesL E))[i]'(by rw [spL_len]; exact hi) := by simp only [hm]
    rw [List.getElem_map, spL_at 0 hi] at h1
    exact h1
  rw [Nat.zero_add] at hx
  have hu := (hsp.2 _ (List.getElem_mem (by omega : i < Rr.length))).1
  rw [hx] at g0 g1 hu
  have hiR : i < Rr.length := by omega
  obtain ⟨u, hu'⟩ : ∃ u, u = Rr[i].2 := ⟨_, rfl⟩
  rw [← hu'] at g2 hu
  simp only at g0 g1 g2 hu
  clear hu'
  obtain ⟨P, hP⟩ : ∃ P, P = (pagesL E)[i] := ⟨_, rfl⟩
  obtain ⟨a, ha⟩ : ∃ a, a = (((pagesL E).take i).flatMap pageL).length := ⟨_, rfl⟩
  rw [← hP] at g1 hu ⊢
  rw [← ha] at g0 ⊢
  obtain ⟨S, hS⟩ : ∃ S, S = (pageL P).length := ⟨_, rfl⟩
  rw [← hS] at g1 ⊢
  obtain ⟨pu, lu, cu, rfl⟩ : ∃ p n c, u = .slice p n c := by
    rcases hu.2 with ⟨rfl, -⟩ | ⟨g, cap, cur, rfl, -⟩
    · exact ⟨_, _, _, rfl⟩
    · exact ⟨_, _, _, rfl⟩
  obtain ⟨m, hm⟩ : ∃ m, m = (pagesL E).length := ⟨_, rfl⟩
  rw [← hm] at hi hbig c3
  clear hS hP ha hm hx h hsp hcs hg hl
  have hrl : r < w.heap.size := (Array.getElem?_eq_some_iff.1 hrb).1
  obtain ⟨W, hW⟩ : ∃ W, W = w.alloc (.cells #[.int .i64 0, .int .i64 0, .slice none 0 0] 110) := ⟨_, rfl⟩
  have hb : Below w.heap.size w W := by rw [hW]; exact below_new w _
  have hB : W.heap[w.heap.size]? = some (.cells #[.int .i64 0, .int .i64 0, .slice none 0 0] 110 (0, 0)) := by rw [hW]; exact World.alloc_heap_new w _
  have q0 := (hb.cell (p := ⟨r, 0, none⟩) hrl).trans c0
  have q3 := (hb.cell (p := ⟨r, 3, none⟩) hrl).trans c3
  have e0 := (hb.cell (p := ⟨g, i * 3, none⟩) hgl).trans g0
  have e1 := (hb.cell (p := ⟨g, i * 3 + 1, none⟩) hgl).trans g1
  have e2 := (hb.cell (p := ⟨g, i * 3 + 2, none⟩) hgl).trans g2
  have HM := Lib.hid (rmade_yes W r q0)
  have hi' : (i : Int) < (m : Int) := by omega
  have hi0 : ¬ (i : Int) < 0 := by omega
  have hi1 : ¬ (m : Int) ≤ (i : Int) := by omega
  obtain ⟨⟨s0, -, -⟩, f0, -⟩ := cells3 hB
  have hB1 := heap_setCell_same W w.heap.size 0 _ _ (.int .i64 (a : Int)) hB
  obtain ⟨⟨-, s1, -⟩, -, f1, -⟩ := cells3 (x := .int .i64 (a : Int)) (y := .int .i64 0) (z := .slice none 0 0) hB1
  have hB2 := heap_setCell_same _ w.heap.size 1 _ _ (.int .i64 (S : Int)) hB1
  obtain ⟨⟨-, -, s2⟩, -, -, f2⟩ := cells3 (x := .int .i64 (a : Int)) (y := .int .i64 (S : Int)) (z := .slice none 0 0) hB2
  have hB3 := heap_setCell_same _ w.heap.size 2 _ _ (.slice pu lu cu) hB2
  obtain ⟨⟨r0, r1, r2⟩, -⟩ := cells3 (x := .int .i64 (a : Int)) (y := .int .i64 (S : Int)) (z := .slice pu lu cu) hB3
  have ht := turned_set3 W w.heap.size (.int .i64 (a : Int)) (.int .i64 (S : Int)) (.slice pu lu cu)
  have HU := Lib.hid (ownR_off (hu.below hb) ht (fun k e e' => by
    obtain ⟨-, cur, hcc⟩ := ownsRow_block (hu.below hb) k e
    rw [e', hB] at hcc
    injection hcc with hcc
    injection hcc with _ hcc _
    exact absurd hcc (by decide)))
  have HB := Lib.hid (hb.trans (ht.below hb.size (fun k e => by omega)))
  clear hu hb hB hgl hrl hB1 hB2 hB3 ht
  go_enter Tryz.func82, Tryz.ntmps82
  go_wp2_with fail
  rw [← hW]
  clear hW
  refine HM.out.mono ?_
  rintro e w1 ⟨rfl, rfl⟩
  go_wp2_with fail
  exact bodyPost_ret (v := .tuple #[.agg #[.int .i64 (a : Int), .int .i64 (S : Int), .slice pu lu cu], .int .i64 0]) (by simp [results, Tryz.results82, go_sem, r0, r1, r2]) rfl ⟨_, rfl, HU.out, HB.out⟩
set_option maxRecDepth 100000 in
theorem gotS_ok (a S : Int) (p : Option Addr) (m c : Nat) (w : World) : Calls Tryz.prog 81 #[.agg #[.int .i64 a, .int .i64 S, .slice p m c], .int .i64 0] w fun e w' => e = .returned (.agg #[.int .i64 a, .int .i64 S, .slice p m c]) ∧ Below w.heap.size w w' := by
  obtain ⟨W, hW⟩ : ∃ W, W = (w.alloc (.cells #[.int .i64 a, .int .i64 S, .slice p m c] 110)).alloc (.cells #[.int .i64 0, .int .i64 0, .slice none 0 0] 110) := ⟨_, rfl⟩
  have hb : Below w.heap.size w W := by rw [hW]; exact (below_new w _).alloc (by simp) _
  have hA : W.heap[w.heap.size]? = some (.cells #[.int .i64 a, .int .i64 S, .slice p m c] 110 (0, 0)) := by
    rw [hW]
    exact (Below.heap_alloc _ _ _ (by simp only [World.size_alloc]; omega)).trans (World.alloc_heap_new w _)
  have hB : W.heap[w.heap.size + 1]? = some (.cells #[.int .i64 0, .int .i64 0, .slice none 0 0] 110 (0, 0)) := by
    rw [hW]
    have n1 := World.alloc_heap_new (w.alloc (.cells #[.int .i64 a, .int .i64 S, .slice p m c] 110)) (.cells #[.int .i64 0, .int .i64 0, .slice none 0 0] 110)
    simp only [World.size_alloc] at n1
    exact n1
  obtain ⟨⟨a0, a1, a2⟩, -⟩ := cells3 hA
  obtain ⟨⟨s0, -, -⟩, f0, -⟩ := cells3 hB
  have hB1 := heap_setCell_same W (w.heap.size + 1) 0 _ _ (.int .i64 a) hB
  obtain ⟨⟨-, s1, -⟩, -, f1, -⟩ := cells3 (x := .int .i64 a) (y := .int .i64 0) (z := .slice none 0 0) hB1
  have hB2 := heap_setCell_same _ (w.heap.size + 1) 1 _ _ (.int .i64 S) hB1
  obtain ⟨⟨-, -, s2⟩, -, -, f2⟩ := cells3 (x := .int .i64 a) (y := .int .i64 S) (z := .slice none 0 0) hB2
  have hB3 := heap_setCell_same _ (w.heap.size + 1) 2 _ _ (.slice p m c) hB2
  obtain ⟨⟨r0, r1, r2⟩, -⟩ := cells3 (x := .int .i64 a) (y := .int .i64 S) (z := .slice p m c) hB3
  have ht := turned_set3 W (w.heap.size + 1) (.int .i64 a) (.int .i64 S) (.slice p m c)
  have HB := Lib.hid (hb.trans (ht.below hb.size (fun k e => by omega)))
  clear hb hA hB hB1 hB2 hB3 ht
  go_enter Tryz.func81, Tryz.ntmps81
  go_wp2_with fail
  rw [← hW]
  clear hW
  refine (need_ok _).mono ?_
  rintro e w1 ⟨⟨_, rfl⟩, rfl⟩
  go_wp2_with fail
  exact bodyPost_ret (v := .agg #[.int .i64 a, .int .i64 S, .slice p m c]) (by simp [results, Tryz.results81, go_sem, r0, r1, r2]) rfl ⟨rfl, HB.out⟩
end
end Go.Proofs.YtdjhfcopnhcljaaGreatDoor
