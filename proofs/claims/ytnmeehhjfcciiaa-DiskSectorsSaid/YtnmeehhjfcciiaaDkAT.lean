/-
  slices.AppendSeq, slices.Collect and maps.Keys at the two loose sectors.
-/
import Derived.Test.YtnmeehhjfcciiaaDkAS
namespace Go.Proofs.Ytnmeehhjfcciiaa
open Go Go.RowKit Go.Maps Go.WideMaps Go.Shelf

attribute [local go_sem] Oper.semAt_some

/-- What is collected. -/
def SpG (w : World) (e : Ending) (w' : World) : Prop := ∃ (v : Value) (P : List Nat), (P = [0, 1] ∨ P = [1, 0]) ∧ e = .returned v ∧ w'.ownsRow w.heap.size 92 2 v P.length (spc P) ∧ Below w.heap.size w w'
theorem Stays.trans {n : Nat} {a b c : World} (h : Stays n a b) (k : Stays n b c) : Stays n a c := fun i o hi ho hc => k i o hi (h i o hi ho hc) hc
theorem Stays.alloc (n : Nat) (a : World) (o : Obj) : Stays n a (a.alloc o) := fun i _ _ ho _ => ((below_new a o).block i (Array.getElem?_eq_some_iff.1 ho).1).trans ho
theorem Stays.put (n : Nat) (a : World) (l : Nat) (o : Obj) (hl : l < n) : Stays n a (a.putObj l o) := fun i _ hi ho _ => (World.putObj_heap_other (by omega)).trans ho
set_option maxRecDepth 100000 in
set_option maxHeartbeats 4000000 in
theorem appendSeq_two (w : World) (Bs M nn : Nat) (hm : MapAt w Try.prog 92 M nn (OL 2)) (hBs : w.cell? ⟨Bs, 0, none⟩ = some (.map (some M))) (hBl : Bs < w.heap.size) :
    Calls Try.prog 69 #[.slice none 0 0, .func (.func 56) #[] #[.pointer (some ⟨Bs, 0, none⟩)]] w (SpG w) := by
  have HM := Lib.hid hm
  have HBs := Lib.hid hBs
  clear hm hBs
  refine (callsIn_wide (n := 9)).1 ?_
  refine callsIn_of_wp_marks Try.func69 rfl trivial ?_ rfl
  simp only [Try.ntmps69, List.size_toArray, List.length_cons, List.length_nil, Nat.reduceAdd, Nat.reduceSub, Array.replicate_succ, Array.replicate_zero, List.push_toArray, List.append_toArray, List.nil_append, List.cons_append]
  gi_wp2_with fail
  obtain ⟨w3, hw3⟩ : ∃ w3, w3 = w.alloc (.cells #[.slice none 0 0] 89) := ⟨_, rfl⟩
  have hs3 : w3.heap.size = w.heap.size + 1 := by rw [hw3]; simp
  have H0 := Lib.hid (show w3.heap[w.heap.size]? = some (.cells #[.slice none 0 0] 89 (0, 0)) by rw [hw3]; exact heap_alloc_new w _)
  have HB3 := Lib.hid (show Below w.heap.size w w3 by rw [hw3]; exact below_new _ _)
  have HL := Lib.hid (show w.heap.size ≤ w3.heap.size + 1 by omega)
  rw [← hw3]
  clear hw3
  refine range_wide (gf := 56) (lb := #[.pointer (some ⟨Bs, 0, none⟩)]) rfl (enters_of Try.func56 (by kernel_rfl) rfl) ?_
  intro r r1 r2 r3 r4 r5 r6
  have hl0 : ((w3.alloc (.deferred (some []))).alloc (.loop r)).heap[w3.heap.size + 1]? = some (.loop r) := by
    have := World.alloc_heap_new (w3.alloc (.deferred (some []))) (.loop r)
    rwa [World.size_alloc] at this
  have hd0 : ((w3.alloc (.deferred (some []))).alloc (.loop r)).heap[w3.heap.size]? = some (.deferred (some [])) := (Below.heap_alloc _ _ _ (by simp)).trans (World.alloc_heap_new w3 _)
  have hbb : Below w3.heap.size w3 ((w3.alloc (.deferred (some []))).alloc (.loop r)) := ((Below.refl _ _).alloc (Nat.le_refl _) _).alloc (by simp) _
  have kk : ∀ {k : Nat} {o : Obj}, w3.heap[k]? = some o → ((w3.alloc (.deferred (some []))).alloc (.loop r)).heap[k]? = some o := fun h => (hbb.block _ (Array.getElem?_eq_some_iff.1 h).1).trans h
  have HBW := Lib.hid (HB3.out.trans (hbb.mono HB3.out.size))
  have hsW : ((w3.alloc (.deferred (some []))).alloc (.loop r)).heap.size = w.heap.size + 3 := by simp; omega
  have hJ0 : SpJ w w.heap.size (w3.heap.size + 1) w3.heap.size r [] ((w3.alloc (.deferred (some []))).alloc (.loop r)) := ⟨⟨_, kk H0.out, World.ownsRow_nil _ _ _ _⟩, hl0, hd0, HBW.out⟩
  have hBW : ((w3.alloc (.deferred (some []))).alloc (.loop r)).cell? ⟨Bs, 0, none⟩ = some (.map (some M)) := (HBW.out.cell (p := ⟨Bs, 0, none⟩) hBl).trans HBs.out
  generalize hWe : (w3.alloc (.deferred (some []))).alloc (.loop r) = WB at *
  refine (keys_in 8 (by decide) (w3.heap.size + 1) Bs M nn w WB HBW.out HM.out hBW (SpJ w w.heap.size (w3.heap.size + 1) w3.heap.size r) (fun P A B h hb => h.keep hb)
    (fun P A B r' h hr' ho hg => h.keep2 hr' ho hg (by omega) (by omega) (by omega) (by omega)) ?_ hJ0).mono ?_
  · clear hl0 hd0 hbb kk HBW H0 hJ0 hBW hWe
    intro P i W hJ0 hi hPl hbW hsz
    have HJ := Lib.hid hJ0
    have HI := Lib.hid hi
    refine yield_wide hJ0.loop r1 r2 (by rw [r3]; rfl) ?_
    clear hJ0 hi
    rw [r3, r4, r5, r6]
    clear r1 r2 r3 r4 r5 r6
    unfold spotV
    gi_wp2_with fail
    refine ⟨(below_new _ _).block _ (Array.getElem?_eq_some_iff.1 HJ.out.loop).1 |>.trans HJ.out.loop, ?_⟩
    have hbn := below_new W (.cells #[.int .i64 0, .int .i64 (i : Int)] 92)
    obtain ⟨W2, hW2⟩ : ∃ W2, W2 = (W.alloc (.cells #[.int .i64 0, .int .i64 (i : Int)] 92)).putObj (w3.heap.size + 1) (.loop (busyR r)) := ⟨_, rfl⟩
    have hWl : w3.heap.size + 1 < W.heap.size := (Array.getElem?_eq_some_iff.1 HJ.out.loop).1
    have hs2 : W2.heap.size = W.heap.size + 1 := by rw [hW2]; simp
    have HJ2 := Lib.hid (show SpJ w w.heap.size (w3.heap.size + 1) w3.heap.size (busyR r) P W2 by
      rw [hW2]
      exact (HJ.out.keep hbn).put _ HL.out)
    have HB2 := Lib.hid (show Below w.heap.size W W2 by
      rw [hW2]
      exact (hbn.mono hbW.size).trans ((Below.refl _ _).grown (grownBy_putObj' _ _ _) (Nat.le_trans hbW.size (by simp)) (fun k e => by cases e; exact HL.out)))
    have HSt2 := Lib.hid (show Stays WB.heap.size W W2 by
      rw [hW2]
      exact (Stays.alloc _ _ _).trans (Stays.put _ _ _ _ (by omega)))
    have hx : W2.heap[W.heap.size]? = some (.cells #[.int .i64 0, .int .i64 (i : Int)] 92 (0, 0)) := by
      rw [hW2]
      exact (World.putObj_heap_other (by omega)).trans (World.alloc_heap_new W _)
    have x0 := cell_of_row W2 W.heap.size 0 _ _ (0, 0) hx
    have x1 := cell_of_row W2 W.heap.size 1 _ _ (0, 0) hx
    rw [← hW2]
    clear hW2 hbn hx
    obtain ⟨vv, hv4, hrow⟩ := HJ2.out.rows
    have c4 : W2.cell? ⟨w.heap.size, 0, none⟩ = some vv := (cell_of_row W2 w.heap.size 0 _ _ (0, 0) hv4).trans rfl
    have hb3 := below_new W2 (.cells #[.int .i64 0, .int .i64 (i : Int)] 92)
    have HJ3 := Lib.hid (HJ2.out.keep hb3)
    have HR3 := Lib.hid (own_belowD hrow hb3)
    have HV3 := Lib.hid ((hb3.block _ (Array.getElem?_eq_some_iff.1 hv4).1).trans hv4)
    have HB3' := Lib.hid (HB2.out.trans (hb3.mono HJ2.out.below.size))
    have HSt3 := Lib.hid (HSt2.out.trans (Stays.alloc WB.heap.size W2 (.cells #[.int .i64 0, .int .i64 (i : Int)] 92)))
    have HPl := Lib.hid (show P.length ≤ 1000000 by omega)
    have HnB := Lib.hid (show w.heap.size < WB.heap.size ∧ w3.heap.size + 1 < WB.heap.size by omega)
    have HY0 := Lib.hid (show (W2.alloc (.cells #[.int .i64 0, .int .i64 (i : Int)] 92)).cell? ((⟨W2.heap.size, 0, none⟩ : Addr).add 0) = some (.int .i64 0) by
      show World.cell? _ ⟨W2.heap.size, 0, none⟩ = _
      rw [cell_of_row _ W2.heap.size 0 _ _ (0, 0) (heap_alloc_new W2 _)]; rfl)
    have HY1 := Lib.hid (show (W2.alloc (.cells #[.int .i64 0, .int .i64 (i : Int)] 92)).cell? ((⟨W2.heap.size, 0, none⟩ : Addr).add 1) = some (.int .i64 (i : Int)) by
      show World.cell? _ ⟨W2.heap.size, 1, none⟩ = _
      rw [cell_of_row _ W2.heap.size 1 _ _ (0, 0) (heap_alloc_new W2 _)]; rfl)
    clear hb3 hv4 hrow hWl hs2 hs3 hbW hPl hsz hsW
    gi_wp2_with (gi_at_builtin; refine wpListIn_appS rfl (.tmp 8) (.tmp 10) rfl w.heap.size vv P i ⟨W2.heap.size, 0, none⟩ rfl rfl HR3.out HPl.out HJ3.out.below.size HY0.out HY1.out ?_; intro v5 w5 ho5 hg5; obtain ⟨q4, q5, q6, q7⟩ := SpJ.step HJ3.out HV3.out HR3.out hg5 ho5 (Nat.le_refl _) HnB.out.1; have HQ := Lib.hid q5; have HQb := Lib.hid (HB3'.out.trans q6); have HQs := Lib.hid (HSt3.out.trans q7); rw [List.length_append, List.length_singleton] at ho5; obtain ⟨g5, cap5, e5⟩ := ownsRow_succ ho5; subst e5; have c5 : w5.cell? ⟨w.heap.size, 0, none⟩ = some vv := (cell_of_row w5 w.heap.size 0 _ _ (0, 0) q4).trans rfl; have f5 := frozen_of_row w5 w.heap.size 0 _ _ q4; clear q4 q5 q6 q7 ho5 hg5)
    exact ⟨HQ.out.loop, HQ.out.put r HL.out, HQb.out.trans ((Below.refl _ _).grown (grownBy_putObj' _ _ _) HQ.out.below.size (fun k e => by cases e; exact HL.out)), HQs.out.trans (Stays.put _ _ _ _ HnB.out.2)⟩
  · rintro e w4 ⟨⟨vr, rfl⟩, P, hP, hJ4⟩
    refine ⟨⟨_, rfl⟩, hJ4.loop, ?_⟩
    have HJ5 := Lib.hid (hJ4.put { r with state := .exhausted } HL.out)
    obtain ⟨w5, hw5⟩ : ∃ w5, w5 = w4.putObj (w3.heap.size + 1) (.loop { r with state := .exhausted }) := ⟨_, rfl⟩
    rw [← hw5] at HJ5 ⊢
    clear hw5 hJ4 hl0 hd0 hbb kk HBW H0 hJ0 hBW hWe r1 r2 r3 r4 r5 r6
    obtain ⟨v5, hv5, hrow⟩ := HJ5.out.rows
    have HR := Lib.hid hrow
    have c4 : w5.cell? ⟨w.heap.size, 0, none⟩ = some v5 := (cell_of_row w5 w.heap.size 0 _ _ (0, 0) hv5).trans rfl
    clear hv5 hrow hs3
    gi_wp2_with fail
    refine ⟨by simp, .inl ⟨_, _, rfl, run_takeDeferred (show w5.heap[w3.heap.size]? = _ from HJ5.out.defs), ?_⟩⟩
    have hD : w5.heap[w3.heap.size]? = some (.deferred (some [])) := HJ5.out.defs
    refine ⟨_, by simp [results, Try.results69, go_sem], v5, P, hP, rfl, ?_, ?_⟩
    · exact own_putCells HR.out (grownBy_putObj' _ _ _) (fun b e => by cases e; exact ⟨_, hD, rfl⟩)
    · exact HJ5.out.below.trans ((Below.refl _ _).grown (grownBy_putObj' _ _ _) HJ5.out.below.size (fun k e => by cases e; exact HB3.out.size))
set_option maxRecDepth 100000 in
theorem collect_two (w : World) (Bs M nn : Nat) (hm : MapAt w Try.prog 92 M nn (OL 2)) (hBs : w.cell? ⟨Bs, 0, none⟩ = some (.map (some M))) (hBl : Bs < w.heap.size) :
    Calls Try.prog 54 #[.func (.func 56) #[] #[.pointer (some ⟨Bs, 0, none⟩)]] w (SpG w) := by
  have HA := Lib.hid (appendSeq_two w Bs M nn hm hBs hBl)
  clear hm hBs hBl
  go_enter Try.func54, Try.ntmps54
  go_wp2_with fail
  refine HA.out.mono ?_
  rintro e w1 ⟨v, P, hP, rfl, ho, hb⟩
  have HE := Lib.hid (And.intro hP (And.intro ho hb))
  clear hP ho hb
  go_wp2_with fail
  go_ret
  exact ⟨v, P, HE.out.1, rfl, HE.out.2.1, HE.out.2.2⟩
set_option maxRecDepth 100000 in
theorem keys_any (w : World) (M : Nat) :
    Calls Try.prog 48 #[.map (some M)] w fun e w' => e = .returned (.func (.func 56) #[] #[.pointer (some ⟨w.heap.size, 0, none⟩)]) ∧ w' = w.alloc (.cells #[.map (some M)] 60) := by
  go_enter Try.func48, Try.ntmps48
  go_wp2_with fail
  go_ret
  exact ⟨rfl, rfl⟩
end Go.Proofs.Ytnmeehhjfcciiaa
