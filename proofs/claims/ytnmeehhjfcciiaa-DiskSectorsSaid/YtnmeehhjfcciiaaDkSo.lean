/-
  slices.SortFunc at two sectors.
-/
import Derived.Test.YtnmeehhjfcciiaaDkAT
import Derived.BigQuiet
import Derived.BigRegion
namespace Go.Proofs.Ytnmeehhjfcciiaa
open Go Go.RowKit Go.Maps Go.WideMaps

/-- Block g holds two sectors, and what may lie behind them. -/
def At2 (W : World) (g : Nat) (x y : Int) : Prop := ∃ rest : List Value, W.heap[g]? = some (.cells (.int .i64 0 :: .int .i64 x :: .int .i64 0 :: .int .i64 y :: rest).toArray 92 (0, 0))
theorem At2.cells {W : World} {g : Nat} {x y : Int} (h : At2 W g x y) : W.cell? ⟨g, 0, none⟩ = some (.int .i64 0) ∧ W.cell? ⟨g, 1, none⟩ = some (.int .i64 x) ∧ W.cell? ⟨g, 2, none⟩ = some (.int .i64 0) ∧ W.cell? ⟨g, 3, none⟩ = some (.int .i64 y) := by
  obtain ⟨rest, h⟩ := h
  refine ⟨?_, ?_, ?_, ?_⟩ <;> exact (cell_of_row W g _ _ _ (0, 0) h).trans (by simp)
theorem At2.loose {W : World} {g : Nat} {x y : Int} (h : At2 W g x y) (i : Nat) : W.frozen? ⟨g, i, none⟩ = false := by
  obtain ⟨rest, h⟩ := h
  exact frozen_of_row W g i _ _ h
theorem At2.lt {W : World} {g : Nat} {x y : Int} (h : At2 W g x y) : g < W.heap.size := by
  obtain ⟨rest, h⟩ := h
  exact (Array.getElem?_eq_some_iff.1 h).1
theorem At2.grown {W W' : World} {g : Nat} {x y : Int} (h : At2 W g x y) (hg : Grown W W') : At2 W' g x y := by
  obtain ⟨rest, h⟩ := h
  exact ⟨rest, (hg.below.block g (Array.getElem?_eq_some_iff.1 h).1).trans h⟩
theorem at2_swap {W : World} {g : Nat} {x y : Int} (h : At2 W g x y) : At2 (((((W.setCell ⟨g, 2, none⟩ (.int .i64 0)).setCell ⟨g, 3, none⟩ (.int .i64 x)).setCell ⟨g, 0, none⟩ (.int .i64 0)).setCell ⟨g, 1, none⟩ (.int .i64 y)).drew) g y x := by
  obtain ⟨rest, h⟩ := h
  refine ⟨rest, ?_⟩
  have h1 := Go.heap_setCell_same W g 2 _ _ (.int .i64 0) h
  have h2 := Go.heap_setCell_same _ g 3 _ _ (.int .i64 x) h1
  have h3 := Go.heap_setCell_same _ g 0 _ _ (.int .i64 0) h2
  have h4 := Go.heap_setCell_same _ g 1 _ _ (.int .i64 y) h3
  refine Eq.trans h4 ?_
  simp
theorem grow_swap {W : World} {g : Nat} (a b c d : Value) : Grow (fun k => k = g) W (((((W.setCell ⟨g, 2, none⟩ a).setCell ⟨g, 3, none⟩ b).setCell ⟨g, 0, none⟩ c).setCell ⟨g, 1, none⟩ d).drew) := by
  have h0 := Grow.refl (fun k => k = g) W
  have h1 := h0.setCell ⟨g, 2, none⟩ a (fun _ => rfl)
  have h2 := h1.setCell ⟨g, 3, none⟩ b (fun _ => rfl)
  have h3 := h2.setCell ⟨g, 0, none⟩ c (fun _ => rfl)
  exact (h3.setCell ⟨g, 1, none⟩ d (fun _ => rfl)).drew
set_option maxRecDepth 100000 in
set_option maxHeartbeats 1000000 in
theorem ins_two (w : World) (g cap : Nat) (x y : Int) (h : At2 w g x y) : Calls Try.prog 76 #[.slice (some ⟨g, 0, none⟩) 2 cap, .int .i64 0, .int .i64 2, .func (.func 49) #[] #[]] w fun e w' =>
    e = .returned (.tuple #[]) ∧ (if cmpI y x < 0 then At2 w' g y x else At2 w' g x y) ∧ Grow (fun k => k = g) w w' := by
  have mixed : Try.prog.follows .mixedOrders = true := by kernel_rfl
  have HA := Lib.hid h
  have HC := Lib.hid (fun (W : World) => loose1_any W y x)
  obtain ⟨b0, b1, b2, b3⟩ := h.cells
  have hl := h.lt
  have c0 : ∀ n os, (Sort.grow (w.drewN n) os).cell? ⟨g, 0, none⟩ = some (.int .i64 0) := cell_grown hl b0
  have c1 : ∀ n os, (Sort.grow (w.drewN n) os).cell? ⟨g, 1, none⟩ = some (.int .i64 x) := cell_grown hl b1
  have c2 : ∀ n os, (Sort.grow (w.drewN n) os).cell? ⟨g, 2, none⟩ = some (.int .i64 0) := cell_grown hl b2
  have c3 : ∀ n os, (Sort.grow (w.drewN n) os).cell? ⟨g, 3, none⟩ = some (.int .i64 y) := cell_grown hl b3
  clear h b0 b1 b2 b3
  obtain ⟨z, HZ⟩ : ∃ z, Hid (z = cmpI y x) := ⟨_, Lib.hid rfl⟩
  rw [← HZ.out]
  replace HC := Lib.hid (fun (W : World) => (show Calls Try.prog 49 #[.agg #[.int .i64 0, .int .i64 y], .agg #[.int .i64 0, .int .i64 x]] W fun e w' => e = .returned (.int .i64 z) ∧ Grown W w' from by rw [HZ.out]; exact HC.out W))
  clear HZ
  by_cases hz : z < 0
  · simp only [if_pos hz]
    go_enter Try.func76, Try.ntmps76
    go_wp2_with fail
    refine wp_loop_rounds 2 ?_
    rw [rounds_succ]
    go_wp2_with fail
    refine wp_loop_rounds 2 ?_
    rw [rounds_succ]
    go_wp2_with fail
    refine wp_region_quiet_grown (by assumption) (by kernel_rfl) ?_
    iterate 17 go_big_quiet_step (exact Calls.grown_of (HC.out _))
    refine wpQuiet_nil ?_
    intro _ hw'
    obtain ⟨⟨nq, osq⟩, hw''⟩ := hw'
    subst hw''
    have HA2 := Lib.hid (HA.out.grown ⟨nq, osq, rfl⟩)
    have HG2 := Lib.hid (show Grown w (Sort.grow (w.drewN nq) osq) from ⟨nq, osq, rfl⟩)
    clear c0 c1 c2 c3
    generalize Sort.grow (w.drewN nq) osq = w2 at *
    obtain ⟨b0, b1, b2, b3⟩ := HA2.out.cells
    have f0 := HA2.out.loose 0
    have f1 := HA2.out.loose 1
    have f2 := HA2.out.loose 2
    have f3 := HA2.out.loose 3
    go_wp2_with fail
    go_big_region
    have HA3 := Lib.hid (at2_swap HA2.out)
    have HG3 := Lib.hid ((HG2.out.grow.mono (T := fun k => k = g) (fun _ _ e => e.elim)).trans (grow_swap (W := w2) (g := g) (.int .i64 0) (.int .i64 x) (.int .i64 0) (.int .i64 y)))
    clear b0 b1 b2 b3 f0 f1 f2 f3
    generalize (((((w2.setCell ⟨g, 2, none⟩ (.int .i64 0)).setCell ⟨g, 3, none⟩ (.int .i64 x)).setCell ⟨g, 0, none⟩ (.int .i64 0)).setCell ⟨g, 1, none⟩ (.int .i64 y)).drew) = w3 at *
    go_wp2_with fail
    rw [rounds_succ]
    go_wp2_with fail
    refine wp_region_quiet_grown (by assumption) (by kernel_rfl) ?_
    iterate 17 go_big_quiet_step (fail)
    refine wpQuiet_nil ?_
    intro _ hw'
    obtain ⟨⟨nq, osq⟩, hw''⟩ := hw'
    subst hw''
    have HA4 := Lib.hid (HA3.out.grown ⟨nq, osq, rfl⟩)
    have HG4 := Lib.hid (HG3.out.trans ((show Grown w3 (Sort.grow (w3.drewN nq) osq) from ⟨nq, osq, rfl⟩).grow.mono (fun _ _ e => e.elim)))
    generalize Sort.grow (w3.drewN nq) osq = w4 at *
    go_wp2_with fail
    rw [rounds_succ]
    go_wp2_with fail
    exact bodyPost_end (results_none rfl _ _ _) rfl ⟨rfl, HA4.out, HG4.out⟩
  · simp only [if_neg hz]
    go_enter Try.func76, Try.ntmps76
    go_wp2_with fail
    refine wp_loop_rounds 2 ?_
    rw [rounds_succ]
    go_wp2_with fail
    refine wp_loop_rounds 2 ?_
    rw [rounds_succ]
    go_wp2_with fail
    refine wp_region_quiet_grown (by assumption) (by kernel_rfl) ?_
    iterate 17 go_big_quiet_step (exact Calls.grown_of (HC.out _))
    refine wpQuiet_nil ?_
    intro _ hw'
    obtain ⟨⟨nq, osq⟩, hw''⟩ := hw'
    subst hw''
    have HA2 := Lib.hid (HA.out.grown ⟨nq, osq, rfl⟩)
    have HG2 := Lib.hid (show Grown w (Sort.grow (w.drewN nq) osq) from ⟨nq, osq, rfl⟩)
    clear c0 c1 c2 c3
    generalize Sort.grow (w.drewN nq) osq = w2 at *
    go_wp2_with fail
    rw [rounds_succ]
    go_wp2_with fail
    exact bodyPost_end (results_none rfl _ _ _) rfl ⟨rfl, HA2.out, HG2.out.grow.mono (fun _ _ e => e.elim)⟩
end Go.Proofs.Ytnmeehhjfcciiaa
