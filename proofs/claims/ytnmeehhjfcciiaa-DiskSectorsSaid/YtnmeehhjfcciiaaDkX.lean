/-
  The comparer of two sectors of one file.
-/
import Derived.Test.YtnmeehhjfcciiaaDkB
import Derived.Shelf.SlSortCmp.QuietGrown
namespace Go.Proofs.Ytnmeehhjfcciiaa
open Go Go.RowKit Go.Maps Go.WideMaps

/-- Some draws, and new blocks alone. -/
def Grown (w w' : World) : Prop := ∃ (q : Nat) (os : Array Obj), w' = Sort.grow (w.drewN q) os
theorem Grown.refl (w : World) : Grown w w := ⟨0, #[], by rw [Sort.grow_empty]; rfl⟩
theorem Grown.trans {a b c : World} (h : Grown a b) (h' : Grown b c) : Grown a c := by
  obtain ⟨q, os, rfl⟩ := h
  obtain ⟨q', os', rfl⟩ := h'
  refine ⟨q + q', os ++ os', ?_⟩
  rw [← Sort.grow_grow, ← World.drewN_drewN]
  rfl
theorem Grown.alloc {a b : World} (h : Grown a b) (o : Obj) : Grown a (b.alloc o) := h.trans ⟨0, #[o], by rw [Sort.alloc_eq_grow]; rfl⟩
theorem Grown.drew {a b : World} (h : Grown a b) : Grown a b.drew := h.trans ⟨1, #[], by rw [Sort.grow_empty]; rfl⟩
theorem Grown.below {a b : World} (h : Grown a b) : Below a.heap.size a b := by
  obtain ⟨q, os, rfl⟩ := h
  exact ⟨rfl, rfl, rfl, by show a.heap.size ≤ (a.heap ++ os).size; rw [Array.size_append]; omega, fun j hj => Array.getElem?_append_left hj⟩
theorem Grown.size {a b : World} (h : Grown a b) : a.heap.size ≤ b.heap.size := h.below.size
theorem Grown.grow {w w' : World} (h : Grown w w') : Grow (fun _ => False) w w' := ⟨h.below.os, h.below.tape, h.below.output, h.below.size, fun k hk _ => h.below.block k hk⟩
def cmpI (x y : Int) : Int := if x < y then -1 else if y < x then 1 else 0
set_option maxRecDepth 100000 in
theorem or_snd (w : World) (b c : Nat) (y : Int) (h0 : w.cell? ⟨b, 0, none⟩ = some (.int .i64 0)) (h1 : w.cell? ⟨b, 1, none⟩ = some (.int .i64 y)) : Says 50 #[.slice (some ⟨b, 0, none⟩) 2 c] w (.int .i64 y) := by
  cases hy : (y != 0) with
  | true =>
    go_enter Try.func50, Try.ntmps50
    go_wp2_with fail
    refine wp_loop_rounds 2 ?_
    rw [rounds_succ]
    go_wp2_with fail
    rw [rounds_succ]
    go_wp2_with fail
    go_ret
    exact ⟨rfl, rfl⟩
  | false =>
    have hy0 : y = 0 := by simpa using hy
    subst hy0
    go_enter Try.func50, Try.ntmps50
    go_wp2_with fail
    refine wp_loop_rounds 3 ?_
    rw [rounds_succ]
    go_wp2_with fail
    rw [rounds_succ]
    go_wp2_with fail
    rw [rounds_succ]
    go_wp2_with fail
    go_ret
    exact ⟨rfl, rfl⟩
theorem lo1_keep {W0 : World} {n : Nat} {x y : Int} {o : Obj} (hsz : n + 1 < W0.heap.size) (a0 : W0.cell? ⟨n, 0, none⟩ = some (.int .i64 0)) (a1 : W0.cell? ⟨n, 1, none⟩ = some (.int .i64 x)) (b0 : W0.cell? ⟨n + 1, 0, none⟩ = some (.int .i64 0)) (b1 : W0.cell? ⟨n + 1, 1, none⟩ = some (.int .i64 y)) :
    (W0.alloc o).drew.cell? ⟨n, 0, none⟩ = some (.int .i64 0) ∧ (W0.alloc o).drew.cell? ⟨n, 1, none⟩ = some (.int .i64 x) ∧ (W0.alloc o).drew.cell? ⟨n + 1, 0, none⟩ = some (.int .i64 0) ∧ (W0.alloc o).drew.cell? ⟨n + 1, 1, none⟩ = some (.int .i64 y) :=
  ⟨(World.cell?_alloc_lt W0 _ _ (by show n < W0.heap.size; omega)).trans a0, (World.cell?_alloc_lt W0 _ _ (by show n < W0.heap.size; omega)).trans a1, (World.cell?_alloc_lt W0 _ _ hsz).trans b0, (World.cell?_alloc_lt W0 _ _ hsz).trans b1⟩
set_option maxRecDepth 100000 in
set_option maxHeartbeats 400000 in
theorem loose1_any (w : World) (x y : Int) : Calls Try.prog 49 #[.agg #[.int .i64 0, .int .i64 x], .agg #[.int .i64 0, .int .i64 y]] w fun e w' => e = .returned (.int .i64 (cmpI x y)) ∧ Grown w w' := by
  have e1 : (w.alloc (.cells #[.int .i64 0, .int .i64 x] 92)).heap.size = w.heap.size + 1 := by simp
  have a0 : ((w.alloc (.cells #[.int .i64 0, .int .i64 x] 92)).alloc (.cells #[.int .i64 0, .int .i64 y] 92)).drew.cell? ⟨w.heap.size, 0, none⟩ = some (.int .i64 0) := (World.cell?_alloc_lt _ _ _ (by simp)).trans ((World.cell?_alloc_new w _ _ 0).trans rfl)
  have a1 : ((w.alloc (.cells #[.int .i64 0, .int .i64 x] 92)).alloc (.cells #[.int .i64 0, .int .i64 y] 92)).drew.cell? ⟨w.heap.size, 1, none⟩ = some (.int .i64 x) := (World.cell?_alloc_lt _ _ _ (by simp)).trans ((World.cell?_alloc_new w _ _ 1).trans rfl)
  have b0 : ((w.alloc (.cells #[.int .i64 0, .int .i64 x] 92)).alloc (.cells #[.int .i64 0, .int .i64 y] 92)).drew.cell? ⟨w.heap.size + 1, 0, none⟩ = some (.int .i64 0) := by rw [← e1]; exact (World.cell?_alloc_new _ _ _ 0).trans rfl
  have b1 : ((w.alloc (.cells #[.int .i64 0, .int .i64 x] 92)).alloc (.cells #[.int .i64 0, .int .i64 y] 92)).drew.cell? ⟨w.heap.size + 1, 1, none⟩ = some (.int .i64 y) := by rw [← e1]; exact (World.cell?_alloc_new _ _ _ 1).trans rfl
  have HG := Lib.hid (show Grown w ((w.alloc (.cells #[.int .i64 0, .int .i64 x] 92)).alloc (.cells #[.int .i64 0, .int .i64 y] 92)).drew from (((Grown.refl w).alloc (.cells #[.int .i64 0, .int .i64 x] 92)).alloc (.cells #[.int .i64 0, .int .i64 y] 92)).drew)
  have HC := Lib.hid (fun (W : World) => cmpI_any W x y)
  have HC0 := Lib.hid (fun (W : World) => (show Says 51 #[.int .i64 0, .int .i64 0] W (.int .i64 0) from cmpI_any W 0 0))
  clear e1
  go_enter Try.func49, Try.ntmps49
  go_wp2_with fail
  refine wp_region_still_tail 10 (by kernel_rfl) (by kernel_rfl) ?_
  simp only [List.take_succ_cons, List.take_zero, List.drop_succ_cons, List.drop_zero]
  change wpStill _ _ ((w.alloc (.cells #[.int .i64 0, .int .i64 x] 92)).alloc (.cells #[.int .i64 0, .int .i64 y] 92)).drew (fun a' => wpList _ _ _ _ a' ((w.alloc (.cells #[.int .i64 0, .int .i64 x] 92)).alloc (.cells #[.int .i64 0, .int .i64 y] 92)).drew) _ _
  obtain ⟨z, HZ⟩ : ∃ z, Hid (z = cmpI x y) := ⟨_, Lib.hid rfl⟩
  replace HC := Lib.hid (fun (W : World) => (show Says 51 #[.int .i64 x, .int .i64 y] W (.int .i64 z) from by rw [HZ.out]; exact HC.out W))
  generalize ((w.alloc (.cells #[.int .i64 0, .int .i64 x] 92)).alloc (.cells #[.int .i64 0, .int .i64 y] 92)).drew = W0 at *
  iterate 4 still_step
  still_call ((HC0.out W0).mono (fun _ _ h => ⟨h.1, h.2.symm⟩))
  iterate 4 still_step
  still_call ((HC.out W0).mono (fun _ _ h => ⟨h.1, h.2.symm⟩))
  refine wpStill_nil ?_
  clear a0 a1 b0 b1
  go_wp2_with fail
  refine (or_snd _ _ _ z (World.cell?_alloc_new W0 _ _ 0) (World.cell?_alloc_new W0 _ _ 1)).mono ?_
  rintro e w2 ⟨rfl, rfl⟩
  go_wp2_with fail
  go_ret
  exact ⟨by rw [← HZ.out]; rfl, HG.out.alloc _⟩
end Go.Proofs.Ytnmeehhjfcciiaa
