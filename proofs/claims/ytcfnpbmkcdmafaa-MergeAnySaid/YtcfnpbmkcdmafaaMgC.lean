/-
  Contract of merge.told.
-/
import Derived.Test.YtcfnpbmkcdmafaaMgB
namespace Go.Proofs.Ytcfnpbmkcdmafaa
open Go Go.RowKit

theorem nil_ahead (b : Nat) (w : World) : (nilAhead (Try.prog.types.size + Made.depth) 112 (.pointer (some ⟨b, 0, none⟩)) "Next").run Try.prog w = .ok (some false) w := by kernel_rfl
theorem method_next (b : Nat) (w : World) : (method (Try.prog.types.size + Made.depth) 112 (.pointer (some ⟨b, 0, none⟩)) "Next").run Try.prog w = .ok (49, .pointer (some ⟨b, 0, none⟩)) w := by kernel_rfl
/-- What a call that tells the next of L leaves. -/
def TellEnd (Y : Nat → Prop) (L : List Th) (P : (Nat → Prop) → List Th → World → Prop) (w : World) (e : Ending) (w' : World) : Prop :=
  e = .returned (headV L) ∧ Upd (allOf Y) w w' ∧ ∃ Y', Sub w.heap.size Y Y' ∧ P Y' L.tail w'
theorem headV_form (L : List Th) : ∃ k m ok, headV L = .tuple #[.agg #[.int .i8 k, .int .i64 m], .bool ok] ∧ (ok = false → k = 0 ∧ m = 0 ∧ L = []) ∧ (ok = true → ∃ r, L = (k, m) :: r) := by
  cases L with
  | nil => exact ⟨0, 0, false, rfl, fun _ => ⟨rfl, rfl, rfl⟩, fun h => by cases h⟩
  | cons x r => exact ⟨x.1, x.2, true, rfl, fun h => (by cases h), fun _ => ⟨r, rfl⟩⟩
theorem upd_cell {Y : Nat → Prop} {w w1 : World} {o : Obj} (hy : ∀ b, Y b → b < w.heap.size) (hu : Upd (allOf Y) (w.alloc o) w1) : w1.heap[w.heap.size]? = some o :=
  (hu.block _ (by simp) (fun _ e => absurd (hy _ e) (Nat.lt_irrefl _))).trans (heap_alloc_new w o)
theorem cells_set2 {w : World} {b : Nat} {x y : Value} {t : TypeId} (h : w.heap[b]? = some (.cells #[x, y] t (0, 0))) (u v : Value) :
    ((w.setCell ⟨b, 0, none⟩ u).setCell ⟨b, 1, none⟩ v).cell? ⟨b, 0, none⟩ = some u ∧ ((w.setCell ⟨b, 0, none⟩ u).setCell ⟨b, 1, none⟩ v).cell? ⟨b, 1, none⟩ = some v := by
  have h1 := Go.heap_setCell_same w b 0 _ _ u h
  have h2 := Go.heap_setCell_same _ b 1 _ _ v h1
  exact ⟨cell_of_row _ b 0 _ _ (0, 0) h2, cell_of_row _ b 1 _ _ (0, 0) h2⟩
theorem told_after {P : (Nat → Prop) → List Th → World → Prop} (keep : ∀ {Y L w w'}, P Y L w → w.heap.size ≤ w'.heap.size → (∀ b, Y b → w'.heap[b]? = w.heap[b]?) → P Y L w') {Y Y' : Nat → Prop} {w w1 : World} {o : Obj} {L : List Th} (u v : Value)
    (hy : ∀ b, Y b → b < w.heap.size) (hu : Upd (allOf Y) (w.alloc o) w1) (hs : Sub (w.alloc o).heap.size Y Y') (ht : P Y' L w1) :
    Upd (allOf Y) w ((w1.setCell ⟨w.heap.size, 0, none⟩ u).setCell ⟨w.heap.size, 1, none⟩ v) ∧ ∃ Y', Sub w.heap.size Y Y' ∧ P Y' L ((w1.setCell ⟨w.heap.size, 0, none⟩ u).setCell ⟨w.heap.size, 1, none⟩ v) := by
  have hn : ∀ b, Y' b → b ≠ w.heap.size := fun b e h' => by
    subst h'
    rcases hs _ e with h | h
    · exact absurd (hy _ h) (Nat.lt_irrefl _)
    · simp at h; omega
  exact ⟨(((Upd.refl (allOf Y) w).alloc o |>.trans hu).setCell _ _ _ (fun h => absurd h (Nat.lt_irrefl _))).setCell _ _ _ (fun h => absurd h (Nat.lt_irrefl _)), Y', fun b e => (hs b e).imp_right (fun h => by simp at h; omega), keep ht (by simp [World.setCell]) (fun b e => (Below.heap_setCell _ _ _ _ (hn b e)).trans (Below.heap_setCell _ _ _ _ (hn b e)))⟩
set_option maxRecDepth 100000 in
set_option maxHeartbeats 1000000 in
theorem told_any {fv : Value} {k : Nat} {lb : Array Value} {G : (Nat → Prop) → List Th → World → Prop} {Y : Nat → Prop} {L : List Th} {w : World} (hf : Fv fv k lb) (h : Tells k lb G Y L w) :
    Calls Try.prog 75 #[fv] w (TellEnd Y L (Tells k lb G) w) := by
  have HI := Lib.hid h.inside
  have HC := Lib.hid ((h.keep (w' := w.alloc (.cells #[.int .i8 0, .int .i64 0] 28)) (by simp) (fun b e => Below.heap_alloc _ _ _ (by have := h.inside b e; omega))).step)
  clear h
  obtain ⟨hk, hm, ok, eh, -, -⟩ := headV_form L
  have HE := Lib.hid eh
  clear eh
  have hmf := method_next
  cases hf with
  | clo k lb he =>
    go_enter_defers Try.func75, Try.ntmps75
    go_wp2_with fail
    refine HC.out.mono ?_
    rintro e w1 ⟨rfl, hu, Y', hs, ht⟩
    rw [HE.out]
    have HQ := Lib.hid (told_after (P := Tells k lb G) Tells.keep (.int .i8 hk) (.int .i64 hm) HI.out hu hs ht)
    have hc := upd_cell HI.out hu
    have c0 := cell_of_row w1 w.heap.size 0 _ _ (0, 0) hc
    have c1 := cell_of_row w1 w.heap.size 1 _ _ (0, 0) hc
    have f0 := frozen_of_row w1 w.heap.size 0 _ _ hc
    have f1 := frozen_of_row w1 w.heap.size 1 _ _ hc
    have HN := Lib.hid (cells_set2 hc (.int .i8 hk) (.int .i64 hm))
    clear hu hs ht hc
    go_wp2_with fail
    refine leaves_cons (f := 90) (args := #[]) (by simp) (by simp [go_sem]) ?_
    refine (told_idle _).mono ?_
    rintro e u' w'' ⟨rfl, rfl, rfl⟩
    obtain ⟨n0, n1⟩ := HN.out
    simp [Leaves, settle, results, Try.results75, go_sem, n0, n1]
    exact ⟨HE.out.symm ▸ rfl, HQ.out⟩
  | next b =>
    go_enter_defers Try.func75, Try.ntmps75
    go_wp2_with fail
    refine HC.out.mono ?_
    rintro e w1 ⟨rfl, hu, Y', hs, ht⟩
    rw [HE.out]
    have HQ := Lib.hid (told_after (P := Tells 49 #[.pointer (some ⟨b, 0, none⟩)] G) Tells.keep (.int .i8 hk) (.int .i64 hm) HI.out hu hs ht)
    have hc := upd_cell HI.out hu
    have c0 := cell_of_row w1 w.heap.size 0 _ _ (0, 0) hc
    have c1 := cell_of_row w1 w.heap.size 1 _ _ (0, 0) hc
    have f0 := frozen_of_row w1 w.heap.size 0 _ _ hc
    have f1 := frozen_of_row w1 w.heap.size 1 _ _ hc
    have HN := Lib.hid (cells_set2 hc (.int .i8 hk) (.int .i64 hm))
    clear hu hs ht hc
    go_wp2_with fail
    refine leaves_cons (f := 90) (args := #[]) (by simp) (by simp [go_sem]) ?_
    refine (told_idle _).mono ?_
    rintro e u' w'' ⟨rfl, rfl, rfl⟩
    obtain ⟨n0, n1⟩ := HN.out
    simp [Leaves, settle, results, Try.results75, go_sem, n0, n1]
    exact ⟨HE.out.symm ▸ rfl, HQ.out⟩
end Go.Proofs.Ytcfnpbmkcdmafaa
