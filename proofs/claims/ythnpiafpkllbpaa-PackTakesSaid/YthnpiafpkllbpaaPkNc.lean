/-
  Contract of pack's reading of a tuple with its count.
-/
import Derived.Test.YthnpiafpkllbpaaPkNt
namespace Go.Proofs.Ythnpiafpkllbpaa
open Go Go.RowKit

theorem new_cells2 {R : Nat} {w w1 : World} {x y : Value} {t : TypeId} (hk : KeepR R (w.alloc (.cells #[x, y] t)) w1) (hR : R < w.heap.size) :
    w1.cell? ⟨w.heap.size, 0, none⟩ = some x ∧ w1.cell? ⟨w.heap.size, 1, none⟩ = some y ∧ w1.frozen? ⟨w.heap.size, 0, none⟩ = false ∧ w1.frozen? ⟨w.heap.size, 1, none⟩ = false ∧ w.heap.size < w1.heap.size := by
  have hb := (hk.block w.heap.size (by simp) (by intro e; injection e with e; omega)).trans (heap_alloc_new w _)
  exact ⟨cell_of_row w1 _ 0 _ _ (0, 0) hb, cell_of_row w1 _ 1 _ _ (0, 0) hb, frozen_of_row w1 _ 0 _ _ hb, frozen_of_row w1 _ 1 _ _ hb, (Array.getElem?_eq_some_iff.1 hb).1⟩
theorem below_sets2 (B : Nat) (w : World) (x y : Value) : Below B w ((w.setCell ⟨B, 0, none⟩ x).setCell ⟨B, 1, none⟩ y) :=
  ((Below.refl B w).setCell (p := ⟨B, 0, none⟩) (Nat.le_refl _) x).setCell (p := ⟨B, 1, none⟩) (Nat.le_refl _) y
theorem RowN.set {w : World} {g n : Nat} {acc : List V3} (h : RowN w g n acc) (b o : Nat) (u : Value) (hb : g ≠ b) : RowN (w.setCell ⟨b, o, none⟩ u) g n acc := by
  obtain ⟨A, h1, h2⟩ := h
  exact ⟨A, (heap_setCell_other w ⟨b, o, none⟩ g u hb).trans h1, h2⟩
/-- A tuple and its count, in memory that is new. -/
def CntV (B : Nat) (p : List V3 × Int) (w : World) (v : Value) : Prop := ∃ g, B ≤ g ∧ v = .agg #[.slice (some ⟨g, 0, none⟩) p.1.length p.1.length, .int .i64 p.2] ∧ RowN w g p.1.length p.1 ∧ p.1.length ≤ 8

set_option maxHeartbeats 2000000 in
set_option maxRecDepth 100000 in
theorem rdCnt_any (n₀ R : Nat) (l : List UInt8) (w : World) (h : RestAt n₀ w R l) : Calls Try.prog 39 #[.pointer (some ⟨R, 0, none⟩)] w (ReadEnd (CntV w.heap.size) n₀ R (cntQ l) w) := by
  have H := Lib.hid h
  have hRlt := h.lt
  clear h
  have K0 := Lib.hid (keep_alloc R w (.cells #[.slice none 0 0, .int .i64 0] 46))
  go_enter Try.func39, Try.ntmps39
  go_wp2_with fail
  refine (rdTup_any n₀ R l _ (H.out.alloc _)).mono ?_
  rintro e w1 ⟨hk, ⟨T, r, v, ho, rfl, ⟨g, hg, rfl, hrow, h8⟩, hr⟩ | ⟨ho, rfl⟩⟩
  · have HK := Lib.hid hk
    have HR := Lib.hid hr
    have HRow := Lib.hid hrow
    have HC : Hid (cntQ l = (intQ r).map (fun p => ((T, p.1), p.2))) := Lib.hid (by unfold cntQ; rw [ho])
    have hg' : w.heap.size < g := by simp at hg; omega
    clear hk hr hrow ho hg
    go_wp2_with fail
    refine (rdI_any n₀ R r w1 HR.out).mono ?_
    rintro e w2 ⟨hk, ⟨x, r', v, ho, rfl, rfl, hr⟩ | ⟨ho, rfl⟩⟩
    · have HK2 := Lib.hid (HK.out.trans hk)
      have HRow2 := Lib.hid (HRow.out.keep hk (by omega))
      have HR2 := Lib.hid hr
      have HC' : Hid (cntQ l = some ((T, x), r')) := Lib.hid (by rw [HC.out, ho]; rfl)
      clear hk hr ho
      obtain ⟨c0, c1, f0, f1, hlt⟩ := new_cells2 HK2.out hRlt
      go_wp2_with fail
      exact bodyPost_ret (v := .agg #[.slice (some ⟨g, 0, none⟩) T.length T.length, .int .i64 x]) (by simp [results, Try.results39, go_sem, c0, c1]) rfl ⟨(K0.out.trans HK2.out).below (below_sets2 _ _ _ _), .inl ⟨(T, x), r', _, HC'.out, rfl, ⟨g, by omega, rfl, (HRow2.out.set _ _ _ (by omega)).set _ _ _ (by omega), h8⟩, HR2.out.below (below_sets2 _ _ _ _) hRlt⟩⟩
    · have HK2 := Lib.hid ((K0.out.trans HK.out).trans hk)
      have HC' : Hid (cntQ l = none) := Lib.hid (by rw [HC.out, ho]; rfl)
      clear hk ho
      go_wp2_with fail
      exact ⟨rfl, HK2.out, .inr ⟨HC'.out, rfl⟩⟩
  · have HK2 := Lib.hid (K0.out.trans hk)
    have HC' : Hid (cntQ l = none) := Lib.hid (by unfold cntQ; rw [ho])
    clear hk ho
    go_wp2_with fail
    exact ⟨rfl, HK2.out, .inr ⟨HC'.out, rfl⟩⟩
end Go.Proofs.Ythnpiafpkllbpaa
