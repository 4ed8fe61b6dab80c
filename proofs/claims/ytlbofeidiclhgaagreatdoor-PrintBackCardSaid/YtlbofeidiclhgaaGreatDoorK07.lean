/-
  The document's SameAtom and sameDecl at two that stand for the same.
  The document's sameOn and SameRule at two that stand for the same.
-/
import Derived.Test.YtlbofeidiclhgaaGreatDoorK02
import Derived.Laws.StructEq
import Derived.Deep.QuietTactic
import Derived.BigQuiet
import Derived.Laws.Unary
import Derived.Deep.RegionHeld3
import Derived.RegionTactic
import Derived.BigRegion
namespace Go.Proofs.YtlbofeidiclhgaaGreatDoor
section
open Go Go.RowKit Go.Shelf

theorem cells5_at {S : Nat → Prop} {w : World} {v : Value} {L : List TmL} (h : RowIn tmY S w v L) {j : Nat} (hj : j < L.length) : ∃ b off c, v = .slice (some ⟨b, off, none⟩) L.length c ∧ b < w.heap.size ∧
    w.cell? ⟨b, off + j * 5, none⟩ = some (.int .i64 L[j].kind) ∧ w.cell? ⟨b, off + j * 5 + 1, none⟩ = some (.string ⟨L[j].name.toArray⟩) ∧ w.cell? ⟨b, off + j * 5 + 2, none⟩ = some (.int .i64 L[j].val.1) ∧ w.cell? ⟨b, off + j * 5 + 3, none⟩ = some (.int .i64 L[j].val.2.1) ∧ w.cell? ⟨b, off + j * 5 + 4, none⟩ = some (.string L[j].val.2.2) := by
  obtain ⟨p, c, rfl, -, -, h⟩ := h
  rcases h with h | ⟨b, off, rfl, -, hb, h⟩
  · subst h; simp at hj
  · obtain ⟨us, hu, hc⟩ := h j hj
    have hu : us = cellT L[j] := hu
    subst hu
    exact ⟨b, off, c, rfl, hb, hc 0 _ rfl, hc 1 _ rfl, hc 2 _ rfl, hc 3 _ rfl, hc 4 _ rfl⟩
theorem RowIn.shape {α : Type} {Y : Lay α} {S : Nat → Prop} {w : World} {v : Value} {L : List α} (h : RowIn Y S w v L) : ∃ p c, v = .slice p L.length c := by
  obtain ⟨p, c, rfl, -⟩ := h
  exact ⟨p, c, rfl⟩
theorem RowIn.in_below {α : Type} {Y : Lay α} {S : Nat → Prop} {w w' : World} {v : Value} {L : List α} (h : RowIn Y S w v L) (hb : Below w.heap.size w w') : RowIn Y S w' v L := h.keep hb.size fun k e hk => ⟨e, hb.block k hk⟩
theorem two_newA (W : World) (o o' : Obj) : ((W.alloc o).alloc o').heap[W.heap.size]? = some o ∧ ((W.alloc o).alloc o').heap[W.heap.size + 1]? = some o' := by
  refine ⟨(Below.heap_alloc _ _ _ (by simp)).trans (heap_alloc_new W o), ?_⟩
  have := heap_alloc_new (W.alloc o) o'
  rw [show (W.alloc o).heap.size = W.heap.size + 1 by simp] at this
  exact this
theorem ty_at {S : Nat → Prop} {w : World} {v : Value} {L : List Int} (h : RowIn tyY S w v L) {j : Nat} (hj : j < L.length) : ∃ b off c, v = .slice (some ⟨b, off, none⟩) L.length c ∧ b < w.heap.size ∧ w.cell? ⟨b, off + j, none⟩ = some (.int .i64 L[j]) := by
  obtain ⟨p, c, rfl, -, -, h⟩ := h
  rcases h with h | ⟨b, off, rfl, -, hb, h⟩
  · subst h; simp at hj
  · obtain ⟨us, hu, hc⟩ := h j hj
    have hu : us = [.int .i64 L[j]] := hu
    subst hu
    exact ⟨b, off, c, rfl, hb, by have := hc 0 _ rfl; simpa [tyY] using this⟩
theorem pa_at {S : Nat → Prop} {w : World} {v : Value} {L : List (List UInt8 × Int)} (h : RowIn paY S w v L) {j : Nat} (hj : j < L.length) : ∃ b off c, v = .slice (some ⟨b, off, none⟩) L.length c ∧ b < w.heap.size ∧ w.cell? ⟨b, off + j * 2, none⟩ = some (.string ⟨L[j].1.toArray⟩) ∧ w.cell? ⟨b, off + j * 2 + 1, none⟩ = some (.int .i64 L[j].2) := by
  obtain ⟨p, c, rfl, -, -, h⟩ := h
  rcases h with h | ⟨b, off, rfl, -, hb, h⟩
  · subst h; simp at hj
  · obtain ⟨us, hu, hc⟩ := h j hj
    have hu : us = [.string ⟨L[j].1.toArray⟩, .int .i64 L[j].2] := hu
    subst hu
    exact ⟨b, off, c, rfl, hb, hc 0 _ rfl, hc 1 _ rfl⟩
theorem len_le {α : Type} {Y : Lay α} {S : Nat → Prop} {w : World} {v : Value} {L : List α} (h : RowIn Y S w v L) : L.length ≤ 9223372036854775807 := by
  obtain ⟨p, c, -, l1, l2, -⟩ := h
  exact Nat.le_trans l1 l2
end
section
open Go Go.RowKit Go.Shelf

theorem ac_at {S : Nat → Prop} {w : World} {v : Value} {L : List ActL} (h : RowIn acY S w v L) {j : Nat} (hj : j < L.length) : ∃ b off c u, v = .slice (some ⟨b, off, none⟩) L.length c ∧ w.cell? ⟨b, off + j * 3, none⟩ = some (.bool L[j].plus) ∧ w.cell? ⟨b, off + j * 3 + 1, none⟩ = some (.string ⟨L[j].atom.pred.toArray⟩) ∧ w.cell? ⟨b, off + j * 3 + 2, none⟩ = some u ∧ RowIn tmY S w u L[j].atom.args := by
  obtain ⟨p, c, rfl, -, -, h⟩ := h
  rcases h with h | ⟨b, off, rfl, -, hb, h⟩
  · subst h; simp at hj
  · obtain ⟨us, ⟨u, rfl, hu⟩, hc⟩ := h j hj
    exact ⟨b, off, c, u, rfl, hc 0 _ rfl, hc 1 _ rfl, hc 2 _ rfl, hu⟩
theorem li_at {S : Nat → Prop} {w : World} {v : Value} {L : List LiL} (h : RowIn liY S w v L) {j : Nat} (hj : j < L.length) : ∃ b off c u, v = .slice (some ⟨b, off, none⟩) L.length c ∧ b < w.heap.size ∧ RowIn tmY S w u L[j].atom.args ∧ w.cell? ⟨b, off + j * 14, none⟩ = some (.int .i64 L[j].kind) ∧ w.cell? ⟨b, off + j * 14 + 1, none⟩ = some (.string ⟨L[j].atom.pred.toArray⟩) ∧ w.cell? ⟨b, off + j * 14 + 2, none⟩ = some (u) ∧ w.cell? ⟨b, off + j * 14 + 3, none⟩ = some (.int .i64 L[j].op) ∧ w.cell? ⟨b, off + j * 14 + 4, none⟩ = some (.int .i64 L[j].a.kind) ∧ w.cell? ⟨b, off + j * 14 + 5, none⟩ = some (.string ⟨L[j].a.name.toArray⟩) ∧ w.cell? ⟨b, off + j * 14 + 6, none⟩ = some (.int .i64 L[j].a.val.1) ∧ w.cell? ⟨b, off + j * 14 + 7, none⟩ = some (.int .i64 L[j].a.val.2.1) ∧ w.cell? ⟨b, off + j * 14 + 8, none⟩ = some (.string L[j].a.val.2.2) ∧ w.cell? ⟨b, off + j * 14 + 9, none⟩ = some (.int .i64 L[j].b.kind) ∧ w.cell? ⟨b, off + j * 14 + 10, none⟩ = some (.string ⟨L[j].b.name.toArray⟩) ∧ w.cell? ⟨b, off + j * 14 + 11, none⟩ = some (.int .i64 L[j].b.val.1) ∧ w.cell? ⟨b, off + j * 14 + 12, none⟩ = some (.int .i64 L[j].b.val.2.1) ∧ w.cell? ⟨b, off + j * 14 + 13, none⟩ = some (.string L[j].b.val.2.2) := by
  obtain ⟨p, c, rfl, -, -, h⟩ := h
  rcases h with h | ⟨b, off, rfl, -, hb, h⟩
  · subst h; simp at hj
  · obtain ⟨us, ⟨u, rfl, hu⟩, hc⟩ := h j hj
    exact ⟨b, off, c, u, rfl, hb, hu, hc 0 _ rfl, hc 1 _ rfl, hc 2 _ rfl, hc 3 _ rfl, hc 4 _ rfl, hc 5 _ rfl, hc 6 _ rfl, hc 7 _ rfl, hc 8 _ rfl, hc 9 _ rfl, hc 10 _ rfl, hc 11 _ rfl, hc 12 _ rfl, hc 13 _ rfl⟩
end
end Go.Proofs.YtlbofeidiclhgaaGreatDoor
