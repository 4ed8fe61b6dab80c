/-
  Rows of three and of fourteen cells; the program's reader: act, literal.
-/
import Derived.Test.YtlbofeidiclhgaaGreatDoorJ03
namespace Go.Proofs.YtlbofeidiclhgaaGreatDoor
open Go Go.RowKit Go.Shelf

theorem rowS3_set {w1 : World} {b : Nat} {t : TypeId} {x0 x1 x2 y0 y1 y2 : Value} (h : w1.heap[b]? = some (.cells #[x0, x1, x2] t (0, 0))) :
    (((w1.setCell ⟨b, 0, none⟩ y0).setCell ⟨b, 1, none⟩ y1).setCell ⟨b, 2, none⟩ y2).heap[b]? = some (.cells #[y0, y1, y2] t (0, 0)) := by
  have h0 : (w1.setCell ⟨b, 0, none⟩ y0).heap[b]? = some (.cells #[y0, x1, x2] t (0, 0)) := Go.heap_setCell_same _ b 0 _ _ y0 h
  have h1 : ((w1.setCell ⟨b, 0, none⟩ y0).setCell ⟨b, 1, none⟩ y1).heap[b]? = some (.cells #[y0, y1, x2] t (0, 0)) := Go.heap_setCell_same _ b 1 _ _ y1 h0
  have h2 : (((w1.setCell ⟨b, 0, none⟩ y0).setCell ⟨b, 1, none⟩ y1).setCell ⟨b, 2, none⟩ y2).heap[b]? = some (.cells #[y0, y1, y2] t (0, 0)) := Go.heap_setCell_same _ b 2 _ _ y2 h1
  exact h2
theorem cells3 {W : World} {b : Nat} {x0 x1 x2 : Value} {t : TypeId} (h : W.heap[b]? = some (.cells #[x0, x1, x2] t (0, 0))) :
    (W.cell? ⟨b, 0, none⟩ = some x0 ∧ W.cell? ⟨b, 1, none⟩ = some x1 ∧ W.cell? ⟨b, 2, none⟩ = some x2) ∧ W.frozen? ⟨b, 0, none⟩ = false ∧ W.frozen? ⟨b, 1, none⟩ = false ∧ W.frozen? ⟨b, 2, none⟩ = false :=
  ⟨⟨(cell_of_row _ b 0 _ _ (0, 0) h).trans rfl, (cell_of_row _ b 1 _ _ (0, 0) h).trans rfl, (cell_of_row _ b 2 _ _ (0, 0) h).trans rfl⟩, frozen_of_row _ b 0 _ _ h, frozen_of_row _ b 1 _ _ h, frozen_of_row _ b 2 _ _ h⟩
theorem set3_off {w1 : World} {b k : Nat} {y0 y1 y2 : Value} (h : k ≠ b) : (((w1.setCell ⟨b, 0, none⟩ y0).setCell ⟨b, 1, none⟩ y1).setCell ⟨b, 2, none⟩ y2).heap[k]? = w1.heap[k]? := by
  exact (heap_setCell_other _ ⟨b, 2, none⟩ k _ h).trans ((heap_setCell_other _ ⟨b, 1, none⟩ k _ h).trans (heap_setCell_other _ ⟨b, 0, none⟩ k _ h))
theorem rowS14_set {w1 : World} {b : Nat} {t : TypeId} {x0 x1 x2 x3 x4 x5 x6 x7 x8 x9 x10 x11 x12 x13 y0 y1 y2 y3 y4 y5 y6 y7 y8 y9 y10 y11 y12 y13 : Value} (h : w1.heap[b]? = some (.cells #[x0, x1, x2, x3, x4, x5, x6, x7, x8, x9, x10, x11, x12, x13] t (0, 0))) :
    ((((((((((((((w1.setCell ⟨b, 0, none⟩ y0).setCell ⟨b, 1, none⟩ y1).setCell ⟨b, 2, none⟩ y2).setCell ⟨b, 3, none⟩ y3).setCell ⟨b, 4, none⟩ y4).setCell ⟨b, 5, none⟩ y5).setCell ⟨b, 6, none⟩ y6).setCell ⟨b, 7, none⟩ y7).setCell ⟨b, 8, none⟩ y8).setCell ⟨b, 9, none⟩ y9).setCell ⟨b, 10, none⟩ y10).setCell ⟨b, 11, none⟩ y11).setCell ⟨b, 12, none⟩ y12).setCell ⟨b, 13, none⟩ y13).heap[b]? = some (.cells #[y0, y1, y2, y3, y4, y5, y6, y7, y8, y9, y10, y11, y12, y13] t (0, 0)) := by
  have h0 : (w1.setCell ⟨b, 0, none⟩ y0).heap[b]? = some (.cells #[y0, x1, x2, x3, x4, x5, x6, x7, x8, x9, x10, x11, x12, x13] t (0, 0)) := Go.heap_setCell_same _ b 0 _ _ y0 h
  have h1 : ((w1.setCell ⟨b, 0, none⟩ y0).setCell ⟨b, 1, none⟩ y1).heap[b]? = some (.cells #[y0, y1, x2, x3, x4, x5, x6, x7, x8, x9, x10, x11, x12, x13] t (0, 0)) := Go.heap_setCell_same _ b 1 _ _ y1 h0
  have h2 : (((w1.setCell ⟨b, 0, none⟩ y0).setCell ⟨b, 1, none⟩ y1).setCell ⟨b, 2, none⟩ y2).heap[b]? = some (.cells #[y0, y1, y2, x3, x4, x5, x6, x7, x8, x9, x10, x11, x12, x13] t (0, 0)) := Go.heap_setCell_same _ b 2 _ _ y2 h1
  have h3 : ((((w1.setCell ⟨b, 0, none⟩ y0).setCell ⟨b, 1, none⟩ y1).setCell ⟨b, 2, none⟩ y2).setCell ⟨b, 3, none⟩ y3).heap[b]? = some (.cells #[y0, y1, y2, y3, x4, x5, x6, x7, x8, x9, x10, x11, x12, x13] t (0, 0)) := Go.heap_setCell_same _ b 3 _ _ y3 h2
  have h4 : (((((w1.setCell ⟨b, 0, none⟩ y0).setCell ⟨b, 1, none⟩ y1).setCell ⟨b, 2, none⟩ y2).setCell ⟨b, 3, none⟩ y3).setCell ⟨b, 4, none⟩ y4).heap[b]? = some (.cells #[y0, y1, y2, y3, y4, x5, x6, x7, x8, x9, x10, x11, x12, x13] t (0, 0)) := Go.heap_setCell_same _ b 4 _ _ y4 h3
  have h5 : ((((((w1.setCell ⟨b, 0, none⟩ y0).setCell ⟨b, 1, none⟩ y1).setCell ⟨b, 2, none⟩ y2).setCell ⟨b, 3, none⟩ y3).setCell ⟨b, 4, none⟩ y4).setCell ⟨b, 5, none⟩ y5).heap[b]? = some (.cells #[y0, y1, y2, y3, y4, y5, x6, x7, x8, x9, x10, x11, x12, x13] t (0, 0)) := Go.heap_setCell_same _ b 5 _ _ y5 h4
  have h6 : (((((((w1.setCell ⟨b, 0, none⟩ y0).setCell ⟨b, 1, none⟩ y1).setCell ⟨b, 2, none⟩ y2).setCell ⟨b, 3, none⟩ y3).setCell ⟨b, 4, none⟩ y4).setCell ⟨b, 5, none⟩ y5).setCell ⟨b, 6, none⟩ y6).heap[b]? = some (.cells #[y0, y1, y2, y3, y4, y5, y6, x7, x8, x9, x10, x11, x12, x13] t (0, 0)) := Go.heap_setCell_same _ b 6 _ _ y6 h5
  have h7 : ((((((((w1.setCell ⟨b, 0, none⟩ y0).setCell ⟨b, 1, none⟩ y1).setCell ⟨b, 2, none⟩ y2).setCell ⟨b, 3, none⟩ y3).setCell ⟨b, 4, none⟩ y4).setCell ⟨b, 5, none⟩ y5).setCell ⟨b, 6, none⟩ y6).setCell ⟨b, 7, none⟩ y7).heap[b]? = some (.cells #[y0, y1, y2, y3, y4, y5, y6, y7, x8, x9, x10, x11, x12, x13] t (0, 0)) := Go.heap_setCell_same _ b 7 _ _ y7 h6
  have h8 : (((((((((w1.setCell ⟨b, 0, none⟩ y0).setCell ⟨b, 1, none⟩ y1).setCell ⟨b, 2, none⟩ y2).setCell ⟨b, 3, none⟩ y3).setCell ⟨b, 4, none⟩ y4).setCell ⟨b, 5, none⟩ y5).setCell ⟨b, 6, none⟩ y6).setCell ⟨b, 7, none⟩ y7).setCell ⟨b, 8, none⟩ y8).heap[b]? = some (.cells #[y0, y1, y2, y3, y4, y5, y6, y7, y8, x9, x10, x11, x12, x13] t (0, 0)) := Go.heap_setCell_same _ b 8 _ _ y8 h7
  have h9 : ((((((((((w1.setCell ⟨b, 0, none⟩ y0).setCell ⟨b, 1, none⟩ y1).setCell ⟨b, 2, none⟩ y2).setCell ⟨b, 3, none⟩ y3).setCell ⟨b, 4, none⟩ y4).setCell ⟨b, 5, none⟩ y5).setCell ⟨b, 6, none⟩ y6).setCell ⟨b, 7, none⟩ y7).setCell ⟨b, 8, none⟩ y8).setCell ⟨b, 9, none⟩ y9).heap[b]? = some (.cells #[y0, y1, y2, y3, y4, y5, y6, y7, y8, y9, x10, x11, x12, x13] t (0, 0)) := Go.heap_setCell_same _ b 9 _ _ y9 h8
  have h10 : (((((((((((w1.setCell ⟨b, 0, none⟩ y0).setCell ⟨b, 1, none⟩ y1).setCell ⟨b, 2, none⟩ y2).setCell ⟨b, 3, none⟩ y3).setCell ⟨b, 4, none⟩ y4).setCell ⟨b, 5, none⟩ y5).setCell ⟨b, 6, none⟩ y6).setCell ⟨b, 7, none⟩ y7).setCell ⟨b, 8, none⟩ y8).setCell ⟨b, 9, none⟩ y9).setCell ⟨b, 10, none⟩ y10).heap[b]? = some (.cells #[y0, y1, y2, y3, y4, y5, y6, y7, y8, y9, y10, x11, x12, x13] t (0, 0)) := Go.heap_setCell_same _ b 10 _ _ y10 h9
  have h11 : ((((((((((((w1.setCell ⟨b, 0, none⟩ y0).setCell ⟨b, 1, none⟩ y1).setCell ⟨b, 2, none⟩ y2).setCell ⟨b, 3, none⟩ y3).setCell ⟨b, 4, none⟩ y4).setCell ⟨b, 5, none⟩ y5).setCell ⟨b, 6, none⟩ y6).setCell ⟨b, 7, none⟩ y7).setCell ⟨b, 8, none⟩ y8).setCell ⟨b, 9, none⟩ y9).setCell ⟨b, 10, none⟩ y10).setCell ⟨b, 11, none⟩ y11).heap[b]? = some (.cells #[y0, y1, y2, y3, y4, y5, y6, y7, y8, y9, y10, y11, x12, x13] t (0, 0)) := Go.heap_setCell_same _ b 11 _ _ y11 h10
  have h12 : (((((((((((((w1.setCell ⟨b, 0, none⟩ y0).setCell ⟨b, 1, none⟩ y1).setCell ⟨b, 2, none⟩ y2).setCell ⟨b, 3, none⟩ y3).setCell ⟨b, 4, none⟩ y4).setCell ⟨b, 5, none⟩ y5).setCell ⟨b, 6, none⟩ y6).setCell ⟨b, 7, none⟩ y7).setCell ⟨b, 8, none⟩ y8).setCell ⟨b, 9, none⟩ y9).setCell ⟨b, 10, none⟩ y10).setCell ⟨b, 11, none⟩ y11).setCell ⟨b, 12, none⟩ y12).heap[b]? = some (.cells #[y0, y1, y2, y3, y4, y5, y6, y7, y8, y9, y10, y11, y12, x13] t (0, 0)) := Go.heap_setCell_same _ b 12 _ _ y12 h11
  have h13 : ((((((((((((((w1.setCell ⟨b, 0, none⟩ y0).setCell ⟨b, 1, none⟩ y1).setCell ⟨b, 2, none⟩ y2).setCell ⟨b, 3, none⟩ y3).setCell ⟨b, 4, none⟩ y4).setCell ⟨b, 5, none⟩ y5).setCell ⟨b, 6, none⟩ y6).setCell ⟨b, 7, none⟩ y7).setCell ⟨b, 8, none⟩ y8).setCell ⟨b, 9, none⟩ y9).setCell ⟨b, 10, none⟩ y10).setCell ⟨b, 11, none⟩ y11).setCell ⟨b, 12, none⟩ y12).setCell ⟨b, 13, none⟩ y13).heap[b]? = some (.cells #[y0, y1, y2, y3, y4, y5, y6, y7, y8, y9, y10, y11, y12, y13] t (0, 0)) := Go.heap_setCell_same _ b 13 _ _ y13 h12
  exact h13
theorem cells14 {W : World} {b : Nat} {x0 x1 x2 x3 x4 x5 x6 x7 x8 x9 x10 x11 x12 x13 : Value} {t : TypeId} (h : W.heap[b]? = some (.cells #[x0, x1, x2, x3, x4, x5, x6, x7, x8, x9, x10, x11, x12, x13] t (0, 0))) :
    (W.cell? ⟨b, 0, none⟩ = some x0 ∧ W.cell? ⟨b, 1, none⟩ = some x1 ∧ W.cell? ⟨b, 2, none⟩ = some x2 ∧ W.cell? ⟨b, 3, none⟩ = some x3 ∧ W.cell? ⟨b, 4, none⟩ = some x4 ∧ W.cell? ⟨b, 5, none⟩ = some x5 ∧ W.cell? ⟨b, 6, none⟩ = some x6 ∧ W.cell? ⟨b, 7, none⟩ = some x7 ∧ W.cell? ⟨b, 8, none⟩ = some x8 ∧ W.cell? ⟨b, 9, none⟩ = some x9 ∧ W.cell? ⟨b, 10, none⟩ = some x10 ∧ W.cell? ⟨b, 11, none⟩ = some x11 ∧ W.cell? ⟨b, 12, none⟩ = some x12 ∧ W.cell? ⟨b, 13, none⟩ = some x13) ∧ W.frozen? ⟨b, 0, none⟩ = false ∧ W.frozen? ⟨b, 1, none⟩ = false ∧ W.frozen? ⟨b, 2, none⟩ = false ∧ W.frozen? ⟨b, 3, none⟩ = false ∧ W.frozen? ⟨b, 4, none⟩ = false ∧ W.frozen? ⟨b, 5, none⟩ = false ∧ W.frozen? ⟨b, 6, none⟩ = false ∧ W.frozen? ⟨b, 7, none⟩ = false ∧ W.frozen? ⟨b, 8, none⟩ = false ∧ W.frozen? ⟨b, 9, none⟩ = false ∧ W.frozen? ⟨b, 10, none⟩ = false ∧ W.frozen? ⟨b, 11, none⟩ = false ∧ W.frozen? ⟨b, 12, none⟩ = false ∧ W.frozen? ⟨b, 13, none⟩ = false :=
  ⟨⟨(cell_of_row _ b 0 _ _ (0, 0) h).trans rfl, (cell_of_row _ b 1 _ _ (0, 0) h).trans rfl, (cell_of_row _ b 2 _ _ (0, 0) h).trans rfl, (cell_of_row _ b 3 _ _ (0, 0) h).trans rfl, (cell_of_row _ b 4 _ _ (0, 0) h).trans rfl, (cell_of_row _ b 5 _ _ (0, 0) h).trans rfl, (cell_of_row _ b 6 _ _ (0, 0) h).trans rfl, (cell_of_row _ b 7 _ _ (0, 0) h).trans rfl, (cell_of_row _ b 8 _ _ (0, 0) h).trans rfl, (cell_of_row _ b 9 _ _ (0, 0) h).trans rfl, (cell_of_row _ b 10 _ _ (0, 0) h).trans rfl, (cell_of_row _ b 11 _ _ (0, 0) h).trans rfl, (cell_of_row _ b 12 _ _ (0, 0) h).trans rfl, (cell_of_row _ b 13 _ _ (0, 0) h).trans rfl⟩, frozen_of_row _ b 0 _ _ h, frozen_of_row _ b 1 _ _ h, frozen_of_row _ b 2 _ _ h, frozen_of_row _ b 3 _ _ h, frozen_of_row _ b 4 _ _ h, frozen_of_row _ b 5 _ _ h, frozen_of_row _ b 6 _ _ h, frozen_of_row _ b 7 _ _ h, frozen_of_row _ b 8 _ _ h, frozen_of_row _ b 9 _ _ h, frozen_of_row _ b 10 _ _ h, frozen_of_row _ b 11 _ _ h, frozen_of_row _ b 12 _ _ h, frozen_of_row _ b 13 _ _ h⟩
theorem set14_off {w1 : World} {b k : Nat} {y0 y1 y2 y3 y4 y5 y6 y7 y8 y9 y10 y11 y12 y13 : Value} (h : k ≠ b) : ((((((((((((((w1.setCell ⟨b, 0, none⟩ y0).setCell ⟨b, 1, none⟩ y1).setCell ⟨b, 2, none⟩ y2).setCell ⟨b, 3, none⟩ y3).setCell ⟨b, 4, none⟩ y4).setCell ⟨b, 5, none⟩ y5).setCell ⟨b, 6, none⟩ y6).setCell ⟨b, 7, none⟩ y7).setCell ⟨b, 8, none⟩ y8).setCell ⟨b, 9, none⟩ y9).setCell ⟨b, 10, none⟩ y10).setCell ⟨b, 11, none⟩ y11).setCell ⟨b, 12, none⟩ y12).setCell ⟨b, 13, none⟩ y13).heap[k]? = w1.heap[k]? := by
  exact (heap_setCell_other _ ⟨b, 13, none⟩ k _ h).trans ((heap_setCell_other _ ⟨b, 12, none⟩ k _ h).trans ((heap_setCell_other _ ⟨b, 11, none⟩ k _ h).trans ((heap_setCell_other _ ⟨b, 10, none⟩ k _ h).trans ((heap_setCell_other _ ⟨b, 9, none⟩ k _ h).trans ((heap_setCell_other _ ⟨b, 8, none⟩ k _ h).trans ((heap_setCell_other _ ⟨b, 7, none⟩ k _ h).trans ((heap_setCell_other _ ⟨b, 6, none⟩ k _ h).trans ((heap_setCell_other _ ⟨b, 5, none⟩ k _ h).trans ((heap_setCell_other _ ⟨b, 4, none⟩ k _ h).trans ((heap_setCell_other _ ⟨b, 3, none⟩ k _ h).trans ((heap_setCell_other _ ⟨b, 2, none⟩ k _ h).trans ((heap_setCell_other _ ⟨b, 1, none⟩ k _ h).trans (heap_setCell_other _ ⟨b, 0, none⟩ k _ h)))))))))))))
abbrev zAc : Obj := .cells #[.bool false, .string ⟨#[]⟩, .slice none 0 0] 80
abbrev zLi : Obj := .cells #[.int .i64 0, .string ⟨#[]⟩, .slice none 0 0, .int .i64 0, .int .i64 0, .string ⟨#[]⟩, .int .i64 0, .int .i64 0, .string ⟨#[]⟩, .int .i64 0, .string ⟨#[]⟩, .int .i64 0, .int .i64 0, .string ⟨#[]⟩] 73
def acT (S : Nat → Prop) (w : World) (v : Value) (c : ActL) : Prop := ∃ u, v = .agg #[.bool c.plus, .string ⟨c.atom.pred.toArray⟩, u] ∧ RowIn tmY S w u c.atom.args
def liT (S : Nat → Prop) (w : World) (v : Value) (l : LiL) : Prop := ∃ u, v = .agg #[.int .i64 l.kind, .string ⟨l.atom.pred.toArray⟩, u, .int .i64 l.op, .int .i64 l.a.kind, .string ⟨l.a.name.toArray⟩, .int .i64 l.a.val.1, .int .i64 l.a.val.2.1, .string l.a.val.2.2, .int .i64 l.b.kind, .string ⟨l.b.name.toArray⟩, .int .i64 l.b.val.1, .int .i64 l.b.val.2.1, .string l.b.val.2.2] ∧ RowIn tmY S w u l.atom.args
theorem textAt_two (p m T : List UInt8) : textAt [p, m] T 0 = if T = p then 0 else if T = m then 1 else -1 := by
  simp only [textAt]
  repeat' split
  all_goals rfl
abbrev pmO : Obj := .cells #[.string ⟨#[43]⟩, .string ⟨#[45]⟩] 9
set_option maxRecDepth 100000 in
set_option maxHeartbeats 2000000 in
theorem pact_any {W : World} {n b e : Nat} {L : List Wd} (h : Rp n W b L e) : Calls Tryz.prog 121 #[rdp b] W (PEnd actR acT n b e L W) := by
  have HR := Lib.hid h
  have hnW := h.below_
  have hlt := h.lt
  have HTx : Hid (TxsIn ((W.alloc zAc).alloc pmO) (.slice (some ⟨(W.alloc zAc).heap.size, 0, none⟩) 2 2) [[43], [45]]) := Lib.hid (txs_new (W.alloc zAc) [[43], [45]] (by simp) 2)
  rw [show (W.alloc zAc).heap.size = W.heap.size + 1 by simp] at HTx
  clear h
  go_enter Tryz.func121, Tryz.ntmps121
  go_wp2_with fail
  refine (pwhich_any (S := [[43], [45]]) ((HR.out.alloc zAc).alloc pmO) HTx.out (by decide)).mono ?_
  rintro y w1 ⟨ht, ⟨x, L1, rfl, h0, rfl, hr⟩ | ⟨h0, rfl⟩⟩
  · rw [textAt_two] at h0 ⊢
    have hr0 : w1.heap[W.heap.size]? = some zAc := (ht.block _ (by simp; omega) (by omega)).trans (two_new W zAc pmO).1
    have hz0 : W.heap.size < w1.heap.size := by have := ht.size; simp at this; omega
    have HE := Lib.hid (And.intro ht hr)
    have HX := HR.out.tidy x List.mem_cons_self
    have HB0 := Lib.hid hr0
    have HTd := Lib.hid HX
    by_cases e1 : x.text = [43]
    · rw [if_pos e1]
      have HP := Lib.hid (show nxt (isM [43]) (keys (x :: L1)) = true by rw [nxt_mark HR.out.tidy rfl]; simp [txt, e1])
      have HM := Lib.hid (show tok1 (isM [43]) (keys (x :: L1)) = .ok x.key (keys L1) from tok1_yes (by rw [tidy_mark HX rfl]; simp [e1]))
      have HA := Lib.hid (show actR (keys (x :: L1)) = bindR atomR (fun a => pureR (ActL.mk true a)) (keys L1) by unfold actR altR; rw [if_pos HP.out]; exact bind_ok HM.out)
      clear ht hr hr0 h0 HX e1 HP HM
      go_wp2_with fail
      refine (patom_any HE.out.2).mono ?_
      rintro y w2 ⟨ht2, ⟨a, L2, v, hp, hs, rfl, ⟨u, rfl, hu⟩, hr2⟩ | ⟨L2, hp, hs, rfl⟩⟩
      · have HE2 := Lib.hid (And.intro ht2 (And.intro hp (And.intro hs (And.intro hu hr2))))
        have HK := Lib.hid ((ht2.block _ hz0 (by omega)).trans HB0.out)
        obtain ⟨⟨q0, q1, q2⟩, f0, f1, f2⟩ := cells3 HK.out
        obtain ⟨pu, cu, rfl, -⟩ := id hu
        clear ht2 hp hs hu hr2
        go_wp2_with fail
        refine bodyPost_ret (results_cell_row (fn := Tryz.f121) (by rfl) _ _ _ _ _ _ _ (by rfl) (rowS3_set HK.out) Tryz.underlying80 (by rfl) (by kernel_rfl)) (by rfl) ?_
        obtain ⟨ht2, hp, hs, hu, hr2⟩ := HE2.out
        refine ⟨Only.turned ((((((((Only.refl b W).alloc zAc).alloc pmO).on HE.out.1).on ht2).set (Nat.le_refl _) _ _).set (Nat.le_refl _) _ _).set (Nat.le_refl _) _ _), .inl ⟨⟨true, a⟩, L2, _, HA.out.trans ((bind_ok hp).trans rfl), hs.trans (List.suffix_cons x L1), rfl, ⟨_, rfl, ?_⟩, ((hr2.set hnW _ _).set hnW _ _).set hnW _ _⟩⟩
        exact hu.keep (by simp) fun k e hk => ⟨by omega, set3_off (by omega)⟩
      · have HE2 := Lib.hid (And.intro ht2 (And.intro hp hs))
        clear ht2 hp hs
        go_wp2_with fail
        exact ⟨rfl, Only.turned (((((Only.refl b W).alloc zAc).alloc pmO).on HE.out.1).on HE2.out.1), .inr ⟨L2, HA.out.trans (bind_bad HE2.out.2.1), HE2.out.2.2.trans (List.suffix_cons x L1), rfl⟩⟩
    · rw [if_neg e1] at h0 ⊢
      have e2 : x.text = [45] := by
        by_cases e : x.text = [45]
        · exact e
        · rw [if_neg e] at h0; omega
      rw [if_pos e2]
      have HP := Lib.hid (show ¬ nxt (isM [43]) (keys (x :: L1)) = true by rw [nxt_mark HR.out.tidy rfl]; simp [txt, e1])
      have HA := Lib.hid (show actR (keys (x :: L1)) = bindR atomR (fun a => pureR (ActL.mk false a)) (keys L1) by unfold actR altR; rw [if_neg HP.out]; exact bind_ok (mark_yes HTd.out rfl e2))
      clear ht hr hr0 h0 HX e1 e2 HP
      go_wp2_with fail
      refine (patom_any HE.out.2).mono ?_
      rintro y w2 ⟨ht2, ⟨a, L2, v, hp, hs, rfl, ⟨u, rfl, hu⟩, hr2⟩ | ⟨L2, hp, hs, rfl⟩⟩
      · have HE2 := Lib.hid (And.intro ht2 (And.intro hp (And.intro hs (And.intro hu hr2))))
        have HK := Lib.hid ((ht2.block _ hz0 (by omega)).trans HB0.out)
        obtain ⟨⟨q0, q1, q2⟩, f0, f1, f2⟩ := cells3 HK.out
        obtain ⟨pu, cu, rfl, -⟩ := id hu
        clear ht2 hp hs hu hr2
        go_wp2_with fail
        refine bodyPost_ret (results_cell_row (fn := Tryz.f121) (by rfl) _ _ _ _ _ _ _ (by rfl) (rowS3_set HK.out) Tryz.underlying80 (by rfl) (by kernel_rfl)) (by rfl) ?_
        obtain ⟨ht2, hp, hs, hu, hr2⟩ := HE2.out
        refine ⟨Only.turned ((((((((Only.refl b W).alloc zAc).alloc pmO).on HE.out.1).on ht2).set (Nat.le_refl _) _ _).set (Nat.le_refl _) _ _).set (Nat.le_refl _) _ _), .inl ⟨⟨false, a⟩, L2, _, HA.out.trans ((bind_ok hp).trans rfl), hs.trans (List.suffix_cons x L1), rfl, ⟨_, rfl, ?_⟩, ((hr2.set hnW _ _).set hnW _ _).set hnW _ _⟩⟩
        exact hu.keep (by simp) fun k e hk => ⟨by omega, set3_off (by omega)⟩
      · have HE2 := Lib.hid (And.intro ht2 (And.intro hp hs))
        clear ht2 hp hs
        go_wp2_with fail
        exact ⟨rfl, Only.turned (((((Only.refl b W).alloc zAc).alloc pmO).on HE.out.1).on HE2.out.1), .inr ⟨L2, HA.out.trans (bind_bad HE2.out.2.1), HE2.out.2.2.trans (List.suffix_cons x L1), rfl⟩⟩
  · rw [textAt_two] at h0
    have HE := Lib.hid ht
    have e1 : txt L ≠ [43] := by
      intro e; rw [if_pos e] at h0; omega
    have e2 : txt L ≠ [45] := by
      intro e; rw [if_neg e1, if_pos e] at h0; omega
    have HA := Lib.hid (show actR (keys L) = .bad (keys L) by
      unfold actR altR
      rw [if_neg (by rw [nxt_mark HR.out.tidy rfl]; simpa using e1)]
      exact bind_bad (mark_no HR.out.tidy rfl e2))
    clear ht h0 e1 e2
    go_wp2_with fail
    exact ⟨rfl, PEnd.no HA.out (Only.turned ((((Only.refl b W).alloc zAc).alloc pmO).on HE.out))⟩
end Go.Proofs.YtlbofeidiclhgaaGreatDoor
