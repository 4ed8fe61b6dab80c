/-
  Rows of three and of fourteen cells; the program's reader: act, literal.
  The program's reader: literal.
  The program's reader: list of parts (Li).
  The program's reader: list of parts (Ac).
  The program's reader: rule.
-/
import Derived.Test.YtnbaemfkpfmheaaGreatDoorG03
namespace Go.Proofs.YtnbaemfkpfmheaaGreatDoor
section
open Go Go.RowKit Go.Shelf

theorem rowS3_set {w1 : World} {b : Nat} {t : TypeId} {x0 x1 x2 y0 y1 y2 : Value} (h : w1.heap[b]? = some (.cells #[x0, x1, x2] t (0, 0))) :
    (((w1.setCell ⟨b, 0, none⟩ y0).setCell ⟨b, 1, none⟩ y1).setCell ⟨b, 2, none⟩ y2).heap[b]? = some (.cells #[y0, y1, y2] t (0, 0)) := by
  have h0 : (w1.setCell ⟨b, 0, none⟩ y0).heap[b]? = some (.cells #[y0, x1, x2] t (0, 0)) := Go.heap_setCell_same _ b 0 _ _ y0 h
  have h1 : ((w1.setCell ⟨b, 0, none⟩ y0).setCell ⟨b, 1, none⟩ y1).heap[b]? = some (.cells #[y0, y1, x2] t (0, 0)) := Go.heap_setCell_same _ b 1 _ _ y1 h0
  have h2 : (((w1.setCell ⟨b, 0, none⟩ y0).setCell ⟨b, 1, none⟩ y1).setCell ⟨b, 2, none⟩ y2).heap[b]? = some (.cells #[y0, y1, y2] t (0, 0)) := Go.heap_setCell_same _ b 2 _ _ y2 h1
  exact h2
theorem cells3 {W : World} {b : Nat} {x0 x1 x2 : Value} {t : TypeId} (h : W.heap[b]? = some (.cells #[x0, x1, x2] t (0, 0))) :
    (W.cell? ⟨b, 0, none⟩ = some x0 ∧ W.cell? ⟨b, 1, none⟩ = some x1 ∧ W.cell? ⟨b, 2, none⟩ = some x2) ∧ W.frozen? ⟨b, 0, none⟩ = false ∧ W.frozen? ⟨b, 1, none⟩ = false ∧ W.frozen? ⟨b, 2, none⟩ = false :=
  ⟨⟨(cell_of_row _ b 0 _ _ (0, 0) h).trans rfl, (cell_of_row _ b 1 _ _ (0, 0) h).trans rfl, (cell_of_row _ b 2 _ _ (0, 0) h).trans rfl⟩, frozen_of_row _ b 0 _ _ h, frozen_of_row _ b 1 _ _ h, frozen_of_row _ b 2 _ _ h⟩
theorem set3_off {w1 : World} {b k : Nat} {y0 y1 y2 : Value} (h : k ≠ b) : (((w1.setCell ⟨b, 0, none⟩ y0).setCell ⟨b, 1, none⟩ y1).setCell ⟨b, 2, none⟩ y2).heap[k]? = w1.heap[k]? := by
  exact (heap_setCell_other _ ⟨b, 2, none⟩ k _ h).trans ((heap_setCell_other _ ⟨b, 1, none⟩ k _ h).trans (heap_setCell_other _ ⟨b, 0, none⟩ k _ h))
theorem rowS14_set {w1 : World} {b : Nat} {t : TypeId} {x0 x1 x2 x3 x4 x5 x6 x7 x8 x9 x10 x11 x12 x13 y0 y1 y2 y3 y4 y5 y6 y7 y8 y9 y10 y11 y12 y13 : Value} (h : w1.heap[b]? = some (.cells #[x0, x1, x2, x3, x4, x5, x6, x7, x8, x9, x10, x11, x12, x13] t (0, 0))) :
    ((((((((((((((w1.setCell ⟨b, 0, none⟩ y0).setCell ⟨b, 1, none⟩ y1).setCell ⟨b, 2, none⟩ y2).setCell ⟨b, 3, none⟩ y3).setCell ⟨b, 4, none⟩ y4).setCell ⟨b, 5, none⟩ y5).setCell ⟨b, 6, none⟩ y6).setCell ⟨b, 7, none⟩ y7).setCell ⟨b, 8, none⟩ y8).setCell ⟨b, 9, none⟩ y9).setCell ⟨b, 10, none⟩ y10).setCell ⟨b, 11, none⟩ y11).setCell ⟨b, 12, none⟩ y12).setCell ⟨b, 13, none⟩ y13).heap[b]? = some (.cells #[y0, y1, y2, y3, y4, y5, y6, y7, y8, y9, y10, y11, y12, y13] t (0, 0)) := by
  have h0 : (w1.setCell ⟨b, 0, none⟩ y0).heap[b]? = some (.cells #[y0, x1, x2, x3, x4, x5, x6, x7, x8, x9, x10, x11, x12, x13] t (0, 0)) := Go.heap_setCell_same _ b 0 _ _ y0 h
  have h1 : ((w1.setCell ⟨b, 0, none⟩ y0).setCell ⟨b, 1, none⟩ y1).heap[b]? = some (.cells #[y0, y1, x2, x3, x4, x5, x6, x7, x8, x9, x10, x11, x12, x13] t (0, 0)) := Go.heap_setCell_same _ b 1 _ _ y1 h0
  have h2 : (((w1.setCell ⟨b, 0, none⟩ y0).setCell ⟨b, 1, none⟩ y1).setCell ⟨b, 2, none⟩ y2).heap[b]? = some (.cells #[y0, y1, y2, x3, x4, x5, x6, x7, x8, x9, x10, x11, x12, x13] t (0, 0)) := Go.heap_setCell_same _ b 2 _ _ y2 h1
  have h3 : ((((w1.setCell ⟨b, 0, none⟩ y0).setCell ⟨b, 1, none⟩ y1).setCell ⟨b, 2, none⟩ y2).setCell ⟨b, 3, none⟩ y3).heap[b]? = some (.cells #[y0, y1, y2, y3, x4, x5, x6, x7, x8, x9, x10, x11, x12, x13] t (0, 0)) := Go.heap_setCell_same _ b 3 _ _ y3 h2
  have h4 : (((((w1.setCell ⟨b, 0, none⟩ y0).setCell ⟨b, 1, none⟩ y1).setCell ⟨b, 2, none⟩ y2).setCell ⟨b, 3, none⟩ y3).setCell ⟨b, 4, none⟩ y4).heap[b]? = some (.cells #[y0, y1, y2, y3, y4, x5, x6, x7, x8, x9, x10, x11, x12, x13] t (0, 0)) := Go.heap_setCell_same _ b 4 _ _ y4 h3
  have h5 : ((((((w1.setCell ⟨b, 0, none⟩ y0).setCell ⟨b, 1, none⟩ y1).setCell ⟨b, 2, none⟩ y2).setCell ⟨b, 3, none⟩ y3).setCell ⟨b, 4, none⟩ y4).setCell ⟨b, 5, none⟩ y5).heap[b]? = some (.cells #[y0, y1, y2, y3, y4, y5, x6, x7, x8, x9, x10, x11, x12, x13] t (0, 0)) := Go.heap_setCell_same _ b 5 _ _ y5 h4
  have h6 : (((((((w1.setCell ⟨b, 0, none⟩ y0).setCell ⟨b, 1, none⟩ y1).setCell ⟨b, 2, none⟩ y2).setCell ⟨b, 3, none⟩ y3).setCell ⟨b, 4, none⟩ y4).setCell ⟨b, 5, none⟩ y5).setCell ⟨b, 6, none⟩ y6).heap[b]? = some (.cells #[y0, y1, y2, y3, y4, y5, y6, x7, x8, x9, x10, x11, x12, x13] t (0, 0)) := Go.heap_setCell_same _ b 6 _ _ y6 h5
  have h7 : ((((((((w1.setCell ⟨b, 0, none⟩ y0).setCell ⟨b, 1, none⟩ y1).setCell ⟨b, 2, none⟩ y2).setCell ⟨b, 3, none⟩ y3).setCell ⟨b, 4, none⟩ y4).setCell ⟨b, 5, none⟩ y5).setCell ⟨b, 6, none⟩ y6).setCell ⟨b, 7, none⟩ y7).heap[b]? = some (.cells #[y0, y1, y2, y3, y4, y5, y6, y7, x8, x9, x10, x11, x12, x13] t (0, 0)) := Go.heap_setCell_same _ b 7 _ _ y7 h6
  have h8 : (((((((((w1.setCell ⟨b, 0, none⟩ y0).setCell ⟨b, 1, none⟩ y1).setCell ⟨b, 2, none⟩ y2).setCell ⟨b, 3, none⟩ y3).setCell ⟨b, 4, none⟩ y4).setCell ⟨b, 5, none⟩ y5).setCell ⟨b, 6, none⟩ y6).setCell ⟨b, 7, none⟩ y7).setCell ⟨b, 8, none⟩ y8).heap[b]? = some (.cells #[y0, y1, y2, y3, y4, y5, y6, y7, y8, x9, x10, x11, x12, x13] t (0, 0)) := Go.heap_setCell_same _ b 8 _ _ y8 h7
  have h9 : ((((((((((w1.setCell ⟨b, 0, none⟩ y0).setCell ⟨b, 1, none⟩ y1).setCell ⟨b, 2, none⟩ y2).setCell ⟨b, 3, none⟩ y3).setCell ⟨b, 4, none⟩ y4).setCell ⟨b, 5, none⟩ y5).setCell ⟨b, 6, none⟩ y6).setCell ⟨b, 7, none⟩ y7).setCell ⟨b, 8, none⟩ y8).setCell ⟨b, 9, none⟩ y9).heap[b]? = some (.cells #[y0, y1, y2, y3, y4, y5, y6, y7, y8, y9, x10, x11, x12, x13] t (0, 0)) := Go.heap_setCell_same _ b 9 _ _ y9 h8
  have h10 : (((((((((((w1.setCell ⟨b, 0, none⟩ y0).setCell ⟨b, 1, none⟩ y1).setCell ⟨b, 2, none⟩ y2).setCell ⟨b, 3, none⟩ y3).setCell ⟨b, 4, none⟩ y4).setCell ⟨b, 5, none⟩ y5).setCell ⟨b, 6, none⟩ y6).setCell ⟨b, 7, none⟩ y7).setCell ⟨b, 8, none⟩ y8).setCell ⟨b, 9, none⟩ y9).setCell ⟨b, 10, none⟩ y10).heap[b]? = some (.cells #[y0, y1, y2, y3, y4, y5, y6, y7, y8, y9, y10, x11, x12, x13] t (0, 0)) := Go.heap_setCell_same _ b 10 _ _ y10 h9
  have h11 : ((((((((((((w1.setCell ⟨b, 0, none⟩ y0).setCell ⟨b, 1, none⟩ y1).setCell ⟨b, 2, none⟩ y2).setCell ⟨b, 3, none⟩ y3).setCell ⟨b, 4, none⟩ y4).setCell ⟨b, 5, none⟩ y5).setCell ⟨b, 6, none⟩ y6).setCell ⟨b, 7, none⟩ y7).setCell ⟨b, 8, none⟩ y8).setCell ⟨b, 9, none⟩ y9).setCell ⟨b, 10, none⟩ y10).setCell ⟨b, 11, none⟩ y11).heap[b]? = some (.cells #[y0, y1, y2, y3, y4, y5, y6, y7, y8, y9, y10, y11, x12, x13] t (0, 0)) := Go.heap_setCell_same _ b 11 _ _ y11 h10
  have h12 : (((((((((((((w1.setCell ⟨b, 0, none⟩ y0).setCell ⟨b, 1, none⟩ y1).setCell ⟨b, 2, none⟩ y2).setCell ⟨b, 3, none⟩ y3).setCell ⟨b, 4, none⟩ y4).setCell ⟨b, 5, none⟩ y5).setCell ⟨b, 6, none⟩ y6).setCell ⟨b, 7, none⟩ y7).setCell ⟨b, 8, none⟩ y8).setCell ⟨b, 9, none⟩ y9).setCell ⟨b, 10, none⟩ y10).setCell ⟨b, 11, none⟩ y11).setCell ⟨b, 12, none⟩ y12).heap[b]? = some (.cells #[y0, y1, y2, y3, y4, y5, y6, y7, y8, y9, y10, y11, y12, x13] t (0, 0)) := Go.heap_setCell_same _ b 12 _ _ y12 h11
  have h13 : ((((((((((((((w1.setCell ⟨b, 0, none⟩ y0).setCell ⟨b, 1, none⟩ y1).setCell ⟨b, 2, none⟩ y2).setCell ⟨b, 3, none⟩ y3).setCell ⟨b, 4, none⟩ y4).setCell ⟨b, 5, none⟩ y5).setCell ⟨b, 6, none⟩ y6).setCell ⟨b, 7, none⟩ y7).setCell ⟨b, 8, none⟩ y8).setCell ⟨b, 9, none⟩ y9).setCell ⟨b, 10, none⟩ y10).setCell ⟨b, 11, none⟩ y11).setCell ⟨b, 12, none⟩ y12).setCell ⟨b, 13, none⟩ y13).heap[b]? = some (.cells #[y0, y1, y2, y3, y4, y5, y6, y7, y8, y9, y10, y11, y12, y13] t (0, 0)) := Go.heap_setCell_same _ b 13 _ _ y13 h12
  exact h13
theorem cells14 {W : World} {b : Nat} {x0 x1 x2 x3 x4 x5 x6 x7 x8 x9 x10 x11 x12 x13 : Value} {t : TypeId} (h : W.heap[b]? = some (.cells #[x0, x1, x2, x3, x4, x5, x6, x7, x8, x9, x10, x11, x12, x13] t (0, 0))) :
    (W.cell? ⟨b, 0, none⟩ = some x0 ∧ W.cell? ⟨b, 1, none⟩ = some x1 ∧ W.cell? ⟨b, 2, none⟩ = some x2 ∧ W.cell? ⟨b, 3, none⟩ = some x3 ∧ W.cell? ⟨b, 4, none⟩ = some x4 ∧ W.cell? ⟨b, 5, none⟩ = some x5 ∧ W.cell? ⟨b, 6, none⟩ = some x6 ∧ W.cell? ⟨b, 7, none⟩ = some x7 ∧ W.cell? ⟨b, 8, none⟩ = some x8 ∧ W.cell? ⟨b, 9, none⟩ = some x9 ∧ W.cell? ⟨b, 10, none⟩ = some x10 ∧ W.cell? ⟨b, 11, none⟩ = some x11 ∧ W.cell? ⟨b, 12, none⟩ = some x12 ∧ W.cell? ⟨b, 13, none⟩ = some x13) ∧ W.frozen? ⟨b, 0, none⟩ = false ∧ W.frozen? ⟨b, 1, none⟩ = false ∧ W.frozen? ⟨b, 2, none⟩ = false ∧ W.frozen? ⟨b, 3, none⟩ = false ∧ W.frozen? ⟨b, 4, none⟩ = false ∧ W.frozen? ⟨b, 5, none⟩ = false ∧ W.frozen? ⟨b, 6, none⟩ = false ∧ W.frozen? ⟨b, 7, none⟩ = false ∧ W.frozen? ⟨b, 8, none⟩ = false ∧ W.frozen? ⟨b, 9, none⟩ = false ∧ W.frozen? ⟨b, 10, none⟩ = false ∧ W.frozen? ⟨b, 11, none⟩ = false ∧ W.frozen? ⟨b, 12, none⟩ = false ∧ W.frozen? ⟨b, 13, none⟩ = false :=
  ⟨⟨(cell_of_row _ b 0 _ _ (0, 0) h).trans rfl, (cell_of_row _ b 1 _ _ (0, 0) h).trans rfl, (cell_of_row _ b 2 _ _ (0, 0) h).trans rfl, (cell_of_row _ b 3 _ _ (0, 0) h).trans rfl, (cell_of_row _ b 4 _ _ (0, 0) h).trans rfl, (cell_of_row _ b 5 _ _ (0, 0) h).trans rfl, (cell_of_row _ b 6 _ _ (0, 0) h).trans rfl, (cell_of_row _ b 7 _ _ (0, 0) h).trans rfl, (cell_of_row _ b 8 _ _ (0, 0) h).trans rfl, (cell_of_row _ b 9 _ _ (0, 0) h).trans rfl, (cell_of_row _ b 10 _ _ (0, 0) h).trans rfl, (cell_of_row _ b 11 _ _ (0, 0) h).trans rfl, (cell_of_row _ b 12 _ _ (0, 0) h).trans rfl, (cell_of_row _ b 13 _ _ (0, 0) h).trans rfl⟩, frozen_of_row _ b 0 _ _ h, frozen_of_row _ b 1 _ _ h, frozen_of_row _ b 2 _ _ h, frozen_of_row _ b 3 _ _ h, frozen_of_row _ b 4 _ _ h, frozen_of_row _ b 5 _ _ h, frozen_of_row _ b 6 _ _ h, frozen_of_row _ b 7 _ _ h, frozen_of_row _ b 8 _ _ h, frozen_of_row _ b 9 _ _ h, frozen_of_row _ b 10 _ _ h, frozen_of_row _ b 11 _ _ h, frozen_of_row _ b 12 _ _ h, frozen_of_row _ b 13 _ _ h⟩
theorem set14_off {w1 : World} {b k : Nat} {y0 y1 y2 y3 y4 y5 y6 y7 y8 y9 y10 y11 y12 y13 : Value} (h : k ≠ b) : ((((((((((((((w1.setCell ⟨b, 0, none⟩ y0).setCell ⟨b, 1, none⟩ y1).setCell ⟨b, 2, none⟩ y2).setCell ⟨b, 3, none⟩ y3).setCell ⟨b, 4, none⟩ y4).setCell ⟨b, 5, none⟩ y5).setCell ⟨b, 6, none⟩ y6).setCell ⟨b, 7, none⟩ y7).setCell ⟨b, 8, none⟩ y8).setCell ⟨b, 9, none⟩ y9).setCell ⟨b, 10, none⟩ y10).setCell ⟨b, 11, none⟩ y11).setCell ⟨b, 12, none⟩ y12).setCell ⟨b, 13, none⟩ y13).heap[k]? = w1.heap[k]? := by
  exact (heap_setCell_other _ ⟨b, 13, none⟩ k _ h).trans ((heap_setCell_other _ ⟨b, 12, none⟩ k _ h).trans ((heap_setCell_other _ ⟨b, 11, none⟩ k _ h).trans ((heap_setCell_other _ ⟨b, 10, none⟩ k _ h).trans ((heap_setCell_other _ ⟨b, 9, none⟩ k _ h).trans ((heap_setCell_other _ ⟨b, 8, none⟩ k _ h).trans ((heap_setCell_other _ ⟨b, 7, none⟩ k _ h).trans ((heap_setCell_other _ ⟨b, 6, none⟩ k _ h).trans ((heap_setCell_other _ ⟨b, 5, none⟩ k _ h).trans ((heap_setCell_other _ ⟨b, 4, none⟩ k _ h).trans ((heap_setCell_other _ ⟨b, 3, none⟩ k _ h).trans ((heap_setCell_other _ ⟨b, 2, none⟩ k _ h).trans ((heap_setCell_other _ ⟨b, 1, none⟩ k _ h).trans (heap_setCell_other _ ⟨b, 0, none⟩ k _ h)))))))))))))
abbrev zAc : Obj := .cells #[.bool false, .string ⟨#[]⟩, .slice none 0 0] 118
abbrev zLi : Obj := .cells #[.int .i64 0, .string ⟨#[]⟩, .slice none 0 0, .int .i64 0, .int .i64 0, .string ⟨#[]⟩, .int .i64 0, .int .i64 0, .string ⟨#[]⟩, .int .i64 0, .string ⟨#[]⟩, .int .i64 0, .int .i64 0, .string ⟨#[]⟩] 86
def acT (S : Nat → Prop) (w : World) (v : Value) (c : ActL) : Prop := ∃ u, v = .agg #[.bool c.plus, .string ⟨c.atom.pred.toArray⟩, u] ∧ RowIn tmY S w u c.atom.args
def liT (S : Nat → Prop) (w : World) (v : Value) (l : LiL) : Prop := ∃ u, v = .agg #[.int .i64 l.kind, .string ⟨l.atom.pred.toArray⟩, u, .int .i64 l.op, .int .i64 l.a.kind, .string ⟨l.a.name.toArray⟩, .int .i64 l.a.val.1, .int .i64 l.a.val.2.1, .string l.a.val.2.2, .int .i64 l.b.kind, .string ⟨l.b.name.toArray⟩, .int .i64 l.b.val.1, .int .i64 l.b.val.2.1, .string l.b.val.2.2] ∧ RowIn tmY S w u l.atom.args
theorem textAt_two (p m T : List UInt8) : textAt [p, m] T 0 = if T = p then 0 else if T = m then 1 else -1 := by
  simp only [textAt]
  repeat' split
  all_goals rfl
abbrev pmO : Obj := .cells #[.string ⟨#[43]⟩, .string ⟨#[45]⟩] 9
set_option maxRecDepth 100000 in
set_option maxHeartbeats 2000000 in
theorem pact_any {W : World} {n b e : Nat} {L : List Wd} (h : Rp n W b L e) : Calls Tryz.prog 83 #[rdp b] W (PEnd actR acT n b e L W) := by
  have HR := Lib.hid h
  have hnW := h.below_
  have hlt := h.lt
  have HTx : Hid (TxsIn ((W.alloc zAc).alloc pmO) (.slice (some ⟨(W.alloc zAc).heap.size, 0, none⟩) 2 2) [[43], [45]]) := Lib.hid (txs_new (W.alloc zAc) [[43], [45]] (by simp) 2)
  rw [show (W.alloc zAc).heap.size = W.heap.size + 1 by simp] at HTx
  clear h
  go_enter Tryz.func83, Tryz.ntmps83
  go_wp2_with fail
  refine (pwhich_any (S := [[43], [45]]) ((HR.out.alloc zAc).alloc pmO) HTx.out (by decide)).mono ?_
  rintro y w1 ⟨ht, ⟨x, L1, rfl, h0, rfl, hr⟩ | ⟨h0, rfl⟩⟩
  · rw [textAt_two] at h0 ⊢
    have hr0 : w1.heap[W.heap.size]? = some zAc := (ht.block _ (by simp; omega) (by omega)).trans (two_new W zAc pmO).1
    have hz0 : W.heap.size < w1.heap.size := by have := ht.size; simp at this; omega
    have HE := Lib.hid (And.intro ht hr)
    have HX := HR.out.tidy x List.mem_cons_self
    have HB0 := Lib.hid hr0
    have HTd := Lib.hid HX
    by_cases e1 : x.text = [43]
    · rw [if_pos e1]
      have HP := Lib.hid (show nxt (isM [43]) (keys (x :: L1)) = true by rw [nxt_mark HR.out.tidy rfl]; simp [txt, e1])
      have HM := Lib.hid (show tok1 (isM [43]) (keys (x :: L1)) = .ok x.key (keys L1) from tok1_yes (by rw [tidy_mark HX rfl]; simp [e1]))
      have HA := Lib.hid (show actR (keys (x :: L1)) = bindR atomR (fun a => pureR (ActL.mk true a)) (keys L1) by unfold actR altR; rw [if_pos HP.out]; exact bind_ok HM.out)
      clear ht hr hr0 h0 HX e1 HP HM
      go_wp2_with fail
      refine (patom_any HE.out.2).mono ?_
      rintro y w2 ⟨ht2, ⟨a, L2, v, hp, hs, rfl, ⟨u, rfl, hu⟩, hr2⟩ | ⟨L2, hp, hs, rfl⟩⟩
      · have HE2 := Lib.hid (And.intro ht2 (And.intro hp (And.intro hs (And.intro hu hr2))))
        have HK := Lib.hid ((ht2.block _ hz0 (by omega)).trans HB0.out)
        obtain ⟨⟨q0, q1, q2⟩, f0, f1, f2⟩ := cells3 HK.out
        obtain ⟨pu, cu, rfl, -⟩ := id hu
        clear ht2 hp hs hu hr2
        go_wp2_with fail
        refine bodyPost_ret (results_cell_row (fn := Tryz.f83) (by rfl) _ _ _ _ _ _ _ (by rfl) (rowS3_set HK.out) Tryz.underlying118 (by rfl) (by kernel_rfl)) (by rfl) ?_
        obtain ⟨ht2, hp, hs, hu, hr2⟩ := HE2.out
        refine ⟨Only.turned ((((((((Only.refl b W).alloc zAc).alloc pmO).on HE.out.1).on ht2).set (Nat.le_refl _) _ _).set (Nat.le_refl _) _ _).set (Nat.le_refl _) _ _), .inl ⟨⟨true, a⟩, L2, _, HA.out.trans ((bind_ok hp).trans rfl), hs.trans (List.suffix_cons x L1), rfl, ⟨_, rfl, ?_⟩, ((hr2.set hnW _ _).set hnW _ _).set hnW _ _⟩⟩
        exact hu.keep (by simp) fun k e hk => ⟨by omega, set3_off (by omega)⟩
      · have HE2 := Lib.hid (And.intro ht2 (And.intro hp hs))
        clear ht2 hp hs
        go_wp2_with fail
        exact ⟨rfl, Only.turned (((((Only.refl b W).alloc zAc).alloc pmO).on HE.out.1).on HE2.out.1), .inr ⟨L2, HA.out.trans (bind_bad HE2.out.2.1), HE2.out.2.2.trans (List.suffix_cons x L1), rfl⟩⟩
    · rw [if_neg e1] at h0 ⊢
      have e2 : x.text = [45] := by
        by_cases e : x.text = [45]
        · exact e
        · rw [if_neg e] at h0; omega
      rw [if_pos e2]
      have HP := Lib.hid (show ¬ nxt (isM [43]) (keys (x :: L1)) = true by rw [nxt_mark HR.out.tidy rfl]; simp [txt, e1])
      have HA := Lib.hid (show actR (keys (x :: L1)) = bindR atomR (fun a => pureR (ActL.mk false a)) (keys L1) by unfold actR altR; rw [if_neg HP.out]; exact bind_ok (mark_yes HTd.out rfl e2))
      clear ht hr hr0 h0 HX e1 e2 HP
      go_wp2_with fail
      refine (patom_any HE.out.2).mono ?_
      rintro y w2 ⟨ht2, ⟨a, L2, v, hp, hs, rfl, ⟨u, rfl, hu⟩, hr2⟩ | ⟨L2, hp, hs, rfl⟩⟩
      · have HE2 := Lib.hid (And.intro ht2 (And.intro hp (And.intro hs (And.intro hu hr2))))
        have HK := Lib.hid ((ht2.block _ hz0 (by omega)).trans HB0.out)
        obtain ⟨⟨q0, q1, q2⟩, f0, f1, f2⟩ := cells3 HK.out
        obtain ⟨pu, cu, rfl, -⟩ := id hu
        clear ht2 hp hs hu hr2
        go_wp2_with fail
        refine bodyPost_ret (results_cell_row (fn := Tryz.f83) (by rfl) _ _ _ _ _ _ _ (by rfl) (rowS3_set HK.out) Tryz.underlying118 (by rfl) (by kernel_rfl)) (by rfl) ?_
        obtain ⟨ht2, hp, hs, hu, hr2⟩ := HE2.out
        refine ⟨Only.turned ((((((((Only.refl b W).alloc zAc).alloc pmO).on HE.out.1).on ht2).set (Nat.le_refl _) _ _).set (Nat.le_refl _) _ _).set (Nat.le_refl _) _ _), .inl ⟨⟨false, a⟩, L2, _, HA.out.trans ((bind_ok hp).trans rfl), hs.trans (List.suffix_cons x L1), rfl, ⟨_, rfl, ?_⟩, ((hr2.set hnW _ _).set hnW _ _).set hnW _ _⟩⟩
        exact hu.keep (by simp) fun k e hk => ⟨by omega, set3_off (by omega)⟩
      · have HE2 := Lib.hid (And.intro ht2 (And.intro hp hs))
        clear ht2 hp hs
        go_wp2_with fail
        exact ⟨rfl, Only.turned (((((Only.refl b W).alloc zAc).alloc pmO).on HE.out.1).on HE2.out.1), .inr ⟨L2, HA.out.trans (bind_bad HE2.out.2.1), HE2.out.2.2.trans (List.suffix_cons x L1), rfl⟩⟩
  · rw [textAt_two] at h0
    have HE := Lib.hid ht
    have e1 : txt L ≠ [43] := by
      intro e; rw [if_pos e] at h0; omega
    have e2 : txt L ≠ [45] := by
      intro e; rw [if_neg e1, if_pos e] at h0; omega
    have HA := Lib.hid (show actR (keys L) = .bad (keys L) by
      unfold actR altR
      rw [if_neg (by rw [nxt_mark HR.out.tidy rfl]; simpa using e1)]
      exact bind_bad (mark_no HR.out.tidy rfl e2))
    clear ht h0 e1 e2
    go_wp2_with fail
    exact ⟨rfl, PEnd.no HA.out (Only.turned ((((Only.refl b W).alloc zAc).alloc pmO).on HE.out))⟩
end
section
open Go Go.RowKit Go.Shelf

theorem lit_not {L : List Wd} {x : Wd} (h : ∀ w ∈ x :: L, TidyW w) (e : x.text = wNot) : literalR (keys (x :: L)) = bindR atomR (fun a => pureR ⟨2, a, 0, zeroT, zeroT⟩) (keys L) := by
  unfold literalR altR
  rw [if_pos (by rw [nxt_word h rfl]; simpa [txt] using e)]
  exact bind_ok (tok1_yes (by rw [tidy_word (h x List.mem_cons_self) rfl]; simpa using e))
theorem atomR_no {l : List Kt} (h : nameR l = .bad l) : atomR l = .bad l := by
  rw [atomR_eq]
  exact bind_bad h
theorem lit_name {L : List Wd} (h : ∀ w ∈ L, TidyW w) (e : txt L ≠ wNot) (hk : knd L = 1) : literalR (keys L) = bindR atomR (fun a => pureR ⟨1, a, 0, zeroT, zeroT⟩) (keys L) := by
  unfold literalR altR
  rw [if_neg (by rw [nxt_word h rfl]; simpa using e)]
  by_cases hn : nxt isName (keys L) = true
  · rw [if_pos hn]
  · rw [if_neg hn]
    have hn' : nxt isName (keys L) = false := by simpa using hn
    rw [bind_bad (atomR_no (bind_bad (tok1_no hn')))]
    exact bind_bad (bind_bad (tok1_no (by rw [nxt_term, hk]; rfl)))
theorem lit_cmpN {L : List Wd} (h : ∀ w ∈ L, TidyW w) (e : txt L ≠ wNot) (hk : (knd L == 1) = false) : literalR (keys L) = bindR termR (fun a => bindR opR fun o => bindR termR fun b => pureR ⟨3, zeroA, o, a, b⟩) (keys L) := by
  unfold literalR altR
  rw [if_neg (by rw [nxt_word h rfl]; simpa using e), if_neg (by rw [nxt_name, hk]; simp)]
set_option maxRecDepth 100000 in
set_option maxHeartbeats 4000000 in
theorem pliteral_any {W : World} {n b e : Nat} {L : List Wd} (h : Rp n W b L e) : Calls Tryz.prog 61 #[rdp b] W (PEnd literalR liT n b e L W) := by
  have HR := Lib.hid h
  have hnW := h.below_
  have hlt := h.lt
  have F0 := wf0
  clear h
  go_enter Tryz.func61, Tryz.ntmps61
  go_wp2_with fail
  refine (pmay_any wNot (by decide) (HR.out.alloc zLi)).mono ?_
  rintro y w1 ⟨ht, ⟨x, L1, rfl, hx, rfl, hr⟩ | ⟨hx, rfl, hr⟩⟩
  · have HZ : Hid (w1.heap[W.heap.size]? = some zLi) := Lib.hid ((ht.block _ (by simp) (by omega)).trans (heap_alloc_new W zLi))
    have hz : W.heap.size < w1.heap.size := by have := ht.size; simp at this; omega
    have HE := Lib.hid (And.intro ht hr)
    have HL := Lib.hid (lit_not HR.out.tidy hx)
    clear ht hr hx
    go_wp2_with fail
    refine (patom_any HE.out.2).mono ?_
    rintro y wa ⟨hta, ⟨a, La, v, hp, hs, rfl, ⟨u, rfl, hu⟩, hra⟩ | ⟨La, hp, hs, rfl⟩⟩
    · have HOn := Lib.hid (Only.on (((Only.refl b W).alloc zLi).on HE.out.1) hta)
      have HRn := Lib.hid hra
      have HU := Lib.hid (And.intro hp (And.intro hs hu))
      have HK := Lib.hid ((hta.block _ hz (by omega)).trans HZ.out)
      obtain ⟨⟨q0, q1, q2, q3, q4, q5, q6, q7, q8, q9, q10, q11, q12, q13⟩, f0, f1, f2, f3, f4, f5, f6, f7, f8, f9, f10, f11, f12, f13⟩ := cells14 HK.out
      obtain ⟨pu, cu, rfl, -⟩ := id hu
      clear hta hp hs hu hra
      go_wp2_with fail
      refine bodyPost_ret (results_cell_row (fn := Tryz.f61) (by rfl) _ _ _ _ _ _ _ (by rfl) (rowS14_set HK.out) Tryz.underlying86 (by rfl) (by kernel_rfl)) (by rfl) ?_
      obtain ⟨hp, hs, hu⟩ := HU.out
      refine ⟨Only.turned (by
        repeat with_reducible refine Only.set ?_ (Nat.le_refl _) _ _
        exact HOn.out), .inl ⟨⟨2, a, 0, zeroT, zeroT⟩, La, _, HL.out.trans ((bind_ok hp).trans rfl), hs.trans (List.suffix_cons x L1), rfl, ⟨_, rfl, ?_⟩, (by
        repeat with_reducible refine Rp.set ?_ hnW _ _
        exact HRn.out)⟩⟩
      exact hu.keep (by simp) fun k e hk => ⟨by omega, set14_off (by omega)⟩
    · have HE2 := Lib.hid (And.intro hta (And.intro hp hs))
      clear hta hp hs
      go_wp2_with fail
      obtain ⟨hta, hp, hs⟩ := HE2.out
      exact ⟨rfl, Only.turned (Only.on (((Only.refl b W).alloc zLi).on HE.out.1) hta), .inr ⟨La, HL.out.trans (bind_bad hp), hs.trans (List.suffix_cons x L1), rfl⟩⟩
  · have HE := Lib.hid (And.intro ht hr)
    have HX := Lib.hid hx
    have hz1 : W.heap.size < w1.heap.size := by have := ht.size; simp at this; omega
    have HZ1 : Hid (w1.heap[W.heap.size]? = some zLi) := Lib.hid ((ht.block _ (by simp) (by omega)).trans (heap_alloc_new W zLi))
    have HNk := Lib.hid (headW_kind e L)
    clear ht hr hx
    go_wp2_with fail
    refine (pnext_any HE.out.2).mono ?_
    rintro y w2 ⟨rfl, hb⟩
    have HZ : Hid (w2.heap[W.heap.size]? = some zLi) := Lib.hid ((hb.block _ hz1).trans HZ1.out)
    have hz : W.heap.size < w2.heap.size := Nat.lt_of_lt_of_le hz1 hb.size
    have HB := Lib.hid hb
    unfold wordV
    rw [HNk.out]
    obtain ⟨K, hK⟩ : ∃ K, K = knd L := ⟨_, rfl⟩
    rw [← hK]
    have HKn := Lib.hid hK
    clear hb hK
    cases hk : (K == 1)
    · have HL := Lib.hid (lit_cmpN HR.out.tidy HX.out (by rw [← HKn.out]; exact hk))
      go_wp2_with fail
      refine (pterm_any (HE.out.2.below HB.out)).mono ?_
      rintro y w3 ⟨ht3, ⟨ta, L3, va, hp, hs, rfl, hva, hr3⟩ | ⟨L3, hp, hs, rfl⟩⟩
      rotate_left
      · have HE3 := Lib.hid (And.intro ht3 (And.intro hp hs))
        clear ht3 hp hs
        go_wp2_with fail
        obtain ⟨ht3, hp, hs⟩ := HE3.out
        exact ⟨rfl, Only.turned (((((Only.refl b W).alloc zLi).on HE.out.1).below HB.out).on ht3), .inr ⟨L3, HL.out.trans (bind_bad hp), hs, rfl⟩⟩
      obtain rfl : va = .agg #[.int .i64 ta.kind, .string ⟨ta.name.toArray⟩, .int .i64 ta.val.1, .int .i64 ta.val.2.1, .string ta.val.2.2] := hva
      have HE3 := Lib.hid (And.intro ht3 (And.intro hp (And.intro hs hr3)))
      clear ht3 hp hs hr3
      go_wp2_with fail
      refine (pop_any HE3.out.2.2.2).mono ?_
      rintro y w4 ⟨ht4, ⟨o, L4, vo, hp, hs, rfl, hvo, hr4⟩ | ⟨L4, hp, hs, rfl⟩⟩
      rotate_left
      · have HE4 := Lib.hid (And.intro ht4 (And.intro hp hs))
        clear ht4 hp hs
        go_wp2_with fail
        obtain ⟨ht4, hp, hs⟩ := HE4.out
        exact ⟨rfl, Only.turned ((((((Only.refl b W).alloc zLi).on HE.out.1).below HB.out).on HE3.out.1).on ht4), .inr ⟨L4, HL.out.trans ((bind_ok HE3.out.2.1).trans (bind_bad hp)), hs.trans HE3.out.2.2.1, rfl⟩⟩
      obtain rfl : vo = .int .i64 o := hvo
      have HE4 := Lib.hid (And.intro ht4 (And.intro hp (And.intro hs hr4)))
      clear ht4 hp hs hr4
      go_wp2_with fail
      refine (pterm_any HE4.out.2.2.2).mono ?_
      rintro y w5 ⟨ht5, ⟨tb, L5, vb, hp, hs, rfl, hvb, hr5⟩ | ⟨L5, hp, hs, rfl⟩⟩
      rotate_left
      · have HE5 := Lib.hid (And.intro ht5 (And.intro hp hs))
        clear ht5 hp hs
        go_wp2_with fail
        obtain ⟨ht5, hp, hs⟩ := HE5.out
        exact ⟨rfl, Only.turned (((((((Only.refl b W).alloc zLi).on HE.out.1).below HB.out).on HE3.out.1).on HE4.out.1).on ht5), .inr ⟨L5, HL.out.trans ((bind_ok HE3.out.2.1).trans ((bind_ok HE4.out.2.1).trans (bind_bad hp))), hs.trans (HE4.out.2.2.1.trans HE3.out.2.2.1), rfl⟩⟩
      obtain rfl : vb = .agg #[.int .i64 tb.kind, .string ⟨tb.name.toArray⟩, .int .i64 tb.val.1, .int .i64 tb.val.2.1, .string tb.val.2.2] := hvb
      have HP := Lib.hid (And.intro hp hs)
      have HOn := Lib.hid (((((((Only.refl b W).alloc zLi).on HE.out.1).below HB.out).on HE3.out.1).on HE4.out.1).on ht5)
      have HRn := Lib.hid hr5
      have HK := Lib.hid ((ht5.block _ (Nat.lt_of_lt_of_le hz (Nat.le_trans HE3.out.1.size HE4.out.1.size)) (by omega)).trans ((HE4.out.1.block _ (Nat.lt_of_lt_of_le hz HE3.out.1.size) (by omega)).trans ((HE3.out.1.block _ hz (by omega)).trans HZ.out)))
      obtain ⟨⟨q0, q1, q2, q3, q4, q5, q6, q7, q8, q9, q10, q11, q12, q13⟩, f0, f1, f2, f3, f4, f5, f6, f7, f8, f9, f10, f11, f12, f13⟩ := cells14 HK.out
      clear ht5 hp hs hr5
      go_wp2_with fail
      refine bodyPost_ret (results_cell_row (fn := Tryz.f61) (by rfl) _ _ _ _ _ _ _ (by rfl) (rowS14_set HK.out) Tryz.underlying86 (by rfl) (by kernel_rfl)) (by rfl) ?_
      exact ⟨Only.turned (by
        repeat with_reducible refine Only.set ?_ (Nat.le_refl _) _ _
        exact HOn.out), .inl ⟨⟨3, zeroA, o, ta, tb⟩, L5, _, HL.out.trans ((bind_ok HE3.out.2.1).trans ((bind_ok HE4.out.2.1).trans ((bind_ok HP.out.1).trans rfl))), HP.out.2.trans (HE4.out.2.2.1.trans HE3.out.2.2.1), rfl, ⟨_, rfl, RowIn.nil _ _ _⟩, (by
        repeat with_reducible refine Rp.set ?_ hnW _ _
        exact HRn.out)⟩⟩
    · have HL := Lib.hid (lit_name HR.out.tidy HX.out (by rw [← HKn.out]; simpa using hk))
      go_wp2_with fail
      refine (patom_any (HE.out.2.below HB.out)).mono ?_
      rintro y wa ⟨hta, ⟨a, La, v, hp, hs, rfl, ⟨u, rfl, hu⟩, hra⟩ | ⟨La, hp, hs, rfl⟩⟩
      · have HOn := Lib.hid (Only.on ((((Only.refl b W).alloc zLi).on HE.out.1).below HB.out) hta)
        have HRn := Lib.hid hra
        have HU := Lib.hid (And.intro hp (And.intro hs hu))
        have HK := Lib.hid ((hta.block _ hz (by omega)).trans HZ.out)
        obtain ⟨⟨q0, q1, q2, q3, q4, q5, q6, q7, q8, q9, q10, q11, q12, q13⟩, f0, f1, f2, f3, f4, f5, f6, f7, f8, f9, f10, f11, f12, f13⟩ := cells14 HK.out
        obtain ⟨pu, cu, rfl, -⟩ := id hu
        clear hta hp hs hu hra
        go_wp2_with fail
        refine bodyPost_ret (results_cell_row (fn := Tryz.f61) (by rfl) _ _ _ _ _ _ _ (by rfl) (rowS14_set HK.out) Tryz.underlying86 (by rfl) (by kernel_rfl)) (by rfl) ?_
        obtain ⟨hp, hs, hu⟩ := HU.out
        refine ⟨Only.turned (by
          repeat with_reducible refine Only.set ?_ (Nat.le_refl _) _ _
          exact HOn.out), .inl ⟨⟨1, a, 0, zeroT, zeroT⟩, La, _, HL.out.trans ((bind_ok hp).trans rfl), hs, rfl, ⟨_, rfl, ?_⟩, (by
          repeat with_reducible refine Rp.set ?_ hnW _ _
          exact HRn.out)⟩⟩
        exact hu.keep (by simp) fun k e hk => ⟨by omega, set14_off (by omega)⟩
      · have HE2 := Lib.hid (And.intro hta (And.intro hp hs))
        clear hta hp hs
        go_wp2_with fail
        obtain ⟨hta, hp, hs⟩ := HE2.out
        exact ⟨rfl, Only.turned (Only.on ((((Only.refl b W).alloc zLi).on HE.out.1).below HB.out) hta), .inr ⟨La, HL.out.trans (bind_bad hp), hs, rfl⟩⟩
end
section
open Go Go.RowKit Go.Shelf

set_option maxRecDepth 100000 in
set_option maxHeartbeats 2000000 in
theorem plistLi_any {W : World} {n b e : Nat} {L : List Wd} (h : Rp n W b L e) : Calls Tryz.prog 60 #[rdp b, .func (.func 61) #[rdp b] #[]] W (PEnd (sepL (isM [44]) literalR) (rowT liY) n b e L W) := by
  have HR := Lib.hid h
  have HEat := Lib.hid (fit_literal.eats)
  have hnW := h.below_
  have hbn := h.at_
  clear h
  go_enter Tryz.func60, Tryz.ntmps60
  go_wp2_with fail
  refine (pliteral_any HR.out).mono ?_
  rintro y w1 ⟨ht, ⟨a, L1, v, hp, hs, rfl, hv, hr⟩ | ⟨L1, hp, hs, rfl⟩⟩
  rotate_left
  · have HE := Lib.hid (And.intro ht (And.intro hp hs))
    clear ht hp hs
    go_wp2_with fail
    exact ⟨rfl, HE.out.1, .inr ⟨L1, sep_bad HEat.out HE.out.2.1, HE.out.2.2, rfl⟩⟩
  obtain ⟨u, rfl, hu⟩ := hv
  have hu := Lib.hid hu
  have HJ0 : Hid (LsJ (isM [44]) literalR liY 86 n b e L W (.slice (some ⟨w1.heap.size, 0, none⟩) 1 1) [a] L1 (w1.alloc (.cells #[.int .i64 a.kind, .string ⟨a.atom.pred.toArray⟩, u, .int .i64 a.op, .int .i64 a.a.kind, .string ⟨a.a.name.toArray⟩, .int .i64 a.a.val.1, .int .i64 a.a.val.2.1, .string a.a.val.2.2, .int .i64 a.b.kind, .string ⟨a.b.name.toArray⟩, .int .i64 a.b.val.1, .int .i64 a.b.val.2.1, .string a.b.val.2.2] 86))) := Lib.hid
    ⟨RowOwn.lit (us := [.int .i64 a.kind, .string ⟨a.atom.pred.toArray⟩, u, .int .i64 a.op, .int .i64 a.a.kind, .string ⟨a.a.name.toArray⟩, .int .i64 a.a.val.1, .int .i64 a.a.val.2.1, .string a.a.val.2.2, .int .i64 a.b.kind, .string ⟨a.b.name.toArray⟩, .int .i64 a.b.val.1, .int .i64 a.b.val.2.1, .string a.b.val.2.2]) ht.size ⟨u, rfl, hu.out⟩, hr.alloc _, ((Only.refl b W).on ht).alloc _, hs, sep_first HEat.out hp, by have := eats_len HEat.out hp; simp; omega⟩
  clear ht hp hs hr
  go_wp2_with fail
  go_loopw [5] (fun v wr => ∃ zs L2, Hid (LsJ (isM [44]) literalR liY 86 n b e L W v zs L2 wr)) (fun _ wr => leftW wr b)
  case atStart => exact ⟨_, _, HJ0⟩
  case round =>
    obtain ⟨zs, L2, HJ⟩ := hrel
    go_wp2_with fail
    refine (pmay_any [44] (by decide) HJ.out.rd).mono ?_
    rintro y w2 ⟨ht, ⟨x, L3, rfl, hx, rfl, hr⟩ | ⟨hx, rfl, hr⟩⟩
    · have HE := Lib.hid (And.intro ht (And.intro hr hx))
      clear ht hr hx
      go_wp2_with fail
      refine (pliteral_any HE.out.2.1).mono ?_
      rintro y w3 ⟨ht, ⟨a, L4, v1, hp, hs, rfl, hv, hr⟩ | ⟨L4, hp, hs, rfl⟩⟩
      rotate_left
      · have HE4 := Lib.hid (And.intro ht (And.intro hp hs))
        clear ht hp hs
        go_wp2_with fail
        have hq : nxt (isM [44]) (keys (x :: L3)) = true := by rw [nxt_mark HJ.out.rd.tidy rfl]; simp [txt, HE.out.2.2]
        exact ⟨rfl, Only.turned ((HJ.out.only.on HE.out.1).on HE4.out.1), .inr ⟨L4, HJ.out.eq.trans (cont_bad HEat.out hq HE4.out.2.1), HE4.out.2.2.trans ((List.suffix_cons x L3).trans HJ.out.suf), rfl⟩⟩
      obtain ⟨u, rfl, hu⟩ := hv
      have hu := Lib.hid hu
      have HW := Lib.hid (And.intro ht (And.intro hp (And.intro hs hr)))
      clear ht hp hs hr
      have hlenA : zs.length ≤ 1000000 := by have := HJ.out.len; have := HR.out.len; simp at *; omega
      have hsz3 : W.heap.size ≤ w3.heap.size := Nat.le_trans HJ.out.only.size (Nat.le_trans HE.out.1.size HW.out.1.size)
      have HOw : Hid (RowOwn liY 86 W.heap.size (w3.alloc (.cells #[.int .i64 a.kind, .string ⟨a.atom.pred.toArray⟩, u, .int .i64 a.op, .int .i64 a.a.kind, .string ⟨a.a.name.toArray⟩, .int .i64 a.a.val.1, .int .i64 a.a.val.2.1, .string a.a.val.2.2, .int .i64 a.b.kind, .string ⟨a.b.name.toArray⟩, .int .i64 a.b.val.1, .int .i64 a.b.val.2.1, .string a.b.val.2.2] 86)) u5 zs) := Lib.hid (((HJ.out.own.turned HE.out.1 (fun k hB _ e => by omega)).turned HW.out.1 (fun k hB _ e => by omega)).keep (by simp) fun k _ hk => Below.heap_alloc _ _ _ hk)
      have HIs : Hid (liY.is (fun k => W.heap.size ≤ k ∧ u5.ownBlock ≠ some k) (w3.alloc (.cells #[.int .i64 a.kind, .string ⟨a.atom.pred.toArray⟩, u, .int .i64 a.op, .int .i64 a.a.kind, .string ⟨a.a.name.toArray⟩, .int .i64 a.a.val.1, .int .i64 a.a.val.2.1, .string a.a.val.2.2, .int .i64 a.b.kind, .string ⟨a.b.name.toArray⟩, .int .i64 a.b.val.1, .int .i64 a.b.val.2.1, .string a.b.val.2.2] 86)) [.int .i64 a.kind, .string ⟨a.atom.pred.toArray⟩, u, .int .i64 a.op, .int .i64 a.a.kind, .string ⟨a.a.name.toArray⟩, .int .i64 a.a.val.1, .int .i64 a.a.val.2.1, .string a.a.val.2.2, .int .i64 a.b.kind, .string ⟨a.b.name.toArray⟩, .int .i64 a.b.val.1, .int .i64 a.b.val.2.1, .string a.b.val.2.2] a) := Lib.hid ⟨u, rfl, hu.out.keep (by simp) fun k e hk => ⟨⟨by have := HJ.out.only.size; have := HE.out.1.size; omega, fun e2 => by have := (HJ.out.own.lt k e2).2; have := HE.out.1.size; omega⟩, Below.heap_alloc _ _ _ hk⟩⟩
      have hsz3' : W.heap.size ≤ (w3.alloc (.cells #[.int .i64 a.kind, .string ⟨a.atom.pred.toArray⟩, u, .int .i64 a.op, .int .i64 a.a.kind, .string ⟨a.a.name.toArray⟩, .int .i64 a.a.val.1, .int .i64 a.a.val.2.1, .string a.a.val.2.2, .int .i64 a.b.kind, .string ⟨a.b.name.toArray⟩, .int .i64 a.b.val.1, .int .i64 a.b.val.2.1, .string a.b.val.2.2] 86)).heap.size := by simp; omega
      have HCl : Hid (∀ j u', ([.int .i64 a.kind, .string ⟨a.atom.pred.toArray⟩, u, .int .i64 a.op, .int .i64 a.a.kind, .string ⟨a.a.name.toArray⟩, .int .i64 a.a.val.1, .int .i64 a.a.val.2.1, .string a.a.val.2.2, .int .i64 a.b.kind, .string ⟨a.b.name.toArray⟩, .int .i64 a.b.val.1, .int .i64 a.b.val.2.1, .string a.b.val.2.2] : List Value)[j]? = some u' → (w3.alloc (.cells #[.int .i64 a.kind, .string ⟨a.atom.pred.toArray⟩, u, .int .i64 a.op, .int .i64 a.a.kind, .string ⟨a.a.name.toArray⟩, .int .i64 a.a.val.1, .int .i64 a.a.val.2.1, .string a.a.val.2.2, .int .i64 a.b.kind, .string ⟨a.b.name.toArray⟩, .int .i64 a.b.val.1, .int .i64 a.b.val.2.1, .string a.b.val.2.2] 86)).cell? ⟨w3.heap.size, 0 + j, none⟩ = some u') := Lib.hid (lit_rowcells w3 [.int .i64 a.kind, .string ⟨a.atom.pred.toArray⟩, u, .int .i64 a.op, .int .i64 a.a.kind, .string ⟨a.a.name.toArray⟩, .int .i64 a.a.val.1, .int .i64 a.a.val.2.1, .string a.a.val.2.2, .int .i64 a.b.kind, .string ⟨a.b.name.toArray⟩, .int .i64 a.b.val.1, .int .i64 a.b.val.2.1, .string a.b.val.2.2] _)
      go_wp2_with (at_builtin; refine wpList_appY liY rfl (.tmp 13) (.tmp 16) 39 86 rfl W.heap.size (.agg #[.int .i64 0, .string ⟨#[]⟩, .slice none 0 0, .int .i64 0, .int .i64 0, .string ⟨#[]⟩, .int .i64 0, .int .i64 0, .string ⟨#[]⟩, .int .i64 0, .string ⟨#[]⟩, .int .i64 0, .int .i64 0, .string ⟨#[]⟩]) 168 Tryz.underlying39 Tryz.infoLi rfl (by decide) (by decide) u5 zs a [.int .i64 a.kind, .string ⟨a.atom.pred.toArray⟩, u, .int .i64 a.op, .int .i64 a.a.kind, .string ⟨a.a.name.toArray⟩, .int .i64 a.a.val.1, .int .i64 a.a.val.2.1, .string a.a.val.2.2, .int .i64 a.b.kind, .string ⟨a.b.name.toArray⟩, .int .i64 a.b.val.1, .int .i64 a.b.val.2.1, .string a.b.val.2.2] w3.heap.size 1 rfl rfl HOw.out HIs.out HCl.out hlenA hsz3' ?_; intro v2 w4 ho hg hv2; have HN := Lib.hid (And.intro ho hg); clear ho hg hv2)
      go_roundw
      case rel =>
        obtain ⟨ho, hg⟩ := HN.out
        obtain ⟨ht, hp, hs, hr⟩ := HW.out
        have hq : nxt (isM [44]) (keys (x :: L3)) = true := by rw [nxt_mark HJ.out.rd.tidy rfl]; simp [txt, HE.out.2.2]
        have htg := Turned.of_grown hg
        have hlo : ∀ k, u5.ownBlock = some k → W.heap.size ≤ k := fun k e => (HJ.out.own.lt k e).1
        refine ⟨zs ++ [a], L4, Lib.hid ⟨ho, (hr.alloc _).turned htg fun k e => by have := hlo k e; omega, (((HJ.out.only.on HE.out.1).on ht).alloc _).call htg fun k e => .inr (hlo k e), hs.trans ((List.suffix_cons x L3).trans HJ.out.suf), HJ.out.eq.trans (cont_next HEat.out hq hp), ?_⟩⟩
        have h1 := eats_len HEat.out hp
        have h2 := HJ.out.len
        simp at h2 ⊢
        omega
      case measure =>
        obtain ⟨ho, hg⟩ := HN.out
        obtain ⟨ht, hp, hs, hr⟩ := HW.out
        have htg := Turned.of_grown hg
        have hlo : ∀ k, u5.ownBlock = some k → W.heap.size ≤ k := fun k e => (HJ.out.own.lt k e).1
        have h3 := ((hr.alloc (.cells #[.int .i64 a.kind, .string ⟨a.atom.pred.toArray⟩, u, .int .i64 a.op, .int .i64 a.a.kind, .string ⟨a.a.name.toArray⟩, .int .i64 a.a.val.1, .int .i64 a.a.val.2.1, .string a.a.val.2.2, .int .i64 a.b.kind, .string ⟨a.b.name.toArray⟩, .int .i64 a.b.val.1, .int .i64 a.b.val.2.1, .string a.b.val.2.2] 86)).turned htg fun k e => by have := hlo k e; omega).left
        rw [h3, HJ.out.rd.left]
        have h1 := eats_len HEat.out hp
        simp
        omega
    · have HE := Lib.hid (And.intro ht (And.intro hr hx))
      clear ht hr hx
      go_wp2_with fail
      go_ret
      have hq : nxt (isM [44]) (keys L2) = false := by rw [nxt_mark HJ.out.rd.tidy rfl]; simpa using HE.out.2.2
      exact ⟨Only.turned (HJ.out.only.on HE.out.1), .inl ⟨zs, L2, u5, HJ.out.eq.trans (cont_end hq), HJ.out.suf, rfl, (HJ.out.own.turned HE.out.1 (fun k hB _ e => by omega)).in_, HE.out.2.1⟩⟩
end
section
open Go Go.RowKit Go.Shelf

set_option maxRecDepth 100000 in
set_option maxHeartbeats 2000000 in
theorem plistAc_any {W : World} {n b e : Nat} {L : List Wd} (h : Rp n W b L e) : Calls Tryz.prog 82 #[rdp b, .func (.func 83) #[rdp b] #[]] W (PEnd (sepL (isM [44]) actR) (rowT acY) n b e L W) := by
  have HR := Lib.hid h
  have HEat := Lib.hid (fit_act.eats)
  have hnW := h.below_
  have hbn := h.at_
  clear h
  go_enter Tryz.func82, Tryz.ntmps82
  go_wp2_with fail
  refine (pact_any HR.out).mono ?_
  rintro y w1 ⟨ht, ⟨a, L1, v, hp, hs, rfl, hv, hr⟩ | ⟨L1, hp, hs, rfl⟩⟩
  rotate_left
  · have HE := Lib.hid (And.intro ht (And.intro hp hs))
    clear ht hp hs
    go_wp2_with fail
    exact ⟨rfl, HE.out.1, .inr ⟨L1, sep_bad HEat.out HE.out.2.1, HE.out.2.2, rfl⟩⟩
  obtain ⟨u, rfl, hu⟩ := hv
  have hu := Lib.hid hu
  have HJ0 : Hid (LsJ (isM [44]) actR acY 118 n b e L W (.slice (some ⟨w1.heap.size, 0, none⟩) 1 1) [a] L1 (w1.alloc (.cells #[.bool a.plus, .string ⟨a.atom.pred.toArray⟩, u] 118))) := Lib.hid
    ⟨RowOwn.lit (us := [.bool a.plus, .string ⟨a.atom.pred.toArray⟩, u]) ht.size ⟨u, rfl, hu.out⟩, hr.alloc _, ((Only.refl b W).on ht).alloc _, hs, sep_first HEat.out hp, by have := eats_len HEat.out hp; simp; omega⟩
  clear ht hp hs hr
  go_wp2_with fail
  go_loopw [5] (fun v wr => ∃ zs L2, Hid (LsJ (isM [44]) actR acY 118 n b e L W v zs L2 wr)) (fun _ wr => leftW wr b)
  case atStart => exact ⟨_, _, HJ0⟩
  case round =>
    obtain ⟨zs, L2, HJ⟩ := hrel
    go_wp2_with fail
    refine (pmay_any [44] (by decide) HJ.out.rd).mono ?_
    rintro y w2 ⟨ht, ⟨x, L3, rfl, hx, rfl, hr⟩ | ⟨hx, rfl, hr⟩⟩
    · have HE := Lib.hid (And.intro ht (And.intro hr hx))
      clear ht hr hx
      go_wp2_with fail
      refine (pact_any HE.out.2.1).mono ?_
      rintro y w3 ⟨ht, ⟨a, L4, v1, hp, hs, rfl, hv, hr⟩ | ⟨L4, hp, hs, rfl⟩⟩
      rotate_left
      · have HE4 := Lib.hid (And.intro ht (And.intro hp hs))
        clear ht hp hs
        go_wp2_with fail
        have hq : nxt (isM [44]) (keys (x :: L3)) = true := by rw [nxt_mark HJ.out.rd.tidy rfl]; simp [txt, HE.out.2.2]
        exact ⟨rfl, Only.turned ((HJ.out.only.on HE.out.1).on HE4.out.1), .inr ⟨L4, HJ.out.eq.trans (cont_bad HEat.out hq HE4.out.2.1), HE4.out.2.2.trans ((List.suffix_cons x L3).trans HJ.out.suf), rfl⟩⟩
      obtain ⟨u, rfl, hu⟩ := hv
      have hu := Lib.hid hu
      have HW := Lib.hid (And.intro ht (And.intro hp (And.intro hs hr)))
      clear ht hp hs hr
      have hlenA : zs.length ≤ 1000000 := by have := HJ.out.len; have := HR.out.len; simp at *; omega
      have hsz3 : W.heap.size ≤ w3.heap.size := Nat.le_trans HJ.out.only.size (Nat.le_trans HE.out.1.size HW.out.1.size)
      have HOw : Hid (RowOwn acY 118 W.heap.size (w3.alloc (.cells #[.bool a.plus, .string ⟨a.atom.pred.toArray⟩, u] 118)) u5 zs) := Lib.hid (((HJ.out.own.turned HE.out.1 (fun k hB _ e => by omega)).turned HW.out.1 (fun k hB _ e => by omega)).keep (by simp) fun k _ hk => Below.heap_alloc _ _ _ hk)
      have HIs : Hid (acY.is (fun k => W.heap.size ≤ k ∧ u5.ownBlock ≠ some k) (w3.alloc (.cells #[.bool a.plus, .string ⟨a.atom.pred.toArray⟩, u] 118)) [.bool a.plus, .string ⟨a.atom.pred.toArray⟩, u] a) := Lib.hid ⟨u, rfl, hu.out.keep (by simp) fun k e hk => ⟨⟨by have := HJ.out.only.size; have := HE.out.1.size; omega, fun e2 => by have := (HJ.out.own.lt k e2).2; have := HE.out.1.size; omega⟩, Below.heap_alloc _ _ _ hk⟩⟩
      have hsz3' : W.heap.size ≤ (w3.alloc (.cells #[.bool a.plus, .string ⟨a.atom.pred.toArray⟩, u] 118)).heap.size := by simp; omega
      have HCl : Hid (∀ j u', ([.bool a.plus, .string ⟨a.atom.pred.toArray⟩, u] : List Value)[j]? = some u' → (w3.alloc (.cells #[.bool a.plus, .string ⟨a.atom.pred.toArray⟩, u] 118)).cell? ⟨w3.heap.size, 0 + j, none⟩ = some u') := Lib.hid (lit_rowcells w3 [.bool a.plus, .string ⟨a.atom.pred.toArray⟩, u] _)
      go_wp2_with (at_builtin; refine wpList_appY acY rfl (.tmp 13) (.tmp 16) 70 118 rfl W.heap.size (.agg #[.bool false, .string ⟨#[]⟩, .slice none 0 0]) 48 Tryz.underlying70 Tryz.infoAc rfl (by decide) (by decide) u5 zs a [.bool a.plus, .string ⟨a.atom.pred.toArray⟩, u] w3.heap.size 1 rfl rfl HOw.out HIs.out HCl.out hlenA hsz3' ?_; intro v2 w4 ho hg hv2; have HN := Lib.hid (And.intro ho hg); clear ho hg hv2)
      go_roundw
      case rel =>
        obtain ⟨ho, hg⟩ := HN.out
        obtain ⟨ht, hp, hs, hr⟩ := HW.out
        have hq : nxt (isM [44]) (keys (x :: L3)) = true := by rw [nxt_mark HJ.out.rd.tidy rfl]; simp [txt, HE.out.2.2]
        have htg := Turned.of_grown hg
        have hlo : ∀ k, u5.ownBlock = some k → W.heap.size ≤ k := fun k e => (HJ.out.own.lt k e).1
        refine ⟨zs ++ [a], L4, Lib.hid ⟨ho, (hr.alloc _).turned htg fun k e => by have := hlo k e; omega, (((HJ.out.only.on HE.out.1).on ht).alloc _).call htg fun k e => .inr (hlo k e), hs.trans ((List.suffix_cons x L3).trans HJ.out.suf), HJ.out.eq.trans (cont_next HEat.out hq hp), ?_⟩⟩
        have h1 := eats_len HEat.out hp
        have h2 := HJ.out.len
        simp at h2 ⊢
        omega
      case measure =>
        obtain ⟨ho, hg⟩ := HN.out
        obtain ⟨ht, hp, hs, hr⟩ := HW.out
        have htg := Turned.of_grown hg
        have hlo : ∀ k, u5.ownBlock = some k → W.heap.size ≤ k := fun k e => (HJ.out.own.lt k e).1
        have h3 := ((hr.alloc (.cells #[.bool a.plus, .string ⟨a.atom.pred.toArray⟩, u] 118)).turned htg fun k e => by have := hlo k e; omega).left
        rw [h3, HJ.out.rd.left]
        have h1 := eats_len HEat.out hp
        simp
        omega
    · have HE := Lib.hid (And.intro ht (And.intro hr hx))
      clear ht hr hx
      go_wp2_with fail
      go_ret
      have hq : nxt (isM [44]) (keys L2) = false := by rw [nxt_mark HJ.out.rd.tidy rfl]; simpa using HE.out.2.2
      exact ⟨Only.turned (HJ.out.only.on HE.out.1), .inl ⟨zs, L2, u5, HJ.out.eq.trans (cont_end hq), HJ.out.suf, rfl, (HJ.out.own.turned HE.out.1 (fun k hB _ e => by omega)).in_, HE.out.2.1⟩⟩
end
section
open Go Go.RowKit Go.Shelf

abbrev zRu : Obj := .cells #[.string ⟨#[]⟩, .slice none 0 0, .slice none 0 0] 41
def ruT (S : Nat → Prop) (w : World) (v : Value) (r : RuL) : Prop := ∃ u x, v = .agg #[.string ⟨r.head.pred.toArray⟩, u, x] ∧ RowIn tmY S w u r.head.args ∧ RowIn liY S w x r.body
/-- A box of three cells and the result's box under it. -/
def Bx3 (N b ba kt : Nat) (ko : Obj) (t : TypeId) (x y z : Value) (W : World) : Prop :=
  (N ≤ ba ∧ ba < W.heap.size ∧ b < N ∧ kt ≠ ba ∧ N ≤ kt ∧ kt < W.heap.size) ∧ W.heap[ba]? = some (.cells #[x, y, z] t (0, 0)) ∧ W.heap[kt]? = some ko
theorem Bx3.on {N b ba kt : Nat} {ko : Obj} {t : TypeId} {x y z : Value} {W W' : World} (h : Bx3 N b ba kt ko t x y z W) (ht : Turned (fun k => k = b) W W') : Bx3 N b ba kt ko t x y z W' := by
  obtain ⟨⟨h1, h2, h3, h4, h5, h6⟩, h7, h8⟩ := h
  exact ⟨⟨h1, Nat.lt_of_lt_of_le h2 ht.size, h3, h4, h5, Nat.lt_of_lt_of_le h6 ht.size⟩, (ht.block ba h2 (by omega)).trans h7, (ht.block kt h6 (by omega)).trans h8⟩
set_option maxRecDepth 100000 in
set_option maxHeartbeats 2000000 in
theorem prule_any {W : World} {n b e : Nat} {L : List Wd} (h : Rp n W b L e) : Calls Tryz.prog 31 #[rdp b] W (PEnd ruleR ruT n b e L W) := by
  have HR := Lib.hid h
  have hnW := h.below_
  have hlt := h.lt
  clear h
  go_enter Tryz.func31, Tryz.ntmps31
  go_wp2_with fail
  refine (patom_any (HR.out.alloc zRu)).mono ?_
  rintro y w1 ⟨ht, ⟨a, L1, v, hp, hs, rfl, ⟨u, rfl, hu⟩, hr⟩ | ⟨L1, hp, hs, rfl⟩⟩
  rotate_left
  · have HE := Lib.hid (And.intro ht (And.intro hp hs))
    clear ht hp hs
    go_wp2_with fail
    obtain ⟨ht, hp, hs⟩ := HE.out
    exact ⟨rfl, Only.turned (((Only.refl b W).alloc zRu).on ht), .inr ⟨L1, bind_bad hp, hs, rfl⟩⟩
  have HE := Lib.hid (And.intro ht (And.intro hp (And.intro hs (And.intro hu hr))))
  obtain ⟨pu, cu, rfl, -⟩ := id hu
  have hsz : W.heap.size < w1.heap.size := by have := ht.size; simp at this; omega
  have HB : Hid (Bx3 W.heap.size b w1.heap.size W.heap.size zRu 41 (.string ⟨a.pred.toArray⟩) (.slice pu a.args.length cu) (.slice none 0 0) (w1.alloc (.cells #[.string ⟨a.pred.toArray⟩, .slice pu a.args.length cu, .slice none 0 0] 41))) := Lib.hid
    ⟨⟨by omega, by simp, hlt, by omega, Nat.le_refl _, by simp; omega⟩, heap_alloc_new _ _, (Below.heap_alloc _ _ _ hsz).trans ((ht.block _ (by simp) (by omega)).trans (heap_alloc_new W zRu))⟩
  have HO : Hid (Only W.heap.size b W (w1.alloc (.cells #[.string ⟨a.pred.toArray⟩, .slice pu a.args.length cu, .slice none 0 0] 41))) := Lib.hid ((((Only.refl b W).alloc zRu).on ht).alloc _)
  have HR1 := Lib.hid (hr.alloc (.cells #[.string ⟨a.pred.toArray⟩, .slice pu a.args.length cu, .slice none 0 0] 41))
  have HU : Hid (RowIn tmY (fun k => W.heap.size ≤ k ∧ k ≠ W.heap.size ∧ k ≠ w1.heap.size) (w1.alloc (.cells #[.string ⟨a.pred.toArray⟩, .slice pu a.args.length cu, .slice none 0 0] 41)) (.slice pu a.args.length cu) a.args) := Lib.hid (hu.keep (by simp) fun k e hk => ⟨by simp at e; omega, Below.heap_alloc _ _ _ hk⟩)
  have HP := Lib.hid (And.intro hp hs)
  obtain ⟨c1, hc1⟩ : ∃ c, c = w1.heap.size := ⟨_, rfl⟩
  clear ht hp hs hu hr HE
  go_wp2_with fail
  refine (pmay_any [58, 45] (by decide) HR1.out).mono ?_
  rintro y w2 ⟨ht, ⟨x, L2, rfl, hx, rfl, hr⟩ | ⟨hx, rfl, hr⟩⟩
  · have HE2 := Lib.hid (And.intro ht (And.intro hr hx))
    have HB2 := Lib.hid (HB.out.on ht)
    obtain ⟨⟨a0, a1, a2⟩, g0, g1, g2⟩ := cells3 HB2.out.2.1
    clear ht hr hx
    go_wp2_with fail
    refine (plistLi_any HE2.out.2.1).mono ?_
    rintro y w3 ⟨ht, ⟨zs, L3, v, hp, hs, rfl, hv, hr⟩ | ⟨L3, hp, hs, rfl⟩⟩
    rotate_left
    · have HE3 := Lib.hid (And.intro ht (And.intro hp hs))
      clear ht hp hs
      go_wp2_with fail
      obtain ⟨ht, hp, hs⟩ := HE3.out
      refine ⟨rfl, Only.turned ((HO.out.on HE2.out.1).on ht), .inr ⟨L3, (bind_ok HP.out.1).trans (bind_bad (bind_bad ?_)), hs.trans ((List.suffix_cons x L2).trans HP.out.2), rfl⟩⟩
      unfold moreR altR
      rw [if_pos (by rw [nxt_mark HR1.out.tidy rfl]; simpa [txt] using HE2.out.2.2)]
      exact (bind_ok (tok1_yes (by rw [tidy_mark (HR1.out.tidy x List.mem_cons_self) rfl]; simpa using HE2.out.2.2))).trans hp
    have HB3 := Lib.hid (HB2.out.on ht)
    obtain ⟨pv, cv, rfl, -⟩ := id hv
    obtain ⟨⟨b0, b1, b2⟩, k0, k1, k2⟩ := cells3 HB3.out.2.1
    have HE3 := Lib.hid (And.intro ht (And.intro hp (And.intro hs (And.intro hv hr))))
    clear ht hp hs hv hr a0 a1 a2 g0 g1 g2
    go_wp2_with fail
    -- TAIL
    have HRX : Hid (Rp n (w3.setCell ⟨w1.heap.size, 2, none⟩ (.slice pv zs.length cv)) b L3 e) := Lib.hid (HE3.out.2.2.2.2.set (by omega) _ _)
    have HOX : Hid (Only W.heap.size b W (w3.setCell ⟨w1.heap.size, 2, none⟩ (.slice pv zs.length cv))) := Lib.hid (((HO.out.on HE2.out.1).on HE3.out.1).set (by omega) _ _)
    have HBX : Hid (Bx3 W.heap.size b w1.heap.size W.heap.size zRu 41 (.string ⟨a.pred.toArray⟩) (.slice pu a.args.length cu) (.slice pv zs.length cv) (w3.setCell ⟨w1.heap.size, 2, none⟩ (.slice pv zs.length cv))) := Lib.hid (by
      obtain ⟨⟨h1, h2, h3, h4, h5, h6⟩, h7, h8⟩ := HB3.out
      exact ⟨⟨h1, by simpa using h2, h3, h4, h5, by simpa using h6⟩, heap_setCell_same w3 _ 2 _ _ _ h7, (heap_setCell_other w3 ⟨w1.heap.size, 2, none⟩ _ _ h4).trans h8⟩)
    have HUX : Hid (RowIn tmY (fun k => W.heap.size ≤ k ∧ k ≠ W.heap.size ∧ k ≠ w1.heap.size) (w3.setCell ⟨w1.heap.size, 2, none⟩ (.slice pv zs.length cv)) (.slice pu a.args.length cu) a.args) := Lib.hid ((((HU.out.turned HE2.out.1 fun k e e2 => by omega).turned HE3.out.1 fun k e e2 => by omega)).keep (by simp) fun k e hk => ⟨e, heap_setCell_other w3 ⟨w1.heap.size, 2, none⟩ k _ e.2.2⟩)
    have HVX : Hid (RowIn liY (fun k => W.heap.size ≤ k ∧ k ≠ W.heap.size ∧ k ≠ w1.heap.size) (w3.setCell ⟨w1.heap.size, 2, none⟩ (.slice pv zs.length cv)) (.slice pv zs.length cv) zs) := Lib.hid (by
      have h2 := HB2.out.1.2.1
      exact RowIn.keep HE3.out.2.2.2.1 (by simp) fun k e hk => ⟨by omega, heap_setCell_other w3 ⟨w1.heap.size, 2, none⟩ k _ (by show k ≠ w1.heap.size; omega)⟩)
    have HM : Hid (moreR [58, 45] literalR (keys (x :: L2)) = .ok zs (keys L3) ∧ L3 <:+ x :: L2) := Lib.hid (by
      refine ⟨?_, HE3.out.2.2.1.trans (List.suffix_cons x L2)⟩
      unfold moreR altR
      rw [if_pos (by rw [nxt_mark HR1.out.tidy rfl]; simpa [txt] using HE2.out.2.2)]
      exact (bind_ok (tok1_yes (by rw [tidy_mark (HR1.out.tidy x List.mem_cons_self) rfl]; simpa using HE2.out.2.2))).trans HE3.out.2.1)
    refine (pmust_any [46] (by decide) HRX.out).mono ?_
    rintro y w4 ⟨ht, ⟨x4, L4, hL, hx, rfl, hr⟩ | ⟨hx, rfl⟩⟩
    · subst hL
      have HB4 := Lib.hid (HBX.out.on ht)
      have HF := Lib.hid (And.intro ht (And.intro hr hx))
      obtain ⟨⟨d0, d1, d2⟩, m0, m1, m2⟩ := cells3 HB4.out.2.1
      obtain ⟨⟨p0, p1, p2⟩, o0, o1, o2⟩ := cells3 HB4.out.2.2
      clear ht hr hx
      go_wp2_with fail
      refine bodyPost_ret (results_cell_row (fn := Tryz.f31) (by rfl) _ _ _ _ _ _ _ (by rfl) (rowS3_set HB4.out.2.2) Tryz.underlying41 (by rfl) (by kernel_rfl)) (by rfl) ?_
      obtain ⟨ht, hr, hx⟩ := HF.out
      refine ⟨Only.turned ((((HOX.out.on ht).set (Nat.le_refl _) _ _).set (Nat.le_refl _) _ _).set (Nat.le_refl _) _ _), .inl ⟨⟨a, zs⟩, L4, _, (bind_ok HP.out.1).trans ((bind_ok ((bind_ok HM.out.1).trans ((bind_ok (mark_yes (HRX.out.tidy x4 List.mem_cons_self) rfl hx)).trans rfl))).trans rfl), (List.suffix_cons x4 L4).trans (HM.out.2.trans HP.out.2), rfl, ⟨_, _, rfl, ?_, ?_⟩, ((hr.set hnW _ _).set hnW _ _).set hnW _ _⟩⟩
      · exact (HUX.out.turned ht fun k e e2 => by omega).keep (by simp) fun k e hk => ⟨e.1, set3_off e.2.1⟩
      · exact (HVX.out.turned ht fun k e e2 => by omega).keep (by simp) fun k e hk => ⟨e.1, set3_off e.2.1⟩
    · have HF := Lib.hid (And.intro ht hx)
      clear ht hx
      go_wp2_with fail
      obtain ⟨ht, hx⟩ := HF.out
      exact ⟨rfl, Only.turned (HOX.out.on ht), .inr ⟨L3, (bind_ok HP.out.1).trans (bind_bad ((bind_ok HM.out.1).trans (bind_bad (mark_no HRX.out.tidy rfl hx)))), HM.out.2.trans HP.out.2, rfl⟩⟩
  · have HE2 := Lib.hid (And.intro ht (And.intro hr hx))
    have HB2 := Lib.hid (HB.out.on ht)
    have HRX := Lib.hid hr
    have HOX := Lib.hid (HO.out.on ht)
    have HBX := Lib.hid (HB.out.on ht)
    have HUX := Lib.hid (HU.out.turned ht fun k e e2 => by omega)
    obtain ⟨zs, hzs⟩ : ∃ zs : List LiL, zs = [] := ⟨_, rfl⟩
    have HVX : Hid (RowIn liY (fun k => W.heap.size ≤ k ∧ k ≠ W.heap.size ∧ k ≠ w1.heap.size) w2 (.slice none 0 0) zs) := Lib.hid (by rw [hzs]; exact RowIn.nil _ _ _)
    obtain ⟨L3, hL3⟩ : ∃ L3, L3 = L1 := ⟨_, rfl⟩
    have HM : Hid (moreR [58, 45] literalR (keys L1) = .ok zs (keys L3) ∧ L3 <:+ L1) := Lib.hid (by
      rw [hL3, hzs]
      refine ⟨?_, List.suffix_refl _⟩
      unfold moreR altR
      rw [if_neg (by rw [nxt_mark HR1.out.tidy rfl]; simpa using hx)]
      rfl)
    rw [← hL3] at HRX
    clear ht hr hx hzs hL3
    go_wp2_with fail
    refine (pmust_any [46] (by decide) HRX.out).mono ?_
    rintro y w4 ⟨ht, ⟨x4, L4, hL, hx, rfl, hr⟩ | ⟨hx, rfl⟩⟩
    · subst hL
      have HB4 := Lib.hid (HBX.out.on ht)
      have HF := Lib.hid (And.intro ht (And.intro hr hx))
      obtain ⟨⟨d0, d1, d2⟩, m0, m1, m2⟩ := cells3 HB4.out.2.1
      obtain ⟨⟨p0, p1, p2⟩, o0, o1, o2⟩ := cells3 HB4.out.2.2
      clear ht hr hx
      go_wp2_with fail
      refine bodyPost_ret (results_cell_row (fn := Tryz.f31) (by rfl) _ _ _ _ _ _ _ (by rfl) (rowS3_set HB4.out.2.2) Tryz.underlying41 (by rfl) (by kernel_rfl)) (by rfl) ?_
      obtain ⟨ht, hr, hx⟩ := HF.out
      refine ⟨Only.turned ((((HOX.out.on ht).set (Nat.le_refl _) _ _).set (Nat.le_refl _) _ _).set (Nat.le_refl _) _ _), .inl ⟨⟨a, zs⟩, L4, _, (bind_ok HP.out.1).trans ((bind_ok ((bind_ok HM.out.1).trans ((bind_ok (mark_yes (HRX.out.tidy x4 List.mem_cons_self) rfl hx)).trans rfl))).trans rfl), (List.suffix_cons x4 L4).trans (HM.out.2.trans HP.out.2), rfl, ⟨_, _, rfl, ?_, ?_⟩, ((hr.set hnW _ _).set hnW _ _).set hnW _ _⟩⟩
      · exact (HUX.out.turned ht fun k e e2 => by omega).keep (by simp) fun k e hk => ⟨e.1, set3_off e.2.1⟩
      · exact (HVX.out.turned ht fun k e e2 => by omega).keep (by simp) fun k e hk => ⟨e.1, set3_off e.2.1⟩
    · have HF := Lib.hid (And.intro ht hx)
      clear ht hx
      go_wp2_with fail
      obtain ⟨ht, hx⟩ := HF.out
      exact ⟨rfl, Only.turned (HOX.out.on ht), .inr ⟨L3, (bind_ok HP.out.1).trans (bind_bad ((bind_ok HM.out.1).trans (bind_bad (mark_no HRX.out.tidy rfl hx)))), HM.out.2.trans HP.out.2, rfl⟩⟩
end
end Go.Proofs.YtnbaemfkpfmheaaGreatDoor
