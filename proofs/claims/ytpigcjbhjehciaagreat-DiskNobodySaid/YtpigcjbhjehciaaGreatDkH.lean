/-
  The frame of the law DiskNobody.
-/
import Derived.Test.YtpigcjbhjehciaaGreatDkX
namespace Go.Proofs.YtpigcjbhjehciaaGreat
open Go Go.RowKit Go.Maps Go.WideMaps

/-- The three blocks that the law makes first. -/
structure NbF (n : Nat) (op : Array Value) (wr : World) : Prop where
  op_ : wr.heap[n]? = some (.cells op 36 (0, 0))
  zero_ : wr.heap[n + 1]? = some (.cells #[.pointer none, .int .i64 0, .int .i64 0, .map none, .map none, .map none, .map none, .slice none 0 0, .bool false, .int .i64 0] 49 (0, 0))
  row_ : wr.heap[n + 2]? = some (.cells #[.pointer none, .pointer (some ⟨n + 1, 0, none⟩)] 26 (0, 0))
theorem NbF.grow {n : Nat} {op : Array Value} {wr w' : World} (h : NbF n op wr) (hg : Grow (fun _ => False) wr w') : NbF n op w' :=
  ⟨(hg.block _ (Array.getElem?_eq_some_iff.1 h.op_).1 (fun e => e)).trans h.op_, (hg.block _ (Array.getElem?_eq_some_iff.1 h.zero_).1 (fun e => e)).trans h.zero_, (hg.block _ (Array.getElem?_eq_some_iff.1 h.row_).1 (fun e => e)).trans h.row_⟩
theorem NbF.made {n : Nat} {op : Array Value} {wr : World} (h : NbF n op wr) (k : Nat) (hk : k < 2) : ∃ v, NotMade wr v ∧ wr.cell? ⟨n + 2, k, none⟩ = some v := by
  rcases k with _ | _ | k
  · exact ⟨.pointer none, .inl rfl, (cell_of_row wr _ 0 _ _ (0, 0) h.row_).trans rfl⟩
  · exact ⟨.pointer (some ⟨n + 1, 0, none⟩), .inr ⟨n + 1, rfl, (Array.getElem?_eq_some_iff.1 h.zero_).1, (cell_of_row wr _ 0 _ _ (0, 0) h.zero_).trans rfl⟩, (cell_of_row wr _ 1 _ _ (0, 0) h.row_).trans rfl⟩
  · omega
theorem NotMade.grow {w w' : World} {v : Value} (h : NotMade w v) (hg : Grow (fun _ => False) w w') : NotMade w' v := by
  rcases h with h | ⟨b, h, hl, hc⟩
  · exact .inl h
  · exact .inr ⟨b, h, Nat.lt_of_lt_of_le hl hg.size, (World.cell?_of_block (hg.block b hl (fun e => e))).trans hc⟩
theorem nb_start (w : World) (op : Array Value) : NbF w.heap.size op (((w.alloc (.cells op 36)).alloc (.cells #[.pointer none, .int .i64 0, .int .i64 0, .map none, .map none, .map none, .map none, .slice none 0 0, .bool false, .int .i64 0] 49)).alloc (.cells #[.pointer none, .pointer (some ⟨w.heap.size + 1, 0, none⟩)] 26)) := by
  have e1 : (w.alloc (.cells op 36)).heap.size = w.heap.size + 1 := by simp
  have h0 := heap_alloc_new w (.cells op 36)
  have h1 := heap_alloc_new (w.alloc (.cells op 36)) (.cells #[.pointer none, .int .i64 0, .int .i64 0, .map none, .map none, .map none, .map none, .slice none 0 0, .bool false, .int .i64 0] 49)
  have h2 := heap_alloc_new ((w.alloc (.cells op 36)).alloc (.cells #[.pointer none, .int .i64 0, .int .i64 0, .map none, .map none, .map none, .map none, .slice none 0 0, .bool false, .int .i64 0] 49)) (.cells #[.pointer none, .pointer (some ⟨w.heap.size + 1, 0, none⟩)] 26)
  rw [e1] at h1
  rw [show ((w.alloc (.cells op 36)).alloc (.cells #[.pointer none, .int .i64 0, .int .i64 0, .map none, .map none, .map none, .map none, .slice none 0 0, .bool false, .int .i64 0] 49)).heap.size = w.heap.size + 2 by simp] at h2
  refine ⟨?_, ?_, h2⟩
  · rw [Below.heap_alloc _ _ _ (by simp; omega), Below.heap_alloc _ _ _ (by simp)]
    exact h0
  · rw [Below.heap_alloc _ _ _ (by simp)]
    exact h1
theorem nb_end {w W0 wr w1 : World} (h0 : Below w.heap.size w W0) (hj : Grow (fun _ => False) W0 wr) (hb : Below wr.heap.size wr w1) : Below w.heap.size w w1 := by
  have h1 : Below w.heap.size W0 wr := hj.below h0.size (fun _ e => e.elim)
  exact (h0.trans h1).trans (hb.mono (Nat.le_trans h0.size hj.size))
theorem nb_cells {n : Nat} {x0 x1 x2 x3 x4 x5 x6 x7 : Value} {wr : World} (h : NbF n #[x0, x1, x2, x3, x4, x5, x6, x7] wr) : wr.cell? ⟨n, 1, none⟩ = some x1 ∧ wr.cell? ⟨n, 2, none⟩ = some x2 ∧ wr.cell? ⟨n, 4, none⟩ = some x4 ∧ n < wr.heap.size :=
  ⟨(cell_of_row wr _ 1 _ _ (0, 0) h.op_).trans rfl, (cell_of_row wr _ 2 _ _ (0, 0) h.op_).trans rfl, (cell_of_row wr _ 4 _ _ (0, 0) h.op_).trans rfl, (Array.getElem?_eq_some_iff.1 h.op_).1⟩
end Go.Proofs.YtpigcjbhjehciaaGreat
