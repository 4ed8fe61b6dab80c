/-
  Contracts of the laws' own 'cut', of value.Holds and of the document's Holds.
-/
import Derived.Test.YtgblnkogglagdaaDoorVal
import Derived.Outline
namespace Go.Proofs.YtgblnkogglagdaaDoor
open Go Go.RowKit

/-- At most 300 bytes are looked at. -/
def cutS (s : ByteArray) : ByteArray := if s.size ≤ 300 then s else s.extract 0 300
theorem cutS_le {s : ByteArray} (h : s.size ≤ 300) : cutS s = s := by unfold cutS; rw [if_pos h]
theorem cutS_gt {s : ByteArray} (h : 300 < s.size) : cutS s = s.extract 0 300 := by unfold cutS; rw [if_neg (by omega)]
theorem cutS_size (s : ByteArray) : (cutS s).size ≤ 300 := by
  unfold cutS
  split
  · assumption
  · rw [ByteArray.size_extract]; omega

set_option maxHeartbeats 400000 in
theorem cut_any (k n : Int) (s : ByteArray) (w : World) (hm : s.size ≤ maxLen) :
    Calls Tryd.prog 11 #[.agg #[.int .i64 k, .int .i64 n, .string s]] w fun e w' => e = .returned (.agg #[.int .i64 k, .int .i64 n, .string (cutS s)]) ∧
      (w.alloc (.cells #[.int .i64 k, .int .i64 n, .string (cutS s)] 24)).alloc (.cells #[.int .i64 k, .int .i64 n, .string (cutS s)] 24) = w' := by
  unfold maxLen at hm
  rcases Nat.lt_or_ge 300 s.size with h | h
  · have HC := Lib.hid (cutS_gt h)
    have h' : (300 : Int) < (s.size : Int) := by omega
    go_enter Tryd.func11, Tryd.ntmps11
    go_wp2
    rw [HC.out]
    exact bodyPost_ret (v := .agg #[.int .i64 k, .int .i64 n, .string (s.extract 0 300)]) (by simp [results, Tryd.results11, go_sem]) rfl ⟨rfl, rfl⟩
  · have HC := Lib.hid (cutS_le h)
    have h' : (s.size : Int) ≤ 300 := by omega
    go_enter Tryd.func11, Tryd.ntmps11
    go_wp2
    rw [HC.out]
    exact bodyPost_ret (v := .agg #[.int .i64 k, .int .i64 n, .string s]) (by simp [results, Tryd.results11, go_sem]) rfl ⟨rfl, rfl⟩

/-- Three cells of a block, known. -/
def Cells3 (w : World) (b : Nat) (x y z : Value) : Prop := w.cell? ⟨b, 0, none⟩ = some x ∧ w.cell? ⟨b, 1, none⟩ = some y ∧ w.cell? ⟨b, 2, none⟩ = some z
theorem Cells3.keep {w w1 : World} {b B : Nat} {x y z : Value} (h : Cells3 w b x y z) (hb : Below B w w1) (hB : b < B) : Cells3 w1 b x y z :=
  ⟨(hb.cell (p := ⟨b, 0, none⟩) hB).trans h.1, (hb.cell (p := ⟨b, 1, none⟩) hB).trans h.2.1, (hb.cell (p := ⟨b, 2, none⟩) hB).trans h.2.2⟩
theorem Cells3.new (w : World) (x y z : Value) (t : TypeId) : Cells3 (w.alloc (.cells #[x, y, z] t)) w.heap.size x y z := by
  refine ⟨?_, ?_, ?_⟩ <;> (rw [cell_of_row _ w.heap.size _ _ t (0, 0) (heap_alloc_new w _)]; rfl)
/-- What the cut of two arguments leaves: their boxes, cut. -/
structure Two (w wx : World) (k n : Int) (s : ByteArray) (k' n' : Int) (s' : ByteArray) : Prop where
  below : Below w.heap.size w wx
  size : w.heap.size + 1 < wx.heap.size
  fst : Cells3 wx w.heap.size (.int .i64 k) (.int .i64 n) (.string s)
  snd : Cells3 wx (w.heap.size + 1) (.int .i64 k') (.int .i64 n') (.string s')
theorem Two.on {w w1 w2 : World} {k n : Int} {s : ByteArray} {k' n' : Int} {s' : ByteArray} (h : Two w w1 k n s k' n' s') (hb : Below w1.heap.size w1 w2) : Two w w2 k n s k' n' s' := by
  have hz := h.size
  have hz2 := hb.size
  exact ⟨h.below.trans (hb.mono (by omega)), by omega, h.fst.keep hb (by omega), h.snd.keep hb (by omega)⟩
theorem Two.drew {w w1 : World} {k n : Int} {s : ByteArray} {k' n' : Int} {s' : ByteArray} (h : Two w w1 k n s k' n' s') : Two w w1.drew k n s k' n' s' := ⟨h.below.drew, h.size, h.fst, h.snd⟩
theorem Two.mk_ {w W : World} {k n : Int} {s : ByteArray} {k' n' : Int} {s' : ByteArray} {t : TypeId}
    (hb : Below (w.heap.size + 2) ((w.alloc (.cells #[.int .i64 k, .int .i64 n, .string s] t)).alloc (.cells #[.int .i64 k', .int .i64 n', .string s'] t)) W) : Two w W k n s k' n' s' := by
  have h1 := Cells3.new w (.int .i64 k) (.int .i64 n) (.string s) t
  have h2 := Cells3.new (w.alloc (.cells #[.int .i64 k, .int .i64 n, .string s] t)) (.int .i64 k') (.int .i64 n') (.string s') t
  have hz := hb.size
  simp at hz h2
  refine ⟨(((Below.refl _ _).alloc (Nat.le_refl _) _).alloc (by simp) _).trans (hb.mono (by omega)), by omega, ?_, ?_⟩
  · exact (h1.keep (B := w.heap.size + 1) ((Below.refl _ _).alloc (by simp) _) (by omega)).keep hb (by omega)
  · exact h2.keep hb (by omega)

end Go.Proofs.YtgblnkogglagdaaDoor
