/-
  What the cut of three arguments leaves: their boxes, cut.
-/
import Derived.Test.YtehobjcdlaifdaaDoorCut
namespace Go.Proofs.YtehobjcdlaifdaaDoor
open Go Go.RowKit

/-- What the cut of three arguments leaves: their boxes, cut. -/
structure Three (w wx : World) (k n : Int) (s : ByteArray) (k' n' : Int) (s' : ByteArray) (l m : Int) (t : ByteArray) : Prop where
  below : Below w.heap.size w wx
  size : w.heap.size + 2 < wx.heap.size
  fst : Cells3 wx w.heap.size (.int .i64 k) (.int .i64 n) (.string s)
  snd : Cells3 wx (w.heap.size + 1) (.int .i64 k') (.int .i64 n') (.string s')
  thd : Cells3 wx (w.heap.size + 2) (.int .i64 l) (.int .i64 m) (.string t)
theorem Three.on {w w1 w2 : World} {k n : Int} {s : ByteArray} {k' n' : Int} {s' : ByteArray} {l m : Int} {t : ByteArray} (h : Three w w1 k n s k' n' s' l m t) (hb : Below w1.heap.size w1 w2) : Three w w2 k n s k' n' s' l m t := by
  have hz := h.size
  have hz2 := hb.size
  exact ⟨h.below.trans (hb.mono (by omega)), by omega, h.fst.keep hb (by omega), h.snd.keep hb (by omega), h.thd.keep hb (by omega)⟩
theorem Three.drew {w w1 : World} {k n : Int} {s : ByteArray} {k' n' : Int} {s' : ByteArray} {l m : Int} {t : ByteArray} (h : Three w w1 k n s k' n' s' l m t) : Three w w1.drew k n s k' n' s' l m t := ⟨h.below.drew, h.size, h.fst, h.snd, h.thd⟩
theorem Three.on' {w w1 w2 : World} {k n : Int} {s : ByteArray} {k' n' : Int} {s' : ByteArray} {l m : Int} {t : ByteArray} (h : Three w w1 k n s k' n' s' l m t) (hb : Below w1.drew.heap.size w1.drew w2) : Three w w2 k n s k' n' s' l m t := h.drew.on hb
theorem Three.mk_ {w W : World} {k n : Int} {s : ByteArray} {k' n' : Int} {s' : ByteArray} {l m : Int} {t : ByteArray} {T : TypeId}
    (hb : Below (w.heap.size + 3) (((w.alloc (.cells #[.int .i64 k, .int .i64 n, .string s] T)).alloc (.cells #[.int .i64 k', .int .i64 n', .string s'] T)).alloc (.cells #[.int .i64 l, .int .i64 m, .string t] T)) W) : Three w W k n s k' n' s' l m t := by
  have h1 := Cells3.new w (.int .i64 k) (.int .i64 n) (.string s) T
  have h2 := Cells3.new (w.alloc (.cells #[.int .i64 k, .int .i64 n, .string s] T)) (.int .i64 k') (.int .i64 n') (.string s') T
  have h3 := Cells3.new ((w.alloc (.cells #[.int .i64 k, .int .i64 n, .string s] T)).alloc (.cells #[.int .i64 k', .int .i64 n', .string s'] T)) (.int .i64 l) (.int .i64 m) (.string t) T
  have hz := hb.size
  simp at hz h2 h3
  refine ⟨((((Below.refl _ _).alloc (Nat.le_refl _) _).alloc (by simp) _).alloc (by simp; omega) _).trans (hb.mono (by omega)), by omega, ?_, ?_, ?_⟩
  · exact ((h1.keep (B := w.heap.size + 1) ((Below.refl _ _).alloc (by simp) _) (by omega)).keep (B := w.heap.size + 1) ((Below.refl _ _).alloc (by simp) _) (by omega)).keep hb (by omega)
  · exact (h2.keep (B := w.heap.size + 2) ((Below.refl _ _).alloc (by simp) _) (by omega)).keep hb (by omega)
  · exact h3.keep hb (by omega)

end Go.Proofs.YtehobjcdlaifdaaDoor
