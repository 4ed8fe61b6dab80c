/-
  A new disk: empty, New. What a disk is made of.
-/
import Derived.Test.YtnmeehhjfcciiaaDkN
import Derived.Test.YtnmeehhjfcciiaaDkM
import Derived.LaidEqlPtr
namespace Go.Proofs.Ytnmeehhjfcciiaa
open Go Go.RowKit Go.Maps

/-- The cells of a disk that was made. -/
def DkAt (w : World) (d : Nat) (room next : Int) (F O D X : Nat) (chg : Value) (fused : Bool) (left : Int) : Prop :=
  w.heap[d]? = some (.cells #[.pointer (some ⟨d, 0, none⟩), .int .i64 room, .int .i64 next, .map (some F), .map (some O), .map (some D), .map (some X), chg, .bool fused, .int .i64 left] 65 (0, 0))
/-- A disk that has just been made, and nothing else. -/
structure NewDk (w w' : World) (room : Int) : Prop where
  below : Below w.heap.size w w'
  size : w'.heap.size = w.heap.size + 5
  disk : DkAt w' (w.heap.size + 4) room 0 w.heap.size (w.heap.size + 1) (w.heap.size + 2) (w.heap.size + 3) (.slice none 0 0) false 0
  files : MapAt w' Try.prog 3 w.heap.size 0 (.map [])
  olds : MapAt w' Try.prog 92 (w.heap.size + 1) 0 (.map [])
  dir : MapAt w' Try.prog 9 (w.heap.size + 2) 0 (.map [])
  fixed : MapAt w' Try.prog 9 (w.heap.size + 3) 0 (.map [])
theorem newDk_mk (w : World) (room : Int) : NewDk w (((((w.alloc (.map #[] 0)).alloc (.map #[] 0)).alloc (.map #[] 0)).alloc (.map #[] 0)).alloc (.cells #[.pointer (some ⟨w.heap.size + 1 + 1 + 1 + 1, 0, none⟩), .int .i64 room, .int .i64 0, .map (some w.heap.size), .map (some (w.heap.size + 1)), .map (some (w.heap.size + 1 + 1)), .map (some (w.heap.size + 1 + 1 + 1)), .slice none 0 0, .bool false, .int .i64 0] 65)) room := by
  have m0 : MapAt (w.alloc (.map #[] 0)) Try.prog 3 w.heap.size 0 (.map []) := MapAt.made w _ _
  have m1 : MapAt ((w.alloc (.map #[] 0)).alloc (.map #[] 0)) Try.prog 92 (w.heap.size + 1) 0 (.map []) := by simpa using MapAt.made (w.alloc (.map #[] 0)) Try.prog 92
  have m2 : MapAt (((w.alloc (.map #[] 0)).alloc (.map #[] 0)).alloc (.map #[] 0)) Try.prog 9 (w.heap.size + 2) 0 (.map []) := by simpa using MapAt.made ((w.alloc (.map #[] 0)).alloc (.map #[] 0)) Try.prog 9
  have m3 : MapAt ((((w.alloc (.map #[] 0)).alloc (.map #[] 0)).alloc (.map #[] 0)).alloc (.map #[] 0)) Try.prog 9 (w.heap.size + 3) 0 (.map []) := by simpa using MapAt.made (((w.alloc (.map #[] 0)).alloc (.map #[] 0)).alloc (.map #[] 0)) Try.prog 9
  refine ⟨?_, by simp, ?_, (((m0.alloc _).alloc _).alloc _).alloc _, ((m1.alloc _).alloc _).alloc _, (m2.alloc _).alloc _, m3.alloc _⟩
  · exact (((((Below.refl _ _).alloc (Nat.le_refl _) _).alloc (by simp) _).alloc (by simp; omega) _).alloc (by simp; omega) _).alloc (by simp; omega) _
  · have h := heap_alloc_new ((((w.alloc (.map #[] 0)).alloc (.map #[] 0)).alloc (.map #[] 0)).alloc (.map #[] 0)) (.cells #[.pointer (some ⟨w.heap.size + 1 + 1 + 1 + 1, 0, none⟩), .int .i64 room, .int .i64 0, .map (some w.heap.size), .map (some (w.heap.size + 1)), .map (some (w.heap.size + 1 + 1)), .map (some (w.heap.size + 1 + 1 + 1)), .slice none 0 0, .bool false, .int .i64 0] 65)
    have e : ((((w.alloc (.map #[] 0)).alloc (.map #[] 0)).alloc (.map #[] 0)).alloc (.map #[] 0)).heap.size = w.heap.size + 4 := by simp
    rw [e] at h
    exact h
set_option maxRecDepth 100000 in
theorem empty_any (w : World) (room : Int) : Calls Try.prog 34 #[.int .i64 room] w fun e w' => e = .returned (.pointer (some ⟨w.heap.size + 4, 0, none⟩)) ∧ NewDk w w' room := by
  have hmm := @run_makeMap Try.prog
  go_enter Try.func34, Try.ntmps34
  go_wp2_with fail
  go_ret
  exact ⟨by simp, newDk_mk w room⟩
set_option maxRecDepth 100000 in
theorem new_any (w : World) (room : Int) (h1 : 1 ≤ room) (h2 : room ≤ 1048576) : Calls Try.prog 19 #[.int .i64 room] w fun e w' => e = .returned (.tuple #[.pointer (some ⟨w.heap.size + 4, 0, none⟩), .int .i64 0]) ∧ NewDk w w' room := by
  have HE := Lib.hid (empty_any w room)
  have h1' : ¬ room < 1 := by omega
  have h2' : ¬ (1048576 : Int) < room := by omega
  go_enter Try.func19, Try.ntmps19
  go_wp2_with fail
  refine HE.out.mono ?_
  rintro e w1 ⟨rfl, hn⟩
  have HN := Lib.hid hn
  clear hn
  go_wp2_with fail
  go_ret2
  exact ⟨rfl, HN.out⟩
end Go.Proofs.Ytnmeehhjfcciiaa
