/-
  Contracts of value.Check, value.Type and of the document's own Is and Type: a value may be just if 'IsV'.
-/
import Derived.Test.YtnbaemfkpfmheaaGreatDoorCmp0
namespace Go.Proofs.YtnbaemfkpfmheaaGreatDoor
open Go Go.RowKit

/-- A value may be: an int with no bytes, or a symbol of at most 256 bytes with no number. -/
def IsV (k n : Int) (s : ByteArray) : Prop := k = 1 ∧ s.toList = [] ∨ k = 2 ∧ n = 0 ∧ s.size ≤ 256

theorem isV_int {k n : Int} {s : ByteArray} (h : (k == 1) = true) (g : s.toList.isEmpty = true) : IsV k n s := .inl ⟨by simpa using h, by simpa using g⟩
theorem isV_sym {k n : Int} {s : ByteArray} (h : (k == 2) = true) (e : n = 0) (g : (s.size : Int) ≤ 256) : IsV k n s := .inr ⟨by simpa using h, e, by omega⟩
theorem big_of {k n : Int} {s : ByteArray} (h : ¬ IsV k n s) (e : k = 2) (g : n = 0) : (256 : Int) < s.size := Int.not_le.1 fun hle => h (.inr ⟨e, g, by omega⟩)
theorem below_box (w : World) (o : Obj) : Below w.heap.size w (w.alloc o) := (Below.refl _ _).alloc (Nat.le_refl _) _
theorem below_then {w w1 : World} {o : Obj} (hb : Below (w.alloc o).heap.size (w.alloc o) w1) : Below w.heap.size w w1 := (below_box w o).trans (hb.mono (by simp))
theorem below_box2 (w : World) (o o' : Obj) : Below w.heap.size w ((w.alloc o).alloc o') := ((Below.refl _ _).alloc (Nat.le_refl _) _).alloc (by simp) _

set_option maxHeartbeats 400000 in
theorem check_yes (k n : Int) (s : ByteArray) (w : World) (h : IsV k n s) :
    Calls Tryz.prog 128 #[.agg #[.int .i64 k, .int .i64 n, .string s]] w fun e w' => e = .returned (.int .i64 0) ∧ Below w.heap.size w w' := by
  rcases h with ⟨rfl, h⟩ | ⟨rfl, rfl, h⟩
  · go_enter Tryz.func128, Tryz.ntmps128
    go_wp2
    go_ret
    exact ⟨rfl, below_box _ _⟩
  · go_enter Tryz.func128, Tryz.ntmps128
    go_wp2
    go_ret
    exact ⟨rfl, below_box _ _⟩
set_option maxHeartbeats 400000 in
theorem check_no (k n : Int) (s : ByteArray) (w : World) (h : ¬ IsV k n s) :
    Calls Tryz.prog 128 #[.agg #[.int .i64 k, .int .i64 n, .string s]] w fun e w' => e = .returned (.int .i64 10) ∧ Below w.heap.size w w' := by
  go_enter Tryz.func128, Tryz.ntmps128
  go_wp2
  all_goals first
    | exact absurd (isV_int (by assumption) (by assumption)) h
    | exact absurd (isV_sym (by assumption) (by assumption) (by assumption)) h
    | (go_ret; exact ⟨rfl, below_box _ _⟩)
set_option maxHeartbeats 400000 in
theorem is_yes (k n : Int) (s : ByteArray) (w : World) (h : IsV k n s) :
    Calls Tryz.prog 123 #[.agg #[.int .i64 k, .int .i64 n, .string s]] w fun e w' => e = .returned (.bool true) ∧ Below w.heap.size w w' := by
  rcases h with ⟨rfl, h⟩ | ⟨rfl, rfl, h⟩
  · go_enter Tryz.func123, Tryz.ntmps123
    go_wp2
    go_ret
    exact ⟨by simp, below_box _ _⟩
  · have h' : (s.size : Int) ≤ 256 := by omega
    go_enter Tryz.func123, Tryz.ntmps123
    go_wp2
    go_ret
    exact ⟨by simp, below_box _ _⟩
set_option maxHeartbeats 400000 in
theorem is_no (k n : Int) (s : ByteArray) (w : World) (h : ¬ IsV k n s) :
    Calls Tryz.prog 123 #[.agg #[.int .i64 k, .int .i64 n, .string s]] w fun e w' => e = .returned (.bool false) ∧ Below w.heap.size w w' := by
  go_enter Tryz.func123, Tryz.ntmps123
  go_wp2
  all_goals first
    | exact absurd (.inl ⟨by assumption, by assumption⟩) h
    | (have hb := big_of h (by assumption) (by assumption); go_ret; exact ⟨by simp [hb], below_box _ _⟩)
    | (go_ret; exact ⟨by simp [*], below_box _ _⟩)
    | (go_ret; exact ⟨by simp, below_box _ _⟩)

end Go.Proofs.YtnbaemfkpfmheaaGreatDoor
