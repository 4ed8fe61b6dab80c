/-
  Contracts of value.Type and of the document's own Type.
-/
import Derived.Test.YtbpkkcljeelfcaaDoorVal
namespace Go.Proofs.YtbpkkcljeelfcaaDoor
open Go Go.RowKit

set_option maxHeartbeats 400000 in
theorem type_yes (k n : Int) (s : ByteArray) (w : World) (h : IsV k n s) :
    Calls Tryd.prog 25 #[.agg #[.int .i64 k, .int .i64 n, .string s]] w fun e w' => e = .returned (.tuple #[.int .i64 k, .int .i64 0]) ∧ Below w.heap.size w w' := by
  have h' := h
  rcases h' with ⟨rfl, _⟩ | ⟨rfl, rfl, _⟩
  all_goals
    go_enter Tryd.func25, Tryd.ntmps25
    go_wp2_with (go_at_call 23; refine (check_yes _ _ _ _ h).mono ?_; rintro e w1 ⟨rfl, hb⟩; obtain ⟨hc, hf⟩ := bcell hb; have hz : w.heap.size < w1.heap.size := by have := hb.size; simp at this; omega)
    go_ret2
    exact ⟨rfl, below_then hb⟩
set_option maxHeartbeats 400000 in
theorem type_no (k n : Int) (s : ByteArray) (w : World) (h : ¬ IsV k n s) :
    Calls Tryd.prog 25 #[.agg #[.int .i64 k, .int .i64 n, .string s]] w fun e w' => e = .returned (.tuple #[.int .i64 0, .int .i64 10]) ∧ Below w.heap.size w w' := by
  go_enter Tryd.func25, Tryd.ntmps25
  go_wp2_with (go_at_call 23; refine (check_no _ _ _ _ h).mono ?_; rintro e w1 ⟨rfl, hb⟩; obtain ⟨hc, hf⟩ := bcell hb; have hz : w.heap.size < w1.heap.size := by have := hb.size; simp at this; omega)
  go_ret2
  exact ⟨rfl, below_then hb⟩
set_option maxHeartbeats 400000 in
theorem rtype_yes (k n : Int) (s : ByteArray) (w : World) (h : IsV k n s) :
    Calls Tryd.prog 26 #[.agg #[.int .i64 k, .int .i64 n, .string s]] w fun e w' => e = .returned (.tuple #[.int .i64 k, .int .i64 0]) ∧ Below w.heap.size w w' := by
  have h' := h
  rcases h' with ⟨rfl, _⟩ | ⟨rfl, rfl, _⟩
  all_goals
    go_enter Tryd.func26, Tryd.ntmps26
    go_wp2_with (go_at_call 24; refine (is_yes _ _ _ _ h).mono ?_; rintro e w1 ⟨rfl, hb⟩; obtain ⟨hc, hf⟩ := bcell hb; have hz : w.heap.size < w1.heap.size := by have := hb.size; simp at this; omega)
    go_ret2
    exact ⟨rfl, below_then hb⟩
set_option maxHeartbeats 400000 in
theorem rtype_no (k n : Int) (s : ByteArray) (w : World) (h : ¬ IsV k n s) :
    Calls Tryd.prog 26 #[.agg #[.int .i64 k, .int .i64 n, .string s]] w fun e w' => e = .returned (.tuple #[.int .i64 0, .int .i64 10]) ∧ Below w.heap.size w w' := by
  go_enter Tryd.func26, Tryd.ntmps26
  go_wp2_with (go_at_call 24; refine (is_no _ _ _ _ h).mono ?_; rintro e w1 ⟨rfl, hb⟩; obtain ⟨hc, hf⟩ := bcell hb; have hz : w.heap.size < w1.heap.size := by have := hb.size; simp at this; omega)
  go_ret2
  exact ⟨rfl, below_then hb⟩

end Go.Proofs.YtbpkkcljeelfcaaDoor
