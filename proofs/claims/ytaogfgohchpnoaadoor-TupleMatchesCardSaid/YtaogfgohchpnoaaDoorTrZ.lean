/-
  tuple.listOf at a row of no tuple, nil or not; rising and Sorted at any row, with empty tuples too.
-/
import Derived.Test.YtaogfgohchpnoaaDoorTrV
namespace Go.Proofs.YtaogfgohchpnoaaDoor
open Go Go.RowKit

/-- What a slice function leaves of a row of none. -/
def NoneEnd (w : World) (e : Ending) (w' : World) : Prop := ∃ a c, e = .returned (.slice a 0 c) ∧ Below w.heap.size w w'
set_option maxHeartbeats 1000000 in
set_option maxRecDepth 100000 in
theorem clone_none (a : Option Addr) (c : Nat) (w : World) : Calls Tryd.prog 63 #[.slice a 0 c] w (NoneEnd w) := by
  have hnil : ∀ W : World, (binOp .eql 22 (.slice a 0 c) (.slice none 0 0)).run Tryd.prog W = .ok (.bool a.isNone) W := fun W => by
    cases a with
    | none => exact Lib.run_eql_slice_nil (P := Tryd.prog) W 22 33 none 0 c 0 0 Tryd.underlying22
    | some p => exact Lib.run_eql_slice_nil (P := Tryd.prog) W 22 33 (some p) 0 c 0 0 Tryd.underlying22
  go_enter Tryd.func63, Tryd.ntmps63
  cases a with
  | none =>
    go_wp2_with fail
    go_ret
    exact ⟨_, _, rfl, Below.refl _ _⟩
  | some p =>
    go_wp2_with fail
    go_ret
    exact ⟨_, _, rfl, below_new _ _⟩
set_option maxHeartbeats 1000000 in
set_option maxRecDepth 100000 in
theorem len64_zero (w : World) : Calls Tryd.prog 98 #[.int .u64 0] w fun e w' => e = .returned (.int .i64 0) ∧ w' = w := by
  have hl : Lib.len8 0 = 0 := by kernel_rfl
  go_enter Tryd.func98, Tryd.ntmps98
  go_wp2_with fail
  go_ret
  exact ⟨rfl, rfl⟩
set_option maxHeartbeats 1000000 in
set_option maxRecDepth 100000 in
theorem len_zero (w : World) : Calls Tryd.prog 82 #[.int .u64 0] w fun e w' => e = .returned (.int .i64 0) ∧ w' = w := by
  go_enter Tryd.func82, Tryd.ntmps82
  go_wp2_with (go_at_call 98; refine (len64_zero _).mono ?_; rintro e w' ⟨rfl, rfl⟩)
  go_ret
  exact ⟨rfl, rfl⟩
set_option maxHeartbeats 1000000 in
set_option maxRecDepth 100000 in
theorem insertion_none (a : Option Addr) (c : Nat) (f : Value) (w : World) : Calls Tryd.prog 89 #[.slice a 0 c, .int .i64 0, .int .i64 0, f] w fun e w' => e = .returned (.tuple #[]) ∧ w' = w := by
  go_enter Tryd.func89, Tryd.ntmps89
  go_wp2_with fail
  refine wp_loop_rounds 1 ?_
  rw [rounds_succ]
  go_wp2_with fail
  first | go_end0 | refine bodyPost_ret (results_none rfl _ _ _) rfl ?_
  exact ⟨rfl, rfl⟩
set_option maxHeartbeats 1000000 in
set_option maxRecDepth 100000 in
theorem pdq_none (a : Option Addr) (c : Nat) (f : Value) (w : World) : Calls Tryd.prog 81 #[.slice a 0 c, .int .i64 0, .int .i64 0, .int .i64 0, f] w fun e w' => e = .returned (.tuple #[]) ∧ w' = w := by
  go_enter Tryd.func81, Tryd.ntmps81
  go_wp2_with fail
  refine wp_loop_rounds 1 ?_
  rw [rounds_succ]
  go_wp2_with (go_at_call 89; refine (insertion_none _ _ _ _).mono ?_; rintro e w' ⟨rfl, rfl⟩)
  first | go_end0 | refine bodyPost_ret (results_none rfl _ _ _) rfl ?_
  exact ⟨rfl, rfl⟩
set_option maxHeartbeats 1000000 in
set_option maxRecDepth 100000 in
theorem sort_none (a : Option Addr) (c : Nat) (f : Value) (w : World) : Calls Tryd.prog 64 #[.slice a 0 c, f] w fun e w' => e = .returned (.tuple #[]) ∧ w' = w := by
  go_enter Tryd.func64, Tryd.ntmps64
  go_wp2_with (first | (go_at_call 82; refine (len_zero _).mono ?_; rintro e w' ⟨rfl, rfl⟩) | (go_at_call 81; refine (pdq_none _ _ _ _).mono ?_; rintro e w' ⟨rfl, rfl⟩))
  first | go_end0 | refine bodyPost_ret (results_none rfl _ _ _) rfl ?_
  exact ⟨rfl, rfl⟩
set_option maxHeartbeats 1000000 in
set_option maxRecDepth 100000 in
theorem compact_none (a : Option Addr) (c : Nat) (f : Value) (w : World) : Calls Tryd.prog 65 #[.slice a 0 c, f] w fun e w' => e = .returned (.slice a 0 c) ∧ w' = w := by
  go_enter Tryd.func65, Tryd.ntmps65
  go_wp2_with fail
  go_ret
  exact ⟨rfl, rfl⟩
set_option maxHeartbeats 1000000 in
set_option maxRecDepth 100000 in
theorem listOf_none (a : Option Addr) (c : Nat) (w : World) :
    Calls Tryd.prog 49 #[.func (.func 48) #[] #[], .slice a 0 c] w fun e w' => ∃ a c, e = .returned (.agg #[.func (.func 48) #[] #[], .slice a 0 c]) ∧ Below w.heap.size w w' := by
  go_enter Tryd.func49, Tryd.ntmps49
  go_wp2_with fail
  have hg0 : Below w.heap.size w ((w.alloc (.cells #[.func (.func 48) #[] #[]] 56)).alloc (.cells #[.nilFunc, .slice none 0 0] 58)) := (below_new _ _).alloc (by simp) _
  refine (clone_none a c _).mono ?_
  rintro e w1 ⟨a1, cap, rfl, hb1⟩
  have hB1 : Below w.heap.size w w1 := hg0.trans (hb1.mono (by simp; omega))
  have c1 : w1.cell? ⟨w.heap.size, 0, none⟩ = some (.func (.func 48) #[] #[]) := (hb1.cell (p := ⟨w.heap.size, 0, none⟩) (by simp; omega)).trans (by simp)
  have d1 : w1.cell? ⟨w.heap.size + 1, 0, none⟩ = some .nilFunc := (hb1.cell (p := ⟨w.heap.size + 1, 0, none⟩) (by simp)).trans (by simp)
  have d2 : w1.cell? ⟨w.heap.size + 1, 1, none⟩ = some (.slice none 0 0) := (hb1.cell (p := ⟨w.heap.size + 1, 1, none⟩) (by simp)).trans (by simp)
  have f1 : w1.frozen? ⟨w.heap.size + 1, 0, none⟩ = false := (hb1.frozen (p := ⟨w.heap.size + 1, 0, none⟩) (by simp)).trans (by simp)
  have f2 : w1.frozen? ⟨w.heap.size + 1, 1, none⟩ = false := (hb1.frozen (p := ⟨w.heap.size + 1, 1, none⟩) (by simp)).trans (by simp)
  have HB := Lib.hid hB1
  clear hb1 hg0 hB1
  go_wp2_with (first | (go_at_call 64; refine (sort_none _ _ _ _).mono ?_; rintro e w' ⟨rfl, rfl⟩) | (go_at_call 65; refine (compact_none _ _ _ _).mono ?_; rintro e w' ⟨rfl, rfl⟩))
  refine bodyPost_ret (v := .agg #[.func (.func 48) #[] #[], .slice a1 0 cap]) (by simp [results, Tryd.results49, go_sem, d1, d2]) rfl ?_
  exact ⟨a1, cap, rfl, (HB.out.setCell (by simp) _).setCell (by simp) _⟩
end Go.Proofs.YtaogfgohchpnoaaDoor
