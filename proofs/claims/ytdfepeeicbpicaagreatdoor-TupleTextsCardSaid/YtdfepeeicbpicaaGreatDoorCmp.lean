/-
  Contracts of cmp.Compare at three types, of value.Compare and of the document's own Compare: both give 'cmpV'.
-/
import Derived.Test.YtdfepeeicbpicaaGreatDoorCmp0
namespace Go.Proofs.YtdfepeeicbpicaaGreatDoor
open Go Go.RowKit

theorem nanK (a : Int) (w : World) : Calls Tryz.prog 107 #[.int .i64 a] w fun e w' => e = .returned (.bool false) ∧ w = w' := by
  go_enter Tryz.func107, Tryz.ntmps107
  go_wp2
  go_ret
  exact ⟨by simp, rfl⟩
theorem nanI (a : Int) (w : World) : Calls Tryz.prog 108 #[.int .i64 a] w fun e w' => e = .returned (.bool false) ∧ w = w' := by
  go_enter Tryz.func108, Tryz.ntmps108
  go_wp2
  go_ret
  exact ⟨by simp, rfl⟩
theorem nanS (a : ByteArray) (w : World) : Calls Tryz.prog 109 #[.string a] w fun e w' => e = .returned (.bool false) ∧ w = w' := by
  go_enter Tryz.func109, Tryz.ntmps109
  go_wp2
  go_ret
  exact ⟨by simp, rfl⟩

set_option maxHeartbeats 400000 in
theorem cmpK_any (a b : Int) (w : World) : Calls Tryz.prog 87 #[.int .i64 a, .int .i64 b] w fun e w' => e = .returned (.int .i64 (cmpI a b)) ∧ w = w' := by
  go_enter Tryz.func87, Tryz.ntmps87
  go_wp2_with (go_at_call 107; refine (nanK _ _).mono ?_; rintro e w' ⟨rfl, rfl⟩)
  all_goals (go_ret; refine ⟨ret_int ?_, rfl⟩; unfold cmpI; (repeat' split) <;> omega)
set_option maxHeartbeats 400000 in
theorem cmpN_any (a b : Int) (w : World) : Calls Tryz.prog 88 #[.int .i64 a, .int .i64 b] w fun e w' => e = .returned (.int .i64 (cmpI a b)) ∧ w = w' := by
  go_enter Tryz.func88, Tryz.ntmps88
  go_wp2_with (go_at_call 108; refine (nanI _ _).mono ?_; rintro e w' ⟨rfl, rfl⟩)
  all_goals (go_ret; refine ⟨ret_int ?_, rfl⟩; unfold cmpI; (repeat' split) <;> omega)
set_option maxHeartbeats 400000 in
theorem cmpS_any (a b : ByteArray) (w : World) : Calls Tryz.prog 89 #[.string a, .string b] w fun e w' => e = .returned (.int .i64 (cmpS a b)) ∧ w = w' := by
  go_enter Tryz.func89, Tryz.ntmps89
  go_wp2_with (go_at_call 109; refine (nanS _ _).mono ?_; rintro e w' ⟨rfl, rfl⟩)
  all_goals (go_ret; refine ⟨ret_int ?_, rfl⟩)
  · exact (cmpS_lt (by assumption)).symm
  · exact (cmpS_gt (by assumption) (by assumption)).symm
  · exact (cmpS_eq (by assumption)).symm

set_option maxHeartbeats 400000 in
theorem compare_any (k n : Int) (s : ByteArray) (k' n' : Int) (s' : ByteArray) (w : World) :
    Calls Tryz.prog 73 #[.agg #[.int .i64 k, .int .i64 n, .string s], .agg #[.int .i64 k', .int .i64 n', .string s']] w fun e w' => e = .returned (.int .i64 (cmpV k n s k' n' s')) ∧ Below w.heap.size w w' := by
  go_enter Tryz.func73, Tryz.ntmps73
  go_wp2_with (first | (go_at_call 87; refine (cmpK_any _ _ _).mono ?_; rintro e w' ⟨rfl, rfl⟩) | (go_at_call 88; refine (cmpN_any _ _ _).mono ?_; rintro e w' ⟨rfl, rfl⟩) | (go_at_call 89; refine (cmpS_any _ _ _).mono ?_; rintro e w' ⟨rfl, rfl⟩))
  · have h : (cmpI k k' != 0) = true := by assumption
    have h1 : cmpI k k' ≠ 0 := by simpa using h
    go_ret
    exact ⟨ret_int (by unfold cmpV; rw [if_neg h1]), ((Below.refl _ _).alloc (Nat.le_refl _) _).alloc (by simp) _⟩
  · have h : (cmpI k k' != 0) = false := by assumption
    have g : (cmpI n n' != 0) = true := by assumption
    have h1 : cmpI k k' = 0 := by simpa using h
    have g1 : cmpI n n' ≠ 0 := by simpa using g
    go_ret
    exact ⟨ret_int (by unfold cmpV; rw [if_pos h1, if_neg g1]), ((Below.refl _ _).alloc (Nat.le_refl _) _).alloc (by simp) _⟩
  · have h : (cmpI k k' != 0) = false := by assumption
    have g : (cmpI n n' != 0) = false := by assumption
    have h1 : cmpI k k' = 0 := by simpa using h
    have g1 : cmpI n n' = 0 := by simpa using g
    go_ret
    exact ⟨ret_int (by unfold cmpV; rw [if_pos h1, if_pos g1]), ((Below.refl _ _).alloc (Nat.le_refl _) _).alloc (by simp) _⟩

set_option maxHeartbeats 400000 in
theorem ref_compare_any (k n : Int) (s : ByteArray) (k' n' : Int) (s' : ByteArray) (w : World) :
    Calls Tryz.prog 41 #[.agg #[.int .i64 k, .int .i64 n, .string s], .agg #[.int .i64 k', .int .i64 n', .string s']] w fun e w' => e = .returned (.int .i64 (cmpV k n s k' n' s')) ∧ Below w.heap.size w w' := by
  go_enter Tryz.func41, Tryz.ntmps41
  go_wp2
  all_goals
    go_ret
    refine ⟨ret_int ?_, ((Below.refl _ _).alloc (Nat.le_refl _) _).alloc (by simp) _⟩
    first
    | exact way1 (by first | assumption | rfl) (by first | assumption | rfl) (by assumption)
    | exact way2 (by first | assumption | rfl) (by first | assumption | rfl) (by assumption)
    | exact way3 (by first | assumption | rfl) (by first | assumption | rfl) (by assumption) (by assumption)
    | exact way4 (by first | assumption | rfl) (by assumption) (by assumption)
    | exact way5 (by first | assumption | rfl) (by assumption)
    | exact way6 (by assumption) (by assumption)
    | exact way7 (by assumption)

end Go.Proofs.YtdfepeeicbpicaaGreatDoor
