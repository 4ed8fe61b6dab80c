/-
  Contracts of cmp.Compare at three types, of value.Compare and of the document's own Compare: both give 'cmpV'.
-/
import Derived.Test.YtcfnpbmkcdmafaaCmp0
namespace Go.Proofs.Ytcfnpbmkcdmafaa
open Go Go.RowKit

theorem nanK (a : Int) (w : World) : Calls Try.prog 99 #[.int .i64 a] w fun e w' => e = .returned (.bool false) ∧ w = w' := by
  go_enter Try.func99, Try.ntmps99
  go_wp2
  go_ret
  exact ⟨by simp, rfl⟩
theorem nanI (a : Int) (w : World) : Calls Try.prog 100 #[.int .i64 a] w fun e w' => e = .returned (.bool false) ∧ w = w' := by
  go_enter Try.func100, Try.ntmps100
  go_wp2
  go_ret
  exact ⟨by simp, rfl⟩
theorem nanS (a : ByteArray) (w : World) : Calls Try.prog 101 #[.string a] w fun e w' => e = .returned (.bool false) ∧ w = w' := by
  go_enter Try.func101, Try.ntmps101
  go_wp2
  go_ret
  exact ⟨by simp, rfl⟩

set_option maxHeartbeats 400000 in
theorem cmpK_any (a b : Int) (w : World) : Calls Try.prog 96 #[.int .i64 a, .int .i64 b] w fun e w' => e = .returned (.int .i64 (cmpI a b)) ∧ w = w' := by
  go_enter Try.func96, Try.ntmps96
  go_wp2_with (go_at_call 99; refine (nanK _ _).mono ?_; rintro e w' ⟨rfl, rfl⟩)
  all_goals (go_ret; refine ⟨ret_int ?_, rfl⟩; unfold cmpI; (repeat' split) <;> omega)
set_option maxHeartbeats 400000 in
theorem cmpN_any (a b : Int) (w : World) : Calls Try.prog 97 #[.int .i64 a, .int .i64 b] w fun e w' => e = .returned (.int .i64 (cmpI a b)) ∧ w = w' := by
  go_enter Try.func97, Try.ntmps97
  go_wp2_with (go_at_call 100; refine (nanI _ _).mono ?_; rintro e w' ⟨rfl, rfl⟩)
  all_goals (go_ret; refine ⟨ret_int ?_, rfl⟩; unfold cmpI; (repeat' split) <;> omega)
set_option maxHeartbeats 400000 in
theorem cmpS_any (a b : ByteArray) (w : World) : Calls Try.prog 98 #[.string a, .string b] w fun e w' => e = .returned (.int .i64 (cmpS a b)) ∧ w = w' := by
  go_enter Try.func98, Try.ntmps98
  go_wp2_with (go_at_call 101; refine (nanS _ _).mono ?_; rintro e w' ⟨rfl, rfl⟩)
  all_goals (go_ret; refine ⟨ret_int ?_, rfl⟩)
  · exact (cmpS_lt (by assumption)).symm
  · exact (cmpS_gt (by assumption) (by assumption)).symm
  · exact (cmpS_eq (by assumption)).symm

set_option maxHeartbeats 400000 in
theorem compare_any (k n : Int) (s : ByteArray) (k' n' : Int) (s' : ByteArray) (w : World) :
    Calls Try.prog 93 #[.agg #[.int .i64 k, .int .i64 n, .string s], .agg #[.int .i64 k', .int .i64 n', .string s']] w fun e w' => e = .returned (.int .i64 (cmpV k n s k' n' s')) ∧ Below w.heap.size w w' := by
  go_enter Try.func93, Try.ntmps93
  go_wp2_with (first | (go_at_call 96; refine (cmpK_any _ _ _).mono ?_; rintro e w' ⟨rfl, rfl⟩) | (go_at_call 97; refine (cmpN_any _ _ _).mono ?_; rintro e w' ⟨rfl, rfl⟩) | (go_at_call 98; refine (cmpS_any _ _ _).mono ?_; rintro e w' ⟨rfl, rfl⟩))
  · have h : (cmpI k k' != 0) = true := by assumption
    have h1 : cmpI k k' ≠ 0 := by simpa using h
    go_ret
    exact ⟨ret_int (by unfold cmpV; rw [if_neg h1]), ((Below.refl _ _).alloc (Nat.le_refl _) _).alloc (by simp) _⟩
  · have h : (cmpI k k' != 0) = false := by assumption
    have g : (cmpI n n' != 0) = true := by assumption
    have h1 : cmpI k k' = 0 := by simpa using h
    have g1 : cmpI n n' ≠ 0 := by simpa using g
    go_ret
    exact ⟨ret_int (by unfold cmpV; rw [if_pos h1, if_neg g1]), ((Below.refl _ _).alloc (Nat.le_refl _) _).alloc (by simp) _⟩
  · have h : (cmpI k k' != 0) = false := by assumption
    have g : (cmpI n n' != 0) = false := by assumption
    have h1 : cmpI k k' = 0 := by simpa using h
    have g1 : cmpI n n' = 0 := by simpa using g
    go_ret
    exact ⟨ret_int (by unfold cmpV; rw [if_pos h1, if_pos g1]), ((Below.refl _ _).alloc (Nat.le_refl _) _).alloc (by simp) _⟩

set_option maxHeartbeats 400000 in
theorem ref_compare_any (k n : Int) (s : ByteArray) (k' n' : Int) (s' : ByteArray) (w : World) :
    Calls Try.prog 63 #[.agg #[.int .i64 k, .int .i64 n, .string s], .agg #[.int .i64 k', .int .i64 n', .string s']] w fun e w' => e = .returned (.int .i64 (cmpV k n s k' n' s')) ∧ Below w.heap.size w w' := by
  go_enter Try.func63, Try.ntmps63
  go_wp2
  all_goals
    go_ret
    refine ⟨ret_int ?_, ((Below.refl _ _).alloc (Nat.le_refl _) _).alloc (by simp) _⟩
    first
    | exact way1 (by first | assumption | rfl) (by first | assumption | rfl) (by assumption)
    | exact way2 (by first | assumption | rfl) (by first | assumption | rfl) (by assumption)
    | exact way3 (by first | assumption | rfl) (by first | assumption | rfl) (by assumption) (by assumption)
    | exact way4 (by first | assumption | rfl) (by assumption) (by assumption)
    | exact way5 (by first | assumption | rfl) (by assumption)
    | exact way6 (by assumption) (by assumption)
    | exact way7 (by assumption)

end Go.Proofs.Ytcfnpbmkcdmafaa
