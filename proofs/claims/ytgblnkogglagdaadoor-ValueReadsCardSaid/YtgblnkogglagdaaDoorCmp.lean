/-
  Contracts of cmp.Compare at three types, of value.Compare and of the document's own Compare: both give 'cmpV'.
-/
import Derived.Test.YtgblnkogglagdaaDoorRows
import Derived.Test.YtgblnkogglagdaaDoorOrd
import Derived.WalkKit
import Derived.WalkSpells
import Derived.WalkLawsBesides
import Derived.Lib.Hide
import Derived.BigQuiet
import Derived.Deep.QuietTactic
namespace Go.Proofs.YtgblnkogglagdaaDoor
open Go Go.RowKit

theorem bcell {W w1 : World} (hb : Below W.heap.size W w1) : (∀ b o, b < W.heap.size → w1.cell? ⟨b, o, none⟩ = W.cell? ⟨b, o, none⟩) ∧ (∀ b o, b < W.heap.size → w1.frozen? ⟨b, o, none⟩ = W.frozen? ⟨b, o, none⟩) :=
  ⟨fun b o h => hb.cell (p := ⟨b, o, none⟩) h, fun b o h => hb.frozen (p := ⟨b, o, none⟩) h⟩
theorem ret_int {k : IntKind} {a b : Int} (h : a = b) : Ending.returned (.int k a) = .returned (.int k b) := by rw [h]

theorem nanK (a : Int) (w : World) : Calls Tryd.prog 50 #[.int .i64 a] w fun e w' => e = .returned (.bool false) ∧ w = w' := by
  go_enter Tryd.func50, Tryd.ntmps50
  go_wp2
  go_ret
  exact ⟨by simp, rfl⟩
theorem nanI (a : Int) (w : World) : Calls Tryd.prog 51 #[.int .i64 a] w fun e w' => e = .returned (.bool false) ∧ w = w' := by
  go_enter Tryd.func51, Tryd.ntmps51
  go_wp2
  go_ret
  exact ⟨by simp, rfl⟩
theorem nanS (a : ByteArray) (w : World) : Calls Tryd.prog 52 #[.string a] w fun e w' => e = .returned (.bool false) ∧ w = w' := by
  go_enter Tryd.func52, Tryd.ntmps52
  go_wp2
  go_ret
  exact ⟨by simp, rfl⟩

set_option maxHeartbeats 400000 in
theorem cmpK_any (a b : Int) (w : World) : Calls Tryd.prog 37 #[.int .i64 a, .int .i64 b] w fun e w' => e = .returned (.int .i64 (cmpI a b)) ∧ w = w' := by
  go_enter Tryd.func37, Tryd.ntmps37
  go_wp2_with (go_at_call 50; refine (nanK _ _).mono ?_; rintro e w' ⟨rfl, rfl⟩)
  all_goals (go_ret; refine ⟨ret_int ?_, rfl⟩; unfold cmpI; (repeat' split) <;> omega)
set_option maxHeartbeats 400000 in
theorem cmpN_any (a b : Int) (w : World) : Calls Tryd.prog 38 #[.int .i64 a, .int .i64 b] w fun e w' => e = .returned (.int .i64 (cmpI a b)) ∧ w = w' := by
  go_enter Tryd.func38, Tryd.ntmps38
  go_wp2_with (go_at_call 51; refine (nanI _ _).mono ?_; rintro e w' ⟨rfl, rfl⟩)
  all_goals (go_ret; refine ⟨ret_int ?_, rfl⟩; unfold cmpI; (repeat' split) <;> omega)
set_option maxHeartbeats 400000 in
theorem cmpS_any (a b : ByteArray) (w : World) : Calls Tryd.prog 39 #[.string a, .string b] w fun e w' => e = .returned (.int .i64 (cmpS a b)) ∧ w = w' := by
  go_enter Tryd.func39, Tryd.ntmps39
  go_wp2_with (go_at_call 52; refine (nanS _ _).mono ?_; rintro e w' ⟨rfl, rfl⟩)
  all_goals (go_ret; refine ⟨ret_int ?_, rfl⟩)
  · exact (cmpS_lt (by assumption)).symm
  · exact (cmpS_gt (by assumption) (by assumption)).symm
  · exact (cmpS_eq (by assumption)).symm

set_option maxHeartbeats 400000 in
theorem compare_any (k n : Int) (s : ByteArray) (k' n' : Int) (s' : ByteArray) (w : World) :
    Calls Tryd.prog 23 #[.agg #[.int .i64 k, .int .i64 n, .string s], .agg #[.int .i64 k', .int .i64 n', .string s']] w fun e w' => e = .returned (.int .i64 (cmpV k n s k' n' s')) ∧ Below w.heap.size w w' := by
  go_enter Tryd.func23, Tryd.ntmps23
  go_wp2_with (first | (go_at_call 37; refine (cmpK_any _ _ _).mono ?_; rintro e w' ⟨rfl, rfl⟩) | (go_at_call 38; refine (cmpN_any _ _ _).mono ?_; rintro e w' ⟨rfl, rfl⟩) | (go_at_call 39; refine (cmpS_any _ _ _).mono ?_; rintro e w' ⟨rfl, rfl⟩))
  · have h : (cmpI k k' != 0) = true := by assumption
    have h1 : cmpI k k' ≠ 0 := by simpa using h
    go_ret
    exact ⟨ret_int (by unfold cmpV; rw [if_neg h1]), ((Below.refl _ _).alloc (Nat.le_refl _) _).alloc (by simp) _⟩
  · have h : (cmpI k k' != 0) = false := by assumption
    have g : (cmpI n n' != 0) = true := by assumption
    have h1 : cmpI k k' = 0 := by simpa using h
    have g1 : cmpI n n' ≠ 0 := by simpa using g
    go_ret
    exact ⟨ret_int (by unfold cmpV; rw [if_pos h1, if_neg g1]), ((Below.refl _ _).alloc (Nat.le_refl _) _).alloc (by simp) _⟩
  · have h : (cmpI k k' != 0) = false := by assumption
    have g : (cmpI n n' != 0) = false := by assumption
    have h1 : cmpI k k' = 0 := by simpa using h
    have g1 : cmpI n n' = 0 := by simpa using g
    go_ret
    exact ⟨ret_int (by unfold cmpV; rw [if_pos h1, if_pos g1]), ((Below.refl _ _).alloc (Nat.le_refl _) _).alloc (by simp) _⟩

theorem way1 {k n : Int} {s : ByteArray} {k' n' : Int} {s' : ByteArray} (h : k = k') (g : n = n') (f : s.toList = s'.toList) : (0 : Int) = cmpV k n s k' n' s' := ((cmpV_zero _ _ _ _ _ _).2 ⟨h, g, str_ext f⟩).symm
theorem way2 {k n : Int} {s : ByteArray} {k' n' : Int} {s' : ByteArray} (h : k = k') (g : n = n') (f : Op.bytesLess s.toList s'.toList = true) : (-1 : Int) = cmpV k n s k' n' s' := ((cmpV_lt _ _ _ _ _ _).2 (.inr ⟨h, .inr ⟨g, f⟩⟩)).symm
theorem way3 {k n : Int} {s : ByteArray} {k' n' : Int} {s' : ByteArray} (h : k = k') (g : n = n') (e : ¬s.toList = s'.toList) (f : Op.bytesLess s.toList s'.toList = false) : (1 : Int) = cmpV k n s k' n' s' := by
  subst h g
  unfold cmpV
  rw [cmpI_self, if_pos rfl, cmpI_self, if_pos rfl]
  exact (cmpS_gt f (by simpa using e)).symm
theorem way4 {k n : Int} {s : ByteArray} {k' n' : Int} {s' : ByteArray} (h : k = k') (e : ¬n = n') (g : n' ≤ n) : (1 : Int) = cmpV k n s k' n' s' := by
  subst h
  unfold cmpV
  rw [cmpI_self, if_pos rfl, cmpI_gt (by omega)]; rfl
theorem way5 {k n : Int} {s : ByteArray} {k' n' : Int} {s' : ByteArray} (h : k = k') (g : n < n') : (-1 : Int) = cmpV k n s k' n' s' := ((cmpV_lt _ _ _ _ _ _).2 (.inr ⟨h, .inl g⟩)).symm
theorem way6 {k n : Int} {s : ByteArray} {k' n' : Int} {s' : ByteArray} (e : ¬k = k') (g : k' ≤ k) : (1 : Int) = cmpV k n s k' n' s' := by
  unfold cmpV
  rw [cmpI_gt (by omega)]; rfl
theorem way7 {k n : Int} {s : ByteArray} {k' n' : Int} {s' : ByteArray} (h : k < k') : (-1 : Int) = cmpV k n s k' n' s' := ((cmpV_lt _ _ _ _ _ _).2 (.inl h)).symm

set_option maxHeartbeats 400000 in
theorem ref_compare_any (k n : Int) (s : ByteArray) (k' n' : Int) (s' : ByteArray) (w : World) :
    Calls Tryd.prog 24 #[.agg #[.int .i64 k, .int .i64 n, .string s], .agg #[.int .i64 k', .int .i64 n', .string s']] w fun e w' => e = .returned (.int .i64 (cmpV k n s k' n' s')) ∧ Below w.heap.size w w' := by
  go_enter Tryd.func24, Tryd.ntmps24
  go_wp2
  all_goals
    go_ret
    refine ⟨ret_int ?_, ((Below.refl _ _).alloc (Nat.le_refl _) _).alloc (by simp) _⟩
    first
    | exact way1 (by first | assumption | rfl) (by first | assumption | rfl) (by assumption)
    | exact way2 (by first | assumption | rfl) (by first | assumption | rfl) (by assumption)
    | exact way3 (by first | assumption | rfl) (by first | assumption | rfl) (by assumption) (by assumption)
    | exact way4 (by first | assumption | rfl) (by assumption) (by assumption)
    | exact way5 (by first | assumption | rfl) (by assumption)
    | exact way6 (by assumption) (by assumption)
    | exact way7 (by assumption)

end Go.Proofs.YtgblnkogglagdaaDoor
