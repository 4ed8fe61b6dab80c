/-
  Keys of sectors; cut and slices.Clone at no bytes.
-/
import Derived.Test.YtpigcjbhjehciaaGreatDkU
import Derived.DeepKeys4
namespace Go.Proofs.YtpigcjbhjehciaaGreat
open Go Go.RowKit Go.Maps Go.WideMaps

def spotK (f i : Int) : Lit := .string (keyBytes [.int .i64 f, .int .i64 i])
theorem spotRow : (105 : TypeId) < Tryz.prog.types.size := of_decide_eq_true (by kernel_rfl)
theorem spotWide : (match Tryz.prog.underlying 105 with | some (.array _ _) | some (.struct _) => true | _ => false) = true := by rw [Tryz.underlying105]
theorem laidOutK : laidOutB Tryz.prog = true := by kernel_rfl
set_option maxRecDepth 100000 in
theorem keySp : Keyed Tryz.prog 105 := Keyed.of_law (deep_law_laid laidOutK (m := 2) (by omega) spotRow (by kernel_rfl) spotWide)
theorem zeroB (w : World) : (zeroValue 31).run Tryz.prog w = .ok (.slice none 0 0) w := by kernel_rfl
theorem keyOf_spot0 : keyOf Tryz.prog 105 (.agg #[.int .i64 0, .int .i64 0]) = some (spotK 0 0) := by kernel_rfl
theorem keyOf_spot1 : keyOf Tryz.prog 105 (.agg #[.int .i64 0, .int .i64 1]) = some (spotK 0 1) := by kernel_rfl
theorem spot_apart : (spotK 0 0).sameKey (spotK 0 1) = false := by kernel_rfl
set_option maxRecDepth 100000 in
theorem cut_nil (w : World) (i : Nat) (h : i ≤ 100000) : Says 54 #[.slice none 0 0, .int .i64 (i : Int)] w (.slice none 0 0) := by
  have h' : (i : Int) ≤ 100000 := by omega
  have h0 : (0 : Int) ≤ (i : Int) := by omega
  have h1 : ¬ (i : Int) * 64 < 0 := by omega
  go_enter Tryz.func54, Tryz.ntmps54
  go_wp2_with fail
  all_goals (go_ret; exact ⟨rfl, rfl⟩)
set_option maxRecDepth 100000 in
theorem cloneB_nil (w : World) : Says 45 #[.slice none 0 0] w (.slice none 0 0) := by
  have q := fun W : World => Lib.run_eql_slice_nil W 31 5 none 0 0 0 0 Tryz.underlying31
  go_enter Tryz.func45, Tryz.ntmps45
  go_wp2_with fail
  go_ret
  exact ⟨rfl, rfl⟩
end Go.Proofs.YtpigcjbhjehciaaGreat
