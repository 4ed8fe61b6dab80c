/-
  Keys of sectors; cut and slices.Clone at no bytes.
-/
import Derived.Test.YtnmeehhjfcciiaaDkU
import Derived.DeepKeys4
namespace Go.Proofs.Ytnmeehhjfcciiaa
open Go Go.RowKit Go.Maps Go.WideMaps

def spotK (f i : Int) : Lit := .string (keyBytes [.int .i64 f, .int .i64 i])
theorem spotRow : (92 : TypeId) < Try.prog.types.size := of_decide_eq_true (by kernel_rfl)
theorem spotWide : (match Try.prog.underlying 92 with | some (.array _ _) | some (.struct _) => true | _ => false) = true := by rw [Try.underlying92]
theorem laidOutK : laidOutB Try.prog = true := by kernel_rfl
set_option maxRecDepth 100000 in
theorem keySp : Keyed Try.prog 92 := Keyed.of_law (deep_law_laid laidOutK (m := 2) (by omega) spotRow (by kernel_rfl) spotWide)
theorem zeroB (w : World) : (zeroValue 22).run Try.prog w = .ok (.slice none 0 0) w := by kernel_rfl
theorem keyOf_spot0 : keyOf Try.prog 92 (.agg #[.int .i64 0, .int .i64 0]) = some (spotK 0 0) := by kernel_rfl
theorem keyOf_spot1 : keyOf Try.prog 92 (.agg #[.int .i64 0, .int .i64 1]) = some (spotK 0 1) := by kernel_rfl
theorem spot_apart : (spotK 0 0).sameKey (spotK 0 1) = false := by kernel_rfl
set_option maxRecDepth 100000 in
theorem cut_nil (w : World) (i : Nat) (h : i ≤ 100000) : Says 42 #[.slice none 0 0, .int .i64 (i : Int)] w (.slice none 0 0) := by
  have h' : (i : Int) ≤ 100000 := by omega
  have h0 : (0 : Int) ≤ (i : Int) := by omega
  have h1 : ¬ (i : Int) * 64 < 0 := by omega
  go_enter Try.func42, Try.ntmps42
  go_wp2_with fail
  all_goals (go_ret; exact ⟨rfl, rfl⟩)
set_option maxRecDepth 100000 in
theorem cloneB_nil (w : World) : Says 38 #[.slice none 0 0] w (.slice none 0 0) := by
  have q := fun W : World => Lib.run_eql_slice_nil W 22 5 none 0 0 0 0 Try.underlying22
  go_enter Try.func38, Try.ntmps38
  go_wp2_with fail
  go_ret
  exact ⟨rfl, rfl⟩
end Go.Proofs.Ytnmeehhjfcciiaa
