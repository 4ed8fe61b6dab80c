/-
  maps.Clone at a directory.
-/
import Derived.Test.YtnmeehhjfcciiaaDkO
import Derived.Laws.Externs
import Derived.MapKept
namespace Go.Proofs.Ytnmeehhjfcciiaa
open Go Go.RowKit Go.Maps Go.WideMaps

/-- What an interface holds, asked for by the type that it bears. -/
theorem assert_dir (w : World) (x : TypeId) (v : Value) : (Instr.typeAssert (.iface 62 v) x 62 false).run Try.prog w = .ok v w := by
  unfold Instr.typeAssert
  simp [run_underlying Try.underlying62, go_sem, Result.andThen]
/-- The model's own copying of a map, at a map that is there. -/
theorem copy_dir (w : World) (r c : Nat) (es : Array MapEntry) (hb : w.heap[r]? = some (.map es c)) :
    (Extern.MapsClone.clone #[.iface 62 (.map (some r))]).run Try.prog w = .ok (.iface 62 (.map (some w.heap.size))) (w.alloc (.map es c)) := by
  have h := MapKept.run_getObj_map (P := Try.prog) hb
  show Sem.run Try.prog (getObj r >>= _) w = _
  rw [Sem.run_bind, h]
  rfl
set_option maxRecDepth 100000 in
set_option maxHeartbeats 2000000 in
theorem cloneD_any (w : World) (b n : Nat) (D : DataW Value) (h : MapAt w Try.prog 9 b n D) :
    Calls Try.prog 30 #[.map (some b)] w fun e w' => e = .returned (.map (some w.heap.size)) ∧ MapAt w' Try.prog 9 w.heap.size n D ∧ Grow (fun _ => False) w w' ∧ w'.heap.size = w.heap.size + 1 := by
  obtain ⟨es, clock, hb, F, hs, hD⟩ := h
  have hq := fun w => run_eql_map_nil (P := Try.prog) w 62 _ _ (some b) Try.underlying62
  have HEnd := Lib.hid (show MapAt (w.alloc (.map es clock)) Try.prog 9 w.heap.size n D from ⟨es, clock, heap_alloc_new w _, F, hs, hD⟩)
  clear F hs hD
  go_enter Try.func30, Try.ntmps30
  go_wp2_with fail
  rw [run_callFunc_extern Try.func45 (by kernel_rfl) (by kernel_rfl) (by kernel_rfl) (e := Extern.MapsClone.clone) (by kernel_rfl), copy_dir w _ _ _ hb]
  simp only [Result.andThen]
  rw [Oper.upon_value]
  go_wp2_with fail
  rw [assert_dir]
  simp only [Result.andThen]
  rw [Oper.upon_value]
  go_wp2_with fail
  go_ret
  exact ⟨rfl, HEnd.out, (Grow.refl _ w).alloc _, by simp⟩
end Go.Proofs.Ytnmeehhjfcciiaa
