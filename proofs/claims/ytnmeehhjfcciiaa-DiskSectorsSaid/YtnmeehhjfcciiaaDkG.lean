/-
  restore at a sector of which nothing is fixed: its bytes become 0.
-/
import Derived.Test.YtnmeehhjfcciiaaDkX
import Derived.Laws.CopyRow
namespace Go.Proofs.Ytnmeehhjfcciiaa
open Go Go.RowKit Go.Maps Go.WideMaps

theorem zero36 : (Builtin.zeroCells (Value.int .u8 0).cells 36).toList = List.replicate 36 (Value.int .u8 0) := by kernel_rfl
/-- A row whose last 36 of 100 bytes are 0. -/
def zeroed (cur : Array Value) : Array Value := (cur.toList.take 64 ++ List.replicate 36 (Value.int .u8 0) ++ cur.toList.drop 100).toArray
theorem run_clear_36 (w : World) (g c : Nat) (cur : Array Value) (ty : TypeId) (hb : w.heap[g]? = some (.cells cur 5 (0, 0))) (h : 100 ≤ cur.size) :
    (Builtin.clear_ #[22] ty #[.slice (some ⟨g, 64, none⟩) 36 c]).run Try.prog w = .ok (.tuple #[]) (w.setRow g (zeroed cur)) := by
  have hst := run_storeCells_at (P := Try.prog) g 64 5 (List.replicate 36 (Value.int .u8 0)) 0 cur w hb (by simp; omega) (fun v hv => by rw [List.eq_of_mem_replicate hv]; rfl)
  simp only [List.length_replicate, Nat.add_zero] at hst
  have hz := zero36
  have e : zeroed cur = (cur.toList.take 64 ++ List.replicate 36 (Value.int .u8 0) ++ cur.toList.drop (64 + 36)).toArray := rfl
  rw [e]
  clear e
  generalize List.replicate 36 (Value.int .u8 0) = Z at *
  generalize (cur.toList.take 64 ++ Z ++ cur.toList.drop (64 + 36)).toArray = R at *
  simp [Builtin.clear_, run_underlying Try.underlying22, hz, hst, Result.andThen]
theorem run_copy_nil (w : World) (ty : TypeId) (i : TypeInfo) (hi : Try.prog.info? 5 = some i) (a : Addr) (n c : Nat) :
    (Builtin.copy_ #[22, 22] ty #[.slice (some a) n c, .slice none 0 0]).run Try.prog w = .ok (.int .i64 0) w := by
  simp [Builtin.copy_, run_underlying Try.underlying22, sizeOf, typeInfo, hi, Builtin.lenOf, Builtin.firstCells]
  rfl
set_option maxRecDepth 100000 in
theorem restore_nil (w : World) (g : Nat) (cur : Array Value) (hb : w.heap[g]? = some (.cells cur 5 (0, 0))) (h : 100 ≤ cur.size) :
    Calls Try.prog 41 #[.slice (some ⟨g, 64, none⟩) 36 36, .slice none 0 0] w fun e w' => e = .returned (.tuple #[]) ∧ w' = w.setRow g (zeroed cur) := by
  obtain ⟨i0, hi, -, -, -⟩ := info_parts infoU8
  have q1 := fun ty => run_copy_nil w ty i0 hi ⟨g, 64, none⟩ 36 36
  have q2 := fun ty => run_clear_36 w g 36 cur ty hb h
  clear hb
  go_enter Try.func41, Try.ntmps41
  go_wp2_with fail
  exact bodyPost_end (results_none rfl _ _ _) rfl ⟨rfl, rfl⟩
end Go.Proofs.Ytnmeehhjfcciiaa
