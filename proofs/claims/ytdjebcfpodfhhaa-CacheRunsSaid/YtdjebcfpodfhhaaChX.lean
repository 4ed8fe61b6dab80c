/-
  key, page of the laws.
-/
import Derived.Test.YtdjebcfpodfhhaaChK
import Derived.Test.YtdjebcfpodfhhaaChS
namespace Go.Proofs.Ytdjebcfpodfhhaa
open Go Go.RowKit Go.Maps Go.WideMaps

abbrev nmA : ByteArray := ⟨#[97]⟩
/-- The page of one entry. -/
def pgE (n : Int) : List (List V3 × Int) := [([⟨1, n, ⟨#[]⟩⟩], 1)]
set_option maxRecDepth 100000 in
theorem key_any (n : Int) (w : World) : Calls Try.prog 22 #[.int .i64 n] w fun e w' => e = .returned (.agg #[.string nmA, .int .i64 n]) ∧ Below w.heap.size w w' := by
  go_enter Try.func22, Try.ntmps22
  go_wp2_with fail
  exact bodyPost_ret (v := .agg #[.string nmA, .int .i64 n]) (by simp [results, Try.results22, go_sem]) rfl ⟨rfl, (Below.refl _ _).alloc (Nat.le_refl _) _⟩
set_option maxRecDepth 100000 in
theorem page_any (n : Int) (w : World) : Calls Try.prog 23 #[.int .i64 n] w fun e w' => ∃ v, e = .returned v ∧ EntS (fun k => w.heap.size ≤ k) w' v (pgE n) ∧ Below w.heap.size w w' := by
  go_enter Try.func23, Try.ntmps23
  go_wp2_with fail
  go_ret
  refine ⟨_, rfl, ?_, ((Below.refl _ _).alloc (Nat.le_refl _) _).alloc (by simp) _⟩
  have h1 : ((w.alloc (.cells #[.int .i64 1, .int .i64 n, .string ⟨#[]⟩] 87)).alloc (.cells #[.slice (some ⟨w.heap.size, 0, none⟩) 1 1, .int .i64 1] 76)).heap[w.heap.size]? = some (.cells #[.int .i64 1, .int .i64 n, .string ⟨#[]⟩] 87 (0, 0)) :=
    (Below.heap_alloc _ _ _ (by simp)).trans (heap_alloc_new w _)
  have h2 : ((w.alloc (.cells #[.int .i64 1, .int .i64 n, .string ⟨#[]⟩] 87)).alloc (.cells #[.slice (some ⟨w.heap.size, 0, none⟩) 1 1, .int .i64 1] 76)).heap[w.heap.size + 1]? = some (.cells #[.slice (some ⟨w.heap.size, 0, none⟩) 1 1, .int .i64 1] 76 (0, 0)) := by
    simpa using heap_alloc_new (w.alloc (.cells #[.int .i64 1, .int .i64 n, .string ⟨#[]⟩] 87)) (.cells #[.slice (some ⟨w.heap.size, 0, none⟩) 1 1, .int .i64 1] 76)
  refine ⟨_, 1, [(.slice (some ⟨w.heap.size, 0, none⟩) 1 1, ([⟨1, n, ⟨#[]⟩⟩], 1))], rfl, rfl, by simp, fun q hq => ?_, .inr ⟨w.heap.size + 1, 0, rfl, by omega, fun j q hj => ?_⟩⟩
  · obtain rfl := List.mem_singleton.1 hq
    refine ⟨_, 1, rfl, by simp, .inr ⟨w.heap.size, 0, rfl, Nat.le_refl _, fun j hj => ?_⟩⟩
    obtain rfl : j = 0 := by simpa using hj
    refine ⟨?_, ?_, ?_⟩ <;> exact (cell_of_row _ _ _ _ _ (0, 0) h1).trans (by simp)
  · obtain rfl : j = 0 := by
      have := (List.getElem?_eq_some_iff.1 hj).1
      simpa using this
    simp at hj
    subst hj
    refine ⟨?_, ?_⟩ <;> exact (cell_of_row _ _ _ _ _ (0, 0) h2).trans (by simp)
end Go.Proofs.Ytdjebcfpodfhhaa
