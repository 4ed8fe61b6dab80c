/-
  Contract of the document's own Read, by what its whole, symbol and Text answer.
-/
import Derived.Test.YtfjpiofinffpfaaDoorWhole
import Derived.Test.YtfjpiofinffpfaaDoorRtext
namespace Go.Proofs.YtfjpiofinffpfaaDoor
open Go Go.RowKit

theorem keptAt {w w1 : World} {o : Obj} {x y z : Value} {t : Nat} (hb : Below ((w.alloc o).alloc (.cells #[x, y, z] t)).heap.size ((w.alloc o).alloc (.cells #[x, y, z] t)) w1) :
    w1.cell? ⟨w.heap.size + 1, 0, none⟩ = some x ∧ w1.cell? ⟨w.heap.size + 1, 1, none⟩ = some y ∧ w1.cell? ⟨w.heap.size + 1, 2, none⟩ = some z := by
  have h := kept3 hb (by simp)
  simpa using h

end Go.Proofs.YtfjpiofinffpfaaDoor
