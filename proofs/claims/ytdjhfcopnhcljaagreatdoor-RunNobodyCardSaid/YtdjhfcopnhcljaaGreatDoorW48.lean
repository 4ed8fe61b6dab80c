/-
  The frame of a run law's proof: what every row of these laws lists.
-/
import Derived.Test.YtdjhfcopnhcljaaGreatDoorW47
import Derived.ProofKit
import Derived.LaidMore
import Derived.OpenShut
import Derived.ChangeOld
import Derived.ChangeSame
import Derived.WideShapes
import Derived.Deep.Slices
import Derived.Deep.Fields
import Derived.Stop.Joined
import Derived.Stop.LaidErr
import Derived.Lib.SmallJoins
namespace Go.Proofs.YtdjhfcopnhcljaaGreatDoor
section
open Go Go.ChangeShapes Go.WideShapes Go.ChangeAt Go.RowKit Go.Deep

set_option maxRecDepth 100000
theorem tyTab : (Tryz.prog.globals[0]?).map (·.type) = some 260 := by kernel_rfl
theorem cellsTab : Tryz.prog.cellsOf 260 = 16 := by kernel_rfl
theorem cellsU32 : Tryz.prog.cellsOf 69 = 1 := by kernel_rfl
/-- What every row of these laws lists. -/
def laid4 {H : Type} : List (String × DataW H) := [("pedigree/crc.nibbles", Rows.laid_pedigree_crc_nibbles)]
theorem glob_of_laid {W : World} (h0 : laidMetH Tryz.prog laid4 W) : Glob W := by
  rw [MakeChecks.laidMetH_plain _ _ _ (by kernel_rfl)] at h0
  have tab := Lib.tabIs_of_head (k := .u32) (zs := nibL.map Int.ofNat) gTab tyTab Tryz.underlying260 Tryz.underlying69 cellsU32 cellsTab h0
  refine ⟨tab, ?_⟩
  unfold Lib.TabIs World.var? at tab
  rw [gTab] at tab
  simp only [Option.bind_some] at tab
  rcases Nat.lt_or_ge 0 W.heap.size with hl | hl
  · exact hl
  · rw [Array.getElem?_eq_none hl] at tab
    cases tab
/-- The door's own heap meets the condition. -/
theorem door_met (os : Os) (args : Array Value) : laidMetH Tryz.prog laid4 ((World.doorLaid Tryz.prog 400 os).forCall (fun _ _ => 0) ⟨#[], args, []⟩).memory :=
  laidMetH_of_parts3 (fuel := 8) (laidMet_of_run' 8 (by kernel_rfl) (by kernel_rfl)) (by kernel_rfl) (by kernel_rfl)

end
end Go.Proofs.YtdjhfcopnhcljaaGreatDoor
