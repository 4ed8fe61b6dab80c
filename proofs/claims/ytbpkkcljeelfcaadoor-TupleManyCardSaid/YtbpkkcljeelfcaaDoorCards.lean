/-
  DERIVED. GIVEN WITH THE SEED: THE CARDS: each row of YtbpkkcljeelfcaaDoorRows.lean that lists a variable, with what it lists TIED to the program's text (the seventh form; the later family's looks); each row that meets fmt, with fmt's text TOLD by the authors' own Lean function (tested against real Go, not proved from fmt's source: count such statements apart). THE CARD IS WHAT COUNTS. Prove the row's statement (the work); the ties are given (YtbpkkcljeelfcaaDoorTie.lean); close each card by the builder's one call (the guide's Derived/Test/ToyasCard.lean, 'card_holds'). Laid BY PROGRAM, IN A SANDBOX (cutbox-door.mjs). By AI agents, Wed Nov 11 2026. No macro, syntax, notation, axiom, sorry.
-/
import Derived.Test.YtbpkkcljeelfcaaDoorRows
import GoSem.ClaimSeven
namespace Go.Proofs.YtbpkkcljeelfcaaDoor
namespace Rows

/-- THE TIED CARD OF 'pedigreelaw02.TupleForms'. -/
def tupleFormsCard : Claim7 := { stood := { row := tupleFormsRow, standIns := [], harness := (true, "f55262eb7f76cd8c3bb01a6f774da67c17917e11ec7679720fa8fb7df221c8f4"), looks := false }, kinds := [], alts := [], laidByText := true, laidKinds := [.data, .data, .data], laidTests := true, laidLooks := .later }
def TupleFormsCardSaid : Prop := Claim7.holds Tryd.pinned (.plain (OpenSpec.ofChange tupleFormsSpec)) tupleFormsCard

/-- THE TIED CARD OF 'pedigreelaw02.TupleMany'. -/
def tupleManyCard : Claim7 := { stood := { row := tupleManyRow, standIns := [], harness := (true, "f55262eb7f76cd8c3bb01a6f774da67c17917e11ec7679720fa8fb7df221c8f4"), looks := false }, kinds := [], alts := [], laidByText := true, laidKinds := [.data, .data, .data], laidTests := true, laidLooks := .later }
def TupleManyCardSaid : Prop := Claim7.holds Tryd.pinned (.plain (OpenSpec.ofChange tupleManySpec)) tupleManyCard

/-- THE TIED CARD OF 'pedigreelaw02.TupleWithin'. -/
def tupleWithinCard : Claim7 := { stood := { row := tupleWithinRow, standIns := [], harness := (true, "f55262eb7f76cd8c3bb01a6f774da67c17917e11ec7679720fa8fb7df221c8f4"), looks := false }, kinds := [], alts := [], laidByText := true, laidKinds := [.data, .data, .data], laidTests := true, laidLooks := .later }
def TupleWithinCardSaid : Prop := Claim7.holds Tryd.pinned (.plain (OpenSpec.ofChange tupleWithinSpec)) tupleWithinCard

/-- THE TIED CARD OF 'pedigreelaw02.TupleTotal'. -/
def tupleTotalCard : Claim7 := { stood := { row := tupleTotalRow, standIns := [], harness := (true, "f55262eb7f76cd8c3bb01a6f774da67c17917e11ec7679720fa8fb7df221c8f4"), looks := false }, kinds := [], alts := [], laidByText := true, laidKinds := [.data, .data, .data], laidTests := true, laidLooks := .later }
def TupleTotalCardSaid : Prop := Claim7.holds Tryd.pinned (.plain (OpenSpec.ofChange tupleTotalSpec)) tupleTotalCard

/-- THE TIED CARD OF 'pedigreelaw02.TupleBinds'. -/
def tupleBindsCard : Claim7 := { stood := { row := tupleBindsRow, standIns := [], harness := (true, "f55262eb7f76cd8c3bb01a6f774da67c17917e11ec7679720fa8fb7df221c8f4"), looks := false }, kinds := [], alts := [], laidByText := true, laidKinds := [.data, .data, .data], laidTests := true, laidLooks := .later }
def TupleBindsCardSaid : Prop := Claim7.holds Tryd.pinned (.plain (OpenSpec.ofChange tupleBindsSpec)) tupleBindsCard

/-- THE SECOND FORM's CARD OF 'pedigreelaw02.TupleForms'. -/
def tupleFormsUptoCard : Claim7 := { stood := { row := tupleFormsUptoRow, standIns := [], harness := (true, "f55262eb7f76cd8c3bb01a6f774da67c17917e11ec7679720fa8fb7df221c8f4"), looks := false }, kinds := [], alts := [], laidByText := true, laidKinds := [.data, .data, .data], laidTests := true, laidLooks := .later }
def TupleFormsUptoCardSaid : Prop := Claim7.holds Tryd.pinned (.plain (OpenSpec.upto tupleFormsSpec)) tupleFormsUptoCard

/-- THE SECOND FORM's CARD OF 'pedigreelaw02.TupleMany'. -/
def tupleManyUptoCard : Claim7 := { stood := { row := tupleManyUptoRow, standIns := [], harness := (true, "f55262eb7f76cd8c3bb01a6f774da67c17917e11ec7679720fa8fb7df221c8f4"), looks := false }, kinds := [], alts := [], laidByText := true, laidKinds := [.data, .data, .data], laidTests := true, laidLooks := .later }
def TupleManyUptoCardSaid : Prop := Claim7.holds Tryd.pinned (.plain (OpenSpec.upto tupleManySpec)) tupleManyUptoCard

/-- THE SECOND FORM's CARD OF 'pedigreelaw02.TupleWithin'. -/
def tupleWithinUptoCard : Claim7 := { stood := { row := tupleWithinUptoRow, standIns := [], harness := (true, "f55262eb7f76cd8c3bb01a6f774da67c17917e11ec7679720fa8fb7df221c8f4"), looks := false }, kinds := [], alts := [], laidByText := true, laidKinds := [.data, .data, .data], laidTests := true, laidLooks := .later }
def TupleWithinUptoCardSaid : Prop := Claim7.holds Tryd.pinned (.plain (OpenSpec.upto tupleWithinSpec)) tupleWithinUptoCard

/-- THE SECOND FORM's CARD OF 'pedigreelaw02.TupleTotal'. -/
def tupleTotalUptoCard : Claim7 := { stood := { row := tupleTotalUptoRow, standIns := [], harness := (true, "f55262eb7f76cd8c3bb01a6f774da67c17917e11ec7679720fa8fb7df221c8f4"), looks := false }, kinds := [], alts := [], laidByText := true, laidKinds := [.data, .data, .data], laidTests := true, laidLooks := .later }
def TupleTotalUptoCardSaid : Prop := Claim7.holds Tryd.pinned (.plain (OpenSpec.upto tupleTotalSpec)) tupleTotalUptoCard

/-- THE SECOND FORM's CARD OF 'pedigreelaw02.TupleBinds'. -/
def tupleBindsUptoCard : Claim7 := { stood := { row := tupleBindsUptoRow, standIns := [], harness := (true, "f55262eb7f76cd8c3bb01a6f774da67c17917e11ec7679720fa8fb7df221c8f4"), looks := false }, kinds := [], alts := [], laidByText := true, laidKinds := [.data, .data, .data], laidTests := true, laidLooks := .later }
def TupleBindsUptoCardSaid : Prop := Claim7.holds Tryd.pinned (.plain (OpenSpec.upto tupleBindsSpec)) tupleBindsUptoCard
end Rows
end Go.Proofs.YtbpkkcljeelfcaaDoor
