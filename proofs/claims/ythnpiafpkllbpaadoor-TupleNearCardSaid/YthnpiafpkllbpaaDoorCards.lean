/-
  DERIVED. GIVEN WITH THE SEED: THE CARDS: each row of YthnpiafpkllbpaaDoorRows.lean that lists a variable, with what it lists TIED to the program's text (the seventh form; the later family's looks); each row that meets fmt, with fmt's text TOLD by the authors' own Lean function (tested against real Go, not proved from fmt's source: count such statements apart). THE CARD IS WHAT COUNTS. Prove the row's statement (the work); the ties are given (YthnpiafpkllbpaaDoorTie.lean); close each card by the builder's one call (the guide's Derived/Test/ToyasCard.lean, 'card_holds'). Laid BY PROGRAM, IN A SANDBOX (cutbox-door.mjs). By AI agents, Wed Nov 11 2026. No macro, syntax, notation, axiom, sorry.
-/
import Derived.Test.YthnpiafpkllbpaaDoorRows
import GoSem.ClaimSeven
namespace Go.Proofs.YthnpiafpkllbpaaDoor
namespace Rows

/-- THE TIED CARD OF 'pedigreelaw02.TupleRows'. -/
def tupleRowsCard : Claim7 := { stood := { row := tupleRowsRow, standIns := [], harness := (true, "f2c82a3dc3e73bb39fb4c4f98b92c025b82e3df3999d0d211305c61b6d94d5dd"), looks := false }, kinds := [], alts := [], laidByText := true, laidKinds := [.data, .data, .data], laidTests := true, laidLooks := .later }
def TupleRowsCardSaid : Prop := Claim7.holds Tryd.pinned (.plain (OpenSpec.ofChange tupleRowsSpec)) tupleRowsCard

/-- THE TIED CARD OF 'pedigreelaw02.TupleSets'. -/
def tupleSetsCard : Claim7 := { stood := { row := tupleSetsRow, standIns := [], harness := (true, "f2c82a3dc3e73bb39fb4c4f98b92c025b82e3df3999d0d211305c61b6d94d5dd"), looks := false }, kinds := [], alts := [], laidByText := true, laidKinds := [.data, .data, .data], laidTests := true, laidLooks := .later }
def TupleSetsCardSaid : Prop := Claim7.holds Tryd.pinned (.plain (OpenSpec.ofChange tupleSetsSpec)) tupleSetsCard

/-- THE TIED CARD OF 'pedigreelaw02.TupleMatches'. -/
def tupleMatchesCard : Claim7 := { stood := { row := tupleMatchesRow, standIns := [], harness := (true, "f2c82a3dc3e73bb39fb4c4f98b92c025b82e3df3999d0d211305c61b6d94d5dd"), looks := false }, kinds := [], alts := [], laidByText := true, laidKinds := [.data, .data, .data], laidTests := true, laidLooks := .later }
def TupleMatchesCardSaid : Prop := Claim7.holds Tryd.pinned (.plain (OpenSpec.ofChange tupleMatchesSpec)) tupleMatchesCard

/-- THE TIED CARD OF 'pedigreelaw02.TupleChange'. -/
def tupleChangeCard : Claim7 := { stood := { row := tupleChangeRow, standIns := [], harness := (true, "f2c82a3dc3e73bb39fb4c4f98b92c025b82e3df3999d0d211305c61b6d94d5dd"), looks := false }, kinds := [], alts := [], laidByText := true, laidKinds := [.data, .data, .data], laidTests := true, laidLooks := .later }
def TupleChangeCardSaid : Prop := Claim7.holds Tryd.pinned (.plain (OpenSpec.ofChange tupleChangeSpec)) tupleChangeCard

/-- THE TIED CARD OF 'pedigreelaw02.TupleBinds'. -/
def tupleBindsCard : Claim7 := { stood := { row := tupleBindsRow, standIns := [], harness := (true, "f2c82a3dc3e73bb39fb4c4f98b92c025b82e3df3999d0d211305c61b6d94d5dd"), looks := false }, kinds := [], alts := [], laidByText := true, laidKinds := [.data, .data, .data], laidTests := true, laidLooks := .later }
def TupleBindsCardSaid : Prop := Claim7.holds Tryd.pinned (.plain (OpenSpec.ofChange tupleBindsSpec)) tupleBindsCard

/-- THE TIED CARD OF 'pedigreelaw02.TupleNear'. -/
def tupleNearCard : Claim7 := { stood := { row := tupleNearRow, standIns := [], harness := (true, "f2c82a3dc3e73bb39fb4c4f98b92c025b82e3df3999d0d211305c61b6d94d5dd"), looks := false }, kinds := [], alts := [], laidByText := true, laidKinds := [.data, .data, .data], laidTests := true, laidLooks := .later }
def TupleNearCardSaid : Prop := Claim7.holds Tryd.pinned (.plain (OpenSpec.ofChange tupleNearSpec)) tupleNearCard

/-- THE SECOND FORM's CARD OF 'pedigreelaw02.TupleRows'. -/
def tupleRowsUptoCard : Claim7 := { stood := { row := tupleRowsUptoRow, standIns := [], harness := (true, "f2c82a3dc3e73bb39fb4c4f98b92c025b82e3df3999d0d211305c61b6d94d5dd"), looks := false }, kinds := [], alts := [], laidByText := true, laidKinds := [.data, .data, .data], laidTests := true, laidLooks := .later }
def TupleRowsUptoCardSaid : Prop := Claim7.holds Tryd.pinned (.plain (OpenSpec.upto tupleRowsSpec)) tupleRowsUptoCard

/-- THE SECOND FORM's CARD OF 'pedigreelaw02.TupleSets'. -/
def tupleSetsUptoCard : Claim7 := { stood := { row := tupleSetsUptoRow, standIns := [], harness := (true, "f2c82a3dc3e73bb39fb4c4f98b92c025b82e3df3999d0d211305c61b6d94d5dd"), looks := false }, kinds := [], alts := [], laidByText := true, laidKinds := [.data, .data, .data], laidTests := true, laidLooks := .later }
def TupleSetsUptoCardSaid : Prop := Claim7.holds Tryd.pinned (.plain (OpenSpec.upto tupleSetsSpec)) tupleSetsUptoCard

/-- THE SECOND FORM's CARD OF 'pedigreelaw02.TupleMatches'. -/
def tupleMatchesUptoCard : Claim7 := { stood := { row := tupleMatchesUptoRow, standIns := [], harness := (true, "f2c82a3dc3e73bb39fb4c4f98b92c025b82e3df3999d0d211305c61b6d94d5dd"), looks := false }, kinds := [], alts := [], laidByText := true, laidKinds := [.data, .data, .data], laidTests := true, laidLooks := .later }
def TupleMatchesUptoCardSaid : Prop := Claim7.holds Tryd.pinned (.plain (OpenSpec.upto tupleMatchesSpec)) tupleMatchesUptoCard

/-- THE SECOND FORM's CARD OF 'pedigreelaw02.TupleChange'. -/
def tupleChangeUptoCard : Claim7 := { stood := { row := tupleChangeUptoRow, standIns := [], harness := (true, "f2c82a3dc3e73bb39fb4c4f98b92c025b82e3df3999d0d211305c61b6d94d5dd"), looks := false }, kinds := [], alts := [], laidByText := true, laidKinds := [.data, .data, .data], laidTests := true, laidLooks := .later }
def TupleChangeUptoCardSaid : Prop := Claim7.holds Tryd.pinned (.plain (OpenSpec.upto tupleChangeSpec)) tupleChangeUptoCard

/-- THE SECOND FORM's CARD OF 'pedigreelaw02.TupleBinds'. -/
def tupleBindsUptoCard : Claim7 := { stood := { row := tupleBindsUptoRow, standIns := [], harness := (true, "f2c82a3dc3e73bb39fb4c4f98b92c025b82e3df3999d0d211305c61b6d94d5dd"), looks := false }, kinds := [], alts := [], laidByText := true, laidKinds := [.data, .data, .data], laidTests := true, laidLooks := .later }
def TupleBindsUptoCardSaid : Prop := Claim7.holds Tryd.pinned (.plain (OpenSpec.upto tupleBindsSpec)) tupleBindsUptoCard

/-- THE SECOND FORM's CARD OF 'pedigreelaw02.TupleNear'. -/
def tupleNearUptoCard : Claim7 := { stood := { row := tupleNearUptoRow, standIns := [], harness := (true, "f2c82a3dc3e73bb39fb4c4f98b92c025b82e3df3999d0d211305c61b6d94d5dd"), looks := false }, kinds := [], alts := [], laidByText := true, laidKinds := [.data, .data, .data], laidTests := true, laidLooks := .later }
def TupleNearUptoCardSaid : Prop := Claim7.holds Tryd.pinned (.plain (OpenSpec.upto tupleNearSpec)) tupleNearUptoCard
end Rows
end Go.Proofs.YthnpiafpkllbpaaDoor
