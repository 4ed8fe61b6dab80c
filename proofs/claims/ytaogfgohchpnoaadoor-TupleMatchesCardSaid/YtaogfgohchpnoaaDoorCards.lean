/-
  DERIVED. GIVEN WITH THE SEED: THE CARDS: each row of YtaogfgohchpnoaaDoorRows.lean that lists a variable, with what it lists TIED to the program's text (the seventh form; the later family's looks); each row that meets fmt, with fmt's text TOLD by the authors' own Lean function (tested against real Go, not proved from fmt's source: count such statements apart). THE CARD IS WHAT COUNTS. Prove the row's statement (the work); the ties are given (YtaogfgohchpnoaaDoorTie.lean); close each card by the builder's one call (the guide's Derived/Test/ToyasCard.lean, 'card_holds'). Laid BY PROGRAM, IN A SANDBOX (cutbox-door.mjs). By AI agents, Wed Nov 11 2026. No macro, syntax, notation, axiom, sorry.
-/
import Derived.Test.YtaogfgohchpnoaaDoorRows
import GoSem.ClaimSeven
namespace Go.Proofs.YtaogfgohchpnoaaDoor
namespace Rows

/-- THE TIED CARD OF 'pedigreelaw02.TupleSets'. -/
def tupleSetsCard : Claim7 := { stood := { row := tupleSetsRow, standIns := [], harness := (true, "142d699a44112efc00bba36d5ba33d2c1357d67823ca33088abfffb4a5e04adf"), looks := false }, kinds := [], alts := [], laidByText := true, laidKinds := [.data, .data, .data], laidTests := true, laidLooks := .later }
def TupleSetsCardSaid : Prop := Claim7.holds Tryd.pinned (.plain (OpenSpec.ofChange tupleSetsSpec)) tupleSetsCard

/-- THE TIED CARD OF 'pedigreelaw02.TupleMatches'. -/
def tupleMatchesCard : Claim7 := { stood := { row := tupleMatchesRow, standIns := [], harness := (true, "142d699a44112efc00bba36d5ba33d2c1357d67823ca33088abfffb4a5e04adf"), looks := false }, kinds := [], alts := [], laidByText := true, laidKinds := [.data, .data, .data], laidTests := true, laidLooks := .later }
def TupleMatchesCardSaid : Prop := Claim7.holds Tryd.pinned (.plain (OpenSpec.ofChange tupleMatchesSpec)) tupleMatchesCard

/-- THE TIED CARD OF 'pedigreelaw02.TupleChange'. -/
def tupleChangeCard : Claim7 := { stood := { row := tupleChangeRow, standIns := [], harness := (true, "142d699a44112efc00bba36d5ba33d2c1357d67823ca33088abfffb4a5e04adf"), looks := false }, kinds := [], alts := [], laidByText := true, laidKinds := [.data, .data, .data], laidTests := true, laidLooks := .later }
def TupleChangeCardSaid : Prop := Claim7.holds Tryd.pinned (.plain (OpenSpec.ofChange tupleChangeSpec)) tupleChangeCard

/-- THE TIED CARD OF 'pedigreelaw02.TupleBinds'. -/
def tupleBindsCard : Claim7 := { stood := { row := tupleBindsRow, standIns := [], harness := (true, "142d699a44112efc00bba36d5ba33d2c1357d67823ca33088abfffb4a5e04adf"), looks := false }, kinds := [], alts := [], laidByText := true, laidKinds := [.data, .data, .data], laidTests := true, laidLooks := .later }
def TupleBindsCardSaid : Prop := Claim7.holds Tryd.pinned (.plain (OpenSpec.ofChange tupleBindsSpec)) tupleBindsCard

/-- THE SECOND FORM's CARD OF 'pedigreelaw02.TupleSets'. -/
def tupleSetsUptoCard : Claim7 := { stood := { row := tupleSetsUptoRow, standIns := [], harness := (true, "142d699a44112efc00bba36d5ba33d2c1357d67823ca33088abfffb4a5e04adf"), looks := false }, kinds := [], alts := [], laidByText := true, laidKinds := [.data, .data, .data], laidTests := true, laidLooks := .later }
def TupleSetsUptoCardSaid : Prop := Claim7.holds Tryd.pinned (.plain (OpenSpec.upto tupleSetsSpec)) tupleSetsUptoCard

/-- THE SECOND FORM's CARD OF 'pedigreelaw02.TupleMatches'. -/
def tupleMatchesUptoCard : Claim7 := { stood := { row := tupleMatchesUptoRow, standIns := [], harness := (true, "142d699a44112efc00bba36d5ba33d2c1357d67823ca33088abfffb4a5e04adf"), looks := false }, kinds := [], alts := [], laidByText := true, laidKinds := [.data, .data, .data], laidTests := true, laidLooks := .later }
def TupleMatchesUptoCardSaid : Prop := Claim7.holds Tryd.pinned (.plain (OpenSpec.upto tupleMatchesSpec)) tupleMatchesUptoCard

/-- THE SECOND FORM's CARD OF 'pedigreelaw02.TupleChange'. -/
def tupleChangeUptoCard : Claim7 := { stood := { row := tupleChangeUptoRow, standIns := [], harness := (true, "142d699a44112efc00bba36d5ba33d2c1357d67823ca33088abfffb4a5e04adf"), looks := false }, kinds := [], alts := [], laidByText := true, laidKinds := [.data, .data, .data], laidTests := true, laidLooks := .later }
def TupleChangeUptoCardSaid : Prop := Claim7.holds Tryd.pinned (.plain (OpenSpec.upto tupleChangeSpec)) tupleChangeUptoCard

/-- THE SECOND FORM's CARD OF 'pedigreelaw02.TupleBinds'. -/
def tupleBindsUptoCard : Claim7 := { stood := { row := tupleBindsUptoRow, standIns := [], harness := (true, "142d699a44112efc00bba36d5ba33d2c1357d67823ca33088abfffb4a5e04adf"), looks := false }, kinds := [], alts := [], laidByText := true, laidKinds := [.data, .data, .data], laidTests := true, laidLooks := .later }
def TupleBindsUptoCardSaid : Prop := Claim7.holds Tryd.pinned (.plain (OpenSpec.upto tupleBindsSpec)) tupleBindsUptoCard
end Rows
end Go.Proofs.YtaogfgohchpnoaaDoor
