/-
  DERIVED. GIVEN WITH THE SEED: THE CARDS: each row of YtmnbbbkikbcbjaaDoorRows.lean that lists a variable, with what it lists TIED to the program's text (the seventh form; the later family's looks); each row that meets fmt, with fmt's text TOLD by the authors' own Lean function (tested against real Go, not proved from fmt's source: count such statements apart). THE CARD IS WHAT COUNTS. Prove the row's statement (the work); the ties are given (YtmnbbbkikbcbjaaDoorTie.lean); close each card by the builder's one call (the guide's Derived/Test/ToyasCard.lean, 'card_holds'). Laid BY PROGRAM, IN A SANDBOX (cutbox-door.mjs). By AI agents, Wed Nov 11 2026. No macro, syntax, notation, axiom, sorry.
-/
import Derived.Test.YtmnbbbkikbcbjaaDoorRows
import GoSem.ClaimSeven
namespace Go.Proofs.YtmnbbbkikbcbjaaDoor
namespace Rows

/-- THE TIED CARD OF 'pedigreelaw13.ParseRules'. -/
def parseRulesCard : Claim7 := { stood := { row := parseRulesRow, standIns := [], harness := (true, "36e84561f476940ce19aa022dcca74300076548f967883c6aef937b9555e8fc9"), looks := true }, kinds := [], alts := [], laidByText := true, laidKinds := [.data, .data, .data, .sentinel, .sentinel, .data], laidTests := true, laidLooks := .later }
def ParseRulesCardSaid : Prop := Claim7.holds Tryd.pinned (.plain (OpenSpec.ofChange parseRulesSpec)) parseRulesCard

/-- THE SECOND FORM's CARD OF 'pedigreelaw13.ParseRules'. -/
def parseRulesUptoCard : Claim7 := { stood := { row := parseRulesUptoRow, standIns := [], harness := (true, "36e84561f476940ce19aa022dcca74300076548f967883c6aef937b9555e8fc9"), looks := true }, kinds := [], alts := [], laidByText := true, laidKinds := [.data, .data, .data, .sentinel, .sentinel, .data], laidTests := true, laidLooks := .later }
def ParseRulesUptoCardSaid : Prop := Claim7.holds Tryd.pinned (.plain (OpenSpec.upto parseRulesSpec)) parseRulesUptoCard
end Rows
end Go.Proofs.YtmnbbbkikbcbjaaDoor
