/-
  Contracts of the document's value and of its word at any place.
-/
import Derived.Test.YtfjpiofinffpfaaDoorLxT
namespace Go.Proofs.YtfjpiofinffpfaaDoor
open Go Go.RowKit

end Go.Proofs.YtfjpiofinffpfaaDoor
