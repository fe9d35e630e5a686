/-
  The document's levels: New, Fits, Worth.
-/
import Derived.Test.YtdmjcjheanedgaaDoorRlaq
namespace Go.Proofs.YtdmjcjheanedgaaDoor
open Go.RowKit
section
variable {w w' W : World} {r : Nat} {S T : Nat → Prop} {s : Ld} {ko : Option Nat} {ao : Option Addr} {cap : Nat}
end
end Go.Proofs.YtdmjcjheanedgaaDoor
