/-
  The document's levels: the least queue that is free.
-/
import Derived.Test.YtdmjcjheanedgaaDoorRlaq
namespace Go.Proofs.YtdmjcjheanedgaaDoor
open Go.RowKit
/-- Whether one of the first k levels has queue q. -/
def usd (L : List Lvl) (q k : Nat) : Bool := (L.take k).any fun x => x.queue == q
section
variable {w w' W : World} {r : Nat} {S T : Nat → Prop} {s : Ld} {ko : Option Nat} {ao : Option Addr} {cap : Nat}
end
end Go.Proofs.YtdmjcjheanedgaaDoor
