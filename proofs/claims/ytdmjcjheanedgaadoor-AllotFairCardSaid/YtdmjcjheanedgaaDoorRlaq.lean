/-
  The document's levels in memory; its Better, find, Fits.
-/
import Derived.Test.YtdmjcjheanedgaaDoorGG
import Derived.Test.YtdmjcjheanedgaaDoorGA
import Derived.BigQuiet
import Derived.Deep.QuietTactic
import Derived.Deep.LoopGhost
import Derived.IntWalk
import Derived.WalkKit
import Derived.WalkMore
namespace Go.Proofs.YtdmjcjheanedgaaDoor
open Go.RowKit
/-- The levels' cells, one behind the other. -/
abbrev lcs (l : List Lvl) : List Value := l.flatMap fun m => (cLvl m).toList
/-- A side's number. -/
def sdI (buy : Bool) : Int := if buy then 0 else 1
theorem belowN {B : Nat} {w w' : World} (h : Below B w w') (n : Nat) : Below B w (w'.drewN n) := ⟨h.os, h.tape, h.output, h.size, h.block⟩
section
variable {w w' W : World} {r : Nat} {S T : Nat → Prop} {s : Ld} {ko : Option Nat} {ao : Option Addr} {cap : Nat}
/-- Where a price is found, as the document says it. -/
def Ld.fI (s : Ld) (p : Int) : Int := match s.find p with
  | some i => i
  | none => -1
end
end Go.Proofs.YtdmjcjheanedgaaDoor
