/-
  DERIVED. GIVEN WITH THE SEED: THE CARDS: each row of YtdmjcjheanedgaaDoorRows.lean that lists a variable, with what it lists TIED to the program's text (the seventh form; the later family's looks); each row that meets fmt, with fmt's text TOLD by the authors' own Lean function (tested against real Go, not proved from fmt's source: count such statements apart). THE CARD IS WHAT COUNTS. Prove the row's statement (the work); the ties are given (YtdmjcjheanedgaaDoorTie.lean); close each card by the builder's one call (the guide's Derived/Test/ToyasCard.lean, 'card_holds'). Laid BY PROGRAM, IN A SANDBOX (cutbox-door.mjs). By AI agents, Wed Nov 11 2026. No macro, syntax, notation, axiom, sorry.
-/
import Derived.Test.YtdmjcjheanedgaaDoorRows
import GoSem.ClaimSeven
namespace Go.Proofs.YtdmjcjheanedgaaDoor
namespace Rows

/-- THE TIED CARD OF 'damperlaw18.AllotPairs'. -/
def allotPairsCard : Claim7 := { stood := { row := allotPairsRow, standIns := [], harness := (true, "02dfac848f23a991231dd419e134f217d72efb1e29453fa97343394e6888d70a"), looks := false }, kinds := [], alts := [], laidByText := true, laidKinds := [.data, .data], laidTests := true, laidLooks := .later }
def AllotPairsCardSaid : Prop := Claim7.holds Tryd.pinned (.plain (OpenSpec.ofChange allotPairsSpec)) allotPairsCard

/-- THE TIED CARD OF 'damperlaw18.AllotTotal'. -/
def allotTotalCard : Claim7 := { stood := { row := allotTotalRow, standIns := [], harness := (true, "02dfac848f23a991231dd419e134f217d72efb1e29453fa97343394e6888d70a"), looks := false }, kinds := [], alts := [], laidByText := true, laidKinds := [.data, .data], laidTests := true, laidLooks := .later }
def AllotTotalCardSaid : Prop := Claim7.holds Tryd.pinned (.plain (OpenSpec.ofChange allotTotalSpec)) allotTotalCard

/-- THE TIED CARD OF 'damperlaw18.AllotFair'. -/
def allotFairCard : Claim7 := { stood := { row := allotFairRow, standIns := [], harness := (true, "02dfac848f23a991231dd419e134f217d72efb1e29453fa97343394e6888d70a"), looks := false }, kinds := [], alts := [], laidByText := true, laidKinds := [.data, .data], laidTests := true, laidLooks := .later }
def AllotFairCardSaid : Prop := Claim7.holds Tryd.pinned (.plain (OpenSpec.ofChange allotFairSpec)) allotFairCard

/-- THE SECOND FORM's CARD OF 'damperlaw18.AllotPairs'. -/
def allotPairsUptoCard : Claim7 := { stood := { row := allotPairsUptoRow, standIns := [], harness := (true, "02dfac848f23a991231dd419e134f217d72efb1e29453fa97343394e6888d70a"), looks := false }, kinds := [], alts := [], laidByText := true, laidKinds := [.data, .data], laidTests := true, laidLooks := .later }
def AllotPairsUptoCardSaid : Prop := Claim7.holds Tryd.pinned (.plain (OpenSpec.upto allotPairsSpec)) allotPairsUptoCard

/-- THE SECOND FORM's CARD OF 'damperlaw18.AllotTotal'. -/
def allotTotalUptoCard : Claim7 := { stood := { row := allotTotalUptoRow, standIns := [], harness := (true, "02dfac848f23a991231dd419e134f217d72efb1e29453fa97343394e6888d70a"), looks := false }, kinds := [], alts := [], laidByText := true, laidKinds := [.data, .data], laidTests := true, laidLooks := .later }
def AllotTotalUptoCardSaid : Prop := Claim7.holds Tryd.pinned (.plain (OpenSpec.upto allotTotalSpec)) allotTotalUptoCard

/-- THE SECOND FORM's CARD OF 'damperlaw18.AllotFair'. -/
def allotFairUptoCard : Claim7 := { stood := { row := allotFairUptoRow, standIns := [], harness := (true, "02dfac848f23a991231dd419e134f217d72efb1e29453fa97343394e6888d70a"), looks := false }, kinds := [], alts := [], laidByText := true, laidKinds := [.data, .data], laidTests := true, laidLooks := .later }
def AllotFairUptoCardSaid : Prop := Claim7.holds Tryd.pinned (.plain (OpenSpec.upto allotFairSpec)) allotFairUptoCard
end Rows
end Go.Proofs.YtdmjcjheanedgaaDoor
