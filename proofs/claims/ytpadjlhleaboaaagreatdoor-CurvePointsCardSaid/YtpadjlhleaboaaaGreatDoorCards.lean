/-
  DERIVED. GIVEN WITH THE SEED: THE CARDS: each row of YtpadjlhleaboaaaGreatDoorRows.lean that lists a variable, with what it lists TIED to the program's text (the seventh form; the later family's looks); each row that meets fmt, with fmt's text TOLD by the authors' own Lean function (tested against real Go, not proved from fmt's source: count such statements apart). THE CARD IS WHAT COUNTS. Prove the row's statement (the work); the ties are given (YtpadjlhleaboaaaGreatDoorTie.lean); close each card by the builder's one call (the guide's Derived/Test/ToyasCard.lean, 'card_holds'). Laid BY PROGRAM, IN A SANDBOX (cutbox-door.mjs). By AI agents, Wed Nov 11 2026. No macro, syntax, notation, axiom, sorry.
-/
import Derived.Test.YtpadjlhleaboaaaGreatDoorRows
import GoSem.ClaimSeven
namespace Go.Proofs.YtpadjlhleaboaaaGreatDoor
namespace Rows

/-- THE TIED CARD OF 'damperlaw16.CurveAts'. -/
def curveAtsCard : Claim7 := { stood := { row := curveAtsRow, standIns := [], harness := (true, "97495702803ede2c24b661c7e878a6ad15967fee714769c4b943c6517d0b8836"), looks := false }, kinds := [], alts := [], laidByText := true, laidKinds := [.data, .data], laidTests := true, laidLooks := .later }
def CurveAtsCardSaid : Prop := Claim7.holds Tryz.pinned (.plain (OpenSpec.ofChange curveAtsSpec)) curveAtsCard

/-- THE TIED CARD OF 'damperlaw16.CurvePoints'. -/
def curvePointsCard : Claim7 := { stood := { row := curvePointsRow, standIns := [], harness := (true, "97495702803ede2c24b661c7e878a6ad15967fee714769c4b943c6517d0b8836"), looks := false }, kinds := [], alts := [], laidByText := true, laidKinds := [.data, .data], laidTests := true, laidLooks := .later }
def CurvePointsCardSaid : Prop := Claim7.holds Tryz.pinned (.plain (OpenSpec.ofChange curvePointsSpec)) curvePointsCard

/-- THE TIED CARD OF 'damperlaw16.CurveNumbers'. -/
def curveNumbersCard : Claim7 := { stood := { row := curveNumbersRow, standIns := [], harness := (true, "97495702803ede2c24b661c7e878a6ad15967fee714769c4b943c6517d0b8836"), looks := false }, kinds := [], alts := [], laidByText := true, laidKinds := [.data, .data], laidTests := true, laidLooks := .later }
def CurveNumbersCardSaid : Prop := Claim7.holds Tryz.pinned (.plain (OpenSpec.ofChange curveNumbersSpec)) curveNumbersCard

/-- THE TIED CARD OF 'damperlaw16.CurveTurns'. -/
def curveTurnsCard : Claim7 := { stood := { row := curveTurnsRow, standIns := [], harness := (true, "97495702803ede2c24b661c7e878a6ad15967fee714769c4b943c6517d0b8836"), looks := false }, kinds := [], alts := [], laidByText := true, laidKinds := [.data, .data], laidTests := true, laidLooks := .later }
def CurveTurnsCardSaid : Prop := Claim7.holds Tryz.pinned (.plain (OpenSpec.ofChange curveTurnsSpec)) curveTurnsCard

/-- THE SECOND FORM's CARD OF 'damperlaw16.CurveAts'. -/
def curveAtsUptoCard : Claim7 := { stood := { row := curveAtsUptoRow, standIns := [], harness := (true, "97495702803ede2c24b661c7e878a6ad15967fee714769c4b943c6517d0b8836"), looks := false }, kinds := [], alts := [], laidByText := true, laidKinds := [.data, .data], laidTests := true, laidLooks := .later }
def CurveAtsUptoCardSaid : Prop := Claim7.holds Tryz.pinned (.plain (OpenSpec.upto curveAtsSpec)) curveAtsUptoCard

/-- THE SECOND FORM's CARD OF 'damperlaw16.CurvePoints'. -/
def curvePointsUptoCard : Claim7 := { stood := { row := curvePointsUptoRow, standIns := [], harness := (true, "97495702803ede2c24b661c7e878a6ad15967fee714769c4b943c6517d0b8836"), looks := false }, kinds := [], alts := [], laidByText := true, laidKinds := [.data, .data], laidTests := true, laidLooks := .later }
def CurvePointsUptoCardSaid : Prop := Claim7.holds Tryz.pinned (.plain (OpenSpec.upto curvePointsSpec)) curvePointsUptoCard

/-- THE SECOND FORM's CARD OF 'damperlaw16.CurveNumbers'. -/
def curveNumbersUptoCard : Claim7 := { stood := { row := curveNumbersUptoRow, standIns := [], harness := (true, "97495702803ede2c24b661c7e878a6ad15967fee714769c4b943c6517d0b8836"), looks := false }, kinds := [], alts := [], laidByText := true, laidKinds := [.data, .data], laidTests := true, laidLooks := .later }
def CurveNumbersUptoCardSaid : Prop := Claim7.holds Tryz.pinned (.plain (OpenSpec.upto curveNumbersSpec)) curveNumbersUptoCard

/-- THE SECOND FORM's CARD OF 'damperlaw16.CurveTurns'. -/
def curveTurnsUptoCard : Claim7 := { stood := { row := curveTurnsUptoRow, standIns := [], harness := (true, "97495702803ede2c24b661c7e878a6ad15967fee714769c4b943c6517d0b8836"), looks := false }, kinds := [], alts := [], laidByText := true, laidKinds := [.data, .data], laidTests := true, laidLooks := .later }
def CurveTurnsUptoCardSaid : Prop := Claim7.holds Tryz.pinned (.plain (OpenSpec.upto curveTurnsSpec)) curveTurnsUptoCard
end Rows
end Go.Proofs.YtpadjlhleaboaaaGreatDoor
