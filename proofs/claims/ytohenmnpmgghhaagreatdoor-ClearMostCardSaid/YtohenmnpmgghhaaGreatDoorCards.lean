/-
  DERIVED. GIVEN WITH THE SEED: THE CARDS: each row of YtohenmnpmgghhaaGreatDoorRows.lean that lists a variable, with what it lists TIED to the program's text (the seventh form; the later family's looks); each row that meets fmt, with fmt's text TOLD by the authors' own Lean function (tested against real Go, not proved from fmt's source: count such statements apart). THE CARD IS WHAT COUNTS. Prove the row's statement (the work); the ties are given (YtohenmnpmgghhaaGreatDoorTie.lean); close each card by the builder's one call (the guide's Derived/Test/ToyasCard.lean, 'card_holds'). Laid BY PROGRAM, IN A SANDBOX (cutbox-door.mjs). By AI agents, Wed Nov 11 2026. No macro, syntax, notation, axiom, sorry.
-/
import Derived.Test.YtohenmnpmgghhaaGreatDoorRows
import GoSem.ClaimSeven
namespace Go.Proofs.YtohenmnpmgghhaaGreatDoor
namespace Rows

/-- THE TIED CARD OF 'damperlaw17.ClearChooses'. -/
def clearChoosesCard : Claim7 := { stood := { row := clearChoosesRow, standIns := [], harness := (true, "7871a420a3627daa55723d502628d1319bae3e736b34ddabf56811ccf1993b0f"), looks := false }, kinds := [], alts := [], laidByText := true, laidKinds := [.data, .data], laidTests := true, laidLooks := .later }
def ClearChoosesCardSaid : Prop := Claim7.holds Tryz.pinned (.plain (OpenSpec.ofChange clearChoosesSpec)) clearChoosesCard

/-- THE TIED CARD OF 'damperlaw17.ClearOrders'. -/
def clearOrdersCard : Claim7 := { stood := { row := clearOrdersRow, standIns := [], harness := (true, "7871a420a3627daa55723d502628d1319bae3e736b34ddabf56811ccf1993b0f"), looks := false }, kinds := [], alts := [], laidByText := true, laidKinds := [.data, .data], laidTests := true, laidLooks := .later }
def ClearOrdersCardSaid : Prop := Claim7.holds Tryz.pinned (.plain (OpenSpec.ofChange clearOrdersSpec)) clearOrdersCard

/-- THE TIED CARD OF 'damperlaw17.ClearMost'. -/
def clearMostCard : Claim7 := { stood := { row := clearMostRow, standIns := [], harness := (true, "7871a420a3627daa55723d502628d1319bae3e736b34ddabf56811ccf1993b0f"), looks := false }, kinds := [], alts := [], laidByText := true, laidKinds := [.data, .data], laidTests := true, laidLooks := .later }
def ClearMostCardSaid : Prop := Claim7.holds Tryz.pinned (.plain (OpenSpec.ofChange clearMostSpec)) clearMostCard

/-- THE TIED CARD OF 'damperlaw17.ClearStays'. -/
def clearStaysCard : Claim7 := { stood := { row := clearStaysRow, standIns := [], harness := (true, "7871a420a3627daa55723d502628d1319bae3e736b34ddabf56811ccf1993b0f"), looks := false }, kinds := [], alts := [], laidByText := true, laidKinds := [.data, .data], laidTests := true, laidLooks := .later }
def ClearStaysCardSaid : Prop := Claim7.holds Tryz.pinned (.plain (OpenSpec.ofChange clearStaysSpec)) clearStaysCard

/-- THE SECOND FORM's CARD OF 'damperlaw17.ClearChooses'. -/
def clearChoosesUptoCard : Claim7 := { stood := { row := clearChoosesUptoRow, standIns := [], harness := (true, "7871a420a3627daa55723d502628d1319bae3e736b34ddabf56811ccf1993b0f"), looks := false }, kinds := [], alts := [], laidByText := true, laidKinds := [.data, .data], laidTests := true, laidLooks := .later }
def ClearChoosesUptoCardSaid : Prop := Claim7.holds Tryz.pinned (.plain (OpenSpec.upto clearChoosesSpec)) clearChoosesUptoCard

/-- THE SECOND FORM's CARD OF 'damperlaw17.ClearOrders'. -/
def clearOrdersUptoCard : Claim7 := { stood := { row := clearOrdersUptoRow, standIns := [], harness := (true, "7871a420a3627daa55723d502628d1319bae3e736b34ddabf56811ccf1993b0f"), looks := false }, kinds := [], alts := [], laidByText := true, laidKinds := [.data, .data], laidTests := true, laidLooks := .later }
def ClearOrdersUptoCardSaid : Prop := Claim7.holds Tryz.pinned (.plain (OpenSpec.upto clearOrdersSpec)) clearOrdersUptoCard

/-- THE SECOND FORM's CARD OF 'damperlaw17.ClearMost'. -/
def clearMostUptoCard : Claim7 := { stood := { row := clearMostUptoRow, standIns := [], harness := (true, "7871a420a3627daa55723d502628d1319bae3e736b34ddabf56811ccf1993b0f"), looks := false }, kinds := [], alts := [], laidByText := true, laidKinds := [.data, .data], laidTests := true, laidLooks := .later }
def ClearMostUptoCardSaid : Prop := Claim7.holds Tryz.pinned (.plain (OpenSpec.upto clearMostSpec)) clearMostUptoCard

/-- THE SECOND FORM's CARD OF 'damperlaw17.ClearStays'. -/
def clearStaysUptoCard : Claim7 := { stood := { row := clearStaysUptoRow, standIns := [], harness := (true, "7871a420a3627daa55723d502628d1319bae3e736b34ddabf56811ccf1993b0f"), looks := false }, kinds := [], alts := [], laidByText := true, laidKinds := [.data, .data], laidTests := true, laidLooks := .later }
def ClearStaysUptoCardSaid : Prop := Claim7.holds Tryz.pinned (.plain (OpenSpec.upto clearStaysSpec)) clearStaysUptoCard
end Rows
end Go.Proofs.YtohenmnpmgghhaaGreatDoor
