/-
  DERIVED. GIVEN WITH THE SEED: THE CARDS: each row of YtipmhialflincaaDoorRows.lean that lists a variable, with what it lists TIED to the program's text (the seventh form; the later family's looks); each row that meets fmt, with fmt's text TOLD by the authors' own Lean function (tested against real Go, not proved from fmt's source: count such statements apart). THE CARD IS WHAT COUNTS. Prove the row's statement (the work); the ties are given (YtipmhialflincaaDoorTie.lean); close each card by the builder's one call (the guide's Derived/Test/ToyasCard.lean, 'card_holds'). Laid BY PROGRAM, IN A SANDBOX (cutbox-door.mjs). By AI agents, Wed Nov 11 2026. No macro, syntax, notation, axiom, sorry.
-/
import Derived.Test.YtipmhialflincaaDoorRows
import GoSem.ClaimSeven
namespace Go.Proofs.YtipmhialflincaaDoor
namespace Rows

/-- THE TIED CARD OF 'damperlaw10.FifoPlays'. -/
def fifoPlaysCard : Claim7 := { stood := { row := fifoPlaysRow, standIns := [], harness := (true, "190669446865d220470b9ccc65d5afbc85723ebfc540a3abd58219b17170da17"), looks := false }, kinds := [], alts := [], laidByText := true, laidKinds := [.data, .data], laidTests := true, laidLooks := .later }
def FifoPlaysCardSaid : Prop := Claim7.holds Tryd.pinned (.plain (OpenSpec.ofChange fifoPlaysSpec)) fifoPlaysCard

/-- THE TIED CARD OF 'damperlaw10.FifoEach'. -/
def fifoEachCard : Claim7 := { stood := { row := fifoEachRow, standIns := [], harness := (true, "190669446865d220470b9ccc65d5afbc85723ebfc540a3abd58219b17170da17"), looks := false }, kinds := [], alts := [], laidByText := true, laidKinds := [.data, .data], laidTests := true, laidLooks := .later }
def FifoEachCardSaid : Prop := Claim7.holds Tryd.pinned (.plain (OpenSpec.ofChange fifoEachSpec)) fifoEachCard

/-- THE TIED CARD OF 'damperlaw10.FifoOrder'. -/
def fifoOrderCard : Claim7 := { stood := { row := fifoOrderRow, standIns := [], harness := (true, "190669446865d220470b9ccc65d5afbc85723ebfc540a3abd58219b17170da17"), looks := false }, kinds := [], alts := [], laidByText := true, laidKinds := [.data, .data], laidTests := true, laidLooks := .later }
def FifoOrderCardSaid : Prop := Claim7.holds Tryd.pinned (.plain (OpenSpec.ofChange fifoOrderSpec)) fifoOrderCard

/-- THE TIED CARD OF 'damperlaw10.FifoNils'. -/
def fifoNilsCard : Claim7 := { stood := { row := fifoNilsRow, standIns := [], harness := (true, "190669446865d220470b9ccc65d5afbc85723ebfc540a3abd58219b17170da17"), looks := false }, kinds := [], alts := [], laidByText := true, laidKinds := [.data, .data], laidTests := true, laidLooks := .later }
def FifoNilsCardSaid : Prop := Claim7.holds Tryd.pinned (.plain (OpenSpec.ofChange fifoNilsSpec)) fifoNilsCard

/-- THE SECOND FORM's CARD OF 'damperlaw10.FifoPlays'. -/
def fifoPlaysUptoCard : Claim7 := { stood := { row := fifoPlaysUptoRow, standIns := [], harness := (true, "190669446865d220470b9ccc65d5afbc85723ebfc540a3abd58219b17170da17"), looks := false }, kinds := [], alts := [], laidByText := true, laidKinds := [.data, .data], laidTests := true, laidLooks := .later }
def FifoPlaysUptoCardSaid : Prop := Claim7.holds Tryd.pinned (.plain (OpenSpec.upto fifoPlaysSpec)) fifoPlaysUptoCard

/-- THE SECOND FORM's CARD OF 'damperlaw10.FifoEach'. -/
def fifoEachUptoCard : Claim7 := { stood := { row := fifoEachUptoRow, standIns := [], harness := (true, "190669446865d220470b9ccc65d5afbc85723ebfc540a3abd58219b17170da17"), looks := false }, kinds := [], alts := [], laidByText := true, laidKinds := [.data, .data], laidTests := true, laidLooks := .later }
def FifoEachUptoCardSaid : Prop := Claim7.holds Tryd.pinned (.plain (OpenSpec.upto fifoEachSpec)) fifoEachUptoCard

/-- THE SECOND FORM's CARD OF 'damperlaw10.FifoOrder'. -/
def fifoOrderUptoCard : Claim7 := { stood := { row := fifoOrderUptoRow, standIns := [], harness := (true, "190669446865d220470b9ccc65d5afbc85723ebfc540a3abd58219b17170da17"), looks := false }, kinds := [], alts := [], laidByText := true, laidKinds := [.data, .data], laidTests := true, laidLooks := .later }
def FifoOrderUptoCardSaid : Prop := Claim7.holds Tryd.pinned (.plain (OpenSpec.upto fifoOrderSpec)) fifoOrderUptoCard

/-- THE SECOND FORM's CARD OF 'damperlaw10.FifoNils'. -/
def fifoNilsUptoCard : Claim7 := { stood := { row := fifoNilsUptoRow, standIns := [], harness := (true, "190669446865d220470b9ccc65d5afbc85723ebfc540a3abd58219b17170da17"), looks := false }, kinds := [], alts := [], laidByText := true, laidKinds := [.data, .data], laidTests := true, laidLooks := .later }
def FifoNilsUptoCardSaid : Prop := Claim7.holds Tryd.pinned (.plain (OpenSpec.upto fifoNilsSpec)) fifoNilsUptoCard
end Rows
end Go.Proofs.YtipmhialflincaaDoor
