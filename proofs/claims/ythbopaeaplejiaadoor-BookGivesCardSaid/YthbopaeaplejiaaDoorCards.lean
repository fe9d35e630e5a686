/-
  DERIVED. GIVEN WITH THE SEED: THE CARDS: each row of YthbopaeaplejiaaDoorRows.lean that lists a variable, with what it lists TIED to the program's text (the seventh form; the later family's looks); each row that meets fmt, with fmt's text TOLD by the authors' own Lean function (tested against real Go, not proved from fmt's source: count such statements apart). THE CARD IS WHAT COUNTS. Prove the row's statement (the work); the ties are given (YthbopaeaplejiaaDoorTie.lean); close each card by the builder's one call (the guide's Derived/Test/ToyasCard.lean, 'card_holds'). Laid BY PROGRAM, IN A SANDBOX (cutbox-door.mjs). By AI agents, Wed Nov 11 2026. No macro, syntax, notation, axiom, sorry.
-/
import Derived.Test.YthbopaeaplejiaaDoorRows
import GoSem.ClaimSeven
namespace Go.Proofs.YthbopaeaplejiaaDoor
namespace Rows

/-- THE TIED CARD OF 'damperlaw13.BookEach'. -/
def bookEachCard : Claim7 := { stood := { row := bookEachRow, standIns := [], harness := (true, "f6bd497eddc349694c781124ab367064fc40fdc73dcdf6c62dcbbf7ee5855ad1"), looks := false }, kinds := [], alts := [], laidByText := true, laidKinds := [.data, .data], laidTests := true, laidLooks := .later }
def BookEachCardSaid : Prop := Claim7.holds Tryd.pinned (.plain (OpenSpec.ofChange bookEachSpec)) bookEachCard

/-- THE TIED CARD OF 'damperlaw13.BookGives'. -/
def bookGivesCard : Claim7 := { stood := { row := bookGivesRow, standIns := [], harness := (true, "f6bd497eddc349694c781124ab367064fc40fdc73dcdf6c62dcbbf7ee5855ad1"), looks := false }, kinds := [], alts := [], laidByText := true, laidKinds := [.data, .data], laidTests := true, laidLooks := .later }
def BookGivesCardSaid : Prop := Claim7.holds Tryd.pinned (.plain (OpenSpec.ofChange bookGivesSpec)) bookGivesCard

/-- THE TIED CARD OF 'damperlaw13.BookNils'. -/
def bookNilsCard : Claim7 := { stood := { row := bookNilsRow, standIns := [], harness := (true, "f6bd497eddc349694c781124ab367064fc40fdc73dcdf6c62dcbbf7ee5855ad1"), looks := false }, kinds := [], alts := [], laidByText := true, laidKinds := [.data, .data], laidTests := true, laidLooks := .later }
def BookNilsCardSaid : Prop := Claim7.holds Tryd.pinned (.plain (OpenSpec.ofChange bookNilsSpec)) bookNilsCard

/-- THE SECOND FORM's CARD OF 'damperlaw13.BookEach'. -/
def bookEachUptoCard : Claim7 := { stood := { row := bookEachUptoRow, standIns := [], harness := (true, "f6bd497eddc349694c781124ab367064fc40fdc73dcdf6c62dcbbf7ee5855ad1"), looks := false }, kinds := [], alts := [], laidByText := true, laidKinds := [.data, .data], laidTests := true, laidLooks := .later }
def BookEachUptoCardSaid : Prop := Claim7.holds Tryd.pinned (.plain (OpenSpec.upto bookEachSpec)) bookEachUptoCard

/-- THE SECOND FORM's CARD OF 'damperlaw13.BookGives'. -/
def bookGivesUptoCard : Claim7 := { stood := { row := bookGivesUptoRow, standIns := [], harness := (true, "f6bd497eddc349694c781124ab367064fc40fdc73dcdf6c62dcbbf7ee5855ad1"), looks := false }, kinds := [], alts := [], laidByText := true, laidKinds := [.data, .data], laidTests := true, laidLooks := .later }
def BookGivesUptoCardSaid : Prop := Claim7.holds Tryd.pinned (.plain (OpenSpec.upto bookGivesSpec)) bookGivesUptoCard

/-- THE SECOND FORM's CARD OF 'damperlaw13.BookNils'. -/
def bookNilsUptoCard : Claim7 := { stood := { row := bookNilsUptoRow, standIns := [], harness := (true, "f6bd497eddc349694c781124ab367064fc40fdc73dcdf6c62dcbbf7ee5855ad1"), looks := false }, kinds := [], alts := [], laidByText := true, laidKinds := [.data, .data], laidTests := true, laidLooks := .later }
def BookNilsUptoCardSaid : Prop := Claim7.holds Tryd.pinned (.plain (OpenSpec.upto bookNilsSpec)) bookNilsUptoCard
end Rows
end Go.Proofs.YthbopaeaplejiaaDoor
