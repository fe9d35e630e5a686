/-
  DERIVED. GIVEN WITH THE SEED: THE CARDS: each row of YtdpibjnlpdgdeaaDoorRows.lean that lists a variable, with what it lists TIED to the program's text (the seventh form; the later family's looks); each row that meets fmt, with fmt's text TOLD by the authors' own Lean function (tested against real Go, not proved from fmt's source: count such statements apart). THE CARD IS WHAT COUNTS. Prove the row's statement (the work); the ties are given (YtdpibjnlpdgdeaaDoorTie.lean); close each card by the builder's one call (the guide's Derived/Test/ToyasCard.lean, 'card_holds'). Laid BY PROGRAM, IN A SANDBOX (cutbox-door.mjs). By AI agents, Wed Nov 11 2026. No macro, syntax, notation, axiom, sorry.
-/
import Derived.Test.YtdpibjnlpdgdeaaDoorRows
import GoSem.ClaimSeven
namespace Go.Proofs.YtdpibjnlpdgdeaaDoor
namespace Rows

/-- THE TIED CARD OF 'damperlaw14.SweepReaches'. -/
def sweepReachesCard : Claim7 := { stood := { row := sweepReachesRow, standIns := [], harness := (true, "b74332efe8a05047c203474885655d5e052b99dbf6558ac74e985ab057cf9c63"), looks := false }, kinds := [], alts := [], laidByText := true, laidKinds := [.data, .data], laidTests := true, laidLooks := .later }
def SweepReachesCardSaid : Prop := Claim7.holds Tryd.pinned (.plain (OpenSpec.ofChange sweepReachesSpec)) sweepReachesCard

/-- THE TIED CARD OF 'damperlaw14.SweepKeeps'. -/
def sweepKeepsCard : Claim7 := { stood := { row := sweepKeepsRow, standIns := [], harness := (true, "b74332efe8a05047c203474885655d5e052b99dbf6558ac74e985ab057cf9c63"), looks := false }, kinds := [], alts := [], laidByText := true, laidKinds := [.data, .data], laidTests := true, laidLooks := .later }
def SweepKeepsCardSaid : Prop := Claim7.holds Tryd.pinned (.plain (OpenSpec.ofChange sweepKeepsSpec)) sweepKeepsCard

/-- THE SECOND FORM's CARD OF 'damperlaw14.SweepReaches'. -/
def sweepReachesUptoCard : Claim7 := { stood := { row := sweepReachesUptoRow, standIns := [], harness := (true, "b74332efe8a05047c203474885655d5e052b99dbf6558ac74e985ab057cf9c63"), looks := false }, kinds := [], alts := [], laidByText := true, laidKinds := [.data, .data], laidTests := true, laidLooks := .later }
def SweepReachesUptoCardSaid : Prop := Claim7.holds Tryd.pinned (.plain (OpenSpec.upto sweepReachesSpec)) sweepReachesUptoCard

/-- THE SECOND FORM's CARD OF 'damperlaw14.SweepKeeps'. -/
def sweepKeepsUptoCard : Claim7 := { stood := { row := sweepKeepsUptoRow, standIns := [], harness := (true, "b74332efe8a05047c203474885655d5e052b99dbf6558ac74e985ab057cf9c63"), looks := false }, kinds := [], alts := [], laidByText := true, laidKinds := [.data, .data], laidTests := true, laidLooks := .later }
def SweepKeepsUptoCardSaid : Prop := Claim7.holds Tryd.pinned (.plain (OpenSpec.upto sweepKeepsSpec)) sweepKeepsUptoCard
end Rows
end Go.Proofs.YtdpibjnlpdgdeaaDoor
