/-
  NARROWER THAN 'FOR EVERY INPUT', by the rows' own cells (each row's printed sentence says how): AllotPairs: laid · AllotTotal: laid · AllotFair: laid.
  DERIVED. THE GIVEN ROWS OF THIS SEAT. 3 by the template 'for every input the law returns true; each argument reads behind the call as it read before'; 0 by the template 'total and deterministic' (their statements: YtdmjcjheanedgaaDoorTotals.lean).
  GIVEN WITH THE SEED: the statements are not yours to turn. If you find one false, say at which input.
  Laid BY PROGRAM, IN A SANDBOX (cutbox-rows.mjs): the forced cells as the released guide's own fill.sh prints them over the translation 4e5d5e9e3d19cfa6… (all of the seat's roots in one cut). By AI agents, Wed Nov 11 2026. No macro, syntax, notation, axiom, sorry.
-/
import Derived.Test.YtdmjcjheanedgaaDoorChecked
import GoSem.Claim
import GoSem.ClaimJoined
import GoSem.ClaimMapViews
import Derived.JoinedTies
import Derived.KernelRfl
namespace Go.Proofs.YtdmjcjheanedgaaDoor
/- THE CELL 'sum', in the pinned program and in every row, IS THE sha256 OF THE DUMP (.gsa) THAT YtdmjcjheanedgaaDoorProg.lean LOADS. Nothing in Lean hashes anything: it is a label: what it is worth is what the hold of that sum in a sandbox is worth. -/
noncomputable def Tryd.pinned : Pinned := { name := "ytdmjcjheanedgaadoor", sum := "4e5d5e9e3d19cfa6d1bb8590ff7f9f2b3a9451b741e720a486325b86d5bc6446", checked := Tryd.checked }
namespace Rows
def none {H : Type} : Left H := { results := [], args := [] }

/- WHAT THE LISTED PACKAGE-LEVEL VARIABLES READ AS WHEN THE CALL BEGINS. Each datum BY PROGRAM (the guide's laid-datum.mjs) off the statement by which the dump's own 'gosem.cut.vars' lays the variable. In a bare row this is a premise. The card (YtdmjcjheanedgaaDoorCards.lean) ties it to the program's text. -/
def laid_damper_fifo_loose {H : Type} : DataW H := .agg [.lit (.int .i64 (-1)), .lit (.int .i64 (-1)), .lit (.int .i64 (-1))]
def laid_damper_fifo_empty {H : Type} : DataW H := .agg [.lit (.int .i64 (-1)), .lit (.int .i64 (-1))]

/-- 'damperlaw18.AllotPairs': WHATEVER THE INPUT: true; the input reads as it did. -/
def allotPairsSpec : ChangeSpec := { name := "allotPairs", fn := fun _ => fun
  | [d1, d2] => { results := [.lit (.bool true)], args := [d1, d2] }
  | _ => none }
def allotPairsRow : OpenClaim := { program := "ytdmjcjheanedgaadoor", sum := "4e5d5e9e3d19cfa6d1bb8590ff7f9f2b3a9451b741e720a486325b86d5bc6446", func := "damper/damperlaw18.AllotPairs", spec := "allotPairs", inPlace := ["slices.overlaps[damper/ladder.Level]"], unfollowed := true, recurses := true, named := ["damper/fifo.loose", "damper/fifo.empty"], plainKeys := false, apart := false, laid := [("damper/fifo.loose", laid_damper_fifo_loose), ("damper/fifo.empty", laid_damper_fifo_empty)] }
def AllotPairsSaid : Prop := allotPairsRow.holds Tryd.pinned (OpenSpec.ofChange allotPairsSpec)

/-- ITS FALSE NEIGHBOUR: 'it returns false'. Refute it at one input. -/
def allotPairsWrong : ChangeSpec := { name := "allotPairs", fn := fun _ => fun
  | [d1, d2] => { results := [.lit (.bool false)], args := [d1, d2] }
  | _ => none }
def AllotPairsWrongFalsely : Prop := allotPairsRow.holds Tryd.pinned (OpenSpec.ofChange allotPairsWrong)

/-- 'damperlaw18.AllotTotal': WHATEVER THE INPUT: true; the input reads as it did. -/
def allotTotalSpec : ChangeSpec := { name := "allotTotal", fn := fun _ => fun
  | [d1, d2] => { results := [.lit (.bool true)], args := [d1, d2] }
  | _ => none }
def allotTotalRow : OpenClaim := { program := "ytdmjcjheanedgaadoor", sum := "4e5d5e9e3d19cfa6d1bb8590ff7f9f2b3a9451b741e720a486325b86d5bc6446", func := "damper/damperlaw18.AllotTotal", spec := "allotTotal", inPlace := ["slices.overlaps[damper/ladder.Level]"], unfollowed := true, recurses := true, named := ["damper/fifo.loose", "damper/fifo.empty"], plainKeys := false, apart := false, laid := [("damper/fifo.loose", laid_damper_fifo_loose), ("damper/fifo.empty", laid_damper_fifo_empty)] }
def AllotTotalSaid : Prop := allotTotalRow.holds Tryd.pinned (OpenSpec.ofChange allotTotalSpec)

/-- ITS FALSE NEIGHBOUR: 'it returns false'. Refute it at one input. -/
def allotTotalWrong : ChangeSpec := { name := "allotTotal", fn := fun _ => fun
  | [d1, d2] => { results := [.lit (.bool false)], args := [d1, d2] }
  | _ => none }
def AllotTotalWrongFalsely : Prop := allotTotalRow.holds Tryd.pinned (OpenSpec.ofChange allotTotalWrong)

/-- 'damperlaw18.AllotFair': WHATEVER THE INPUT: true; the input reads as it did. -/
def allotFairSpec : ChangeSpec := { name := "allotFair", fn := fun _ => fun
  | [d1, d2] => { results := [.lit (.bool true)], args := [d1, d2] }
  | _ => none }
def allotFairRow : OpenClaim := { program := "ytdmjcjheanedgaadoor", sum := "4e5d5e9e3d19cfa6d1bb8590ff7f9f2b3a9451b741e720a486325b86d5bc6446", func := "damper/damperlaw18.AllotFair", spec := "allotFair", inPlace := ["slices.overlaps[damper/ladder.Level]"], unfollowed := true, recurses := true, named := ["damper/fifo.loose", "damper/fifo.empty"], plainKeys := false, apart := false, laid := [("damper/fifo.loose", laid_damper_fifo_loose), ("damper/fifo.empty", laid_damper_fifo_empty)] }
def AllotFairSaid : Prop := allotFairRow.holds Tryd.pinned (OpenSpec.ofChange allotFairSpec)

/-- ITS FALSE NEIGHBOUR: 'it returns false'. Refute it at one input. -/
def allotFairWrong : ChangeSpec := { name := "allotFair", fn := fun _ => fun
  | [d1, d2] => { results := [.lit (.bool false)], args := [d1, d2] }
  | _ => none }
def AllotFairWrongFalsely : Prop := allotFairRow.holds Tryd.pinned (OpenSpec.ofChange allotFairWrong)

/- THE SECOND FORM. 'bulk': how many values and letters a reading holds, each counted each time it is reached (what is shared counts as often as it is met; a slice's spare places count too). A statement '..UptoSaid' is the law's where the arguments, and the package variables that the reading takes, are together of bulk at most 1048576: NARROWER than '..Said'. Prove '..Said' where nothing that the law and all that it calls make is longer than what came in: it says more and counts as full. Else prove '..UptoSaid'. A law counts once. -/
mutual
def uptoBulk {H : Type} : DataW H → Nat
  | .lit (.string bytes) => bytes.length + 1
  | .lit _ => 1
  | .nil => 1
  | .ptr d => uptoBulk d + 1
  | .slice elems spare => uptoBulkAll elems + uptoBulkAll spare + 1
  | .agg parts => uptoBulkAll parts + 1
  | .iface _ d => uptoBulk d + 1
  | .map entries => uptoBulkEntries entries + 1
  | .held _ => 1
def uptoBulkAll {H : Type} : List (DataW H) → Nat
  | [] => 0
  | d :: r => uptoBulk d + uptoBulkAll r
def uptoBulkEntries {H : Type} : List (Lit × DataW H) → Nat
  | [] => 0
  | x :: r => uptoBulkEntry x + uptoBulkEntries r
def uptoBulkEntry {H : Type} : Lit × DataW H → Nat
  | (.string bytes, d) => bytes.length + uptoBulk d + 1
  | (_, d) => uptoBulk d + 1
 end
def uptoSmall : (H : Type) → List (DataW H) → Bool := fun _ ds => decide (uptoBulkAll ds ≤ 1048576)
def OpenSpec.upto (s : _root_.Go.ChangeSpec) : _root_.Go.OpenSpec := { _root_.Go.OpenSpec.ofChange s with cond := some uptoSmall }

/-- 'damperlaw18.AllotPairs', WHERE WHAT IT READS IS OF BULK AT MOST 1048576: true; the input reads as it did. -/
def allotPairsUptoRow : OpenClaim := { program := "ytdmjcjheanedgaadoor", sum := "4e5d5e9e3d19cfa6d1bb8590ff7f9f2b3a9451b741e720a486325b86d5bc6446", func := "damper/damperlaw18.AllotPairs", spec := "allotPairs", inPlace := ["slices.overlaps[damper/ladder.Level]"], unfollowed := true, recurses := true, named := ["damper/fifo.loose", "damper/fifo.empty"], plainKeys := false, apart := false, laid := [("damper/fifo.loose", laid_damper_fifo_loose), ("damper/fifo.empty", laid_damper_fifo_empty)], narrowed := true }
def AllotPairsUptoSaid : Prop := allotPairsUptoRow.holds Tryd.pinned (OpenSpec.upto allotPairsSpec)

/-- 'damperlaw18.AllotTotal', WHERE WHAT IT READS IS OF BULK AT MOST 1048576: true; the input reads as it did. -/
def allotTotalUptoRow : OpenClaim := { program := "ytdmjcjheanedgaadoor", sum := "4e5d5e9e3d19cfa6d1bb8590ff7f9f2b3a9451b741e720a486325b86d5bc6446", func := "damper/damperlaw18.AllotTotal", spec := "allotTotal", inPlace := ["slices.overlaps[damper/ladder.Level]"], unfollowed := true, recurses := true, named := ["damper/fifo.loose", "damper/fifo.empty"], plainKeys := false, apart := false, laid := [("damper/fifo.loose", laid_damper_fifo_loose), ("damper/fifo.empty", laid_damper_fifo_empty)], narrowed := true }
def AllotTotalUptoSaid : Prop := allotTotalUptoRow.holds Tryd.pinned (OpenSpec.upto allotTotalSpec)

/-- 'damperlaw18.AllotFair', WHERE WHAT IT READS IS OF BULK AT MOST 1048576: true; the input reads as it did. -/
def allotFairUptoRow : OpenClaim := { program := "ytdmjcjheanedgaadoor", sum := "4e5d5e9e3d19cfa6d1bb8590ff7f9f2b3a9451b741e720a486325b86d5bc6446", func := "damper/damperlaw18.AllotFair", spec := "allotFair", inPlace := ["slices.overlaps[damper/ladder.Level]"], unfollowed := true, recurses := true, named := ["damper/fifo.loose", "damper/fifo.empty"], plainKeys := false, apart := false, laid := [("damper/fifo.loose", laid_damper_fifo_loose), ("damper/fifo.empty", laid_damper_fifo_empty)], narrowed := true }
def AllotFairUptoSaid : Prop := allotFairUptoRow.holds Tryd.pinned (OpenSpec.upto allotFairSpec)

end Rows
end Go.Proofs.YtdmjcjheanedgaaDoor
