/-
  NARROWER THAN 'FOR EVERY INPUT', by the rows' own cells (each row's printed sentence says how): CurveAts: laid · CurvePoints: laid · CurveNumbers: laid · CurveTurns: laid.
  DERIVED. THE GIVEN ROWS OF THIS SEAT. 4 by the template 'for every input the law returns true; each argument reads behind the call as it read before'; 0 by the template 'total and deterministic' (their statements: YtpadjlhleaboaaaGreatDoorTotals.lean).
  GIVEN WITH THE SEED: the statements are not yours to turn. If you find one false, say at which input.
  Laid BY PROGRAM, IN A SANDBOX (cutbox-rows.mjs): the forced cells as the released guide's own fill.sh prints them over the translation 7a03b5feec812716… (all of the seat's roots in one cut). By AI agents, Wed Nov 11 2026. No macro, syntax, notation, axiom, sorry.
-/
import Derived.Test.YtpadjlhleaboaaaGreatDoorChecked
import GoSem.Claim
import GoSem.ClaimJoined
import GoSem.ClaimMapViews
import Derived.JoinedTies
import Derived.KernelRfl
namespace Go.Proofs.YtpadjlhleaboaaaGreatDoor
/- THE CELL 'sum', in the pinned program and in every row, IS THE sha256 OF THE DUMP (.gsa) THAT YtpadjlhleaboaaaGreatDoorProg.lean LOADS. Nothing in Lean hashes anything: it is a label: what it is worth is what the hold of that sum in a sandbox is worth. -/
noncomputable def Tryz.pinned : Pinned := { name := "ytpadjlhleaboaaagreatdoor", sum := "7a03b5feec812716a3c72928acd05efb006ac314394479a649c9971c801785cc", checked := Tryz.checked }
namespace Rows
def none {H : Type} : Left H := { results := [], args := [] }

/- WHAT THE LISTED PACKAGE-LEVEL VARIABLES READ AS WHEN THE CALL BEGINS. Each datum BY PROGRAM (the guide's laid-datum.mjs) off the statement by which the dump's own 'gosem.cut.vars' lays the variable. In a bare row this is a premise. The card (YtpadjlhleaboaaaGreatDoorCards.lean) ties it to the program's text. -/
def laid_damper_fifo_loose {H : Type} : DataW H := .agg [.lit (.int .i64 (-1)), .lit (.int .i64 (-1)), .lit (.int .i64 (-1))]
def laid_damper_fifo_empty {H : Type} : DataW H := .agg [.lit (.int .i64 (-1)), .lit (.int .i64 (-1))]

/-- 'damperlaw16.CurveAts': WHATEVER THE INPUT: true; the input reads as it did. -/
def curveAtsSpec : ChangeSpec := { name := "curveAts", fn := fun _ => fun
  | [d1, d2, d3, d4] => { results := [.lit (.bool true)], args := [d1, d2, d3, d4] }
  | _ => none }
def curveAtsRow : OpenClaim := { program := "ytpadjlhleaboaaagreatdoor", sum := "7a03b5feec812716a3c72928acd05efb006ac314394479a649c9971c801785cc", func := "damper/damperlaw16.CurveAts", spec := "curveAts", inPlace := ["slices.overlaps[damper/ladder.Level]"], unfollowed := true, recurses := true, named := ["damper/fifo.loose", "damper/fifo.empty"], plainKeys := false, apart := false, laid := [("damper/fifo.loose", laid_damper_fifo_loose), ("damper/fifo.empty", laid_damper_fifo_empty)] }
def CurveAtsSaid : Prop := curveAtsRow.holds Tryz.pinned (OpenSpec.ofChange curveAtsSpec)

/-- ITS FALSE NEIGHBOUR: 'it returns false'. Refute it at one input. -/
def curveAtsWrong : ChangeSpec := { name := "curveAts", fn := fun _ => fun
  | [d1, d2, d3, d4] => { results := [.lit (.bool false)], args := [d1, d2, d3, d4] }
  | _ => none }
def CurveAtsWrongFalsely : Prop := curveAtsRow.holds Tryz.pinned (OpenSpec.ofChange curveAtsWrong)

/-- 'damperlaw16.CurvePoints': WHATEVER THE INPUT: true; the input reads as it did. -/
def curvePointsSpec : ChangeSpec := { name := "curvePoints", fn := fun _ => fun
  | [d1, d2] => { results := [.lit (.bool true)], args := [d1, d2] }
  | _ => none }
def curvePointsRow : OpenClaim := { program := "ytpadjlhleaboaaagreatdoor", sum := "7a03b5feec812716a3c72928acd05efb006ac314394479a649c9971c801785cc", func := "damper/damperlaw16.CurvePoints", spec := "curvePoints", inPlace := ["slices.overlaps[damper/ladder.Level]"], unfollowed := true, recurses := true, named := ["damper/fifo.loose", "damper/fifo.empty"], plainKeys := false, apart := false, laid := [("damper/fifo.loose", laid_damper_fifo_loose), ("damper/fifo.empty", laid_damper_fifo_empty)] }
def CurvePointsSaid : Prop := curvePointsRow.holds Tryz.pinned (OpenSpec.ofChange curvePointsSpec)

/-- ITS FALSE NEIGHBOUR: 'it returns false'. Refute it at one input. -/
def curvePointsWrong : ChangeSpec := { name := "curvePoints", fn := fun _ => fun
  | [d1, d2] => { results := [.lit (.bool false)], args := [d1, d2] }
  | _ => none }
def CurvePointsWrongFalsely : Prop := curvePointsRow.holds Tryz.pinned (OpenSpec.ofChange curvePointsWrong)

/-- 'damperlaw16.CurveNumbers': WHATEVER THE INPUT: true; the input reads as it did. -/
def curveNumbersSpec : ChangeSpec := { name := "curveNumbers", fn := fun _ => fun
  | [d1, d2, d3] => { results := [.lit (.bool true)], args := [d1, d2, d3] }
  | _ => none }
def curveNumbersRow : OpenClaim := { program := "ytpadjlhleaboaaagreatdoor", sum := "7a03b5feec812716a3c72928acd05efb006ac314394479a649c9971c801785cc", func := "damper/damperlaw16.CurveNumbers", spec := "curveNumbers", inPlace := ["slices.overlaps[damper/ladder.Level]"], unfollowed := true, recurses := true, named := ["damper/fifo.loose", "damper/fifo.empty"], plainKeys := false, apart := false, laid := [("damper/fifo.loose", laid_damper_fifo_loose), ("damper/fifo.empty", laid_damper_fifo_empty)] }
def CurveNumbersSaid : Prop := curveNumbersRow.holds Tryz.pinned (OpenSpec.ofChange curveNumbersSpec)

/-- ITS FALSE NEIGHBOUR: 'it returns false'. Refute it at one input. -/
def curveNumbersWrong : ChangeSpec := { name := "curveNumbers", fn := fun _ => fun
  | [d1, d2, d3] => { results := [.lit (.bool false)], args := [d1, d2, d3] }
  | _ => none }
def CurveNumbersWrongFalsely : Prop := curveNumbersRow.holds Tryz.pinned (OpenSpec.ofChange curveNumbersWrong)

/-- 'damperlaw16.CurveTurns': WHATEVER THE INPUT: true; the input reads as it did. -/
def curveTurnsSpec : ChangeSpec := { name := "curveTurns", fn := fun _ => fun
  | [d1, d2, d3] => { results := [.lit (.bool true)], args := [d1, d2, d3] }
  | _ => none }
def curveTurnsRow : OpenClaim := { program := "ytpadjlhleaboaaagreatdoor", sum := "7a03b5feec812716a3c72928acd05efb006ac314394479a649c9971c801785cc", func := "damper/damperlaw16.CurveTurns", spec := "curveTurns", inPlace := ["slices.overlaps[damper/ladder.Level]"], unfollowed := true, recurses := true, named := ["damper/fifo.loose", "damper/fifo.empty"], plainKeys := false, apart := false, laid := [("damper/fifo.loose", laid_damper_fifo_loose), ("damper/fifo.empty", laid_damper_fifo_empty)] }
def CurveTurnsSaid : Prop := curveTurnsRow.holds Tryz.pinned (OpenSpec.ofChange curveTurnsSpec)

/-- ITS FALSE NEIGHBOUR: 'it returns false'. Refute it at one input. -/
def curveTurnsWrong : ChangeSpec := { name := "curveTurns", fn := fun _ => fun
  | [d1, d2, d3] => { results := [.lit (.bool false)], args := [d1, d2, d3] }
  | _ => none }
def CurveTurnsWrongFalsely : Prop := curveTurnsRow.holds Tryz.pinned (OpenSpec.ofChange curveTurnsWrong)

/- THE SECOND FORM. 'bulk': how many values and letters a reading holds, each counted each time it is reached (what is shared counts as often as it is met; a slice's spare places count too). A statement '..UptoSaid' is the law's where the arguments, and the package variables that the reading takes, are together of bulk at most 1048576: NARROWER than '..Said'. Prove '..Said' where nothing that the law and all that it calls make is longer than what came in: it says more and counts as full. Else prove '..UptoSaid'. A law counts once. -/
mutual
def uptoBulk {H : Type} : DataW H → Nat
  | .lit (.string bytes) => bytes.length + 1
  | .lit _ => 1
  | .nil => 1
  | .ptr d => uptoBulk d + 1
  | .slice elems spare => uptoBulkAll elems + uptoBulkAll spare + 1
  | .agg parts => uptoBulkAll parts + 1
  | .iface _ d => uptoBulk d + 1
  | .map entries => uptoBulkEntries entries + 1
  | .held _ => 1
def uptoBulkAll {H : Type} : List (DataW H) → Nat
  | [] => 0
  | d :: r => uptoBulk d + uptoBulkAll r
def uptoBulkEntries {H : Type} : List (Lit × DataW H) → Nat
  | [] => 0
  | x :: r => uptoBulkEntry x + uptoBulkEntries r
def uptoBulkEntry {H : Type} : Lit × DataW H → Nat
  | (.string bytes, d) => bytes.length + uptoBulk d + 1
  | (_, d) => uptoBulk d + 1
 end
def uptoSmall : (H : Type) → List (DataW H) → Bool := fun _ ds => decide (uptoBulkAll ds ≤ 1048576)
def OpenSpec.upto (s : _root_.Go.ChangeSpec) : _root_.Go.OpenSpec := { _root_.Go.OpenSpec.ofChange s with cond := some uptoSmall }

/-- 'damperlaw16.CurveAts', WHERE WHAT IT READS IS OF BULK AT MOST 1048576: true; the input reads as it did. -/
def curveAtsUptoRow : OpenClaim := { program := "ytpadjlhleaboaaagreatdoor", sum := "7a03b5feec812716a3c72928acd05efb006ac314394479a649c9971c801785cc", func := "damper/damperlaw16.CurveAts", spec := "curveAts", inPlace := ["slices.overlaps[damper/ladder.Level]"], unfollowed := true, recurses := true, named := ["damper/fifo.loose", "damper/fifo.empty"], plainKeys := false, apart := false, laid := [("damper/fifo.loose", laid_damper_fifo_loose), ("damper/fifo.empty", laid_damper_fifo_empty)], narrowed := true }
def CurveAtsUptoSaid : Prop := curveAtsUptoRow.holds Tryz.pinned (OpenSpec.upto curveAtsSpec)

/-- 'damperlaw16.CurvePoints', WHERE WHAT IT READS IS OF BULK AT MOST 1048576: true; the input reads as it did. -/
def curvePointsUptoRow : OpenClaim := { program := "ytpadjlhleaboaaagreatdoor", sum := "7a03b5feec812716a3c72928acd05efb006ac314394479a649c9971c801785cc", func := "damper/damperlaw16.CurvePoints", spec := "curvePoints", inPlace := ["slices.overlaps[damper/ladder.Level]"], unfollowed := true, recurses := true, named := ["damper/fifo.loose", "damper/fifo.empty"], plainKeys := false, apart := false, laid := [("damper/fifo.loose", laid_damper_fifo_loose), ("damper/fifo.empty", laid_damper_fifo_empty)], narrowed := true }
def CurvePointsUptoSaid : Prop := curvePointsUptoRow.holds Tryz.pinned (OpenSpec.upto curvePointsSpec)

/-- 'damperlaw16.CurveNumbers', WHERE WHAT IT READS IS OF BULK AT MOST 1048576: true; the input reads as it did. -/
def curveNumbersUptoRow : OpenClaim := { program := "ytpadjlhleaboaaagreatdoor", sum := "7a03b5feec812716a3c72928acd05efb006ac314394479a649c9971c801785cc", func := "damper/damperlaw16.CurveNumbers", spec := "curveNumbers", inPlace := ["slices.overlaps[damper/ladder.Level]"], unfollowed := true, recurses := true, named := ["damper/fifo.loose", "damper/fifo.empty"], plainKeys := false, apart := false, laid := [("damper/fifo.loose", laid_damper_fifo_loose), ("damper/fifo.empty", laid_damper_fifo_empty)], narrowed := true }
def CurveNumbersUptoSaid : Prop := curveNumbersUptoRow.holds Tryz.pinned (OpenSpec.upto curveNumbersSpec)

/-- 'damperlaw16.CurveTurns', WHERE WHAT IT READS IS OF BULK AT MOST 1048576: true; the input reads as it did. -/
def curveTurnsUptoRow : OpenClaim := { program := "ytpadjlhleaboaaagreatdoor", sum := "7a03b5feec812716a3c72928acd05efb006ac314394479a649c9971c801785cc", func := "damper/damperlaw16.CurveTurns", spec := "curveTurns", inPlace := ["slices.overlaps[damper/ladder.Level]"], unfollowed := true, recurses := true, named := ["damper/fifo.loose", "damper/fifo.empty"], plainKeys := false, apart := false, laid := [("damper/fifo.loose", laid_damper_fifo_loose), ("damper/fifo.empty", laid_damper_fifo_empty)], narrowed := true }
def CurveTurnsUptoSaid : Prop := curveTurnsUptoRow.holds Tryz.pinned (OpenSpec.upto curveTurnsSpec)

end Rows
end Go.Proofs.YtpadjlhleaboaaaGreatDoor
