/-
  NARROWER THAN 'FOR EVERY INPUT', by the rows' own cells (each row's printed sentence says how): FifoPlays: laid · FifoEach: laid · FifoOrder: laid · FifoNils: laid.
  DERIVED. THE GIVEN ROWS OF THIS SEAT. 4 by the template 'for every input the law returns true; each argument reads behind the call as it read before'; 0 by the template 'total and deterministic' (their statements: YtipmhialflincaaDoorTotals.lean).
  GIVEN WITH THE SEED: the statements are not yours to turn. If you find one false, say at which input.
  Laid BY PROGRAM, IN A SANDBOX (cutbox-rows.mjs): the forced cells as the released guide's own fill.sh prints them over the translation 8b87f6a5f84a1706… (all of the seat's roots in one cut). By AI agents, Wed Nov 11 2026. No macro, syntax, notation, axiom, sorry.
-/
import Derived.Test.YtipmhialflincaaDoorChecked
import GoSem.Claim
import GoSem.ClaimJoined
import GoSem.ClaimMapViews
import Derived.JoinedTies
import Derived.KernelRfl
namespace Go.Proofs.YtipmhialflincaaDoor
/- THE CELL 'sum', in the pinned program and in every row, IS THE sha256 OF THE DUMP (.gsa) THAT YtipmhialflincaaDoorProg.lean LOADS. Nothing in Lean hashes anything: it is a label: what it is worth is what the hold of that sum in a sandbox is worth. -/
noncomputable def Tryd.pinned : Pinned := { name := "ytipmhialflincaadoor", sum := "8b87f6a5f84a17064699d56b94f39f18b9fdd5153a8c440ac90553722485c414", checked := Tryd.checked }
namespace Rows
def none {H : Type} : Left H := { results := [], args := [] }

/- WHAT THE LISTED PACKAGE-LEVEL VARIABLES READ AS WHEN THE CALL BEGINS. Each datum BY PROGRAM (the guide's laid-datum.mjs) off the statement by which the dump's own 'gosem.cut.vars' lays the variable. In a bare row this is a premise. The card (YtipmhialflincaaDoorCards.lean) ties it to the program's text. -/
def laid_damper_fifo_loose {H : Type} : DataW H := .agg [.lit (.int .i64 (-1)), .lit (.int .i64 (-1)), .lit (.int .i64 (-1))]
def laid_damper_fifo_empty {H : Type} : DataW H := .agg [.lit (.int .i64 (-1)), .lit (.int .i64 (-1))]

/-- 'damperlaw10.FifoPlays': WHATEVER THE INPUT: true; the input reads as it did. -/
def fifoPlaysSpec : ChangeSpec := { name := "fifoPlays", fn := fun _ => fun
  | [d1, d2, d3] => { results := [.lit (.bool true)], args := [d1, d2, d3] }
  | _ => none }
def fifoPlaysRow : OpenClaim := { program := "ytipmhialflincaadoor", sum := "8b87f6a5f84a17064699d56b94f39f18b9fdd5153a8c440ac90553722485c414", func := "damper/damperlaw10.FifoPlays", spec := "fifoPlays", named := ["damper/fifo.loose", "damper/fifo.empty"], apart := false, laid := [("damper/fifo.loose", laid_damper_fifo_loose), ("damper/fifo.empty", laid_damper_fifo_empty)] }
def FifoPlaysSaid : Prop := fifoPlaysRow.holds Tryd.pinned (OpenSpec.ofChange fifoPlaysSpec)

/-- ITS FALSE NEIGHBOUR: 'it returns false'. Refute it at one input. -/
def fifoPlaysWrong : ChangeSpec := { name := "fifoPlays", fn := fun _ => fun
  | [d1, d2, d3] => { results := [.lit (.bool false)], args := [d1, d2, d3] }
  | _ => none }
def FifoPlaysWrongFalsely : Prop := fifoPlaysRow.holds Tryd.pinned (OpenSpec.ofChange fifoPlaysWrong)

/-- 'damperlaw10.FifoEach': WHATEVER THE INPUT: true; the input reads as it did. -/
def fifoEachSpec : ChangeSpec := { name := "fifoEach", fn := fun _ => fun
  | [d1, d2, d3, d4, d5] => { results := [.lit (.bool true)], args := [d1, d2, d3, d4, d5] }
  | _ => none }
def fifoEachRow : OpenClaim := { program := "ytipmhialflincaadoor", sum := "8b87f6a5f84a17064699d56b94f39f18b9fdd5153a8c440ac90553722485c414", func := "damper/damperlaw10.FifoEach", spec := "fifoEach", unfollowed := true, recurses := true, named := ["damper/fifo.loose", "damper/fifo.empty"], apart := false, laid := [("damper/fifo.loose", laid_damper_fifo_loose), ("damper/fifo.empty", laid_damper_fifo_empty)] }
def FifoEachSaid : Prop := fifoEachRow.holds Tryd.pinned (OpenSpec.ofChange fifoEachSpec)

/-- ITS FALSE NEIGHBOUR: 'it returns false'. Refute it at one input. -/
def fifoEachWrong : ChangeSpec := { name := "fifoEach", fn := fun _ => fun
  | [d1, d2, d3, d4, d5] => { results := [.lit (.bool false)], args := [d1, d2, d3, d4, d5] }
  | _ => none }
def FifoEachWrongFalsely : Prop := fifoEachRow.holds Tryd.pinned (OpenSpec.ofChange fifoEachWrong)

/-- 'damperlaw10.FifoOrder': WHATEVER THE INPUT: true; the input reads as it did. -/
def fifoOrderSpec : ChangeSpec := { name := "fifoOrder", fn := fun _ => fun
  | [d1, d2] => { results := [.lit (.bool true)], args := [d1, d2] }
  | _ => none }
def fifoOrderRow : OpenClaim := { program := "ytipmhialflincaadoor", sum := "8b87f6a5f84a17064699d56b94f39f18b9fdd5153a8c440ac90553722485c414", func := "damper/damperlaw10.FifoOrder", spec := "fifoOrder", named := ["damper/fifo.loose", "damper/fifo.empty"], apart := false, laid := [("damper/fifo.loose", laid_damper_fifo_loose), ("damper/fifo.empty", laid_damper_fifo_empty)] }
def FifoOrderSaid : Prop := fifoOrderRow.holds Tryd.pinned (OpenSpec.ofChange fifoOrderSpec)

/-- ITS FALSE NEIGHBOUR: 'it returns false'. Refute it at one input. -/
def fifoOrderWrong : ChangeSpec := { name := "fifoOrder", fn := fun _ => fun
  | [d1, d2] => { results := [.lit (.bool false)], args := [d1, d2] }
  | _ => none }
def FifoOrderWrongFalsely : Prop := fifoOrderRow.holds Tryd.pinned (OpenSpec.ofChange fifoOrderWrong)

/-- 'damperlaw10.FifoNils': WHATEVER THE INPUT: true; the input reads as it did. -/
def fifoNilsSpec : ChangeSpec := { name := "fifoNils", fn := fun _ => fun
  | [d1, d2] => { results := [.lit (.bool true)], args := [d1, d2] }
  | _ => none }
def fifoNilsRow : OpenClaim := { program := "ytipmhialflincaadoor", sum := "8b87f6a5f84a17064699d56b94f39f18b9fdd5153a8c440ac90553722485c414", func := "damper/damperlaw10.FifoNils", spec := "fifoNils", unfollowed := true, recurses := true, named := ["damper/fifo.loose", "damper/fifo.empty"], apart := false, laid := [("damper/fifo.loose", laid_damper_fifo_loose), ("damper/fifo.empty", laid_damper_fifo_empty)] }
def FifoNilsSaid : Prop := fifoNilsRow.holds Tryd.pinned (OpenSpec.ofChange fifoNilsSpec)

/-- ITS FALSE NEIGHBOUR: 'it returns false'. Refute it at one input. -/
def fifoNilsWrong : ChangeSpec := { name := "fifoNils", fn := fun _ => fun
  | [d1, d2] => { results := [.lit (.bool false)], args := [d1, d2] }
  | _ => none }
def FifoNilsWrongFalsely : Prop := fifoNilsRow.holds Tryd.pinned (OpenSpec.ofChange fifoNilsWrong)

/- THE SECOND FORM. 'bulk': how many values and letters a reading holds, each counted each time it is reached (what is shared counts as often as it is met; a slice's spare places count too). A statement '..UptoSaid' is the law's where the arguments, and the package variables that the reading takes, are together of bulk at most 1048576: NARROWER than '..Said'. Prove '..Said' where nothing that the law and all that it calls make is longer than what came in: it says more and counts as full. Else prove '..UptoSaid'. A law counts once. -/
mutual
def uptoBulk {H : Type} : DataW H → Nat
  | .lit (.string bytes) => bytes.length + 1
  | .lit _ => 1
  | .nil => 1
  | .ptr d => uptoBulk d + 1
  | .slice elems spare => uptoBulkAll elems + uptoBulkAll spare + 1
  | .agg parts => uptoBulkAll parts + 1
  | .iface _ d => uptoBulk d + 1
  | .map entries => uptoBulkEntries entries + 1
  | .held _ => 1
def uptoBulkAll {H : Type} : List (DataW H) → Nat
  | [] => 0
  | d :: r => uptoBulk d + uptoBulkAll r
def uptoBulkEntries {H : Type} : List (Lit × DataW H) → Nat
  | [] => 0
  | x :: r => uptoBulkEntry x + uptoBulkEntries r
def uptoBulkEntry {H : Type} : Lit × DataW H → Nat
  | (.string bytes, d) => bytes.length + uptoBulk d + 1
  | (_, d) => uptoBulk d + 1
 end
def uptoSmall : (H : Type) → List (DataW H) → Bool := fun _ ds => decide (uptoBulkAll ds ≤ 1048576)
def OpenSpec.upto (s : _root_.Go.ChangeSpec) : _root_.Go.OpenSpec := { _root_.Go.OpenSpec.ofChange s with cond := some uptoSmall }

/-- 'damperlaw10.FifoPlays', WHERE WHAT IT READS IS OF BULK AT MOST 1048576: true; the input reads as it did. -/
def fifoPlaysUptoRow : OpenClaim := { program := "ytipmhialflincaadoor", sum := "8b87f6a5f84a17064699d56b94f39f18b9fdd5153a8c440ac90553722485c414", func := "damper/damperlaw10.FifoPlays", spec := "fifoPlays", named := ["damper/fifo.loose", "damper/fifo.empty"], apart := false, laid := [("damper/fifo.loose", laid_damper_fifo_loose), ("damper/fifo.empty", laid_damper_fifo_empty)], narrowed := true }
def FifoPlaysUptoSaid : Prop := fifoPlaysUptoRow.holds Tryd.pinned (OpenSpec.upto fifoPlaysSpec)

/-- 'damperlaw10.FifoEach', WHERE WHAT IT READS IS OF BULK AT MOST 1048576: true; the input reads as it did. -/
def fifoEachUptoRow : OpenClaim := { program := "ytipmhialflincaadoor", sum := "8b87f6a5f84a17064699d56b94f39f18b9fdd5153a8c440ac90553722485c414", func := "damper/damperlaw10.FifoEach", spec := "fifoEach", unfollowed := true, recurses := true, named := ["damper/fifo.loose", "damper/fifo.empty"], apart := false, laid := [("damper/fifo.loose", laid_damper_fifo_loose), ("damper/fifo.empty", laid_damper_fifo_empty)], narrowed := true }
def FifoEachUptoSaid : Prop := fifoEachUptoRow.holds Tryd.pinned (OpenSpec.upto fifoEachSpec)

/-- 'damperlaw10.FifoOrder', WHERE WHAT IT READS IS OF BULK AT MOST 1048576: true; the input reads as it did. -/
def fifoOrderUptoRow : OpenClaim := { program := "ytipmhialflincaadoor", sum := "8b87f6a5f84a17064699d56b94f39f18b9fdd5153a8c440ac90553722485c414", func := "damper/damperlaw10.FifoOrder", spec := "fifoOrder", named := ["damper/fifo.loose", "damper/fifo.empty"], apart := false, laid := [("damper/fifo.loose", laid_damper_fifo_loose), ("damper/fifo.empty", laid_damper_fifo_empty)], narrowed := true }
def FifoOrderUptoSaid : Prop := fifoOrderUptoRow.holds Tryd.pinned (OpenSpec.upto fifoOrderSpec)

/-- 'damperlaw10.FifoNils', WHERE WHAT IT READS IS OF BULK AT MOST 1048576: true; the input reads as it did. -/
def fifoNilsUptoRow : OpenClaim := { program := "ytipmhialflincaadoor", sum := "8b87f6a5f84a17064699d56b94f39f18b9fdd5153a8c440ac90553722485c414", func := "damper/damperlaw10.FifoNils", spec := "fifoNils", unfollowed := true, recurses := true, named := ["damper/fifo.loose", "damper/fifo.empty"], apart := false, laid := [("damper/fifo.loose", laid_damper_fifo_loose), ("damper/fifo.empty", laid_damper_fifo_empty)], narrowed := true }
def FifoNilsUptoSaid : Prop := fifoNilsUptoRow.holds Tryd.pinned (OpenSpec.upto fifoNilsSpec)

end Rows
end Go.Proofs.YtipmhialflincaaDoor
