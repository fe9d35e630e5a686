/-
  No cell of these rows narrows 'for every input' (looked for: loops, veiled, ifaces, maps, wideKeys, modest, calm, conditions, laid).
  DERIVED. THE GIVEN ROWS OF THIS SEAT. 4 by the template 'for every input the law returns true; each argument reads behind the call as it read before'; 0 by the template 'total and deterministic' (their statements: YthlpnlmjpdcbiaaTotals.lean).
  GIVEN WITH THE SEED: the statements are not yours to turn. If you find one false, say at which input.
  Laid BY PROGRAM, IN A SANDBOX (cutbox-rows.mjs): the forced cells as the released guide's own fill.sh prints them over the translation f86c051043eb09ee… (all of the seat's roots in one cut). By AI agents, Wed Nov 11 2026. No macro, syntax, notation, axiom, sorry.
-/
import Derived.Test.YthlpnlmjpdcbiaaChecked
import GoSem.Claim
import GoSem.ClaimJoined
import GoSem.ClaimMapViews
import Derived.JoinedTies
import Derived.KernelRfl
namespace Go.Proofs.Ythlpnlmjpdcbiaa
/- THE CELL 'sum', in the pinned program and in every row, IS THE sha256 OF THE DUMP (.gsa) THAT YthlpnlmjpdcbiaaProg.lean LOADS. Nothing in Lean hashes anything: it is a label: what it is worth is what the hold of that sum in a sandbox is worth. -/
noncomputable def Try.pinned : Pinned := { name := "ythlpnlmjpdcbiaa", sum := "f86c051043eb09eeb3a27328045f78bb41eae2c30ed3da12d0838a7951e3bb61", checked := Try.checked }
namespace Rows
def none {H : Type} : Left H := { results := [], args := [] }

/-- 'damperlaw11.LadderPlays': WHATEVER THE INPUT: true; the input reads as it did. -/
def ladderPlaysSpec : ChangeSpec := { name := "ladderPlays", fn := fun _ => fun
  | [d1, d2, d3] => { results := [.lit (.bool true)], args := [d1, d2, d3] }
  | _ => none }
def ladderPlaysRow : OpenClaim := { program := "ythlpnlmjpdcbiaa", sum := "f86c051043eb09eeb3a27328045f78bb41eae2c30ed3da12d0838a7951e3bb61", func := "damper/damperlaw11.LadderPlays", spec := "ladderPlays", inPlace := ["slices.overlaps[damper/ladder.Level]"], unfollowed := true, recurses := true, apart := false }
def LadderPlaysSaid : Prop := ladderPlaysRow.holds Try.pinned (OpenSpec.ofChange ladderPlaysSpec)

/-- ITS FALSE NEIGHBOUR: 'it returns false'. Refute it at one input. -/
def ladderPlaysWrong : ChangeSpec := { name := "ladderPlays", fn := fun _ => fun
  | [d1, d2, d3] => { results := [.lit (.bool false)], args := [d1, d2, d3] }
  | _ => none }
def LadderPlaysWrongFalsely : Prop := ladderPlaysRow.holds Try.pinned (OpenSpec.ofChange ladderPlaysWrong)

/-- 'damperlaw11.LadderEach': WHATEVER THE INPUT: true; the input reads as it did. -/
def ladderEachSpec : ChangeSpec := { name := "ladderEach", fn := fun _ => fun
  | [d1, d2, d3, d4] => { results := [.lit (.bool true)], args := [d1, d2, d3, d4] }
  | _ => none }
def ladderEachRow : OpenClaim := { program := "ythlpnlmjpdcbiaa", sum := "f86c051043eb09eeb3a27328045f78bb41eae2c30ed3da12d0838a7951e3bb61", func := "damper/damperlaw11.LadderEach", spec := "ladderEach", inPlace := ["slices.overlaps[damper/ladder.Level]"], unfollowed := true, recurses := true, apart := false }
def LadderEachSaid : Prop := ladderEachRow.holds Try.pinned (OpenSpec.ofChange ladderEachSpec)

/-- ITS FALSE NEIGHBOUR: 'it returns false'. Refute it at one input. -/
def ladderEachWrong : ChangeSpec := { name := "ladderEach", fn := fun _ => fun
  | [d1, d2, d3, d4] => { results := [.lit (.bool false)], args := [d1, d2, d3, d4] }
  | _ => none }
def LadderEachWrongFalsely : Prop := ladderEachRow.holds Try.pinned (OpenSpec.ofChange ladderEachWrong)

/-- 'damperlaw11.LadderSorts': WHATEVER THE INPUT: true; the input reads as it did. -/
def ladderSortsSpec : ChangeSpec := { name := "ladderSorts", fn := fun _ => fun
  | [d1, d2] => { results := [.lit (.bool true)], args := [d1, d2] }
  | _ => none }
def ladderSortsRow : OpenClaim := { program := "ythlpnlmjpdcbiaa", sum := "f86c051043eb09eeb3a27328045f78bb41eae2c30ed3da12d0838a7951e3bb61", func := "damper/damperlaw11.LadderSorts", spec := "ladderSorts", inPlace := ["slices.overlaps[damper/ladder.Level]"], unfollowed := true, recurses := true, apart := false }
def LadderSortsSaid : Prop := ladderSortsRow.holds Try.pinned (OpenSpec.ofChange ladderSortsSpec)

/-- ITS FALSE NEIGHBOUR: 'it returns false'. Refute it at one input. -/
def ladderSortsWrong : ChangeSpec := { name := "ladderSorts", fn := fun _ => fun
  | [d1, d2] => { results := [.lit (.bool false)], args := [d1, d2] }
  | _ => none }
def LadderSortsWrongFalsely : Prop := ladderSortsRow.holds Try.pinned (OpenSpec.ofChange ladderSortsWrong)

/-- 'damperlaw11.LadderNils': WHATEVER THE INPUT: true; the input reads as it did. -/
def ladderNilsSpec : ChangeSpec := { name := "ladderNils", fn := fun _ => fun
  | [d1, d2] => { results := [.lit (.bool true)], args := [d1, d2] }
  | _ => none }
def ladderNilsRow : OpenClaim := { program := "ythlpnlmjpdcbiaa", sum := "f86c051043eb09eeb3a27328045f78bb41eae2c30ed3da12d0838a7951e3bb61", func := "damper/damperlaw11.LadderNils", spec := "ladderNils", inPlace := ["slices.overlaps[damper/ladder.Level]"], unfollowed := true, recurses := true, apart := false }
def LadderNilsSaid : Prop := ladderNilsRow.holds Try.pinned (OpenSpec.ofChange ladderNilsSpec)

/-- ITS FALSE NEIGHBOUR: 'it returns false'. Refute it at one input. -/
def ladderNilsWrong : ChangeSpec := { name := "ladderNils", fn := fun _ => fun
  | [d1, d2] => { results := [.lit (.bool false)], args := [d1, d2] }
  | _ => none }
def LadderNilsWrongFalsely : Prop := ladderNilsRow.holds Try.pinned (OpenSpec.ofChange ladderNilsWrong)

/- THE SECOND FORM. 'bulk': how many values and letters a reading holds, each counted each time it is reached (what is shared counts as often as it is met; a slice's spare places count too). A statement '..UptoSaid' is the law's where the arguments, and the package variables that the reading takes, are together of bulk at most 1048576: NARROWER than '..Said'. Prove '..Said' where nothing that the law and all that it calls make is longer than what came in: it says more and counts as full. Else prove '..UptoSaid'. A law counts once. -/
mutual
def uptoBulk {H : Type} : DataW H → Nat
  | .lit (.string bytes) => bytes.length + 1
  | .lit _ => 1
  | .nil => 1
  | .ptr d => uptoBulk d + 1
  | .slice elems spare => uptoBulkAll elems + uptoBulkAll spare + 1
  | .agg parts => uptoBulkAll parts + 1
  | .iface _ d => uptoBulk d + 1
  | .map entries => uptoBulkEntries entries + 1
  | .held _ => 1
def uptoBulkAll {H : Type} : List (DataW H) → Nat
  | [] => 0
  | d :: r => uptoBulk d + uptoBulkAll r
def uptoBulkEntries {H : Type} : List (Lit × DataW H) → Nat
  | [] => 0
  | x :: r => uptoBulkEntry x + uptoBulkEntries r
def uptoBulkEntry {H : Type} : Lit × DataW H → Nat
  | (.string bytes, d) => bytes.length + uptoBulk d + 1
  | (_, d) => uptoBulk d + 1
 end
def uptoSmall : (H : Type) → List (DataW H) → Bool := fun _ ds => decide (uptoBulkAll ds ≤ 1048576)
def OpenSpec.upto (s : _root_.Go.ChangeSpec) : _root_.Go.OpenSpec := { _root_.Go.OpenSpec.ofChange s with cond := some uptoSmall }

/-- 'damperlaw11.LadderPlays', WHERE WHAT IT READS IS OF BULK AT MOST 1048576: true; the input reads as it did. -/
def ladderPlaysUptoRow : OpenClaim := { program := "ythlpnlmjpdcbiaa", sum := "f86c051043eb09eeb3a27328045f78bb41eae2c30ed3da12d0838a7951e3bb61", func := "damper/damperlaw11.LadderPlays", spec := "ladderPlays", inPlace := ["slices.overlaps[damper/ladder.Level]"], unfollowed := true, recurses := true, apart := false, narrowed := true }
def LadderPlaysUptoSaid : Prop := ladderPlaysUptoRow.holds Try.pinned (OpenSpec.upto ladderPlaysSpec)

/-- 'damperlaw11.LadderEach', WHERE WHAT IT READS IS OF BULK AT MOST 1048576: true; the input reads as it did. -/
def ladderEachUptoRow : OpenClaim := { program := "ythlpnlmjpdcbiaa", sum := "f86c051043eb09eeb3a27328045f78bb41eae2c30ed3da12d0838a7951e3bb61", func := "damper/damperlaw11.LadderEach", spec := "ladderEach", inPlace := ["slices.overlaps[damper/ladder.Level]"], unfollowed := true, recurses := true, apart := false, narrowed := true }
def LadderEachUptoSaid : Prop := ladderEachUptoRow.holds Try.pinned (OpenSpec.upto ladderEachSpec)

/-- 'damperlaw11.LadderSorts', WHERE WHAT IT READS IS OF BULK AT MOST 1048576: true; the input reads as it did. -/
def ladderSortsUptoRow : OpenClaim := { program := "ythlpnlmjpdcbiaa", sum := "f86c051043eb09eeb3a27328045f78bb41eae2c30ed3da12d0838a7951e3bb61", func := "damper/damperlaw11.LadderSorts", spec := "ladderSorts", inPlace := ["slices.overlaps[damper/ladder.Level]"], unfollowed := true, recurses := true, apart := false, narrowed := true }
def LadderSortsUptoSaid : Prop := ladderSortsUptoRow.holds Try.pinned (OpenSpec.upto ladderSortsSpec)

/-- 'damperlaw11.LadderNils', WHERE WHAT IT READS IS OF BULK AT MOST 1048576: true; the input reads as it did. -/
def ladderNilsUptoRow : OpenClaim := { program := "ythlpnlmjpdcbiaa", sum := "f86c051043eb09eeb3a27328045f78bb41eae2c30ed3da12d0838a7951e3bb61", func := "damper/damperlaw11.LadderNils", spec := "ladderNils", inPlace := ["slices.overlaps[damper/ladder.Level]"], unfollowed := true, recurses := true, apart := false, narrowed := true }
def LadderNilsUptoSaid : Prop := ladderNilsUptoRow.holds Try.pinned (OpenSpec.upto ladderNilsSpec)

end Rows
end Go.Proofs.Ythlpnlmjpdcbiaa
