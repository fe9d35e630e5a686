/-
  An act on an index, as the law has it. (No Go text.)
-/
import Derived.Test.YtbfidpngpdaieaaInd
namespace Go.Proofs.Ytbfidpngpdaieaa
structure Iac where
  kind : Int
  sym : Int
  slot : Int
  id : Int
deriving DecidableEq
def Iac.zero : Iac := ⟨0, 0, 0, 0⟩
structure Iac.Fit (m : Iac) : Prop where
  kind : In64 m.kind
  sym : In64 m.sym
  slot : In64 m.slot
  id : In64 m.id
/-- What an act does. -/
def ixAct (l : List Ixr) (m : Iac) : List Ixr := if m.kind = 0 then ixPut l m.sym m.id m.slot else if m.kind = 1 then l else if m.kind = 2 then ixDrop l m.sym m.id else ixClr l m.sym
theorem ixAct_len (l : List Ixr) (m : Iac) : (ixAct l m).length ≤ l.length + 1 := by
  unfold ixAct
  split
  · exact ixPut_len _ _ _ _
  · split
    · exact Nat.le_succ _
    · split
      · exact Nat.le_trans (ixDrop_len _ _ _) (Nat.le_succ _)
      · exact Nat.le_trans (ixClr_len _ _) (Nat.le_succ _)
theorem ixAct_u {l : List Ixr} (h : Ixu l) (m : Iac) : Ixu (ixAct l m) := by
  unfold ixAct
  split
  · exact ixPut_u h _ _ _
  · split
    · exact h
    · split
      · exact ixDrop_u h _ _
      · exact h.filter _
end Go.Proofs.Ytbfidpngpdaieaa
