/-
  A key of the index, as a struct of two numbers. (No Go text.)
-/
import Derived.Test.YtbfidpngpdaieaaInd
namespace Go.Proofs.Ytbfidpngpdaieaa
structure Kst where
  sym : Int
  id : Int
deriving DecidableEq
def Kst.zero : Kst := ⟨0, 0⟩
structure Kst.Fit (m : Kst) : Prop where
  sym : In64 m.sym
  id : In64 m.id
end Go.Proofs.Ytbfidpngpdaieaa
