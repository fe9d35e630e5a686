/-
  A row of the table of a day, in plain numbers (no Go text).
-/
import Derived.Test.YtbkiipeoabbiiaaIn64
namespace Go.Proofs.Ytbkiipeoabbiiaa
structure Rowp where
  tick : Int
  phase : Int
def Rowp.zero : Rowp := ⟨0, 0⟩
structure Rowp.Fit (m : Rowp) : Prop where
  tick : In64 m.tick
  phase : In64 m.phase
end Go.Proofs.Ytbkiipeoabbiiaa
