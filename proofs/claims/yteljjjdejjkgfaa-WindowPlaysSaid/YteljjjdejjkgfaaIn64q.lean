/-
  A number that an int64 holds. (Of XFixA, which a cut without package fix cannot fill.)
-/
import Derived.WalkKit
namespace Go.Proofs.Yteljjjdejjkgfaa
open Go.RowKit
def In64 (x : Int) : Prop := -9223372036854775808 ≤ x ∧ x < 9223372036854775808
theorem in64_of_wf {x : Int} (h : (Lit.int .i64 x).wf = true) : In64 x := by
  simp [Lit.wf, IntKind.min, IntKind.max, IntKind.signed, IntKind.bits] at h
  exact ⟨by omega, by omega⟩
end Go.Proofs.Yteljjjdejjkgfaa
