/-
  The document's levels: parts of the row (l.L[:i], l.L[i:]), as what is appended.
-/
import Derived.Test.YtdmjcjheanedgaaDoorRlgq
namespace Go.Proofs.YtdmjcjheanedgaaDoor
open Go.RowKit
theorem lcs_drop : ∀ (L : List Lvl) (m : Nat), lcs (L.drop m) = (lcs L).drop (m * 4)
  | L, 0 => by simp
  | [], m + 1 => by simp
  | x :: t, m + 1 => by
    have e : (m + 1) * 4 = 4 + m * 4 := by omega
    rw [List.drop_succ_cons, lcs_drop t m, e, ← List.drop_drop]
    rfl
theorem lcs_take : ∀ (L : List Lvl) (m : Nat), lcs (L.take m) = (lcs L).take (m * 4)
  | L, 0 => by simp
  | [], m + 1 => by simp
  | x :: t, m + 1 => by
    have e : (m + 1) * 4 = m * 4 + 4 := by omega
    have h := lcs_take t m
    rw [e]
    simp [h]
end Go.Proofs.YtdmjcjheanedgaaDoor
