/-
  The document's levels: Take where the level stays.
-/
import Derived.Test.YtdmjcjheanedgaaDoorRlfq
import Derived.StillTailTactics
namespace Go.Proofs.YtdmjcjheanedgaaDoor
open Go.RowKit
theorem lcs_set1 (y : Lvl) : ∀ (L : List Lvl) (i : Nat) (x : Lvl), L[i]? = some x → y.price = x.price → y.queue = x.queue → y.orders = x.orders →
    lcs (L.set i y) = (lcs L).set (i * 4 + 1) (.int .i64 y.qty)
  | [], i, x, h, _, _, _ => by cases h
  | z :: t, 0, x, h, e1, e2, e3 => by
    cases h
    simp [e1, e2, e3]
  | z :: t, i + 1, x, h, e1, e2, e3 => by
    have := lcs_set1 y t i x h e1 e2 e3
    have e4 : (i + 1) * 4 + 1 = (i * 4 + 1) + 4 := by omega
    rw [e4]
    simp [this]
section
variable {w w' W : World} {r : Nat} {S T : Nat → Prop} {s : Ld} {ko : Option Nat} {ao : Option Addr} {cap : Nat}
end
end Go.Proofs.YtdmjcjheanedgaaDoor
