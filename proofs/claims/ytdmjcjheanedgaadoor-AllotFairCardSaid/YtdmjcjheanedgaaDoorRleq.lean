/-
  The document's levels: Put where there is no room; Put of a new level.
-/
import Derived.Test.YtdmjcjheanedgaaDoorRldq
import Derived.Test.YtdmjcjheanedgaaDoorGB
namespace Go.Proofs.YtdmjcjheanedgaaDoor
open Go.RowKit
theorem OwG.emptyG (E : TypeId) (sz : Nat) (w : World) : OwG E sz (w.alloc (.cells #[] E)) (some w.heap.size) (some ⟨w.heap.size, 0, none⟩) 0 0 [] :=
  ⟨by simp, Nat.le_refl _, Nat.zero_le _, .inr ⟨_, #[], rfl, rfl, heap_alloc_last w _, by simp, by simp⟩⟩
theorem lcs_one (L : List Lvl) : ∀ u ∈ lcs L, u.oneCell' = true := by
  intro u hu
  obtain ⟨m, -, hm⟩ := List.mem_flatMap.1 hu
  simp at hm
  rcases hm with rfl | rfl | rfl | rfl <;> rfl
section
variable {w w' W : World} {r : Nat} {S T : Nat → Prop} {s : Ld} {ko : Option Nat} {ao : Option Addr} {cap : Nat}
end
end Go.Proofs.YtdmjcjheanedgaaDoor
