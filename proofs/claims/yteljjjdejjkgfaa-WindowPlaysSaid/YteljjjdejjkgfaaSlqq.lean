/-
  What a drawn region's law (RegL) holds of the world as long as its last store has not come up. (No Go text; cut out of Rbc.)
-/
import Derived.Test.YteljjjdejjkgfaaRegLq
namespace Go.Proofs.Yteljjjdejjkgfaa
open Go.RowKit
/-- What holds of the world as long as the last store has not come up. -/
def Slq (p : World → Prop) (n : Nat) (L : Array Bool) (w : World) : Prop := L.getD n false = false → p w
section
variable {p : World → Prop} {n k : Nat} {L : Array Bool} {w : World} {md : Region.Mode} {ops : Array Oper}
theorem Slq.other (h : k ≠ n) : Slq p n (L.setIfInBounds k true) w ↔ Slq p n L w := by
  unfold Slq
  rw [getD_set_ne false h]
theorem Slq.last (hn : n < L.size) : Slq p n (L.setIfInBounds n true) w := by
  intro h
  simp [hn] at h
theorem Slq.wi (hn : ∀ L, Closed md ops L → k ∈ Region.ready md ops L → L.getD n false = false) (h : Wi md ops (Slq p n) k w) : p w := by
  obtain ⟨L, h1, h2, h3⟩ := h
  exact h3 (hn L h2 h1)
end
end Go.Proofs.Yteljjjdejjkgfaa
