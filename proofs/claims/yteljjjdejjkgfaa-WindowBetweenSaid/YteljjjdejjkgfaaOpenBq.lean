/-
  From an argument's reading to what the walks ask: a slice of bytes.
-/
import Derived.Test.YteljjjdejjkgfaaItsq
import Derived.ProofKit
import Derived.OpenShut
import Derived.Deep.Slices
namespace Go.Proofs.Yteljjjdejjkgfaa
open Go.RowKit Go.ChangeShapes Go.WideShapes Go.ChangeAt Go.Deep
theorem cellsU8 : Try.prog.cellsOf 5 = 1 := by kernel_rfl
section
variable {H : Type} {enc' : TypeId × Value → H} {w : World} {base : Nat} {spare : Nat → Bool} {held : Bool}
/-- A slice of byte slices, to be read. -/
structure Lb (w : World) (ao : Option Addr) (cap : Nat) (ls : List (List Nat)) : Prop where
  len : ls.length ≤ cap
  top : cap ≤ maxLen
  bare : ao = none → cap = 0
  at' : ls = [] ∨ ∃ b off, ao = some ⟨b, off, none⟩ ∧ ∀ (i : Nat) (xs : List Nat), ls[i]? = some xs → ∃ k eo ec, Bt w k eo ec xs ∧ w.cell? ⟨b, off + i, none⟩ = some (.slice eo xs.length ec)
/-- One of them, in whatever world that has kept what there was. -/
theorem Lb.get {w : World} {ao : Option Addr} {cap : Nat} {ls : List (List Nat)} (h : Lb w ao cap ls) {i : Nat} {xs : List Nat} (hi : ls[i]? = some xs) :
    ∃ b off k eo ec, ao = some ⟨b, off, none⟩ ∧ ∀ w', Below w.heap.size w w' → Bt w' k eo ec xs ∧ w'.cell? ⟨b, off + i, none⟩ = some (.slice eo xs.length ec) := by
  rcases h.at' with h0 | ⟨b, off, ha, hl⟩
  · subst h0; simp at hi
  · obtain ⟨k, eo, ec, hB, hc⟩ := hl i xs hi
    have hlt : b < w.heap.size := World.block_lt_of_cell? w ⟨b, off + i, none⟩ hc
    exact ⟨b, off, k, eo, ec, ha, fun w' hb => ⟨hB.below hb, (World.cell?_of_block (a := ⟨b, off + i, none⟩) (hb.block b hlt)).trans hc⟩⟩
end
end Go.Proofs.Yteljjjdejjkgfaa
