/-
  What another block's cells, none of them a byte, do not turn: a slice of bytes, a reader.
-/
import Derived.Test.YtjleebfdbkfgmaaOctS
namespace Go.Proofs.Ytjleebfdbkfgmaa
open Go.RowKit
theorem Bt.part {w w' : World} {k b cap : Nat} {ao : Option Addr} {xs : List Nat} {t : TypeId} {cs : Array Value} (h : Bt w k ao cap xs) (hb : Blk w b t cs) (hc : ∀ (i : Nat) (x : Int), cs[i]? ≠ some (.int .u8 x)) (hf : Frm (fun q => q = b) w w') : Bt w' k ao cap xs := by
  refine h.frm hf fun hx e => ?_
  subst e
  rcases h.at' with h0 | ⟨off, _, hc'⟩
  · exact hx h0
  · match xs, hx with
    | x :: _, _ =>
      have h1 := hc' 0 x rfl
      rw [hb.cell] at h1
      exact hc _ _ h1
theorem Rr.part {w w' : World} {g f b : Nat} {xs : List Nat} {t : TypeId} {cs : Array Value} (h : Rr w g xs f) (hb : Blk w b t cs) (hc : ∀ (i : Nat) (x : Int), cs[i]? ≠ some (.int .u8 x)) (hg : g ≠ b) (hf : Frm (fun q => q = b) w w') : Rr w' g xs f := by
  obtain ⟨k, ao, cap, h1, h2, h3⟩ := h
  exact ⟨k, ao, cap, (hf.block g h1.lt hg).trans h1, h2.part hb hc hf, h3⟩
end Go.Proofs.Ytjleebfdbkfgmaa
