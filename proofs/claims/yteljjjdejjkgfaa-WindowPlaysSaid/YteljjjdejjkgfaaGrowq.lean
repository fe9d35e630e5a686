/-
  A slice of structs that one grows by append: it owns its row (for any element type).
-/
import Derived.Test.YteljjjdejjkgfaaAppq
import Derived.Test.YteljjjdejjkgfaaMemq
namespace Go.Proofs.Yteljjjdejjkgfaa
open Go.RowKit
section
variable {α : Type} {E : TypeId} {sz : Nat} {enc : α → Array Value}
structure Gr (E : TypeId) (sz : Nat) (enc : α → Array Value) (V wr : World) (l : List α) (ko : Option Nat) (oc : Nat) (oo : Option Addr) : Prop where
  ow : OwG E sz wr ko oo oc l.length (l.flatMap fun m => (enc m).toList)
  own : ∀ k, ko = some k → V.heap.size ≤ k
  bel : Below V.heap.size V wr
theorem Gr.start (V : World) : Gr E sz enc V V [] none 0 none := ⟨OwG.nil _ _ _, fun k h => (by cases h), Below.refl _ _⟩
theorem Gr.call {V wr w2 : World} {l : List α} {ko : Option Nat} {oc : Nat} {oo : Option Addr} (h : Gr E sz enc V wr l ko oc oo) (hb : Below wr.heap.size wr w2) : Gr E sz enc V w2 l ko oc oo :=
  ⟨h.ow.below hb, h.own, h.bel.trans (hb.mono h.bel.size)⟩
theorem Gr.alloc {V wr : World} {l : List α} {ko : Option Nat} {oc : Nat} {oo : Option Addr} (h : Gr E sz enc V wr l ko oc oo) (o : Obj) : Gr E sz enc V (wr.alloc o) l ko oc oo := h.call ((Below.refl _ wr).alloc (Nat.le_refl _) o)
theorem Gr.app {V w2 w3 : World} {l : List α} {ko ko' : Option Nat} {oc oc' : Nat} {oo oo' : Option Addr} {m : α} (h : Gr E sz enc V w2 l ko oc oo)
    (ho : OwG E sz w3 ko' oo' oc' (l.length + 1) ((l.flatMap fun m => (enc m).toList) ++ (enc m).toList)) (hf : Frm (fun b => ko = some b) w2 w3) (hm : Moved w2 ko ko') : Gr E sz enc V w3 (l ++ [m]) ko' oc' oo' := by
  have hs := h.bel.size
  refine ⟨?_, ?_, h.bel.trans (hf.below hs h.own)⟩
  · rw [List.length_append, List.flatMap_append]
    simpa using ho
  · intro k hk
    rcases hm with h1 | h1 | ⟨k2, h1, h2⟩
    · rw [h1] at hk; cases hk
    · rw [h1] at hk; exact h.own k hk
    · rw [h1] at hk; cases hk; omega
/-- One struct that lies in a block of its own, as a slice of one. -/
theorem SrcG.row {w : World} {n : Nat} {T : TypeId} {cs : Array Value} (h : Blk w n T cs) (hs : cs.size = sz) (h1 : ∀ u ∈ cs.toList, u.oneCell' = true) : SrcG sz w (some ⟨n, 0, none⟩) 1 1 cs.toList := by
  refine ⟨by simp [hs], h1, .inr ⟨_, rfl, fun j u hj => ?_⟩⟩
  rw [Addr.add_mid, Nat.zero_add]
  exact h.cell_eq j u (by simpa using hj)
end
end Go.Proofs.Yteljjjdejjkgfaa
