/-
  Small things of slices of bytes that many texts use.
-/
import Derived.Test.YtbkiipeoabbiiaaOctS
namespace Go.Proofs.Ytbkiipeoabbiiaa
open Go.RowKit

theorem Blk.frm {S : Nat → Prop} {w w' : World} {g : Nat} {t : TypeId} {cs : Array Value} (h : Blk w g t cs) (hf : Frm S w w') (hg : ¬ S g) : Blk w' g t cs := (hf.block g h.lt hg).trans h
theorem Bt.stay {S : Nat → Prop} {w w' : World} {k cap : Nat} {ao : Option Addr} {xs : List Nat} (h : Bt w k ao cap xs) (hf : Frm S w w') (hk : ¬ S k) : Bt w' k ao cap xs := h.frm hf fun _ => hk
theorem nilWriter {w : World} {g k : Nat} (hb : Blk w g 63 #[.slice none 0 0]) (hk : g ≠ k) : Wr w g k [] := ⟨none, 0, hb, Ow.nil _ _, hk⟩
theorem same_len {k cap j bcap n m : Nat} {ao bo : Option Addr} {xs ys : List Nat} (hn : n = xs.length) (hm : m = ys.length) (W : World) (hA : Bt W k ao cap xs) (hB : Bt W j bo bcap ys) :
    Calls Try.prog 17 #[.slice ao n cap, .slice bo m bcap] W fun e w' => e = .returned (.bool (decide (xs = ys))) ∧ W = w' := by
  subst hn hm
  exact same_any W hA hB
theorem same_true {k cap j bcap n m : Nat} {ao bo : Option Addr} {xs : List Nat} (W : World) (hA : Bt W k ao cap xs) (hB : Bt W j bo bcap xs) (hn : n = xs.length) (hm : m = xs.length) :
    Calls Try.prog 17 #[.slice ao n cap, .slice bo m bcap] W fun e w' => e = .returned (.bool true) ∧ W = w' :=
  (same_len hn hm W hA hB).mono fun e w' h => ⟨h.1.trans (by simp), h.2⟩
theorem Bt.open {w : World} {k cap : Nat} {ao : Option Addr} {xs : List Nat} (h : Bt w k ao cap xs) (hx : xs ≠ []) : ∃ off, ao = some ⟨k, off, none⟩ ∧ ∀ (j x : Nat), xs[j]? = some x → w.cell? ⟨k, off + j, none⟩ = some (.int .u8 (x : Int)) :=
  h.at'.resolve_left hx
end Go.Proofs.Ytbkiipeoabbiiaa
