/-
  A statement whose order Go leaves open and that holds two calls which write: how far it has come is told by which of the two have come up. (No Go text.)
-/
import Derived.Test.YteljjjdejjkgfaaRegSq
namespace Go.Proofs.Yteljjjdejjkgfaa
open Go.RowKit
theorem getD_ne2 {L : Array Bool} {i j : Nat} (h : i ≠ j) : (L.setIfInBounds i true).getD j false = L.getD j false := by
  simp [Array.getElem?_setIfInBounds_ne h]
theorem getD_self2 {L : Array Bool} {i : Nat} (h : i < L.size) : (L.setIfInBounds i true).getD i false = true := by
  simp [h]
theorem getD_none2 (n i : Nat) : (Array.replicate n false).getD i false = false := by
  rcases Nat.lt_or_ge i n with h | h
  · simp [h]
  · simp [Array.getElem?_eq_none (xs := Array.replicate n false) (i := i) (by simpa using h)]
/-- A call that may come up where it is ready. -/
theorem yieldsS_callq {P : Program} {md : Region.Mode} {ops : Array Oper} {S : Array Bool → World → Prop} {i : Nat} {o : Oper} {v : Value} {a : Act} {f : FuncId} {args : Array Value} (hw : Region.wanted o (yielded ops a.tmps) = true)
    (hr : ∀ w, (execOp a.eval o).run P w = .ok (.enter f args) w) (hc : ∀ L w, i ∈ Region.ready md ops L → S L w → Calls P f args w fun e w' => e = .returned v ∧ S (L.setIfInBounds i true) w') : YieldsS P md ops S i o v a :=
  .inl ⟨hw, fun L w hL hS => .inr (.inr ⟨f, args, hr w, hc L w hL hS⟩)⟩
/-- Operations i and j are calls; J: what holds where the first has come up or not, the second or not. -/
structure Duo (n i j : Nat) (J : Bool → Bool → World → Prop) (L : Array Bool) (w : World) : Prop where
  size : L.size = n
  at' : J (L.getD i false) (L.getD j false) w
section
variable {n i j : Nat} {J : Bool → Bool → World → Prop} {L : Array Bool} {w : World} {md : Region.Mode} {ops : Array Oper} {P : Program} {f : FuncId} {args : Array Value} {v : Value}
theorem Duo.start (n i j : Nat) (h : J false false w) : Duo n i j J (Array.replicate n false) w := ⟨by simp, by rw [getD_none2, getD_none2]; exact h⟩
theorem Duo.other (h : Duo n i j J L w) {k : Nat} (hi : k ≠ i) (hj : k ≠ j) : Duo n i j J (L.setIfInBounds k true) w :=
  ⟨by rw [Array.size_setIfInBounds]; exact h.size, by rw [getD_ne2 hi, getD_ne2 hj]; exact h.at'⟩
theorem Duo.fst (h : Duo n i j J L w) (hr : i ∈ Region.ready md ops L) (hin : i < n) (hij : i ≠ j) (hc : ∀ b w, J false b w → Calls P f args w fun e w' => e = .returned v ∧ J true b w') :
    Calls P f args w fun e w' => e = .returned v ∧ Duo n i j J (L.setIfInBounds i true) w' := by
  have h0 := ready_not hr
  have hw := h.at'
  rw [h0] at hw
  refine (hc _ w hw).mono fun e w' h' => ⟨h'.1, by rw [Array.size_setIfInBounds]; exact h.size, ?_⟩
  rw [getD_self2 (by rw [h.size]; exact hin), getD_ne2 hij]
  exact h'.2
theorem Duo.snd (h : Duo n i j J L w) (hr : j ∈ Region.ready md ops L) (hjn : j < n) (hij : j ≠ i) (hc : ∀ a w, J a false w → Calls P f args w fun e w' => e = .returned v ∧ J a true w') :
    Calls P f args w fun e w' => e = .returned v ∧ Duo n i j J (L.setIfInBounds j true) w' := by
  have h0 := ready_not hr
  have hw := h.at'
  rw [h0] at hw
  refine (hc _ w hw).mono fun e w' h' => ⟨h'.1, by rw [Array.size_setIfInBounds]; exact h.size, ?_⟩
  rw [getD_self2 (by rw [h.size]; exact hjn), getD_ne2 hij]
  exact h'.2
theorem Duo.fin (h : Duo n i j J L w) (hi : L.getD i false = true) (hj : L.getD j false = true) : J true true w := by
  have := h.at'
  rwa [hi, hj] at this
end
end Go.Proofs.Yteljjjdejjkgfaa
