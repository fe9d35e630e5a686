/-
  A statement whose order Go leaves open, which stores a struct last (its calls may make memory): what its law (RegS) holds of the world. (No Go text.)
  A statement whose order Go leaves open, which reads a row and stores into it last ('q[i] += x'): what its law (RegS) holds of the world. (No Go text.)
-/
import Derived.Test.YteljjjdejjkgfaaRegSq
import Derived.Test.YteljjjdejjkgfaaBytq
import Derived.Test.YteljjjdejjkgfaaMemq
namespace Go.Proofs.Yteljjjdejjkgfaa
open Go.RowKit
/-- Only the block of what is stored has turned; it is as it was (z) till the store (operation n) has come up, and then what is stored (f). -/
structure Stl (V : World) (rb : Nat) (T : TypeId) (z f : Array Value) (n : Nat) (L : Array Bool) (w : World) : Prop where
  frm : Frm (fun c => c = rb) V w
  ahead : L.getD n false = false → Blk w rb T z
  behind : L.getD n false = true → Blk w rb T f
section
variable {V w w' : World} {rb n k : Nat} {T : TypeId} {z f : Array Value} {L : Array Bool}
theorem Stl.start (h : Blk V rb T z) (m : Nat) : Stl V rb T z f n (Array.replicate m false) V.drew :=
  ⟨Frm.of_below (Below.refl _ _).drew, fun _ => h.below (Below.refl _ _).drew h.lt, fun e => by
    rcases Nat.lt_or_ge n m with h | h
    · simp [h] at e
    · simp [Array.getElem?_eq_none (xs := Array.replicate m false) (i := n) (by simpa using h)] at e⟩
theorem getD_stl {L : Array Bool} {k n : Nat} (h : k ≠ n) : (L.setIfInBounds k true).getD n false = L.getD n false := by
  simp only [Array.getD_eq_getD_getElem?]
  rw [Array.getElem?_setIfInBounds_ne h]
theorem Stl.other (hk : k ≠ n) (h : Stl V rb T z f n L w) : Stl V rb T z f n (L.setIfInBounds k true) w := by
  refine ⟨h.frm, ?_, ?_⟩
  · rw [getD_stl hk]; exact h.ahead
  · rw [getD_stl hk]; exact h.behind
theorem Stl.call (hk : k ≠ n) (h : Stl V rb T z f n L w) (hb : Below w.heap.size w w') : Stl V rb T z f n (L.setIfInBounds k true) w' := by
  refine ⟨h.frm.trans (Frm.of_below (S := fun _ => False) hb) (fun _ e => e.elim), ?_, ?_⟩
  · rw [getD_stl hk]
    intro e
    have := h.ahead e
    exact this.below hb this.lt
  · rw [getD_stl hk]
    intro e
    have := h.behind e
    exact this.below hb this.lt
theorem ready_lt {md : Region.Mode} {ops : Array Oper} {L : Array Bool} {i : Nat} (h : i ∈ Region.ready md ops L) : i < L.size := by
  have h0 := (mem_ready.1 h).1
  rcases Nat.lt_or_ge i L.size with h' | h'
  · exact h'
  · simp [Array.getElem?_eq_none h'] at h0
theorem Stl.done (hn : n < L.size) (h : Stl V rb T z f n L w) (hf : Frm (fun c => c = rb) w w') (hB : Blk w' rb T f) : Stl V rb T z f n (L.setIfInBounds n true) w' := by
  refine ⟨h.frm.trans hf (fun _ e => .inl e), fun e => ?_, fun _ => hB⟩
  have : (L.setIfInBounds n true).getD n false = true := by simp [hn]
  rw [this] at e
  cases e
/-- The end: what has come up last is there. -/
theorem Stl.end' {m : Nat} (h : Stl V rb T z f n L w) (hL : L.getD n false = true) : Blk w rb T f ∧ Frm (fun c => c = rb) V w := ⟨h.behind hL, h.frm⟩
end
end Go.Proofs.Yteljjjdejjkgfaa
namespace Go.Proofs.Yteljjjdejjkgfaa
open Go.RowKit
/-- Only the block of what is stored has turned; it is as it was (z) till the store (operation n) has come up, which comes behind the read (operation k); and then as stored (f). -/
structure Lst (V : World) (rb : Nat) (T : TypeId) (z f : Array Value) (n k : Nat) (L : Array Bool) (w : World) : Prop where
  frm : Frm (fun c => c = rb) V w
  ahead : L.getD n false = false → Blk w rb T z
  behind : L.getD n false = true → L.getD k false = true ∧ Blk w rb T f
section
variable {V w w' : World} {rb n k j : Nat} {T : TypeId} {z f : Array Value} {L : Array Bool} {md : Region.Mode} {ops : Array Oper}
theorem Lst.start (h : Blk V rb T z) (m : Nat) : Lst V rb T z f n k (Array.replicate m false) V.drew :=
  ⟨Frm.of_below (Below.refl _ _).drew, fun _ => h.below (Below.refl _ _).drew h.lt, fun e => by
    rcases Nat.lt_or_ge n m with h | h
    · simp [h] at e
    · simp [Array.getElem?_eq_none (xs := Array.replicate m false) (i := n) (by simpa using h)] at e⟩
theorem Lst.other (hj : j ≠ n) (h : Lst V rb T z f n k L w) : Lst V rb T z f n k (L.setIfInBounds j true) w := by
  refine ⟨h.frm, ?_, ?_⟩
  · rw [getD_stl hj]; exact h.ahead
  · rw [getD_stl hj]
    intro e
    obtain ⟨h1, h2⟩ := h.behind e
    exact ⟨getD_set_true h1, h2⟩
theorem Lst.call (hj : j ≠ n) (h : Lst V rb T z f n k L w) (hb : Below w.heap.size w w') : Lst V rb T z f n k (L.setIfInBounds j true) w' := by
  refine ⟨h.frm.trans (Frm.of_below (S := fun _ => False) hb) (fun _ e => e.elim), ?_, ?_⟩
  · rw [getD_stl hj]
    intro e
    have := h.ahead e
    exact this.below hb this.lt
  · rw [getD_stl hj]
    intro e
    obtain ⟨h1, h2⟩ := h.behind e
    exact ⟨getD_set_true h1, h2.below hb h2.lt⟩
/-- As long as the read may come up, the row is as it was. -/
theorem Lst.read (h : Lst V rb T z f n k L w) (hk : k ∈ Region.ready md ops L) : Blk w rb T z := by
  have h0 := ready_not hk
  cases e : L.getD n false with
  | false => exact h.ahead e
  | true => have := (h.behind e).1; rw [h0] at this; cases this
theorem Lst.old (h : Lst V rb T z f n k L w) (hn : n ∈ Region.ready md ops L) : Blk w rb T z := h.ahead (ready_not hn)
theorem Lst.done (h : Lst V rb T z f n k L w) (hn : n ∈ Region.ready md ops L) (hk : L.getD k false = true) (hf : Frm (fun c => c = rb) w w') (hB : Blk w' rb T f) : Lst V rb T z f n k (L.setIfInBounds n true) w' := by
  refine ⟨h.frm.trans hf (fun _ e => .inl e), fun e => ?_, fun _ => ⟨getD_set_true hk, hB⟩⟩
  have : (L.setIfInBounds n true).getD n false = true := by simp [ready_lt hn]
  rw [this] at e
  cases e
theorem Lst.end' (h : Lst V rb T z f n k L w) (hL : L.getD n false = true) : Blk w rb T f ∧ Frm (fun c => c = rb) V w := ⟨(h.behind hL).2, h.frm⟩
/-- The store. -/
theorem yieldsS_skip {P : Program} {S : Array Bool → World → Prop} {i : Nat} {o : Oper} {a : Act} (hw : Region.wanted o (yielded ops a.tmps) = true)
    (h : ∀ L w, i ∈ Region.ready md ops L → S L w → ∃ w', (execOp a.eval o).run P w = .ok .skip w' ∧ S (L.setIfInBounds i true) w') : YieldsS P md ops S i o undef a :=
  .inl ⟨hw, fun L w hL hS => .inr (.inl ⟨rfl, h L w hL hS⟩)⟩
end
end Go.Proofs.Yteljjjdejjkgfaa
