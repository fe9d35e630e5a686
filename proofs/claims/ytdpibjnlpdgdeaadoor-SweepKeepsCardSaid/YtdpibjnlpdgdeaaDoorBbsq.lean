/-
  The program's book and the document's, side by side. (Written by gen/p_bbo.py, as XBbo was; parted by hand.)
-/
import Derived.Test.YtdpibjnlpdgdeaaDoorGZ
import Derived.Test.YtdpibjnlpdgdeaaDoorGJ
import Derived.Test.YtdpibjnlpdgdeaaDoorGC
namespace Go.Proofs.YtdpibjnlpdgdeaaDoor
open Go.RowKit
set_option linter.unusedSimpArgs false
structure Bb (w0 : World) (S0 : Nat → Prop) (g r k : Nat) (b t : Bk) (w : World) : Prop where
  s2 : 2 ≤ w0.heap.size ∧ ∀ c, S0 c → 2 ≤ c
  frm : Frm S0 w0 w
  both : ∃ Sp Sr, PB w g Sp k b ∧ RK w r Sr t ∧ (∀ c, Sp c → ¬ Sr c) ∧ ∀ c, Sp c ∨ Sr c → S0 c ∨ w0.heap.size ≤ c
section
variable {w0 w w' W : World} {S0 : Nat → Prop} {g r k : Nat} {b b' t t' : Bk}
theorem two_of {n : Nat} {c : Nat} (h : 2 ≤ n ∧ ∀ c, S0 c → 2 ≤ c) (hc : S0 c ∨ n ≤ c) : 2 ≤ c := by
  rcases hc with e | e
  · exact h.2 c e
  · have := h.1; omega
theorem Bb.below (h : Bb w0 S0 g r k b t w) (hb : Below w.heap.size w w') : Bb w0 S0 g r k b t w' := by
  obtain ⟨Sp, Sr, h1, h2, h3, h4⟩ := h.both
  exact ⟨h.s2, h.frm.trans (Frm.of_below (S := fun _ => False) hb) (fun _ f => f.elim), Sp, Sr, h1.below hb, h2.below hb, h3, h4⟩
theorem Bb.mono (h : Bb w0 S0 g r k b t w) {m : Nat} (hk : k ≤ m) : Bb w0 S0 g r m b t w := by
  obtain ⟨Sp, Sr, h1, h2, h3, h4⟩ := h.both
  exact ⟨h.s2, h.frm, Sp, Sr, h1.mono hk, h2, h3, h4⟩
theorem Bb.ok (h : Bb w0 S0 g r k b t w) : b.Ok := by
  obtain ⟨Sp, Sr, h1, -⟩ := h.both
  exact h1.ok
theorem Bb.stepG {Sp Sr : Nat → Prop} {m : Nat} (hs : 2 ≤ w0.heap.size ∧ ∀ c, S0 c → 2 ≤ c) (hf0 : Frm S0 w0 w) (h2 : RK w r Sr t) (h3 : ∀ c, Sp c → ¬ Sr c) (h4 : ∀ c, Sp c ∨ Sr c → S0 c ∨ w0.heap.size ≤ c) (ha : ∃ S', PB w' g S' m b' ∧ ∀ c, S' c → Sp c ∨ w.heap.size ≤ c) (hf : Frm Sp w w') : Bb w0 S0 g r m b' t w' := by
  obtain ⟨S', h5, h6⟩ := ha
  refine ⟨hs, hf0.trans hf (fun c e => h4 c (.inl e)), S', Sr, h5, h2.frm hf h3, fun c e hr => ?_, fun c e => ?_⟩
  · rcases h6 c e with e' | e'
    · exact h3 c e' hr
    · have := h2.lt c hr; omega
  · rcases e with e | e
    · rcases h6 c e with e | e
      · exact h4 c (.inl e)
      · have := hf0.size; exact .inr (by omega)
    · exact h4 c (.inr e)
theorem Bb.doc {Sp Sr : Nat → Prop} (hs : 2 ≤ w0.heap.size ∧ ∀ c, S0 c → 2 ≤ c) (hf0 : Frm S0 w0 w) (h1 : PB w g Sp k b) (h3 : ∀ c, Sp c → ¬ Sr c) (h4 : ∀ c, Sp c ∨ Sr c → S0 c ∨ w0.heap.size ≤ c) (ha : ∃ S', RK w' r S' t' ∧ ∀ c, S' c → Sr c ∨ w.heap.size ≤ c) (hf : Frm Sr w w') : Bb w0 S0 g r k b t' w' := by
  obtain ⟨S', h5, h6⟩ := ha
  refine ⟨hs, hf0.trans hf (fun c e => h4 c (.inr e)), Sp, S', h1.frm hf (fun c e hr => h3 c hr e) (fun c e => two_of hs (h4 c (.inr e))), h5, fun c e hr => ?_, fun c e => ?_⟩
  · rcases h6 c hr with e' | e'
    · exact h3 c e e'
    · have := h1.lt c e; omega
  · rcases e with e | e
    · exact h4 c (.inl e)
    · rcases h6 c e with e | e
      · exact h4 c (.inr e)
      · have := hf0.size; exact .inr (by omega)
/-- Seen from a later world. -/
theorem Bb.sub {W1 : World} {S : Nat → Prop} (hs : 2 ≤ w0.heap.size ∧ ∀ c, S0 c → 2 ≤ c) (h : Frm S0 w0 W1) (h5 : ∀ c, S c → S0 c ∨ w0.heap.size ≤ c) (q : Bb W1 S g r k b t w) : Bb w0 S0 g r k b t w := by
  obtain ⟨Sp, Sr, k1, k2, k3, k4⟩ := q.both
  refine ⟨hs, h.trans q.frm h5, Sp, Sr, k1, k2, k3, fun c e => ?_⟩
  rcases k4 c e with e | e
  · exact h5 c e
  · have := h.size; exact .inr (by omega)
theorem Bb.blk (h : Bb w0 S0 g r k b t w) {c : Nat} {T : TypeId} {cs : Array Value} (hb : Blk w0 c T cs) (h2 : ¬ S0 c) : Blk w c T cs := (h.frm.block c hb.lt h2).trans hb
/-- As they stand. -/
theorem Bb.here (h : Bb w0 S0 g r k b t w) : ∃ S, Bb w S g r k b t w ∧ (∀ c, S c → c < w.heap.size) ∧ ∀ c, S c → S0 c ∨ w0.heap.size ≤ c := by
  obtain ⟨Sp, Sr, h1, h2, h3, h4⟩ := h.both
  have hsz := h.frm.size
  have hs2 := h.s2.1
  exact ⟨fun c => Sp c ∨ Sr c, ⟨⟨by omega, fun c e => two_of h.s2 (h4 c e)⟩, Frm.refl _ _, Sp, Sr, h1, h2, h3, fun c e => .inl e⟩, fun c e => by rcases e with e | e; exact h1.lt c e; exact h2.lt c e, h4⟩
/-- A box that is laid behind them stays as it is, whatever they do. -/
theorem Bb.box (h : Bb w0 S0 g r k b t w) (T : TypeId) (cs : Array Value) : ∃ W3 S, W3 = w.alloc (.cells cs T) ∧ Bb W3 S g r k b t W3 ∧ ∀ k' b' t' w', Bb W3 S g r k' b' t' w' → Blk w' w.heap.size T cs ∧ Bb w0 S0 g r k' b' t' w' := by
  obtain ⟨S, h1, h2, h3⟩ := h.here
  have hb : Below w.heap.size w (w.alloc (.cells cs T)) := (Below.refl _ _).alloc (Nat.le_refl _) _
  obtain ⟨Sp, Sr, h4, h5, h6, h7⟩ := h1.both
  have hsz := hb.size
  have hs2 := h1.s2
  refine ⟨_, S, rfl, ⟨⟨by omega, hs2.2⟩, Frm.refl _ _, Sp, Sr, h4.below hb, h5.below hb, h6, fun c e => ?_⟩, fun k' b' t' w' q => ⟨q.blk (Blk.new _ _ _) (fun e => by have := h2 _ e; omega), ?_⟩⟩
  · rcases h7 c e with e' | e'
    · exact .inl e'
    · have : c < w.heap.size := by
        rcases e with e | e
        · exact h4.lt c e
        · exact h5.lt c e
      omega
  · exact Bb.sub h.s2 (h.frm.trans (Frm.of_below (S := fun _ => False) hb) (fun _ f => f.elim)) h3 q
theorem bqAdd (h : Bb w0 S0 g r k b t w) (hk : k < 100000) {o : Ord} (ho : o.Fit) : Calls Tryd.prog 17 #[.pointer (some ⟨g, 0, none⟩), vOrd o] w fun e w' => e = .returned (.int .i64 (b.addF o)) ∧ Bb w0 S0 g r (k + 1) (b.add o) t w' := by
  obtain ⟨Sp, Sr, h1, h2, h3, h4⟩ := h.both
  exact (pb_add o ho h1 hk).mono fun e w' ⟨he, ha, hf⟩ => ⟨he, Bb.stepG h.s2 h.frm h2 h3 h4 ha hf⟩
theorem bqAddR (h : Bb w0 S0 g r k b t w) (ht : t.Ok) (o : Ord) : Calls Tryd.prog 18 #[.pointer (some ⟨r, 0, none⟩), vOrd o] w fun e w' => e = .returned (.int .i64 (t.addF o)) ∧ Bb w0 S0 g r k b (t.add o) w' := by
  obtain ⟨Sp, Sr, h1, h2, h3, h4⟩ := h.both
  have h5 := ht.len
  have h6 := ht.s2
  exact (kadd_any o h2 (by omega) (by omega)).mono fun e w' ⟨he, ha, hf⟩ => ⟨he, Bb.doc h.s2 h.frm h1 h3 h4 ha hf⟩
theorem bqRem (h : Bb w0 S0 g r k b t w) (hk : k < 100000) {d : Int} (hd : In64 d) : Calls Tryd.prog 52 #[.pointer (some ⟨g, 0, none⟩), .int .i64 d] w fun e w' => e = .returned (.tuple #[vOrd (b.remF d).1, .int .i64 (b.remF d).2]) ∧ Bb w0 S0 g r (k + 1) (b.rem d) t w' := by
  obtain ⟨Sp, Sr, h1, h2, h3, h4⟩ := h.both
  exact (pb_rem d hd h1 hk).mono fun e w' ⟨he, ha, hf⟩ => ⟨he, Bb.stepG h.s2 h.frm h2 h3 h4 ha hf⟩
theorem bqRed (h : Bb w0 S0 g r k b t w) (hk : k < 100000) {d by' : Int} (hd : In64 d) (hb : In64 by') : Calls Tryd.prog 53 #[.pointer (some ⟨g, 0, none⟩), .int .i64 d, .int .i64 by'] w fun e w' => e = .returned (.tuple #[vOrd (b.redF d by').1, .int .i64 (b.redF d by').2]) ∧ Bb w0 S0 g r (k + 1) (b.red d by') t w' := by
  obtain ⟨Sp, Sr, h1, h2, h3, h4⟩ := h.both
  exact (pb_red d by' hd hb h1 hk).mono fun e w' ⟨he, ha, hf⟩ => ⟨he, Bb.stepG h.s2 h.frm h2 h3 h4 ha hf⟩
theorem bqGet (h : Bb w0 S0 g r k b t w) {d : Int} (hd : In64 d) : Calls Tryd.prog 12 #[.pointer (some ⟨g, 0, none⟩), .int .i64 d] w fun e w' => e = .returned (.tuple #[vOrd ((b.get d).getD .zero), .bool (b.get d).isSome]) ∧ Bb w0 S0 g r k b t w' := by
  obtain ⟨Sp, Sr, h1, h2, h3, h4⟩ := h.both
  exact (pb_get d hd h1).mono fun e w' ⟨he, hb⟩ => ⟨he, h.below hb⟩
end
end Go.Proofs.YtdpibjnlpdgdeaaDoor
