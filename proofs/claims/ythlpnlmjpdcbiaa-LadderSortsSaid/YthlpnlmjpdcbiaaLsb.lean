/-
  LadderSorts: the program's levels beside the law's own flags and box.
-/
import Derived.Test.YthlpnlmjpdcbiaaLsa
import Derived.Test.YthlpnlmjpdcbiaaLpl
import Derived.Test.YthlpnlmjpdcbiaaIts
import Derived.Laws.MakeOwn
namespace Go.Proofs.Ythlpnlmjpdcbiaa
open Go.RowKit
/-- Which queues have been met. -/
def qfl (I : List Nat) : Array Value := ((List.range 40).map fun u => Value.bool (decide (u ∈ I))).toArray
theorem qfl_get {I : List Nat} {u : Nat} (h : u < 40) : (qfl I)[u]? = some (.bool (decide (u ∈ I))) := by simp [qfl, h]
theorem qfl_set (I : List Nat) (u : Nat) (h : u < 40) : (qfl I).setIfInBounds u (.bool true) = qfl (u :: I) := by
  refine Array.ext_getElem? fun j => ?_
  rw [Array.getElem?_setIfInBounds]
  by_cases e : u = j
  · subst e
    have hs : u < (qfl I).size := by simp [qfl, h]
    rw [if_pos rfl, if_pos hs, qfl_get h]
    simp
  · rw [if_neg e]
    by_cases hj : j < 40
    · rw [qfl_get hj, qfl_get hj]
      simp [Ne.symm e]
    · rw [Array.getElem?_eq_none (by simp [qfl]; omega), Array.getElem?_eq_none (by simp [qfl]; omega)]
theorem infoBo : (Try.prog.info? 4).map (fun i => (i.zero, i.size, i.bytes)) = some (some (.bool false), 1, 1) := by kernel_rfl
theorem zero_fl : (Builtin.zeroCells (Value.bool false).cells 40) = qfl [] := by kernel_rfl
/-- The law's state: the program's levels at g; before the flags are made. -/
structure Sp0 (W : World) (g : Nat) (s : Ld) (w : World) : Prop where
  bel : Below W.heap.size W w
  pl : ∃ S, PL w g S s ∧ ∀ b, S b → W.heap.size ≤ b
/-- With the flags in block q. -/
structure Sp1 (W : World) (g : Nat) (s : Ld) (q : Nat) (I : List Nat) (w : World) : Prop where
  bel : Below W.heap.size W w
  hq : W.heap.size ≤ q
  fl : Blk w q 4 (qfl I)
  pl : ∃ S, PL w g S s ∧ (∀ b, S b → W.heap.size ≤ b) ∧ ¬ S q
/-- With a level in a box b. -/
structure Sp2 (W : World) (g : Nat) (s : Ld) (q : Nat) (I : List Nat) (b : Nat) (x : Lvl) (w : World) : Prop where
  bel : Below W.heap.size W w
  hq : W.heap.size ≤ q
  fl : Blk w q 4 (qfl I)
  bq : b ≠ q
  hb : W.heap.size ≤ b
  bx : Blk w b 40 (cLvl x)
  pl : ∃ S, PL w g S s ∧ (∀ b, S b → W.heap.size ≤ b) ∧ ¬ S q ∧ ¬ S b
section
variable {W w w' : World} {g q b : Nat} {s s' : Ld} {I : List Nat} {x : Lvl} {k : Nat}
theorem Sp0.below (h : Sp0 W g s w) (hb : Below w.heap.size w w') : Sp0 W g s w' := by
  obtain ⟨S, h1, h2⟩ := h.pl
  exact ⟨h.bel.trans (hb.mono h.bel.size), S, h1.below hb, h2⟩
theorem Sp0.put (h : Sp0 W g s w) (hw : s.Wf k) (hk : k ≤ 1000000) (p : Int) (y : Int) (hy : In64 y) : Calls Try.prog 17 #[.pointer (some ⟨g, 0, none⟩), .int .i64 p, .int .i64 y] w fun e w' => e = .returned (.tuple #[.int .i64 (s.putR p y).1, .int .i64 (s.putR p y).2]) ∧ Sp0 W g (s.putS p y) w' := by
  obtain ⟨S, h1, h2⟩ := h.pl
  refine (pput_any p y h1 hw hk hy).mono ?_
  rintro e w' ⟨he, ⟨S', h3, h4⟩, hf⟩
  exact ⟨he, h.bel.trans (hf.below h.bel.size h2), S', h3, fun b e => by rcases h4 b e with e | e; exact h2 b e; (have := h.bel.size; omega)⟩
theorem Sp0.flags (h : Sp0 W g s w) : Sp1 W g s w.heap.size [] (w.alloc (.cells (qfl []) 4)) := by
  obtain ⟨S, h1, h2⟩ := h.pl
  have hb : Below w.heap.size w (w.alloc (.cells (qfl []) 4)) := (Below.refl _ _).alloc (Nat.le_refl _) _
  exact ⟨h.bel.trans (hb.mono h.bel.size), h.bel.size, Blk.new _ _ _, S, h1.below hb, h2, fun e => by have := h1.lt _ e; omega⟩
theorem Sp1.below (h : Sp1 W g s q I w) (hb : Below w.heap.size w w') : Sp1 W g s q I w' := by
  obtain ⟨S, h1, h2, h3⟩ := h.pl
  exact ⟨h.bel.trans (hb.mono h.bel.size), h.hq, h.fl.below hb h.fl.lt, S, h1.below hb, h2, h3⟩
theorem Sp1.box (h : Sp1 W g s q I w) (x : Lvl) : Sp2 W g s q I w.heap.size x (w.alloc (.cells (cLvl x) 40)) := by
  obtain ⟨S, h1, h2, h3⟩ := h.pl
  have hb : Below w.heap.size w (w.alloc (.cells (cLvl x) 40)) := (Below.refl _ _).alloc (Nat.le_refl _) _
  have hl := h.fl.lt
  exact ⟨h.bel.trans (hb.mono h.bel.size), h.hq, h.fl.below hb hl, by omega, h.bel.size, Blk.new _ _ _, S, h1.below hb, h2, h3, fun e => by have := h1.lt _ e; omega⟩
theorem Sp2.below (h : Sp2 W g s q I b x w) (hb : Below w.heap.size w w') : Sp2 W g s q I b x w' := by
  obtain ⟨S, h1, h2, h3, h4⟩ := h.pl
  exact ⟨h.bel.trans (hb.mono h.bel.size), h.hq, h.fl.below hb h.fl.lt, h.bq, h.hb, h.bx.below hb h.bx.lt, S, h1.below hb, h2, h3, h4⟩
theorem Sp2.open (h : Sp2 W g s q I b x w) : Sp1 W g s q I w := by
  obtain ⟨S, h1, h2, h3, h4⟩ := h.pl
  exact ⟨h.bel, h.hq, h.fl, S, h1, h2, h3⟩
theorem Sp2.flag (h : Sp2 W g s q I b x w) {u : Nat} (hu : u < 40) : Sp2 W g s q (u :: I) b x (w.setCell ⟨q, u, none⟩ (.bool true)) := by
  obtain ⟨S, h1, h2, h3, h4⟩ := h.pl
  have hf : Frm (fun c => c = q) w (w.setCell ⟨q, u, none⟩ (.bool true)) := (Frm.refl _ _).setCell _ _ (.inl rfl)
  have h5 := h.fl.set u (.bool true)
  rw [qfl_set I u hu] at h5
  exact ⟨h.bel.setCell (p := ⟨q, u, none⟩) h.hq _, h.hq, h5, h.bq, h.hb, blk_frm h.bx hf h.bq, S, h1.frm hf (fun c e hs => h3 (e ▸ hs)), h2, h3, h4⟩
theorem Sp2.take (h : Sp2 W g s q I b x w) (hw : s.Wf k) (hk : k ≤ 1000000) (p y : Int) : Calls Try.prog 19 #[.pointer (some ⟨g, 0, none⟩), .int .i64 p, .int .i64 y, .bool true] w fun e w' => e = .returned (.tuple #[.int .i64 (s.takeR p y).1, .int .i64 (s.takeR p y).2]) ∧ Sp2 W g (s.takeS p y true) q I b x w' := by
  obtain ⟨S, h1, h2, h3, h4⟩ := h.pl
  refine (ptake_any p y true h1 hw hk).mono ?_
  rintro e w' ⟨he, ⟨S', h5, h6⟩, hf⟩
  refine ⟨he, h.bel.trans (hf.below h.bel.size h2), h.hq, blk_frm h.fl hf h3, h.bq, h.hb, blk_frm h.bx hf h4, S', h5, fun c e => ?_, fun e => ?_, fun e => ?_⟩
  · rcases h6 c e with e | e
    · exact h2 c e
    · have := h.bel.size; omega
  · rcases h6 _ e with e | e
    · exact h3 e
    · have := h.fl.lt; omega
  · rcases h6 _ e with e | e
    · exact h4 e
    · have := h.bx.lt; omega
theorem Sp1.best (h : Sp1 W g s q I w) {P : List Lvl} (hO : Ord s.buy s.L P) : Calls Try.prog 13 #[.pointer (some ⟨g, 0, none⟩)] w fun e w' => e = .returned (.tuple #[vLvl (P[0]?.getD .zero), .bool (decide (0 < s.L.length))]) ∧ Below w.heap.size w w' := by
  obtain ⟨S, h1, h2, h3⟩ := h.pl
  exact pbest2_any hO h1
theorem Sp1.lenq (h : Sp1 W g s q I w) : Calls Try.prog 12 #[.pointer (some ⟨g, 0, none⟩)] w fun e w' => e = .returned (.int .i64 (s.L.length : Nat)) ∧ w' = w := by
  obtain ⟨S, h1, h2, h3⟩ := h.pl
  exact plen2_any h1
end
end Go.Proofs.Ythlpnlmjpdcbiaa
