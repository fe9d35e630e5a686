/-
  The program's levels and the document's, side by side; act: the same on both. (Written by gen/p_lbo.py.)
-/
import Derived.Test.YthlpnlmjpdcbiaaLpl
import Derived.Test.YthlpnlmjpdcbiaaRli
import Derived.Test.YthlpnlmjpdcbiaaLacV
import Derived.Test.YthlpnlmjpdcbiaaRegS
namespace Go.Proofs.Ythlpnlmjpdcbiaa
open Go.RowKit
set_option linter.unusedSimpArgs false
/-- The two: the program's at g, the document's at r; of what was there at w0 only S0 has turned. -/
structure Bl (w0 : World) (S0 : Nat → Prop) (g r : Nat) (s t : Ld) (w : World) : Prop where
  frm : Frm S0 w0 w
  both : ∃ Sp Sr, PL w g Sp s ∧ RL w r Sr t ∧ (∀ b, Sp b → ¬ Sr b) ∧ ∀ b, Sp b ∨ Sr b → S0 b ∨ w0.heap.size ≤ b
section
variable {w0 w w' W : World} {S0 : Nat → Prop} {g r : Nat} {s s' t t' : Ld}
theorem Bl.below (h : Bl w0 S0 g r s t w) (hb : Below w.heap.size w w') : Bl w0 S0 g r s t w' := by
  obtain ⟨Sp, Sr, h1, h2, h3, h4⟩ := h.both
  exact ⟨h.frm.trans (Frm.of_below (S := fun _ => False) hb) (fun _ f => f.elim), Sp, Sr, h1.below hb, h2.below hb, h3, h4⟩
theorem Bl.step {Sp Sr : Nat → Prop} (hf0 : Frm S0 w0 w) (h1 : PL w g Sp s) (h2 : RL w r Sr t) (h3 : ∀ b, Sp b → ¬ Sr b) (h4 : ∀ b, Sp b ∨ Sr b → S0 b ∨ w0.heap.size ≤ b) (ha : ∃ S', PL w' g S' s' ∧ ∀ b, S' b → Sp b ∨ w.heap.size ≤ b) (hf : Frm Sp w w') : Bl w0 S0 g r s' t w' := by
  obtain ⟨S', h5, h6⟩ := ha
  refine ⟨hf0.trans hf (fun b e => h4 b (.inl e)), S', Sr, h5, h2.frm hf h3, fun b e hr => ?_, fun b e => ?_⟩
  · rcases h6 b e with e | e
    · exact h3 b e hr
    · have := h2.lt b hr; omega
  · rcases e with e | e
    · rcases h6 b e with e | e
      · exact h4 b (.inl e)
      · have := hf0.size; exact .inr (by omega)
    · exact h4 b (.inr e)
theorem Bl.doc {Sp Sr : Nat → Prop} (hf0 : Frm S0 w0 w) (h1 : PL w g Sp s) (h2 : RL w r Sr t) (h3 : ∀ b, Sp b → ¬ Sr b) (h4 : ∀ b, Sp b ∨ Sr b → S0 b ∨ w0.heap.size ≤ b) (ha : ∃ S', RL w' r S' t' ∧ ∀ b, S' b → Sr b ∨ w.heap.size ≤ b) (hf : Frm Sr w w') : Bl w0 S0 g r s t' w' := by
  obtain ⟨S', h5, h6⟩ := ha
  refine ⟨hf0.trans hf (fun b e => h4 b (.inr e)), Sp, S', h1.frm hf (fun b e hr => h3 b hr e), h5, fun b e hr => ?_, fun b e => ?_⟩
  · rcases h6 b hr with e' | e'
    · exact h3 b e e'
    · have := h1.lt b e; omega
  · rcases e with e | e
    · exact h4 b (.inl e)
    · rcases h6 b e with e | e
      · exact h4 b (.inr e)
      · have := hf0.size; exact .inr (by omega)
/-- Seen from a later world. -/
theorem Bl.sub {W1 : World} {S : Nat → Prop} (h : Frm S0 w0 W1) (h5 : ∀ b, S b → S0 b ∨ w0.heap.size ≤ b) (k : Bl W1 S g r s t w) : Bl w0 S0 g r s t w := by
  obtain ⟨Sp, Sr, k1, k2, k3, k4⟩ := k.both
  refine ⟨h.trans k.frm h5, Sp, Sr, k1, k2, k3, fun b e => ?_⟩
  rcases k4 b e with e | e
  · exact h5 b e
  · have := h.size; exact .inr (by omega)
theorem Bl.blk (h : Bl w0 S0 g r s t w) {b : Nat} {T : TypeId} {cs : Array Value} (hb : Blk w0 b T cs) (h2 : ¬ S0 b) : Blk w b T cs := (h.frm.block b hb.lt h2).trans hb
/-- As they stand. -/
theorem Bl.here (h : Bl w0 S0 g r s t w) : ∃ S, Bl w S g r s t w ∧ (∀ b, S b → b < w.heap.size) ∧ ∀ b, S b → S0 b ∨ w0.heap.size ≤ b := by
  obtain ⟨Sp, Sr, h1, h2, h3, h4⟩ := h.both
  exact ⟨fun b => Sp b ∨ Sr b, ⟨Frm.refl _ _, Sp, Sr, h1, h2, h3, fun b e => .inl e⟩, fun b e => by rcases e with e | e; exact h1.lt b e; exact h2.lt b e, h4⟩
variable {k : Nat}
theorem qPut (h : Bl w0 S0 g r s t w) (hw : s.Wf k) (hk : k ≤ 1000000) (p q : Int) (hq : In64 q) : Calls Try.prog 17 #[.pointer (some ⟨g, 0, none⟩), .int .i64 p, .int .i64 q] w fun e w' => e = .returned (.tuple #[.int .i64 (s.putR p q).1, .int .i64 (s.putR p q).2]) ∧ Bl w0 S0 g r (s.putS p q) t w' := by
  obtain ⟨Sp, Sr, h1, h2, h3, h4⟩ := h.both
  exact (pput_any p q h1 hw hk hq).mono fun e w' ⟨he, ha, hf⟩ => ⟨he, Bl.step h.frm h1 h2 h3 h4 ha hf⟩
theorem qPutR (h : Bl w0 S0 g r s t w) (hw : t.Wf k) (hk : k ≤ 1000000) (p q : Int) (hp : In64 p) (hq : In64 q) : Calls Try.prog 24 #[.pointer (some ⟨r, 0, none⟩), .int .i64 p, .int .i64 q] w fun e w' => e = .returned (.tuple #[.int .i64 (t.putR p q).1, .int .i64 (t.putR p q).2]) ∧ Bl w0 S0 g r s (t.putS p q) w' := by
  obtain ⟨Sp, Sr, h1, h2, h3, h4⟩ := h.both
  exact (lput_any p q h2 hw hk hp hq).mono fun e w' ⟨he, ha, hf⟩ => ⟨he, Bl.doc h.frm h1 h2 h3 h4 ha hf⟩
theorem qTake (h : Bl w0 S0 g r s t w) (hw : s.Wf k) (hk : k ≤ 1000000) (p q : Int) (gone : Bool) : Calls Try.prog 19 #[.pointer (some ⟨g, 0, none⟩), .int .i64 p, .int .i64 q, .bool gone] w fun e w' => e = .returned (.tuple #[.int .i64 (s.takeR p q).1, .int .i64 (s.takeR p q).2]) ∧ Bl w0 S0 g r (s.takeS p q gone) t w' := by
  obtain ⟨Sp, Sr, h1, h2, h3, h4⟩ := h.both
  exact (ptake_any p q gone h1 hw hk).mono fun e w' ⟨he, ha, hf⟩ => ⟨he, Bl.step h.frm h1 h2 h3 h4 ha hf⟩
theorem qTakeR (h : Bl w0 S0 g r s t w) (hw : t.Wf k) (hk : k ≤ 1000000) (p q : Int) (gone : Bool) : Calls Try.prog 25 #[.pointer (some ⟨r, 0, none⟩), .int .i64 p, .int .i64 q, .bool gone] w fun e w' => e = .returned (.tuple #[.int .i64 (t.takeR p q).1, .int .i64 (t.takeR p q).2]) ∧ Bl w0 S0 g r s (t.takeS p q gone) w' := by
  obtain ⟨Sp, Sr, h1, h2, h3, h4⟩ := h.both
  exact (ltake_any p q gone h2 hw hk).mono fun e w' ⟨he, ha, hf⟩ => ⟨he, Bl.doc h.frm h1 h2 h3 h4 ha hf⟩
theorem qFind (h : Bl w0 S0 g r s t w) (p : Int) : Calls Try.prog 20 #[.pointer (some ⟨g, 0, none⟩), .int .i64 p] w fun e w' => e = .returned (.tuple #[vLvl (s.findV p), .bool (s.find p).isSome]) ∧ Bl w0 S0 g r s t w' := by
  obtain ⟨Sp, Sr, h1, h2, h3, h4⟩ := h.both
  exact (pfind_any p h1).mono fun e w' ⟨he, hb⟩ => ⟨he, h.below hb⟩
theorem qWorth (h : Bl w0 S0 g r s t w) (hw : s.Wf k) (p V : Int) (hV : s.worth p = V) : Calls Try.prog 22 #[.pointer (some ⟨g, 0, none⟩), .int .i64 p] w fun e w' => e = .returned (.int .i64 V) ∧ Bl w0 S0 g r s t w' := by
  obtain ⟨Sp, Sr, h1, h2, h3, h4⟩ := h.both
  subst hV
  exact (pworth2_any p h1 hw).mono fun e w' ⟨he, hb⟩ => ⟨he, h.below hb⟩
theorem qWorthR (h : Bl w0 S0 g r s t w) (hw : t.Wf k) (p V : Int) (hV : t.worth p = V) : Calls Try.prog 26 #[.pointer (some ⟨r, 0, none⟩), .int .i64 p] w fun e w' => e = .returned (.int .i64 V) ∧ Bl w0 S0 g r s t w' := by
  obtain ⟨Sp, Sr, h1, ⟨ko, ao, cap, h2⟩, h3, h4⟩ := h.both
  subst hV
  refine (lworth_any p h2 hw.qty (fun a b V ha hb hs => ?_) (fun a b V ha1 ha2 hb1 hb2 hs => ?_)).mono fun e w' ⟨he, hb⟩ => ⟨he, h.below hb⟩
  · have := radd2_any a b ⟨by omega, by omega⟩ ⟨by omega, by omega⟩ V
    rwa [fit_yes ⟨by omega, by omega⟩] at this
  · have := radd2_any a b ⟨by omega, by omega⟩ ⟨by omega, by omega⟩ V
    rwa [fit_no (fun e => by have := e.2; omega)] at this
theorem qFits (h : Bl w0 S0 g r s t w) (hw : s.Wf k) (p : Int) (B : Bool) (hB : s.fits p = B) : Calls Try.prog 21 #[.pointer (some ⟨g, 0, none⟩), .int .i64 p] w fun e w' => e = .returned (.bool B) ∧ Bl w0 S0 g r s t w' := by
  obtain ⟨Sp, Sr, h1, h2, h3, h4⟩ := h.both
  subst hB
  exact (pfits2_any p h1 hw).mono fun e w' ⟨he, hb⟩ => ⟨he, h.below hb⟩
theorem qFitsR (h : Bl w0 S0 g r s t w) (p : Int) (B : Bool) (hB : t.fits p = B) : Calls Try.prog 27 #[.pointer (some ⟨r, 0, none⟩), .int .i64 p] w fun e w' => e = .returned (.bool B) ∧ Bl w0 S0 g r s t w' := by
  obtain ⟨Sp, Sr, h1, ⟨ko, ao, cap, h2⟩, h3, h4⟩ := h.both
  subst hB
  exact (lfits_any p h2).mono fun e w' ⟨he, n, hw⟩ => ⟨he, by rw [hw]; exact h.below (belowN (Below.refl _ _) n)⟩
end
set_option maxRecDepth 8000 in
set_option maxHeartbeats 1000000 in
theorem same_any (a : Lvl) (W : World) : Calls Try.prog 14 #[vLvl a, vLvl a] W fun e w' => e = .returned (.bool true) ∧ Below W.heap.size W w' := by
  have hb := (((Below.refl W.heap.size W).alloc (Nat.le_refl _) (.cells (cLvl a) 40)).alloc (by simp) (.cells (cLvl a) 44))
  obtain ⟨a0, a1, a2, a3⟩ := a
  go_enter Try.func14, Try.ntmps14
  go_wp2_with fail
  go_ret
  exact ⟨by simp, hb⟩
/-- What an act does. -/
noncomputable def Ld.act (s : Ld) (m : Lac) : Ld := if m.kind = 0 then s.putS m.price m.qty else if m.kind = 1 then s.takeS m.price m.qty m.gone else s
theorem Ld.act_wf {s : Ld} {k : Nat} (h : s.Wf k) {m : Lac} (hm : m.Fit) : (s.act m).Wf (k + 1) := by
  unfold Ld.act
  split
  · exact h.put hm.price.2 hm.qty.2
  · split
    · exact (h.take _ _ _).mono (Nat.le_succ k)
    · exact h.mono (Nat.le_succ k)
theorem Ld.act_most (s : Ld) (m : Lac) : (s.act m).most = s.most ∧ (s.act m).buy = s.buy := by
  unfold Ld.act Ld.putS Ld.takeS
  repeat' split
  all_goals exact ⟨rfl, rfl⟩
theorem Lac.cells {w : World} {b : Nat} {T : TypeId} {m : Lac} (h : Blk w b T (cLac m)) : w.cell? ⟨b, 0, none⟩ = some (.int .i64 m.kind) ∧ w.cell? ⟨b, 1, none⟩ = some (.int .i64 m.price) ∧ w.cell? ⟨b, 2, none⟩ = some (.int .i64 m.qty) ∧ w.cell? ⟨b, 3, none⟩ = some (.bool m.gone) := ⟨h.cell_eq 0 _ rfl, h.cell_eq 1 _ rfl, h.cell_eq 2 _ rfl, h.cell_eq 3 _ rfl⟩
/-- What stands at the beginning: the box. -/
theorem act_box {w0 W : World} {S0 : Nat → Prop} {g r : Nat} {s : Ld} (h : Bl w0 S0 g r s s W) (m : Lac) :
    ∃ S, Bl (W.alloc (.cells (cLac m) 34)) S g r s s (W.alloc (.cells (cLac m) 34)) ∧ (∀ s' t' w', Bl (W.alloc (.cells (cLac m) 34)) S g r s' t' w' → Blk w' W.heap.size 34 (cLac m) ∧ Bl w0 S0 g r s' t' w') := by
  have hb1 : Below W.heap.size W (W.alloc (.cells (cLac m) 34)) := (Below.refl _ _).alloc (Nat.le_refl _) _
  obtain ⟨S, h1, h2, h3⟩ := h.here
  obtain ⟨Sp, Sr, h4, h5, h6, h7⟩ := h1.both
  refine ⟨S, ⟨Frm.refl _ _, Sp, Sr, h4.below hb1, h5.below hb1, h6, fun b e => ?_⟩, fun s' t' w' k => ⟨k.blk (Blk.new _ _ _) (fun e => by have := h2 _ e; omega), Bl.sub (h.frm.trans (Frm.of_below (S := fun _ => False) hb1) (fun _ f => f.elim)) h3 k⟩⟩
  rcases h7 b e with e' | e'
  · exact .inl e'
  · have : b < W.heap.size := by
      rcases e with e | e
      · exact h4.lt b e
      · exact h5.lt b e
    omega
section
variable {w0 W : World} {S0 : Nat → Prop} {g r : Nat} {s : Ld} {k : Nat}
set_option maxRecDepth 8000 in
set_option maxHeartbeats 1000000 in
theorem act0_any (h : Bl w0 S0 g r s s W) (hw : s.Wf k) (hk : k ≤ 1000000) (m : Lac) (hm : m.Fit) (h0 : m.kind = 0) :
    Calls Try.prog 11 #[.pointer (some ⟨g, 0, none⟩), .pointer (some ⟨r, 0, none⟩), vLac m] W fun e w' => e = .returned (.bool true) ∧ Bl w0 S0 g r (s.putS m.price m.qty) (s.putS m.price m.qty) w' := by
  obtain ⟨S, k1, hk1⟩ := act_box h m
  obtain ⟨W1, hW1⟩ : ∃ W1, W1 = W.alloc (.cells (cLac m) 34) := ⟨_, rfl⟩
  rw [← hW1] at k1 hk1
  have bx := fun s' t' w' k => (hk1 s' t' w' k).1
  have fin := fun s' t' w' k => (hk1 s' t' w' k).2
  have hp := hm.price
  have hq := hm.qty
  obtain ⟨kind, price, qty, gone⟩ := m
  obtain rfl : kind = 0 := h0
  simp only at hp hq
  have cP := qPut k1 hw hk price qty hq
  have cR := fun w (k2 : Bl W1 S g r (s.putS price qty) s w) => qPutR k2 hw hk price qty hp hq
  generalize s.putS price qty = s2 at *
  generalize (s.putR price qty).1 = v1 at *
  generalize (s.putR price qty).2 = v2 at *
  simp only [cLac] at hW1
  have b1 := bx _ _ _ k1
  obtain ⟨x0, x1, x2, x3⟩ := Lac.cells b1
  simp only at x0 x1 x2 x3
  clear hk1 h b1 hp hq hm
  go_enter Try.func11, Try.ntmps11
  go_wp2_with (first
    | (rw [← hW1]; clear hW1)
    | (go_at_call 17; (with_reducible refine cP.mono ?_); rintro e w2 ⟨rfl, k2⟩; clear x0 x1 x2 x3; obtain ⟨x0, x1, x2, x3⟩ := Lac.cells (bx _ _ _ k2); simp only at x0 x1 x2 x3)
    | (go_at_call 24; (with_reducible refine (cR _ k2).mono ?_); rintro e w3 ⟨rfl, k3⟩))
  go_ret
  exact ⟨by simp, fin _ _ _ k3⟩
set_option maxRecDepth 8000 in
set_option maxHeartbeats 1000000 in
theorem act1_any (h : Bl w0 S0 g r s s W) (hw : s.Wf k) (hk : k ≤ 1000000) (m : Lac) (h0 : m.kind = 1) :
    Calls Try.prog 11 #[.pointer (some ⟨g, 0, none⟩), .pointer (some ⟨r, 0, none⟩), vLac m] W fun e w' => e = .returned (.bool true) ∧ Bl w0 S0 g r (s.takeS m.price m.qty m.gone) (s.takeS m.price m.qty m.gone) w' := by
  obtain ⟨S, k1, hk1⟩ := act_box h m
  obtain ⟨W1, hW1⟩ : ∃ W1, W1 = W.alloc (.cells (cLac m) 34) := ⟨_, rfl⟩
  rw [← hW1] at k1 hk1
  have bx := fun s' t' w' k => (hk1 s' t' w' k).1
  have fin := fun s' t' w' k => (hk1 s' t' w' k).2
  obtain ⟨kind, price, qty, gone⟩ := m
  obtain rfl : kind = 1 := h0
  have cP := qTake k1 hw hk price qty gone
  have cR := fun w (k2 : Bl W1 S g r (s.takeS price qty gone) s w) => qTakeR k2 hw hk price qty gone
  simp only at *
  generalize s.takeS price qty gone = s2 at *
  generalize (s.takeR price qty).1 = v1 at *
  generalize (s.takeR price qty).2 = v2 at *
  simp only [cLac] at hW1
  have b1 := bx _ _ _ k1
  obtain ⟨x0, x1, x2, x3⟩ := Lac.cells b1
  simp only at x0 x1 x2 x3
  clear hk1 h b1
  go_enter Try.func11, Try.ntmps11
  go_wp2_with (first
    | (rw [← hW1]; clear hW1)
    | (go_at_call 19; (with_reducible refine cP.mono ?_); rintro e w2 ⟨rfl, k2⟩; clear x0 x1 x2 x3; obtain ⟨x0, x1, x2, x3⟩ := Lac.cells (bx _ _ _ k2); simp only at x0 x1 x2 x3)
    | (go_at_call 25; (with_reducible refine (cR _ k2).mono ?_); rintro e w3 ⟨rfl, k3⟩))
  go_ret
  exact ⟨by simp, fin _ _ _ k3⟩
set_option maxRecDepth 8000 in
set_option maxHeartbeats 2000000 in
theorem act3_any (h : Bl w0 S0 g r s s W) (hw : s.Wf k) (m : Lac) (h0 : m.kind ≠ 0) (h1 : m.kind ≠ 1) (h2 : m.kind ≠ 2) :
    Calls Try.prog 11 #[.pointer (some ⟨g, 0, none⟩), .pointer (some ⟨r, 0, none⟩), vLac m] W fun e w' => e = .returned (.bool true) ∧ Bl w0 S0 g r s s w' := by
  obtain ⟨S, k1, hk1⟩ := act_box h m
  obtain ⟨W1, hW1⟩ : ∃ W1, W1 = W.alloc (.cells (cLac m) 34) := ⟨_, rfl⟩
  rw [← hW1] at k1 hk1
  have bx := fun s' t' w' k => (hk1 s' t' w' k).1
  have fin := fun s' t' w' k => (hk1 s' t' w' k).2
  obtain ⟨kind, price, qty, gone⟩ := m
  simp only at h0 h1 h2
  have d0 : (kind == 0) = false := by simpa using h0
  have d1 : (kind == 1) = false := by simpa using h1
  have d2 : (kind == 2) = false := by simpa using h2
  obtain ⟨V, hV⟩ : ∃ V, s.worth price = V := ⟨_, rfl⟩
  obtain ⟨B, hB⟩ : ∃ B, s.fits price = B := ⟨_, rfl⟩
  simp only [cLac] at hW1
  have b1 := bx _ _ _ k1
  obtain ⟨x0, x1, x2, x3⟩ := Lac.cells b1
  simp only at x0 x1 x2 x3
  clear hk1 h b1 h0 h1 h2
  have kd := k1.below ((Below.refl W1.heap.size W1).drew)
  go_enter Try.func11, Try.ntmps11
  go_wp2_with (rw [← hW1]; clear hW1)
  clear x0 x1 x2 x3
  refine wp_region_S (S := fun _ w => Bl W1 S g r s s w) (by kernel_rfl) kd ?_
  refine AllS.next (v := ?_) rfl rfl rfl (by kernel_rfl) ?_ ?_
  rotate_left
  · refine yieldsS_run (fun _ _ h => h) (by rfl) ?_
    intro L wx hS
    go_simp
    try with_reducible rfl
  simp only [Act.put, List.setIfInBounds_toArray, List.set_cons_zero, List.set_cons_succ, List.getElem_toArray, List.getElem_cons_zero]
  refine AllS.next (v := ?_) rfl rfl rfl (by kernel_rfl) ?_ ?_
  rotate_left
  · refine yieldsS_run (fun _ _ h => h) (by rfl) ?_
    intro L wx hS
    go_simp
    try with_reducible rfl
  simp only [Act.put, List.setIfInBounds_toArray, List.set_cons_zero, List.set_cons_succ, List.getElem_toArray, List.getElem_cons_zero, List.getElem_cons_succ]
  refine AllS.next (v := ?_) rfl rfl rfl (by kernel_rfl) ?_ ?_
  rotate_left
  · refine yieldsS_run (fun _ _ h => h) (by rfl) ?_
    intro L wx hS
    obtain ⟨x0, x1, x2, x3⟩ := Lac.cells (bx _ _ _ hS)
    simp only at x0 x1 x2 x3
    go_simp
    try with_reducible rfl
  simp only [Act.put, List.setIfInBounds_toArray, List.set_cons_zero, List.set_cons_succ, List.getElem_toArray, List.getElem_cons_zero, List.getElem_cons_succ]
  refine AllS.next (v := .int .i64 V) rfl rfl rfl (by kernel_rfl) ?_ ?_
  · refine yieldsS_call (f := 22) (args := #[.pointer (some ⟨g, 0, none⟩), .int .i64 price]) (by rfl) ?_ ?_
    · intro wx
      go_simp
      try with_reducible rfl
    · intro L wx hS
      exact qWorth hS hw price V hV
  simp only [Act.put, List.setIfInBounds_toArray, List.set_cons_zero, List.set_cons_succ, List.getElem_toArray, List.getElem_cons_zero, List.getElem_cons_succ]
  refine AllS.next (v := ?_) rfl rfl rfl (by kernel_rfl) ?_ ?_
  rotate_left
  · refine yieldsS_run (fun _ _ h => h) (by rfl) ?_
    intro L wx hS
    go_simp
    try with_reducible rfl
  simp only [Act.put, List.setIfInBounds_toArray, List.set_cons_zero, List.set_cons_succ, List.getElem_toArray, List.getElem_cons_zero, List.getElem_cons_succ]
  refine AllS.next (v := ?_) rfl rfl rfl (by kernel_rfl) ?_ ?_
  rotate_left
  · refine yieldsS_run (fun _ _ h => h) (by rfl) ?_
    intro L wx hS
    go_simp
    try with_reducible rfl
  simp only [Act.put, List.setIfInBounds_toArray, List.set_cons_zero, List.set_cons_succ, List.getElem_toArray, List.getElem_cons_zero, List.getElem_cons_succ]
  refine AllS.next (v := ?_) rfl rfl rfl (by kernel_rfl) ?_ ?_
  rotate_left
  · refine yieldsS_run (fun _ _ h => h) (by rfl) ?_
    intro L wx hS
    obtain ⟨x0, x1, x2, x3⟩ := Lac.cells (bx _ _ _ hS)
    simp only at x0 x1 x2 x3
    go_simp
    try with_reducible rfl
  simp only [Act.put, List.setIfInBounds_toArray, List.set_cons_zero, List.set_cons_succ, List.getElem_toArray, List.getElem_cons_zero, List.getElem_cons_succ]
  refine AllS.next (v := .int .i64 V) rfl rfl rfl (by kernel_rfl) ?_ ?_
  · refine yieldsS_call (f := 26) (args := #[.pointer (some ⟨r, 0, none⟩), .int .i64 price]) (by rfl) ?_ ?_
    · intro wx
      go_simp
      try with_reducible rfl
    · intro L wx hS
      exact qWorthR hS hw price V hV
  simp only [Act.put, List.setIfInBounds_toArray, List.set_cons_zero, List.set_cons_succ, List.getElem_toArray, List.getElem_cons_zero, List.getElem_cons_succ]
  refine AllS.next (v := ?_) rfl rfl rfl (by kernel_rfl) ?_ ?_
  rotate_left
  · refine yieldsS_run (fun _ _ h => h) (by rfl) ?_
    intro L wx hS
    go_simp
    try with_reducible rfl
  simp only [Act.put, List.setIfInBounds_toArray, List.set_cons_zero, List.set_cons_succ, List.getElem_toArray, List.getElem_cons_zero, List.getElem_cons_succ]
  refine AllS.next (v := ?_) rfl rfl rfl (by kernel_rfl) ?_ ?_
  rotate_left
  · refine yieldsS_run (fun _ _ h => h) (by rfl) ?_
    intro L wx hS
    go_simp
    try with_reducible rfl
  simp only [Act.put, List.setIfInBounds_toArray, List.set_cons_zero, List.set_cons_succ, List.getElem_toArray, List.getElem_cons_zero, List.getElem_cons_succ]
  refine AllS.next (v := ?_) rfl rfl rfl (by kernel_rfl) ?_ ?_
  rotate_left
  · refine yieldsS_run (fun _ _ h => h) (by rfl) ?_
    intro L wx hS
    go_simp
    try with_reducible rfl
  simp only [Act.put, List.setIfInBounds_toArray, List.set_cons_zero, List.set_cons_succ, List.getElem_toArray, List.getElem_cons_zero, List.getElem_cons_succ]
  refine AllS.next (v := ?_) rfl rfl rfl (by kernel_rfl) ?_ ?_
  rotate_left
  · refine yieldsS_run (fun _ _ h => h) (by rfl) ?_
    intro L wx hS
    go_simp
    try with_reducible rfl
  simp only [Act.put, List.setIfInBounds_toArray, List.set_cons_zero, List.set_cons_succ, List.getElem_toArray, List.getElem_cons_zero, List.getElem_cons_succ]
  refine AllS.next (v := ?_) rfl rfl rfl (by kernel_rfl) ?_ ?_
  rotate_left
  · refine yieldsS_run (fun _ _ h => h) (by rfl) ?_
    intro L wx hS
    obtain ⟨x0, x1, x2, x3⟩ := Lac.cells (bx _ _ _ hS)
    simp only at x0 x1 x2 x3
    go_simp
    try with_reducible rfl
  simp only [Act.put, List.setIfInBounds_toArray, List.set_cons_zero, List.set_cons_succ, List.getElem_toArray, List.getElem_cons_zero, List.getElem_cons_succ]
  refine AllS.next (v := .bool B) rfl rfl rfl (by kernel_rfl) ?_ ?_
  · refine yieldsS_call (f := 21) (args := #[.pointer (some ⟨g, 0, none⟩), .int .i64 price]) (by rfl) ?_ ?_
    · intro wx
      go_simp
      try with_reducible rfl
    · intro L wx hS
      exact qFits hS hw price B hB
  simp only [Act.put, List.setIfInBounds_toArray, List.set_cons_zero, List.set_cons_succ, List.getElem_toArray, List.getElem_cons_zero, List.getElem_cons_succ]
  refine AllS.next (v := ?_) rfl rfl rfl (by kernel_rfl) ?_ ?_
  rotate_left
  · refine yieldsS_run (fun _ _ h => h) (by rfl) ?_
    intro L wx hS
    go_simp
    try with_reducible rfl
  simp only [Act.put, List.setIfInBounds_toArray, List.set_cons_zero, List.set_cons_succ, List.getElem_toArray, List.getElem_cons_zero, List.getElem_cons_succ]
  refine AllS.next (v := ?_) rfl rfl rfl (by kernel_rfl) ?_ ?_
  rotate_left
  · refine yieldsS_run (fun _ _ h => h) (by rfl) ?_
    intro L wx hS
    go_simp
    try with_reducible rfl
  simp only [Act.put, List.setIfInBounds_toArray, List.set_cons_zero, List.set_cons_succ, List.getElem_toArray, List.getElem_cons_zero, List.getElem_cons_succ]
  refine AllS.next (v := ?_) rfl rfl rfl (by kernel_rfl) ?_ ?_
  rotate_left
  · refine yieldsS_run (fun _ _ h => h) (by rfl) ?_
    intro L wx hS
    obtain ⟨x0, x1, x2, x3⟩ := Lac.cells (bx _ _ _ hS)
    simp only at x0 x1 x2 x3
    go_simp
    try with_reducible rfl
  simp only [Act.put, List.setIfInBounds_toArray, List.set_cons_zero, List.set_cons_succ, List.getElem_toArray, List.getElem_cons_zero, List.getElem_cons_succ]
  refine AllS.next (v := .bool B) rfl rfl rfl (by kernel_rfl) ?_ ?_
  · refine yieldsS_call (f := 27) (args := #[.pointer (some ⟨r, 0, none⟩), .int .i64 price]) (by rfl) ?_ ?_
    · intro wx
      go_simp
      try with_reducible rfl
    · intro L wx hS
      exact qFitsR hS price B hB
  simp only [Act.put, List.setIfInBounds_toArray, List.set_cons_zero, List.set_cons_succ, List.getElem_toArray, List.getElem_cons_zero, List.getElem_cons_succ]
  refine AllS.next (v := ?_) rfl rfl rfl (by kernel_rfl) ?_ ?_
  rotate_left
  · refine yieldsS_run (fun _ _ h => h) (by rfl) ?_
    intro L wx hS
    go_simp
    try with_reducible rfl
  simp only [Act.put, List.setIfInBounds_toArray, List.set_cons_zero, List.set_cons_succ, List.getElem_toArray, List.getElem_cons_zero, List.getElem_cons_succ]
  refine AllS.next (v := ?_) rfl rfl rfl (by kernel_rfl) ?_ ?_
  rotate_left
  · refine yieldsS_run (fun _ _ h => h) (by rfl) ?_
    intro L wx hS
    go_simp
    try with_reducible rfl
  simp only [Act.put, List.setIfInBounds_toArray, List.set_cons_zero, List.set_cons_succ, List.getElem_toArray, List.getElem_cons_zero, List.getElem_cons_succ]
  refine AllS.next (v := ?_) rfl rfl rfl (by kernel_rfl) ?_ ?_
  rotate_left
  · refine yieldsS_run (fun _ _ h => h) (by rfl) ?_
    intro L wx hS
    go_simp
    try with_reducible rfl
  simp only [Act.put, List.setIfInBounds_toArray, List.set_cons_zero, List.set_cons_succ, List.getElem_toArray, List.getElem_cons_zero, List.getElem_cons_succ]
  refine AllS.done (by kernel_rfl) fun w2 k2 => ?_
  go_wp2_with fail
  go_ret
  exact ⟨by simp, fin _ _ _ k2⟩
end
end Go.Proofs.Ythlpnlmjpdcbiaa
