/-
  The program's book and the document's, side by side; Do: the same on both. (Written by gen/p_bbo.py.)
-/
import Derived.Test.YthbopaeaplejiaaDoorGZ
import Derived.Test.YthbopaeaplejiaaDoorGU
import Derived.Test.YthbopaeaplejiaaDoorBacVq
import Derived.Test.YthbopaeaplejiaaDoorGC
namespace Go.Proofs.YthbopaeaplejiaaDoor
open Go.RowKit
set_option linter.unusedSimpArgs false
/-- The two: the program's at g, the document's at r; of what was there at w0 only S0 has turned. -/
structure Bb (w0 : World) (S0 : Nat → Prop) (g r k : Nat) (b t : Bk) (w : World) : Prop where
  s2 : 2 ≤ w0.heap.size ∧ ∀ c, S0 c → 2 ≤ c
  frm : Frm S0 w0 w
  both : ∃ Sp Sr, PB w g Sp k b ∧ RK w r Sr t ∧ (∀ c, Sp c → ¬ Sr c) ∧ ∀ c, Sp c ∨ Sr c → S0 c ∨ w0.heap.size ≤ c
section
variable {w0 w w' W : World} {S0 : Nat → Prop} {g r k : Nat} {b b' t t' : Bk}
theorem two_of {n : Nat} {c : Nat} (h : 2 ≤ n ∧ ∀ c, S0 c → 2 ≤ c) (hc : S0 c ∨ n ≤ c) : 2 ≤ c := by
  rcases hc with e | e
  · exact h.2 c e
  · have := h.1; omega
theorem Bb.below (h : Bb w0 S0 g r k b t w) (hb : Below w.heap.size w w') : Bb w0 S0 g r k b t w' := by
  obtain ⟨Sp, Sr, h1, h2, h3, h4⟩ := h.both
  exact ⟨h.s2, h.frm.trans (Frm.of_below (S := fun _ => False) hb) (fun _ f => f.elim), Sp, Sr, h1.below hb, h2.below hb, h3, h4⟩
theorem Bb.mono (h : Bb w0 S0 g r k b t w) {m : Nat} (hk : k ≤ m) : Bb w0 S0 g r m b t w := by
  obtain ⟨Sp, Sr, h1, h2, h3, h4⟩ := h.both
  exact ⟨h.s2, h.frm, Sp, Sr, h1.mono hk, h2, h3, h4⟩
theorem Bb.ok (h : Bb w0 S0 g r k b t w) : b.Ok := by
  obtain ⟨Sp, Sr, h1, -⟩ := h.both
  exact h1.ok
theorem Bb.stepG {Sp Sr : Nat → Prop} {m : Nat} (hs : 2 ≤ w0.heap.size ∧ ∀ c, S0 c → 2 ≤ c) (hf0 : Frm S0 w0 w) (h2 : RK w r Sr t) (h3 : ∀ c, Sp c → ¬ Sr c) (h4 : ∀ c, Sp c ∨ Sr c → S0 c ∨ w0.heap.size ≤ c) (ha : ∃ S', PB w' g S' m b' ∧ ∀ c, S' c → Sp c ∨ w.heap.size ≤ c) (hf : Frm Sp w w') : Bb w0 S0 g r m b' t w' := by
  obtain ⟨S', h5, h6⟩ := ha
  refine ⟨hs, hf0.trans hf (fun c e => h4 c (.inl e)), S', Sr, h5, h2.frm hf h3, fun c e hr => ?_, fun c e => ?_⟩
  · rcases h6 c e with e' | e'
    · exact h3 c e' hr
    · have := h2.lt c hr; omega
  · rcases e with e | e
    · rcases h6 c e with e | e
      · exact h4 c (.inl e)
      · have := hf0.size; exact .inr (by omega)
    · exact h4 c (.inr e)
theorem Bb.doc {Sp Sr : Nat → Prop} (hs : 2 ≤ w0.heap.size ∧ ∀ c, S0 c → 2 ≤ c) (hf0 : Frm S0 w0 w) (h1 : PB w g Sp k b) (h3 : ∀ c, Sp c → ¬ Sr c) (h4 : ∀ c, Sp c ∨ Sr c → S0 c ∨ w0.heap.size ≤ c) (ha : ∃ S', RK w' r S' t' ∧ ∀ c, S' c → Sr c ∨ w.heap.size ≤ c) (hf : Frm Sr w w') : Bb w0 S0 g r k b t' w' := by
  obtain ⟨S', h5, h6⟩ := ha
  refine ⟨hs, hf0.trans hf (fun c e => h4 c (.inr e)), Sp, S', h1.frm hf (fun c e hr => h3 c hr e) (fun c e => two_of hs (h4 c (.inr e))), h5, fun c e hr => ?_, fun c e => ?_⟩
  · rcases h6 c hr with e' | e'
    · exact h3 c e e'
    · have := h1.lt c e; omega
  · rcases e with e | e
    · exact h4 c (.inl e)
    · rcases h6 c e with e | e
      · exact h4 c (.inr e)
      · have := hf0.size; exact .inr (by omega)
/-- Seen from a later world. -/
theorem Bb.sub {W1 : World} {S : Nat → Prop} (hs : 2 ≤ w0.heap.size ∧ ∀ c, S0 c → 2 ≤ c) (h : Frm S0 w0 W1) (h5 : ∀ c, S c → S0 c ∨ w0.heap.size ≤ c) (q : Bb W1 S g r k b t w) : Bb w0 S0 g r k b t w := by
  obtain ⟨Sp, Sr, k1, k2, k3, k4⟩ := q.both
  refine ⟨hs, h.trans q.frm h5, Sp, Sr, k1, k2, k3, fun c e => ?_⟩
  rcases k4 c e with e | e
  · exact h5 c e
  · have := h.size; exact .inr (by omega)
theorem Bb.blk (h : Bb w0 S0 g r k b t w) {c : Nat} {T : TypeId} {cs : Array Value} (hb : Blk w0 c T cs) (h2 : ¬ S0 c) : Blk w c T cs := (h.frm.block c hb.lt h2).trans hb
/-- As they stand. -/
theorem Bb.here (h : Bb w0 S0 g r k b t w) : ∃ S, Bb w S g r k b t w ∧ (∀ c, S c → c < w.heap.size) ∧ ∀ c, S c → S0 c ∨ w0.heap.size ≤ c := by
  obtain ⟨Sp, Sr, h1, h2, h3, h4⟩ := h.both
  have hsz := h.frm.size
  have hs2 := h.s2.1
  exact ⟨fun c => Sp c ∨ Sr c, ⟨⟨by omega, fun c e => two_of h.s2 (h4 c e)⟩, Frm.refl _ _, Sp, Sr, h1, h2, h3, fun c e => .inl e⟩, fun c e => by rcases e with e | e; exact h1.lt c e; exact h2.lt c e, h4⟩
/-- A box that is laid behind them stays as it is, whatever they do. -/
theorem Bb.box (h : Bb w0 S0 g r k b t w) (T : TypeId) (cs : Array Value) : ∃ W3 S, W3 = w.alloc (.cells cs T) ∧ Bb W3 S g r k b t W3 ∧ ∀ k' b' t' w', Bb W3 S g r k' b' t' w' → Blk w' w.heap.size T cs ∧ Bb w0 S0 g r k' b' t' w' := by
  obtain ⟨S, h1, h2, h3⟩ := h.here
  have hb : Below w.heap.size w (w.alloc (.cells cs T)) := (Below.refl _ _).alloc (Nat.le_refl _) _
  obtain ⟨Sp, Sr, h4, h5, h6, h7⟩ := h1.both
  have hsz := hb.size
  have hs2 := h1.s2
  refine ⟨_, S, rfl, ⟨⟨by omega, hs2.2⟩, Frm.refl _ _, Sp, Sr, h4.below hb, h5.below hb, h6, fun c e => ?_⟩, fun k' b' t' w' q => ⟨q.blk (Blk.new _ _ _) (fun e => by have := h2 _ e; omega), ?_⟩⟩
  · rcases h7 c e with e' | e'
    · exact .inl e'
    · have : c < w.heap.size := by
        rcases e with e | e
        · exact h4.lt c e
        · exact h5.lt c e
      omega
  · exact Bb.sub h.s2 (h.frm.trans (Frm.of_below (S := fun _ => False) hb) (fun _ f => f.elim)) h3 q
theorem bqAdd (h : Bb w0 S0 g r k b t w) (hk : k < 100000) {o : Ord} (ho : o.Fit) : Calls Tryd.prog 13 #[.pointer (some ⟨g, 0, none⟩), vOrd o] w fun e w' => e = .returned (.int .i64 (b.addF o)) ∧ Bb w0 S0 g r (k + 1) (b.add o) t w' := by
  obtain ⟨Sp, Sr, h1, h2, h3, h4⟩ := h.both
  exact (pb_add o ho h1 hk).mono fun e w' ⟨he, ha, hf⟩ => ⟨he, Bb.stepG h.s2 h.frm h2 h3 h4 ha hf⟩
theorem bqAddR (h : Bb w0 S0 g r k b t w) (ht : t.Ok) (o : Ord) : Calls Tryd.prog 32 #[.pointer (some ⟨r, 0, none⟩), vOrd o] w fun e w' => e = .returned (.int .i64 (t.addF o)) ∧ Bb w0 S0 g r k b (t.add o) w' := by
  obtain ⟨Sp, Sr, h1, h2, h3, h4⟩ := h.both
  have h5 := ht.len
  have h6 := ht.s2
  exact (kadd_any o h2 (by omega) (by omega)).mono fun e w' ⟨he, ha, hf⟩ => ⟨he, Bb.doc h.s2 h.frm h1 h3 h4 ha hf⟩
theorem bqRem (h : Bb w0 S0 g r k b t w) (hk : k < 100000) {d : Int} (hd : In64 d) : Calls Tryd.prog 18 #[.pointer (some ⟨g, 0, none⟩), .int .i64 d] w fun e w' => e = .returned (.tuple #[vOrd (b.remF d).1, .int .i64 (b.remF d).2]) ∧ Bb w0 S0 g r (k + 1) (b.rem d) t w' := by
  obtain ⟨Sp, Sr, h1, h2, h3, h4⟩ := h.both
  exact (pb_rem d hd h1 hk).mono fun e w' ⟨he, ha, hf⟩ => ⟨he, Bb.stepG h.s2 h.frm h2 h3 h4 ha hf⟩
theorem bqRemR (h : Bb w0 S0 g r k b t w) (ht : t.Ok) (d : Int) : Calls Tryd.prog 33 #[.pointer (some ⟨r, 0, none⟩), .int .i64 d] w fun e w' => e = .returned (.tuple #[vOrd (t.remF d).1, .int .i64 (t.remF d).2]) ∧ Bb w0 S0 g r k b (t.rem d) w' := by
  obtain ⟨Sp, Sr, h1, h2, h3, h4⟩ := h.both
  have h5 := ht.len
  have h6 := ht.s2
  exact (krem_any d h2 (by omega)).mono fun e w' ⟨he, ha, hf⟩ => ⟨he, Bb.doc h.s2 h.frm h1 h3 h4 ha hf⟩
theorem bqRed (h : Bb w0 S0 g r k b t w) (hk : k < 100000) {d by' : Int} (hd : In64 d) (hb : In64 by') : Calls Tryd.prog 19 #[.pointer (some ⟨g, 0, none⟩), .int .i64 d, .int .i64 by'] w fun e w' => e = .returned (.tuple #[vOrd (b.redF d by').1, .int .i64 (b.redF d by').2]) ∧ Bb w0 S0 g r (k + 1) (b.red d by') t w' := by
  obtain ⟨Sp, Sr, h1, h2, h3, h4⟩ := h.both
  exact (pb_red d by' hd hb h1 hk).mono fun e w' ⟨he, ha, hf⟩ => ⟨he, Bb.stepG h.s2 h.frm h2 h3 h4 ha hf⟩
theorem bqRedR (h : Bb w0 S0 g r k b t w) (ht : t.Ok) (d by' : Int) : Calls Tryd.prog 34 #[.pointer (some ⟨r, 0, none⟩), .int .i64 d, .int .i64 by'] w fun e w' => e = .returned (.tuple #[vOrd (t.redF d by').1, .int .i64 (t.redF d by').2]) ∧ Bb w0 S0 g r k b (t.red d by') w' := by
  obtain ⟨Sp, Sr, h1, h2, h3, h4⟩ := h.both
  have h5 := ht.len
  have h6 := ht.s2
  exact (kred_any d by' h2 (by omega) (fun x hx => ⟨(ht.ok x hx).fit.qty, (ht.ok x hx).q1⟩)).mono fun e w' ⟨he, ha, hf⟩ => ⟨he, Bb.doc h.s2 h.frm h1 h3 h4 ha hf⟩
theorem bqGet (h : Bb w0 S0 g r k b t w) {d : Int} (hd : In64 d) : Calls Tryd.prog 20 #[.pointer (some ⟨g, 0, none⟩), .int .i64 d] w fun e w' => e = .returned (.tuple #[vOrd ((b.get d).getD .zero), .bool (b.get d).isSome]) ∧ Bb w0 S0 g r k b t w' := by
  obtain ⟨Sp, Sr, h1, h2, h3, h4⟩ := h.both
  exact (pb_get d hd h1).mono fun e w' ⟨he, hb⟩ => ⟨he, h.below hb⟩
theorem bqGetR (h : Bb w0 S0 g r k b t w) (ht : t.Ok) (d : Int) : Calls Tryd.prog 35 #[.pointer (some ⟨r, 0, none⟩), .int .i64 d] w fun e w' => e = .returned (.tuple #[vOrd ((t.get d).getD .zero), .bool (t.get d).isSome]) ∧ Bb w0 S0 g r k b t w' := by
  obtain ⟨Sp, Sr, h1, h2, h3, h4⟩ := h.both
  have h5 := ht.len
  have h6 := ht.s2
  exact (kget_any d h2 (by omega)).mono fun e w' ⟨he, hb⟩ => ⟨he, h.below hb⟩
/-- What an act leaves. -/
def Bk.act (b : Bk) (m : Bac) : Bk := if m.kind = 0 then b.add m.o else if m.kind = 1 then b.rem m.o.id else if m.kind = 2 then b.red m.o.id m.amt else b
theorem Bk.Ok.act {b : Bk} (h : b.Ok) {m : Bac} (hm : m.Fit) : (b.act m).Ok := by
  unfold Bk.act
  split
  · exact h.add hm.o
  split
  · exact h.rem _
  split
  · exact h.red _ _
  · exact h
/-- How far the two have come. -/
def J2b (W1 : World) (S : Nat → Prop) (g r k : Nat) (b b' : Bk) (x y : Bool) (w : World) : Prop := Bb W1 S g r (bif x then k + 1 else k) (bif x then b' else b) (bif y then b' else b) w
set_option maxRecDepth 8000 in
set_option maxHeartbeats 4000000 in
theorem bact0_any (h : Bb w0 S0 g r k b b W) (hk : k < 100000) (m : Bac) (hm : m.Fit) (h0 : m.kind = 0) :
    Calls Tryd.prog 10 #[.pointer (some ⟨g, 0, none⟩), .pointer (some ⟨r, 0, none⟩), vBac m] W fun e w' => e = .returned (.bool true) ∧ Bb w0 S0 g r (k + 1) (b.add m.o) (b.add m.o) w' := by
  obtain ⟨W1, S1, hW1, k1, hx1⟩ := h.box 36 (cBac m)
  have hok := h.ok
  obtain ⟨hm0, hmo, hma⟩ := hm
  obtain ⟨kind, o, amt⟩ := m
  obtain ⟨y0, y1, y2, y3, y4, y5, y6⟩ := o
  simp only at h0 hmo hma
  simp only [cBac] at hW1
  have bx : ∀ k' b' t' w', Bb W1 S1 g r k' b' t' w' → w'.cell? ⟨W.heap.size, 0, none⟩ = some (.int .i64 kind) ∧ (w'.cell? ⟨W.heap.size, 1, none⟩ = some (.int .i64 y0) ∧ w'.cell? ⟨W.heap.size, 2, none⟩ = some (.int .i64 y1) ∧ w'.cell? ⟨W.heap.size, 3, none⟩ = some (.int .i64 y2) ∧ w'.cell? ⟨W.heap.size, 4, none⟩ = some (.int .i64 y3) ∧ w'.cell? ⟨W.heap.size, 5, none⟩ = some (.int .i64 y4) ∧ w'.cell? ⟨W.heap.size, 6, none⟩ = some (.int .i64 y5) ∧ w'.cell? ⟨W.heap.size, 7, none⟩ = some (.int .i64 y6)) ∧ w'.cell? ⟨W.heap.size, 8, none⟩ = some (.int .i64 amt) := by
    intro k' b' t' w' q
    have hB := (hx1 _ _ _ _ q).1
    exact ⟨hB.cell_eq 0 _ rfl, ⟨hB.cell_eq 1 _ rfl, hB.cell_eq 2 _ rfl, hB.cell_eq 3 _ rfl, hB.cell_eq 4 _ rfl, hB.cell_eq 5 _ rfl, hB.cell_eq 6 _ rfl, hB.cell_eq 7 _ rfl⟩, hB.cell_eq 8 _ rfl⟩
  have fin := fun k' b' t' w' q => (hx1 k' b' t' w' q).2
  obtain ⟨x0, ⟨x1, x2, x3, x4, x5, x6, x7⟩, x8⟩ := bx _ _ _ _ k1
  clear hx1 h hm0
  subst h0
  go_enter Tryd.func10, Tryd.ntmps10
  go_wp2_with (rw [← hW1]; clear hW1)
  have hJ : J2b W1 S1 g r k b (b.add ⟨y0, y1, y2, y3, y4, y5, y6⟩) false false W1.drew := k1.below ((Below.refl _ _).drew)
  clear x0 x1 x2 x3 x4 x5 x6 x7 x8
  refine wp_region_S (S := fun L w' => Duo 10 3 7 (J2b W1 S1 g r k b (b.add ⟨y0, y1, y2, y3, y4, y5, y6⟩)) L w') (by kernel_rfl) (Duo.start 10 3 7 hJ) ?_
  refine AllS.next (v := ?_) rfl rfl rfl (by kernel_rfl) ?_ ?_
  rotate_left
  · refine yieldsS_run (fun _ _ h => h.other (by decide) (by decide)) (by rfl) ?_
    intro L wx hS
    go_simp
    try with_reducible rfl
  simp only [Act.put, List.setIfInBounds_toArray, List.set_cons_zero, List.set_cons_succ, List.getElem_toArray, List.getElem_cons_zero]
  refine AllS.next (v := ?_) rfl rfl rfl (by kernel_rfl) ?_ ?_
  rotate_left
  · refine yieldsS_run (fun _ _ h => h.other (by decide) (by decide)) (by rfl) ?_
    intro L wx hS
    go_simp
    try with_reducible rfl
  simp only [Act.put, List.setIfInBounds_toArray, List.set_cons_zero, List.set_cons_succ, List.getElem_toArray, List.getElem_cons_zero, List.getElem_cons_succ]
  refine AllS.next (v := ?_) rfl rfl rfl (by kernel_rfl) ?_ ?_
  rotate_left
  · refine yieldsS_run (fun _ _ h => h.other (by decide) (by decide)) (by rfl) ?_
    intro L wx hS
    obtain ⟨x0, ⟨x1, x2, x3, x4, x5, x6, x7⟩, x8⟩ := bx _ _ _ _ hS.at'
    go_simp
    try with_reducible rfl
  simp only [Act.put, List.setIfInBounds_toArray, List.set_cons_zero, List.set_cons_succ, List.getElem_toArray, List.getElem_cons_zero, List.getElem_cons_succ]
  refine AllS.next (v := .int .i64 (b.addF ⟨y0, y1, y2, y3, y4, y5, y6⟩)) rfl rfl rfl (by kernel_rfl) ?_ ?_
  · refine yieldsS_callq (f := 13) (args := #[.pointer (some ⟨g, 0, none⟩), .agg #[.int .i64 y0, .int .i64 y1, .int .i64 y2, .int .i64 y3, .int .i64 y4, .int .i64 y5, .int .i64 y6]]) (by rfl) ?_ ?_
    · intro wx
      go_simp
      try with_reducible rfl
    · intro L wx hL hS
      exact hS.fst hL (by decide) (by decide) (fun _ w h => bqAdd h hk hmo)
  simp only [Act.put, List.setIfInBounds_toArray, List.set_cons_zero, List.set_cons_succ, List.getElem_toArray, List.getElem_cons_zero, List.getElem_cons_succ]
  refine AllS.next (v := ?_) rfl rfl rfl (by kernel_rfl) ?_ ?_
  rotate_left
  · refine yieldsS_run (fun _ _ h => h.other (by decide) (by decide)) (by rfl) ?_
    intro L wx hS
    go_simp
    try with_reducible rfl
  simp only [Act.put, List.setIfInBounds_toArray, List.set_cons_zero, List.set_cons_succ, List.getElem_toArray, List.getElem_cons_zero, List.getElem_cons_succ]
  refine AllS.next (v := ?_) rfl rfl rfl (by kernel_rfl) ?_ ?_
  rotate_left
  · refine yieldsS_run (fun _ _ h => h.other (by decide) (by decide)) (by rfl) ?_
    intro L wx hS
    go_simp
    try with_reducible rfl
  simp only [Act.put, List.setIfInBounds_toArray, List.set_cons_zero, List.set_cons_succ, List.getElem_toArray, List.getElem_cons_zero, List.getElem_cons_succ]
  refine AllS.next (v := ?_) rfl rfl rfl (by kernel_rfl) ?_ ?_
  rotate_left
  · refine yieldsS_run (fun _ _ h => h.other (by decide) (by decide)) (by rfl) ?_
    intro L wx hS
    obtain ⟨x0, ⟨x1, x2, x3, x4, x5, x6, x7⟩, x8⟩ := bx _ _ _ _ hS.at'
    go_simp
    try with_reducible rfl
  simp only [Act.put, List.setIfInBounds_toArray, List.set_cons_zero, List.set_cons_succ, List.getElem_toArray, List.getElem_cons_zero, List.getElem_cons_succ]
  refine AllS.next (v := .int .i64 (b.addF ⟨y0, y1, y2, y3, y4, y5, y6⟩)) rfl rfl rfl (by kernel_rfl) ?_ ?_
  · refine yieldsS_callq (f := 32) (args := #[.pointer (some ⟨r, 0, none⟩), .agg #[.int .i64 y0, .int .i64 y1, .int .i64 y2, .int .i64 y3, .int .i64 y4, .int .i64 y5, .int .i64 y6]]) (by rfl) ?_ ?_
    · intro wx
      go_simp
      try with_reducible rfl
    · intro L wx hL hS
      exact hS.snd hL (by decide) (by decide) (fun _ w h => bqAddR h hok _)
  simp only [Act.put, List.setIfInBounds_toArray, List.set_cons_zero, List.set_cons_succ, List.getElem_toArray, List.getElem_cons_zero, List.getElem_cons_succ]
  refine AllS.next (v := ?_) rfl rfl rfl (by kernel_rfl) ?_ ?_
  rotate_left
  · refine yieldsS_run (fun _ _ h => h.other (by decide) (by decide)) (by rfl) ?_
    intro L wx hS
    go_simp
    try with_reducible rfl
  simp only [Act.put, List.setIfInBounds_toArray, List.set_cons_zero, List.set_cons_succ, List.getElem_toArray, List.getElem_cons_zero, List.getElem_cons_succ]
  refine AllS.next (v := ?_) rfl rfl rfl (by kernel_rfl) ?_ ?_
  rotate_left
  · refine yieldsS_run (fun _ _ h => h.other (by decide) (by decide)) (by rfl) ?_
    intro L wx hS
    go_simp
    try with_reducible rfl
  simp only [Act.put, List.setIfInBounds_toArray, List.set_cons_zero, List.set_cons_succ, List.getElem_toArray, List.getElem_cons_zero, List.getElem_cons_succ]
  refine AllS.done rfl ?_
  intro w9 hS9
  have k9 : Bb W1 S1 g r (k + 1) (b.add ⟨y0, y1, y2, y3, y4, y5, y6⟩) (b.add ⟨y0, y1, y2, y3, y4, y5, y6⟩) w9 := Duo.fin hS9 (by rfl) (by rfl)
  go_wp2_with fail
  go_ret
  exact ⟨by simp, fin _ _ _ _ k9⟩
set_option maxRecDepth 8000 in
set_option maxHeartbeats 4000000 in
theorem bact1_any (h : Bb w0 S0 g r k b b W) (hk : k < 100000) (m : Bac) (hm : m.Fit) (h0 : m.kind = 1) :
    Calls Tryd.prog 10 #[.pointer (some ⟨g, 0, none⟩), .pointer (some ⟨r, 0, none⟩), vBac m] W fun e w' => e = .returned (.bool true) ∧ Bb w0 S0 g r (k + 1) (b.rem m.o.id) (b.rem m.o.id) w' := by
  obtain ⟨W1, S1, hW1, k1, hx1⟩ := h.box 36 (cBac m)
  have hok := h.ok
  obtain ⟨hm0, hmo, hma⟩ := hm
  obtain ⟨kind, o, amt⟩ := m
  obtain ⟨y0, y1, y2, y3, y4, y5, y6⟩ := o
  simp only at h0 hmo hma
  simp only [cBac] at hW1
  have bx : ∀ k' b' t' w', Bb W1 S1 g r k' b' t' w' → w'.cell? ⟨W.heap.size, 0, none⟩ = some (.int .i64 kind) ∧ (w'.cell? ⟨W.heap.size, 1, none⟩ = some (.int .i64 y0) ∧ w'.cell? ⟨W.heap.size, 2, none⟩ = some (.int .i64 y1) ∧ w'.cell? ⟨W.heap.size, 3, none⟩ = some (.int .i64 y2) ∧ w'.cell? ⟨W.heap.size, 4, none⟩ = some (.int .i64 y3) ∧ w'.cell? ⟨W.heap.size, 5, none⟩ = some (.int .i64 y4) ∧ w'.cell? ⟨W.heap.size, 6, none⟩ = some (.int .i64 y5) ∧ w'.cell? ⟨W.heap.size, 7, none⟩ = some (.int .i64 y6)) ∧ w'.cell? ⟨W.heap.size, 8, none⟩ = some (.int .i64 amt) := by
    intro k' b' t' w' q
    have hB := (hx1 _ _ _ _ q).1
    exact ⟨hB.cell_eq 0 _ rfl, ⟨hB.cell_eq 1 _ rfl, hB.cell_eq 2 _ rfl, hB.cell_eq 3 _ rfl, hB.cell_eq 4 _ rfl, hB.cell_eq 5 _ rfl, hB.cell_eq 6 _ rfl, hB.cell_eq 7 _ rfl⟩, hB.cell_eq 8 _ rfl⟩
  have fin := fun k' b' t' w' q => (hx1 k' b' t' w' q).2
  obtain ⟨x0, ⟨x1, x2, x3, x4, x5, x6, x7⟩, x8⟩ := bx _ _ _ _ k1
  clear hx1 h hm0
  subst h0
  have cP := bqRem k1 hk hmo.id
  have cD := fun W3 S3 w (q : Bb W3 S3 g r (k + 1) (b.rem y0) b w) => bqRemR q hok y0
  obtain ⟨⟨z, f⟩, hans⟩ : ∃ p, p = b.remF y0 := ⟨_, rfl⟩
  simp only [← hans] at cP cD
  have hans := Lib.hid hans
  obtain ⟨z0, z1, z2, z3, z4, z5, z6⟩ := z
  have heq := eql_Ord ⟨z0, z1, z2, z3, z4, z5, z6⟩ ⟨z0, z1, z2, z3, z4, z5, z6⟩
  rw [eqOrd_self] at heq
  simp only [vOrd] at cP cD heq
  go_enter Tryd.func10, Tryd.ntmps10
  go_wp2_with (first
    | (rw [← hW1]; clear hW1)
    | (go_at_call 18; refine cP.mono ?_; rintro e w2 ⟨rfl, k2⟩; clear cP x0 x1 x2 x3 x4 x5 x6 x7 x8; obtain ⟨W3, S3, hW3, k3, hx3⟩ := k2.box 34 #[.int .i64 z0, .int .i64 z1, .int .i64 z2, .int .i64 z3, .int .i64 z4, .int .i64 z5, .int .i64 z6])
    | (rw [← hW3]; clear hW3; obtain ⟨x0, ⟨x1, x2, x3, x4, x5, x6, x7⟩, x8⟩ := bx _ _ _ _ (hx3 _ _ _ _ k3).2)
    | (go_at_call 33; refine (cD _ _ _ k3).mono ?_; rintro e w4 ⟨rfl, k4⟩; clear cD x0 x1 x2 x3 x4 x5 x6 x7 x8; obtain ⟨W5, S5, hW5, k5, hx5⟩ := k4.box 34 #[.int .i64 z0, .int .i64 z1, .int .i64 z2, .int .i64 z3, .int .i64 z4, .int .i64 z5, .int .i64 z6])
    | (rw [← hW5]; clear hW5; obtain ⟨hB5, k6⟩ := hx5 _ _ _ _ k5; obtain ⟨hB3, k7⟩ := hx3 _ _ _ _ k6; have k8 := fin _ _ _ _ k7; obtain ⟨u0, u1, u2, u3, u4, u5, u6⟩ := Ord.cells (m := ⟨z0, z1, z2, z3, z4, z5, z6⟩) hB5; obtain ⟨t0, t1, t2, t3, t4, t5, t6⟩ := Ord.cells (m := ⟨z0, z1, z2, z3, z4, z5, z6⟩) hB3; simp only at u0 u1 u2 u3 u4 u5 u6 t0 t1 t2 t3 t4 t5 t6; clear hx3 hx5 k3 k4 k5 k6 k7 hB5 hB3)
    | fail)
  go_ret
  exact ⟨by simp, k8⟩
set_option maxRecDepth 8000 in
set_option maxHeartbeats 4000000 in
theorem bact2_any (h : Bb w0 S0 g r k b b W) (hk : k < 100000) (m : Bac) (hm : m.Fit) (h0 : m.kind = 2) :
    Calls Tryd.prog 10 #[.pointer (some ⟨g, 0, none⟩), .pointer (some ⟨r, 0, none⟩), vBac m] W fun e w' => e = .returned (.bool true) ∧ Bb w0 S0 g r (k + 1) (b.red m.o.id m.amt) (b.red m.o.id m.amt) w' := by
  obtain ⟨W1, S1, hW1, k1, hx1⟩ := h.box 36 (cBac m)
  have hok := h.ok
  obtain ⟨hm0, hmo, hma⟩ := hm
  obtain ⟨kind, o, amt⟩ := m
  obtain ⟨y0, y1, y2, y3, y4, y5, y6⟩ := o
  simp only at h0 hmo hma
  simp only [cBac] at hW1
  have bx : ∀ k' b' t' w', Bb W1 S1 g r k' b' t' w' → w'.cell? ⟨W.heap.size, 0, none⟩ = some (.int .i64 kind) ∧ (w'.cell? ⟨W.heap.size, 1, none⟩ = some (.int .i64 y0) ∧ w'.cell? ⟨W.heap.size, 2, none⟩ = some (.int .i64 y1) ∧ w'.cell? ⟨W.heap.size, 3, none⟩ = some (.int .i64 y2) ∧ w'.cell? ⟨W.heap.size, 4, none⟩ = some (.int .i64 y3) ∧ w'.cell? ⟨W.heap.size, 5, none⟩ = some (.int .i64 y4) ∧ w'.cell? ⟨W.heap.size, 6, none⟩ = some (.int .i64 y5) ∧ w'.cell? ⟨W.heap.size, 7, none⟩ = some (.int .i64 y6)) ∧ w'.cell? ⟨W.heap.size, 8, none⟩ = some (.int .i64 amt) := by
    intro k' b' t' w' q
    have hB := (hx1 _ _ _ _ q).1
    exact ⟨hB.cell_eq 0 _ rfl, ⟨hB.cell_eq 1 _ rfl, hB.cell_eq 2 _ rfl, hB.cell_eq 3 _ rfl, hB.cell_eq 4 _ rfl, hB.cell_eq 5 _ rfl, hB.cell_eq 6 _ rfl, hB.cell_eq 7 _ rfl⟩, hB.cell_eq 8 _ rfl⟩
  have fin := fun k' b' t' w' q => (hx1 k' b' t' w' q).2
  obtain ⟨x0, ⟨x1, x2, x3, x4, x5, x6, x7⟩, x8⟩ := bx _ _ _ _ k1
  clear hx1 h hm0
  subst h0
  have cP := bqRed k1 hk hmo.id hma
  have cD := fun W3 S3 w (q : Bb W3 S3 g r (k + 1) (b.red y0 amt) b w) => bqRedR q hok y0 amt
  obtain ⟨⟨z, f⟩, hans⟩ : ∃ p, p = b.redF y0 amt := ⟨_, rfl⟩
  simp only [← hans] at cP cD
  have hans := Lib.hid hans
  obtain ⟨z0, z1, z2, z3, z4, z5, z6⟩ := z
  have heq := eql_Ord ⟨z0, z1, z2, z3, z4, z5, z6⟩ ⟨z0, z1, z2, z3, z4, z5, z6⟩
  rw [eqOrd_self] at heq
  simp only [vOrd] at cP cD heq
  go_enter Tryd.func10, Tryd.ntmps10
  go_wp2_with (first
    | (rw [← hW1]; clear hW1)
    | (go_at_call 19; refine cP.mono ?_; rintro e w2 ⟨rfl, k2⟩; clear cP x0 x1 x2 x3 x4 x5 x6 x7 x8; obtain ⟨W3, S3, hW3, k3, hx3⟩ := k2.box 34 #[.int .i64 z0, .int .i64 z1, .int .i64 z2, .int .i64 z3, .int .i64 z4, .int .i64 z5, .int .i64 z6])
    | (rw [← hW3]; clear hW3; obtain ⟨x0, ⟨x1, x2, x3, x4, x5, x6, x7⟩, x8⟩ := bx _ _ _ _ (hx3 _ _ _ _ k3).2)
    | (go_at_call 34; refine (cD _ _ _ k3).mono ?_; rintro e w4 ⟨rfl, k4⟩; clear cD x0 x1 x2 x3 x4 x5 x6 x7 x8; obtain ⟨W5, S5, hW5, k5, hx5⟩ := k4.box 34 #[.int .i64 z0, .int .i64 z1, .int .i64 z2, .int .i64 z3, .int .i64 z4, .int .i64 z5, .int .i64 z6])
    | (rw [← hW5]; clear hW5; obtain ⟨hB5, k6⟩ := hx5 _ _ _ _ k5; obtain ⟨hB3, k7⟩ := hx3 _ _ _ _ k6; have k8 := fin _ _ _ _ k7; obtain ⟨u0, u1, u2, u3, u4, u5, u6⟩ := Ord.cells (m := ⟨z0, z1, z2, z3, z4, z5, z6⟩) hB5; obtain ⟨t0, t1, t2, t3, t4, t5, t6⟩ := Ord.cells (m := ⟨z0, z1, z2, z3, z4, z5, z6⟩) hB3; simp only at u0 u1 u2 u3 u4 u5 u6 t0 t1 t2 t3 t4 t5 t6; clear hx3 hx5 k3 k4 k5 k6 k7 hB5 hB3)
    | fail)
  go_ret
  exact ⟨by simp, k8⟩
set_option maxRecDepth 8000 in
set_option maxHeartbeats 4000000 in
theorem bact3_any (h : Bb w0 S0 g r k b b W) (hk : k < 100000) (m : Bac) (hm : m.Fit) (h0 : m.kind ≠ 0 ∧ m.kind ≠ 1 ∧ m.kind ≠ 2) :
    Calls Tryd.prog 10 #[.pointer (some ⟨g, 0, none⟩), .pointer (some ⟨r, 0, none⟩), vBac m] W fun e w' => e = .returned (.bool true) ∧ Bb w0 S0 g r (k + 1) b b w' := by
  obtain ⟨W1, S1, hW1, k1, hx1⟩ := h.box 36 (cBac m)
  have hok := h.ok
  obtain ⟨hm0, hmo, hma⟩ := hm
  obtain ⟨kind, o, amt⟩ := m
  obtain ⟨y0, y1, y2, y3, y4, y5, y6⟩ := o
  simp only at h0 hmo hma
  simp only [cBac] at hW1
  have bx : ∀ k' b' t' w', Bb W1 S1 g r k' b' t' w' → w'.cell? ⟨W.heap.size, 0, none⟩ = some (.int .i64 kind) ∧ (w'.cell? ⟨W.heap.size, 1, none⟩ = some (.int .i64 y0) ∧ w'.cell? ⟨W.heap.size, 2, none⟩ = some (.int .i64 y1) ∧ w'.cell? ⟨W.heap.size, 3, none⟩ = some (.int .i64 y2) ∧ w'.cell? ⟨W.heap.size, 4, none⟩ = some (.int .i64 y3) ∧ w'.cell? ⟨W.heap.size, 5, none⟩ = some (.int .i64 y4) ∧ w'.cell? ⟨W.heap.size, 6, none⟩ = some (.int .i64 y5) ∧ w'.cell? ⟨W.heap.size, 7, none⟩ = some (.int .i64 y6)) ∧ w'.cell? ⟨W.heap.size, 8, none⟩ = some (.int .i64 amt) := by
    intro k' b' t' w' q
    have hB := (hx1 _ _ _ _ q).1
    exact ⟨hB.cell_eq 0 _ rfl, ⟨hB.cell_eq 1 _ rfl, hB.cell_eq 2 _ rfl, hB.cell_eq 3 _ rfl, hB.cell_eq 4 _ rfl, hB.cell_eq 5 _ rfl, hB.cell_eq 6 _ rfl, hB.cell_eq 7 _ rfl⟩, hB.cell_eq 8 _ rfl⟩
  have fin := fun k' b' t' w' q => (hx1 k' b' t' w' q).2
  obtain ⟨x0, ⟨x1, x2, x3, x4, x5, x6, x7⟩, x8⟩ := bx _ _ _ _ k1
  clear hx1 h hm0
  have d0 : (kind == 0) = false := by simpa using h0.1
  have d1 : (kind == 1) = false := by simpa using h0.2.1
  have d2 : (kind == 2) = false := by simpa using h0.2.2
  have cP := (bqGet k1 hmo.id)
  have cD := fun W3 S3 w (q : Bb W3 S3 g r k b b w) => bqGetR q hok y0
  generalize (b.get y0).getD .zero = z at cP cD
  generalize (b.get y0).isSome = f at cP cD
  obtain ⟨z0, z1, z2, z3, z4, z5, z6⟩ := z
  have heq := eql_Ord ⟨z0, z1, z2, z3, z4, z5, z6⟩ ⟨z0, z1, z2, z3, z4, z5, z6⟩
  rw [eqOrd_self] at heq
  simp only [vOrd] at cP cD heq
  go_enter Tryd.func10, Tryd.ntmps10
  go_wp2_with (first
    | (rw [← hW1]; clear hW1)
    | (go_at_call 20; refine cP.mono ?_; rintro e w2 ⟨rfl, k2⟩; clear cP x0 x1 x2 x3 x4 x5 x6 x7 x8; obtain ⟨W3, S3, hW3, k3, hx3⟩ := k2.box 34 #[.int .i64 z0, .int .i64 z1, .int .i64 z2, .int .i64 z3, .int .i64 z4, .int .i64 z5, .int .i64 z6])
    | (rw [← hW3]; clear hW3; obtain ⟨x0, ⟨x1, x2, x3, x4, x5, x6, x7⟩, x8⟩ := bx _ _ _ _ (hx3 _ _ _ _ k3).2)
    | (go_at_call 35; refine (cD _ _ _ k3).mono ?_; rintro e w4 ⟨rfl, k4⟩; clear cD x0 x1 x2 x3 x4 x5 x6 x7 x8; obtain ⟨W5, S5, hW5, k5, hx5⟩ := k4.box 34 #[.int .i64 z0, .int .i64 z1, .int .i64 z2, .int .i64 z3, .int .i64 z4, .int .i64 z5, .int .i64 z6])
    | (rw [← hW5]; clear hW5; obtain ⟨hB5, k6⟩ := hx5 _ _ _ _ k5; obtain ⟨hB3, k7⟩ := hx3 _ _ _ _ k6; have k8 := fin _ _ _ _ k7; obtain ⟨u0, u1, u2, u3, u4, u5, u6⟩ := Ord.cells (m := ⟨z0, z1, z2, z3, z4, z5, z6⟩) hB5; obtain ⟨t0, t1, t2, t3, t4, t5, t6⟩ := Ord.cells (m := ⟨z0, z1, z2, z3, z4, z5, z6⟩) hB3; simp only at u0 u1 u2 u3 u4 u5 u6 t0 t1 t2 t3 t4 t5 t6; clear hx3 hx5 k3 k4 k5 k6 k7 hB5 hB3)
    | fail)
  go_ret
  exact ⟨by simp, k8.mono (Nat.le_succ k)⟩
theorem bact_any (h : Bb w0 S0 g r k b b W) (hk : k < 100000) (m : Bac) (hm : m.Fit) :
    Calls Tryd.prog 10 #[.pointer (some ⟨g, 0, none⟩), .pointer (some ⟨r, 0, none⟩), vBac m] W fun e w' => e = .returned (.bool true) ∧ Bb w0 S0 g r (k + 1) (b.act m) (b.act m) w' := by
  unfold Bk.act
  by_cases h0 : m.kind = 0
  · rw [if_pos h0]; exact bact0_any h hk m hm h0
  · rw [if_neg h0]
    by_cases h1 : m.kind = 1
    · rw [if_pos h1]; exact bact1_any h hk m hm h1
    · rw [if_neg h1]
      by_cases h2 : m.kind = 2
      · rw [if_pos h2]; exact bact2_any h hk m hm h2
      · rw [if_neg h2]; exact bact3_any h hk m hm ⟨h0, h1, h2⟩
end
end Go.Proofs.YthbopaeaplejiaaDoor
