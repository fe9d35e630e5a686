/-
  The program's index and the document's, side by side; act: the same on both. (Written by gen/p_ibx.py.)
-/
import Derived.Test.YtbfidpngpdaieaaPxc
import Derived.Test.YtbfidpngpdaieaaRie
import Derived.Test.YtbfidpngpdaieaaIacV
import Derived.Test.YtbfidpngpdaieaaDuo
namespace Go.Proofs.Ytbfidpngpdaieaa
open Go.RowKit
set_option linter.unusedSimpArgs false
/-- The two: the program's at g, the document's at r; of what was there at w0 only S0 has turned. -/
structure Bx (w0 : World) (S0 : Nat → Prop) (g r k : Nat) (l t : List Ixr) (w : World) : Prop where
  frm : Frm S0 w0 w
  both : ∃ Sp Sr, PX w g Sp k l ∧ RI w r Sr t ∧ (∀ b, Sp b → ¬ Sr b) ∧ ∀ b, Sp b ∨ Sr b → S0 b ∨ w0.heap.size ≤ b
section
variable {w0 w w' W : World} {S0 : Nat → Prop} {g r k : Nat} {l l' t t' : List Ixr}
theorem Bx.below (h : Bx w0 S0 g r k l t w) (hb : Below w.heap.size w w') : Bx w0 S0 g r k l t w' := by
  obtain ⟨Sp, Sr, h1, h2, h3, h4⟩ := h.both
  exact ⟨h.frm.trans (Frm.of_below (S := fun _ => False) hb) (fun _ f => f.elim), Sp, Sr, h1.below hb, h2.below hb, h3, h4⟩
theorem Bx.mono (h : Bx w0 S0 g r k l t w) {m : Nat} (hk : k ≤ m) : Bx w0 S0 g r m l t w := by
  obtain ⟨Sp, Sr, h1, h2, h3, h4⟩ := h.both
  exact ⟨h.frm, Sp, Sr, h1.mono hk, h2, h3, h4⟩
theorem Bx.u (h : Bx w0 S0 g r k l t w) : Ixu l := by
  obtain ⟨Sp, Sr, h1, -⟩ := h.both
  exact h1.u
theorem Bx.step {Sp Sr : Nat → Prop} {m : Nat} (hf0 : Frm S0 w0 w) (h2 : RI w r Sr t) (h3 : ∀ b, Sp b → ¬ Sr b) (h4 : ∀ b, Sp b ∨ Sr b → S0 b ∨ w0.heap.size ≤ b) (ha : PX w' g Sp m l') (hf : Frm Sp w w') : Bx w0 S0 g r m l' t w' :=
  ⟨hf0.trans hf (fun b e => h4 b (.inl e)), Sp, Sr, ha, h2.frm hf h3, h3, h4⟩
/-- The program's turned, and may have grown. -/
theorem Bx.stepG {Sp Sr : Nat → Prop} {m : Nat} (hf0 : Frm S0 w0 w) (h2 : RI w r Sr t) (h3 : ∀ b, Sp b → ¬ Sr b) (h4 : ∀ b, Sp b ∨ Sr b → S0 b ∨ w0.heap.size ≤ b) (ha : ∃ S', PX w' g S' m l' ∧ ∀ c, S' c → Sp c ∨ w.heap.size ≤ c) (hf : Frm Sp w w') : Bx w0 S0 g r m l' t w' := by
  obtain ⟨S', h5, h6⟩ := ha
  refine ⟨hf0.trans hf (fun b e => h4 b (.inl e)), S', Sr, h5, h2.frm hf h3, fun b e hr => ?_, fun b e => ?_⟩
  · rcases h6 b e with e' | e'
    · exact h3 b e' hr
    · have := h2.lt b hr; omega
  · rcases e with e | e
    · rcases h6 b e with e | e
      · exact h4 b (.inl e)
      · have := hf0.size; exact .inr (by omega)
    · exact h4 b (.inr e)
theorem Bx.doc {Sp Sr : Nat → Prop} (hf0 : Frm S0 w0 w) (h1 : PX w g Sp k l) (h3 : ∀ b, Sp b → ¬ Sr b) (h4 : ∀ b, Sp b ∨ Sr b → S0 b ∨ w0.heap.size ≤ b) (ha : ∃ S', RI w' r S' t' ∧ ∀ b, S' b → Sr b ∨ w.heap.size ≤ b) (hf : Frm Sr w w') : Bx w0 S0 g r k l t' w' := by
  obtain ⟨S', h5, h6⟩ := ha
  refine ⟨hf0.trans hf (fun b e => h4 b (.inr e)), Sp, S', h1.frm hf (fun b e hr => h3 b hr e), h5, fun b e hr => ?_, fun b e => ?_⟩
  · rcases h6 b hr with e' | e'
    · exact h3 b e e'
    · have := h1.lt b e; omega
  · rcases e with e | e
    · exact h4 b (.inl e)
    · rcases h6 b e with e | e
      · exact h4 b (.inr e)
      · have := hf0.size; exact .inr (by omega)
/-- Seen from a later world. -/
theorem Bx.sub {W1 : World} {S : Nat → Prop} (h : Frm S0 w0 W1) (h5 : ∀ b, S b → S0 b ∨ w0.heap.size ≤ b) (q : Bx W1 S g r k l t w) : Bx w0 S0 g r k l t w := by
  obtain ⟨Sp, Sr, k1, k2, k3, k4⟩ := q.both
  refine ⟨h.trans q.frm h5, Sp, Sr, k1, k2, k3, fun b e => ?_⟩
  rcases k4 b e with e | e
  · exact h5 b e
  · have := h.size; exact .inr (by omega)
theorem Bx.blk (h : Bx w0 S0 g r k l t w) {b : Nat} {T : TypeId} {cs : Array Value} (hb : Blk w0 b T cs) (h2 : ¬ S0 b) : Blk w b T cs := (h.frm.block b hb.lt h2).trans hb
/-- As they stand. -/
theorem Bx.here (h : Bx w0 S0 g r k l t w) : ∃ S, Bx w S g r k l t w ∧ (∀ b, S b → b < w.heap.size) ∧ ∀ b, S b → S0 b ∨ w0.heap.size ≤ b := by
  obtain ⟨Sp, Sr, h1, h2, h3, h4⟩ := h.both
  exact ⟨fun b => Sp b ∨ Sr b, ⟨Frm.refl _ _, Sp, Sr, h1, h2, h3, fun b e => .inl e⟩, fun b e => by rcases e with e | e; exact h1.lt b e; exact h2.lt b e, h4⟩
/-- How far the two have come. -/
def J2x (W1 : World) (S : Nat → Prop) (g r k : Nat) (l l' : List Ixr) (a b : Bool) (w : World) : Prop := Bx W1 S g r (bif a then k + 1 else k) (bif a then l' else l) (bif b then l' else l) w
theorem xqPut (h : Bx w0 S0 g r k l t w) (hk : k < 100000) {s d v : Int} (hs : In64 s) (hd : In64 d) (hv : In64 v) : Calls Try.prog 12 #[.pointer (some ⟨g, 0, none⟩), .agg #[.int .i64 s, .int .i64 d], .int .i64 v] w fun e w' => e = .returned (.bool (ixg l s d).isNone) ∧ Bx w0 S0 g r (k + 1) (ixPut l s d v) t w' := by
  obtain ⟨Sp, Sr, h1, h2, h3, h4⟩ := h.both
  exact (xput_any s d v hs hd hv h1 hk).mono fun e w' ⟨he, ha, hf⟩ => ⟨he, Bx.stepG h.frm h2 h3 h4 ha hf⟩
theorem xqPutR (h : Bx w0 S0 g r k l t w) (hl : t.length ≤ 100000) (s d v : Int) : Calls Try.prog 16 #[.pointer (some ⟨r, 0, none⟩), .int .i64 s, .int .i64 d, .int .i64 v] w fun e w' => e = .returned (.bool (ixg t s d).isNone) ∧ Bx w0 S0 g r k l (ixPut t s d v) w' := by
  obtain ⟨Sp, Sr, h1, h2, h3, h4⟩ := h.both
  exact (iput_any s d v h2 hl).mono fun e w' ⟨he, ha, hf⟩ => ⟨he, Bx.doc h.frm h1 h3 h4 ha hf⟩
theorem xqDrop (h : Bx w0 S0 g r k l t w) {s d : Int} (hs : In64 s) (hd : In64 d) : Calls Try.prog 13 #[.pointer (some ⟨g, 0, none⟩), .agg #[.int .i64 s, .int .i64 d]] w fun e w' => e = .returned (.bool (ixg l s d).isSome) ∧ Bx w0 S0 g r (k + 1) (ixDrop l s d) t w' := by
  obtain ⟨Sp, Sr, h1, h2, h3, h4⟩ := h.both
  exact (xdrop_any s d hs hd h1).mono fun e w' ⟨he, ha, hf⟩ => ⟨he, (Bx.step h.frm h2 h3 h4 ha hf).mono (Nat.le_succ k)⟩
theorem xqDropR (h : Bx w0 S0 g r k l t w) (hl : t.length ≤ 100000) (s d : Int) : Calls Try.prog 18 #[.pointer (some ⟨r, 0, none⟩), .int .i64 s, .int .i64 d] w fun e w' => e = .returned (.bool (ixg t s d).isSome) ∧ Bx w0 S0 g r k l (ixDrop t s d) w' := by
  obtain ⟨Sp, Sr, h1, h2, h3, h4⟩ := h.both
  exact (idrop_any s d h2 hl).mono fun e w' ⟨he, ha, hf⟩ => ⟨he, Bx.doc h.frm h1 h3 h4 ha hf⟩
theorem xqClear (h : Bx w0 S0 g r k l t w) (hl : l.length ≤ 100000) (s : Int) : Calls Try.prog 14 #[.pointer (some ⟨g, 0, none⟩), .int .i64 s] w fun e w' => e = .returned (.int .i64 ((ixIs l s).length : Nat)) ∧ Bx w0 S0 g r (k + 1) (ixClr l s) t w' := by
  obtain ⟨Sp, Sr, h1, h2, h3, h4⟩ := h.both
  exact (xclear_any s h1 hl).mono fun e w' ⟨he, ha, hf⟩ => ⟨he, (Bx.step h.frm h2 h3 h4 ha hf).mono (Nat.le_succ k)⟩
theorem xqClearR (h : Bx w0 S0 g r k l t w) (hl : t.length ≤ 100000) (s : Int) : Calls Try.prog 19 #[.pointer (some ⟨r, 0, none⟩), .int .i64 s] w fun e w' => e = .returned (.int .i64 ((ixIs t s).length : Nat)) ∧ Bx w0 S0 g r k l (ixClr t s) w' := by
  obtain ⟨Sp, Sr, h1, h2, h3, h4⟩ := h.both
  exact (iclear_any s h2 hl).mono fun e w' ⟨he, ha, hf⟩ => ⟨he, Bx.doc h.frm h1 h3 h4 ha hf⟩
theorem xqGet (h : Bx w0 S0 g r k l t w) {s d : Int} (hs : In64 s) (hd : In64 d) : Calls Try.prog 15 #[.pointer (some ⟨g, 0, none⟩), .agg #[.int .i64 s, .int .i64 d]] w fun e w' => e = .returned (.tuple #[.int .i64 ((ixg l s d).getD 0), .bool (ixg l s d).isSome]) ∧ Bx w0 S0 g r k l t w' := by
  obtain ⟨Sp, Sr, h1, h2, h3, h4⟩ := h.both
  exact (xget_any s d hs hd h1).mono fun e w' ⟨he, hb⟩ => ⟨he, h.below hb⟩
theorem xqGetR (h : Bx w0 S0 g r k l t w) (hl : t.length ≤ 100000) (s d : Int) : Calls Try.prog 17 #[.pointer (some ⟨r, 0, none⟩), .int .i64 s, .int .i64 d] w fun e w' => e = .returned (.tuple #[.int .i64 ((ixg t s d).getD 0), .bool (ixg t s d).isSome]) ∧ Bx w0 S0 g r k l t w' := by
  obtain ⟨Sp, Sr, h1, h2, h3, h4⟩ := h.both
  exact (iget_any s d h2 hl).mono fun e w' ⟨he, hw⟩ => ⟨he, by rw [hw]; exact h⟩
theorem xqLen (h : Bx w0 S0 g r k l t w) (hl : l.length ≤ 100000) (s : Int) : Calls Try.prog 9 #[.pointer (some ⟨g, 0, none⟩), .int .i64 s] w fun e w' => e = .returned (.int .i64 ((ixIs l s).length : Nat)) ∧ Bx w0 S0 g r k l t w' := by
  obtain ⟨Sp, Sr, h1, h2, h3, h4⟩ := h.both
  exact (xlen_any s h1 hl).mono fun e w' ⟨he, hb⟩ => ⟨he, h.below hb⟩
/-- What stands at the beginning: the boxes. -/
theorem iact_box (h : Bx w0 S0 g r k l l W) (m : Iac) :
    ∃ S, Bx ((W.alloc (.cells (cIac m) 32)).alloc (.cells #[.int .i64 m.sym, .int .i64 m.id] 43)) S g r k l l ((W.alloc (.cells (cIac m) 32)).alloc (.cells #[.int .i64 m.sym, .int .i64 m.id] 43)) ∧ (∀ k' l1 l2 w', Bx ((W.alloc (.cells (cIac m) 32)).alloc (.cells #[.int .i64 m.sym, .int .i64 m.id] 43)) S g r k' l1 l2 w' →
      (w'.cell? ⟨W.heap.size, 0, none⟩ = some (.int .i64 m.kind) ∧ w'.cell? ⟨W.heap.size, 1, none⟩ = some (.int .i64 m.sym) ∧ w'.cell? ⟨W.heap.size, 2, none⟩ = some (.int .i64 m.slot) ∧ w'.cell? ⟨W.heap.size, 3, none⟩ = some (.int .i64 m.id) ∧ w'.cell? ⟨W.heap.size + 1, 0, none⟩ = some (.int .i64 m.sym) ∧ w'.cell? ⟨W.heap.size + 1, 1, none⟩ = some (.int .i64 m.id)) ∧ Bx w0 S0 g r k' l1 l2 w') := by
  have hb0 : Below W.heap.size W (W.alloc (.cells (cIac m) 32)) := (Below.refl _ _).alloc (Nat.le_refl _) _
  have hb1 : Below W.heap.size W ((W.alloc (.cells (cIac m) 32)).alloc (.cells #[.int .i64 m.sym, .int .i64 m.id] 43)) := hb0.alloc hb0.size _
  obtain ⟨S, h1, h2, h3⟩ := h.here
  obtain ⟨Sp, Sr, h4, h5, h6, h7⟩ := h1.both
  refine ⟨S, ⟨Frm.refl _ _, Sp, Sr, h4.below hb1, h5.below hb1, h6, fun b e => ?_⟩, fun k' l1 l2 w' q => ⟨?_, Bx.sub (h.frm.trans (Frm.of_below (S := fun _ => False) hb1) (fun _ f => f.elim)) h3 q⟩⟩
  · rcases h7 b e with e' | e'
    · exact .inl e'
    · have : b < W.heap.size := by
        rcases e with e | e
        · exact h4.lt b e
        · exact h5.lt b e
      omega
  · have a := q.blk ((Blk.new W 32 (cIac m)).alloc _) (fun e => by have := h2 _ e; omega)
    have c : Blk w' (W.heap.size + 1) 43 #[.int .i64 m.sym, .int .i64 m.id] := q.blk (Blk.new' (by simp)) (fun e => by have := h2 _ e; omega)
    obtain ⟨a0, a1, a2, a3⟩ := Iac.cells a
    exact ⟨a0, a1, a2, a3, c.cell_eq 0 _ rfl, c.cell_eq 1 _ rfl⟩
set_option maxRecDepth 8000 in
set_option maxHeartbeats 2000000 in
theorem iact0_any (h : Bx w0 S0 g r k l l W) (hk : k < 100000) (hl : l.length ≤ 100000) (m : Iac) (hm : m.Fit) (h0 : m.kind = 0) :
    Calls Try.prog 8 #[.pointer (some ⟨g, 0, none⟩), .pointer (some ⟨r, 0, none⟩), vIac m] W fun e w' => e = .returned (.bool true) ∧ Bx w0 S0 g r (k + 1) (ixPut l m.sym m.id m.slot) (ixPut l m.sym m.id m.slot) w' := by
  obtain ⟨S, k1, hx⟩ := iact_box h m
  have y := Iac.cells (Blk.new W 32 (cIac m))
  obtain ⟨W2, hW2⟩ : ∃ W2, W2 = (W.alloc (.cells (cIac m) 32)).alloc (.cells #[.int .i64 m.sym, .int .i64 m.id] 43) := ⟨_, rfl⟩
  rw [← hW2] at k1 hx
  have bx := fun k' l1 l2 w' q => (hx k' l1 l2 w' q).1
  have fin := fun k' l1 l2 w' q => (hx k' l1 l2 w' q).2
  obtain ⟨kind, s, t, d⟩ := m
  obtain ⟨hm0, hs, ht, hd⟩ := hm
  simp only at h0 hs ht hd
  subst h0
  obtain ⟨y0, y1, y2, y3⟩ := y
  simp only at y0 y1 y2 y3
  simp only [cIac] at hW2 y0 y1 y2 y3
  simp only at bx
  obtain ⟨x0, x1, x2, x3, z0, z1⟩ := bx _ _ _ _ k1
  clear hx h
  go_enter Try.func8, Try.ntmps8
  go_wp2_with (rw [← hW2]; clear hW2)
  have hJ : J2x W2 S g r k l (ixPut l s d t) false false W2.drew := k1.below ((Below.refl _ _).drew)
  clear x0 x1 x2 x3 z0 z1 y0 y1 y2 y3
  refine wp_region_S (S := fun L w' => Duo 15 4 12 (J2x W2 S g r k l (ixPut l s d t)) L w') (by kernel_rfl) (Duo.start 15 4 12 hJ) ?_
  refine AllS.next (v := ?_) rfl rfl rfl (by kernel_rfl) ?_ ?_
  rotate_left
  · refine yieldsS_run (fun _ _ h => h.other (by decide) (by decide)) (by rfl) ?_
    intro L wx hS
    go_simp
    try with_reducible rfl
  simp only [Act.put, List.setIfInBounds_toArray, List.set_cons_zero, List.set_cons_succ, List.getElem_toArray, List.getElem_cons_zero]
  refine AllS.next (v := ?_) rfl rfl rfl (by kernel_rfl) ?_ ?_
  rotate_left
  · refine yieldsS_run (fun _ _ h => h.other (by decide) (by decide)) (by rfl) ?_
    intro L wx hS
    obtain ⟨x0, x1, x2, x3, z0, z1⟩ := bx _ _ _ _ hS.at'
    go_simp
    try with_reducible rfl
  simp only [Act.put, List.setIfInBounds_toArray, List.set_cons_zero, List.set_cons_succ, List.getElem_toArray, List.getElem_cons_zero, List.getElem_cons_succ]
  refine AllS.next (v := ?_) rfl rfl rfl (by kernel_rfl) ?_ ?_
  rotate_left
  · refine yieldsS_run (fun _ _ h => h.other (by decide) (by decide)) (by rfl) ?_
    intro L wx hS
    go_simp
    try with_reducible rfl
  simp only [Act.put, List.setIfInBounds_toArray, List.set_cons_zero, List.set_cons_succ, List.getElem_toArray, List.getElem_cons_zero, List.getElem_cons_succ]
  refine AllS.next (v := ?_) rfl rfl rfl (by kernel_rfl) ?_ ?_
  rotate_left
  · refine yieldsS_run (fun _ _ h => h.other (by decide) (by decide)) (by rfl) ?_
    intro L wx hS
    obtain ⟨x0, x1, x2, x3, z0, z1⟩ := bx _ _ _ _ hS.at'
    go_simp
    try with_reducible rfl
  simp only [Act.put, List.setIfInBounds_toArray, List.set_cons_zero, List.set_cons_succ, List.getElem_toArray, List.getElem_cons_zero, List.getElem_cons_succ]
  refine AllS.next (v := .bool (ixg l s d).isNone) rfl rfl rfl (by kernel_rfl) ?_ ?_
  · refine yieldsS_callq (f := 12) (args := #[.pointer (some ⟨g, 0, none⟩), .agg #[.int .i64 s, .int .i64 d], .int .i64 t]) (by rfl) ?_ ?_
    · intro wx
      go_simp
      try with_reducible rfl
    · intro L wx hL hS
      exact hS.fst hL (by decide) (by decide) (fun b w h => xqPut h hk hs hd ht)
  simp only [Act.put, List.setIfInBounds_toArray, List.set_cons_zero, List.set_cons_succ, List.getElem_toArray, List.getElem_cons_zero, List.getElem_cons_succ]
  refine AllS.next (v := ?_) rfl rfl rfl (by kernel_rfl) ?_ ?_
  rotate_left
  · refine yieldsS_run (fun _ _ h => h.other (by decide) (by decide)) (by rfl) ?_
    intro L wx hS
    go_simp
    try with_reducible rfl
  simp only [Act.put, List.setIfInBounds_toArray, List.set_cons_zero, List.set_cons_succ, List.getElem_toArray, List.getElem_cons_zero, List.getElem_cons_succ]
  refine AllS.next (v := ?_) rfl rfl rfl (by kernel_rfl) ?_ ?_
  rotate_left
  · refine yieldsS_run (fun _ _ h => h.other (by decide) (by decide)) (by rfl) ?_
    intro L wx hS
    go_simp
    try with_reducible rfl
  simp only [Act.put, List.setIfInBounds_toArray, List.set_cons_zero, List.set_cons_succ, List.getElem_toArray, List.getElem_cons_zero, List.getElem_cons_succ]
  refine AllS.next (v := ?_) rfl rfl rfl (by kernel_rfl) ?_ ?_
  rotate_left
  · refine yieldsS_run (fun _ _ h => h.other (by decide) (by decide)) (by rfl) ?_
    intro L wx hS
    obtain ⟨x0, x1, x2, x3, z0, z1⟩ := bx _ _ _ _ hS.at'
    go_simp
    try with_reducible rfl
  simp only [Act.put, List.setIfInBounds_toArray, List.set_cons_zero, List.set_cons_succ, List.getElem_toArray, List.getElem_cons_zero, List.getElem_cons_succ]
  refine AllS.next (v := ?_) rfl rfl rfl (by kernel_rfl) ?_ ?_
  rotate_left
  · refine yieldsS_run (fun _ _ h => h.other (by decide) (by decide)) (by rfl) ?_
    intro L wx hS
    go_simp
    try with_reducible rfl
  simp only [Act.put, List.setIfInBounds_toArray, List.set_cons_zero, List.set_cons_succ, List.getElem_toArray, List.getElem_cons_zero, List.getElem_cons_succ]
  refine AllS.next (v := ?_) rfl rfl rfl (by kernel_rfl) ?_ ?_
  rotate_left
  · refine yieldsS_run (fun _ _ h => h.other (by decide) (by decide)) (by rfl) ?_
    intro L wx hS
    obtain ⟨x0, x1, x2, x3, z0, z1⟩ := bx _ _ _ _ hS.at'
    go_simp
    try with_reducible rfl
  simp only [Act.put, List.setIfInBounds_toArray, List.set_cons_zero, List.set_cons_succ, List.getElem_toArray, List.getElem_cons_zero, List.getElem_cons_succ]
  refine AllS.next (v := ?_) rfl rfl rfl (by kernel_rfl) ?_ ?_
  rotate_left
  · refine yieldsS_run (fun _ _ h => h.other (by decide) (by decide)) (by rfl) ?_
    intro L wx hS
    go_simp
    try with_reducible rfl
  simp only [Act.put, List.setIfInBounds_toArray, List.set_cons_zero, List.set_cons_succ, List.getElem_toArray, List.getElem_cons_zero, List.getElem_cons_succ]
  refine AllS.next (v := ?_) rfl rfl rfl (by kernel_rfl) ?_ ?_
  rotate_left
  · refine yieldsS_run (fun _ _ h => h.other (by decide) (by decide)) (by rfl) ?_
    intro L wx hS
    obtain ⟨x0, x1, x2, x3, z0, z1⟩ := bx _ _ _ _ hS.at'
    go_simp
    try with_reducible rfl
  simp only [Act.put, List.setIfInBounds_toArray, List.set_cons_zero, List.set_cons_succ, List.getElem_toArray, List.getElem_cons_zero, List.getElem_cons_succ]
  refine AllS.next (v := .bool (ixg l s d).isNone) rfl rfl rfl (by kernel_rfl) ?_ ?_
  · refine yieldsS_callq (f := 16) (args := #[.pointer (some ⟨r, 0, none⟩), .int .i64 s, .int .i64 d, .int .i64 t]) (by rfl) ?_ ?_
    · intro wx
      go_simp
      try with_reducible rfl
    · intro L wx hL hS
      exact hS.snd hL (by decide) (by decide) (fun a w h => xqPutR h hl s d t)
  simp only [Act.put, List.setIfInBounds_toArray, List.set_cons_zero, List.set_cons_succ, List.getElem_toArray, List.getElem_cons_zero, List.getElem_cons_succ]
  refine AllS.next (v := ?_) rfl rfl rfl (by kernel_rfl) ?_ ?_
  rotate_left
  · refine yieldsS_run (fun _ _ h => h.other (by decide) (by decide)) (by rfl) ?_
    intro L wx hS
    go_simp
    try with_reducible rfl
  simp only [Act.put, List.setIfInBounds_toArray, List.set_cons_zero, List.set_cons_succ, List.getElem_toArray, List.getElem_cons_zero, List.getElem_cons_succ]
  refine AllS.next (v := ?_) rfl rfl rfl (by kernel_rfl) ?_ ?_
  rotate_left
  · refine yieldsS_run (fun _ _ h => h.other (by decide) (by decide)) (by rfl) ?_
    intro L wx hS
    go_simp
    try with_reducible rfl
  simp only [Act.put, List.setIfInBounds_toArray, List.set_cons_zero, List.set_cons_succ, List.getElem_toArray, List.getElem_cons_zero, List.getElem_cons_succ]
  refine AllS.done rfl ?_
  intro w9 hS9
  have k9 : Bx W2 S g r (k + 1) (ixPut l s d t) (ixPut l s d t) w9 := Duo.fin hS9 (by rfl) (by rfl)
  go_wp2_with fail
  go_ret
  exact ⟨by simp, fin _ _ _ _ k9⟩
set_option maxRecDepth 8000 in
set_option maxHeartbeats 2000000 in
theorem iact2_any (h : Bx w0 S0 g r k l l W) (hk : k < 100000) (hl : l.length ≤ 100000) (m : Iac) (hm : m.Fit) (h0 : m.kind = 2) :
    Calls Try.prog 8 #[.pointer (some ⟨g, 0, none⟩), .pointer (some ⟨r, 0, none⟩), vIac m] W fun e w' => e = .returned (.bool true) ∧ Bx w0 S0 g r (k + 1) (ixDrop l m.sym m.id) (ixDrop l m.sym m.id) w' := by
  obtain ⟨S, k1, hx⟩ := iact_box h m
  have y := Iac.cells (Blk.new W 32 (cIac m))
  obtain ⟨W2, hW2⟩ : ∃ W2, W2 = (W.alloc (.cells (cIac m) 32)).alloc (.cells #[.int .i64 m.sym, .int .i64 m.id] 43) := ⟨_, rfl⟩
  rw [← hW2] at k1 hx
  have bx := fun k' l1 l2 w' q => (hx k' l1 l2 w' q).1
  have fin := fun k' l1 l2 w' q => (hx k' l1 l2 w' q).2
  obtain ⟨kind, s, t, d⟩ := m
  obtain ⟨hm0, hs, ht, hd⟩ := hm
  simp only at h0 hs ht hd
  subst h0
  obtain ⟨y0, y1, y2, y3⟩ := y
  simp only at y0 y1 y2 y3
  simp only [cIac] at hW2 y0 y1 y2 y3
  simp only at bx
  obtain ⟨x0, x1, x2, x3, z0, z1⟩ := bx _ _ _ _ k1
  clear hx h
  go_enter Try.func8, Try.ntmps8
  go_wp2_with (rw [← hW2]; clear hW2)
  have hJ : J2x W2 S g r k l (ixDrop l s d) false false W2.drew := k1.below ((Below.refl _ _).drew)
  clear x0 x1 x2 x3 z0 z1 y0 y1 y2 y3
  refine wp_region_S (S := fun L w' => Duo 11 2 8 (J2x W2 S g r k l (ixDrop l s d)) L w') (by kernel_rfl) (Duo.start 11 2 8 hJ) ?_
  refine AllS.next (v := ?_) rfl rfl rfl (by kernel_rfl) ?_ ?_
  rotate_left
  · refine yieldsS_run (fun _ _ h => h.other (by decide) (by decide)) (by rfl) ?_
    intro L wx hS
    go_simp
    try with_reducible rfl
  simp only [Act.put, List.setIfInBounds_toArray, List.set_cons_zero, List.set_cons_succ, List.getElem_toArray, List.getElem_cons_zero]
  refine AllS.next (v := ?_) rfl rfl rfl (by kernel_rfl) ?_ ?_
  rotate_left
  · refine yieldsS_run (fun _ _ h => h.other (by decide) (by decide)) (by rfl) ?_
    intro L wx hS
    obtain ⟨x0, x1, x2, x3, z0, z1⟩ := bx _ _ _ _ hS.at'
    go_simp
    try with_reducible rfl
  simp only [Act.put, List.setIfInBounds_toArray, List.set_cons_zero, List.set_cons_succ, List.getElem_toArray, List.getElem_cons_zero, List.getElem_cons_succ]
  refine AllS.next (v := .bool (ixg l s d).isSome) rfl rfl rfl (by kernel_rfl) ?_ ?_
  · refine yieldsS_callq (f := 13) (args := #[.pointer (some ⟨g, 0, none⟩), .agg #[.int .i64 s, .int .i64 d]]) (by rfl) ?_ ?_
    · intro wx
      go_simp
      try with_reducible rfl
    · intro L wx hL hS
      exact hS.fst hL (by decide) (by decide) (fun b w h => xqDrop h hs hd)
  simp only [Act.put, List.setIfInBounds_toArray, List.set_cons_zero, List.set_cons_succ, List.getElem_toArray, List.getElem_cons_zero, List.getElem_cons_succ]
  refine AllS.next (v := ?_) rfl rfl rfl (by kernel_rfl) ?_ ?_
  rotate_left
  · refine yieldsS_run (fun _ _ h => h.other (by decide) (by decide)) (by rfl) ?_
    intro L wx hS
    go_simp
    try with_reducible rfl
  simp only [Act.put, List.setIfInBounds_toArray, List.set_cons_zero, List.set_cons_succ, List.getElem_toArray, List.getElem_cons_zero, List.getElem_cons_succ]
  refine AllS.next (v := ?_) rfl rfl rfl (by kernel_rfl) ?_ ?_
  rotate_left
  · refine yieldsS_run (fun _ _ h => h.other (by decide) (by decide)) (by rfl) ?_
    intro L wx hS
    go_simp
    try with_reducible rfl
  simp only [Act.put, List.setIfInBounds_toArray, List.set_cons_zero, List.set_cons_succ, List.getElem_toArray, List.getElem_cons_zero, List.getElem_cons_succ]
  refine AllS.next (v := ?_) rfl rfl rfl (by kernel_rfl) ?_ ?_
  rotate_left
  · refine yieldsS_run (fun _ _ h => h.other (by decide) (by decide)) (by rfl) ?_
    intro L wx hS
    obtain ⟨x0, x1, x2, x3, z0, z1⟩ := bx _ _ _ _ hS.at'
    go_simp
    try with_reducible rfl
  simp only [Act.put, List.setIfInBounds_toArray, List.set_cons_zero, List.set_cons_succ, List.getElem_toArray, List.getElem_cons_zero, List.getElem_cons_succ]
  refine AllS.next (v := ?_) rfl rfl rfl (by kernel_rfl) ?_ ?_
  rotate_left
  · refine yieldsS_run (fun _ _ h => h.other (by decide) (by decide)) (by rfl) ?_
    intro L wx hS
    go_simp
    try with_reducible rfl
  simp only [Act.put, List.setIfInBounds_toArray, List.set_cons_zero, List.set_cons_succ, List.getElem_toArray, List.getElem_cons_zero, List.getElem_cons_succ]
  refine AllS.next (v := ?_) rfl rfl rfl (by kernel_rfl) ?_ ?_
  rotate_left
  · refine yieldsS_run (fun _ _ h => h.other (by decide) (by decide)) (by rfl) ?_
    intro L wx hS
    obtain ⟨x0, x1, x2, x3, z0, z1⟩ := bx _ _ _ _ hS.at'
    go_simp
    try with_reducible rfl
  simp only [Act.put, List.setIfInBounds_toArray, List.set_cons_zero, List.set_cons_succ, List.getElem_toArray, List.getElem_cons_zero, List.getElem_cons_succ]
  refine AllS.next (v := .bool (ixg l s d).isSome) rfl rfl rfl (by kernel_rfl) ?_ ?_
  · refine yieldsS_callq (f := 18) (args := #[.pointer (some ⟨r, 0, none⟩), .int .i64 s, .int .i64 d]) (by rfl) ?_ ?_
    · intro wx
      go_simp
      try with_reducible rfl
    · intro L wx hL hS
      exact hS.snd hL (by decide) (by decide) (fun a w h => xqDropR h hl s d)
  simp only [Act.put, List.setIfInBounds_toArray, List.set_cons_zero, List.set_cons_succ, List.getElem_toArray, List.getElem_cons_zero, List.getElem_cons_succ]
  refine AllS.next (v := ?_) rfl rfl rfl (by kernel_rfl) ?_ ?_
  rotate_left
  · refine yieldsS_run (fun _ _ h => h.other (by decide) (by decide)) (by rfl) ?_
    intro L wx hS
    go_simp
    try with_reducible rfl
  simp only [Act.put, List.setIfInBounds_toArray, List.set_cons_zero, List.set_cons_succ, List.getElem_toArray, List.getElem_cons_zero, List.getElem_cons_succ]
  refine AllS.next (v := ?_) rfl rfl rfl (by kernel_rfl) ?_ ?_
  rotate_left
  · refine yieldsS_run (fun _ _ h => h.other (by decide) (by decide)) (by rfl) ?_
    intro L wx hS
    go_simp
    try with_reducible rfl
  simp only [Act.put, List.setIfInBounds_toArray, List.set_cons_zero, List.set_cons_succ, List.getElem_toArray, List.getElem_cons_zero, List.getElem_cons_succ]
  refine AllS.done rfl ?_
  intro w9 hS9
  have k9 : Bx W2 S g r (k + 1) (ixDrop l s d) (ixDrop l s d) w9 := Duo.fin hS9 (by rfl) (by rfl)
  go_wp2_with fail
  go_ret
  exact ⟨by simp, fin _ _ _ _ k9⟩
set_option maxRecDepth 8000 in
set_option maxHeartbeats 2000000 in
theorem iact3_any (h : Bx w0 S0 g r k l l W) (hk : k < 100000) (hl : l.length ≤ 100000) (m : Iac) (hm : m.Fit) (h0 : m.kind ≠ 0 ∧ m.kind ≠ 1 ∧ m.kind ≠ 2) :
    Calls Try.prog 8 #[.pointer (some ⟨g, 0, none⟩), .pointer (some ⟨r, 0, none⟩), vIac m] W fun e w' => e = .returned (.bool true) ∧ Bx w0 S0 g r (k + 1) (ixClr l m.sym) (ixClr l m.sym) w' := by
  obtain ⟨S, k1, hx⟩ := iact_box h m
  have y := Iac.cells (Blk.new W 32 (cIac m))
  obtain ⟨W2, hW2⟩ : ∃ W2, W2 = (W.alloc (.cells (cIac m) 32)).alloc (.cells #[.int .i64 m.sym, .int .i64 m.id] 43) := ⟨_, rfl⟩
  rw [← hW2] at k1 hx
  have bx := fun k' l1 l2 w' q => (hx k' l1 l2 w' q).1
  have fin := fun k' l1 l2 w' q => (hx k' l1 l2 w' q).2
  obtain ⟨kind, s, t, d⟩ := m
  obtain ⟨hm0, hs, ht, hd⟩ := hm
  simp only at h0 hs ht hd
  have d0 : (kind == 0) = false := by simpa using h0.1
  have d1 : (kind == 1) = false := by simpa using h0.2.1
  have d2 : (kind == 2) = false := by simpa using h0.2.2
  obtain ⟨y0, y1, y2, y3⟩ := y
  simp only at y0 y1 y2 y3
  simp only [cIac] at hW2 y0 y1 y2 y3
  simp only at bx
  obtain ⟨x0, x1, x2, x3, z0, z1⟩ := bx _ _ _ _ k1
  clear hx h
  go_enter Try.func8, Try.ntmps8
  go_wp2_with (rw [← hW2]; clear hW2)
  have hJ : J2x W2 S g r k l (ixClr l s) false false W2.drew := k1.below ((Below.refl _ _).drew)
  clear x0 x1 x2 x3 z0 z1 y0 y1 y2 y3
  refine wp_region_S (S := fun L w' => Duo 10 3 7 (J2x W2 S g r k l (ixClr l s)) L w') (by kernel_rfl) (Duo.start 10 3 7 hJ) ?_
  refine AllS.next (v := ?_) rfl rfl rfl (by kernel_rfl) ?_ ?_
  rotate_left
  · refine yieldsS_run (fun _ _ h => h.other (by decide) (by decide)) (by rfl) ?_
    intro L wx hS
    go_simp
    try with_reducible rfl
  simp only [Act.put, List.setIfInBounds_toArray, List.set_cons_zero, List.set_cons_succ, List.getElem_toArray, List.getElem_cons_zero]
  refine AllS.next (v := ?_) rfl rfl rfl (by kernel_rfl) ?_ ?_
  rotate_left
  · refine yieldsS_run (fun _ _ h => h.other (by decide) (by decide)) (by rfl) ?_
    intro L wx hS
    go_simp
    try with_reducible rfl
  simp only [Act.put, List.setIfInBounds_toArray, List.set_cons_zero, List.set_cons_succ, List.getElem_toArray, List.getElem_cons_zero, List.getElem_cons_succ]
  refine AllS.next (v := ?_) rfl rfl rfl (by kernel_rfl) ?_ ?_
  rotate_left
  · refine yieldsS_run (fun _ _ h => h.other (by decide) (by decide)) (by rfl) ?_
    intro L wx hS
    obtain ⟨x0, x1, x2, x3, z0, z1⟩ := bx _ _ _ _ hS.at'
    go_simp
    try with_reducible rfl
  simp only [Act.put, List.setIfInBounds_toArray, List.set_cons_zero, List.set_cons_succ, List.getElem_toArray, List.getElem_cons_zero, List.getElem_cons_succ]
  refine AllS.next (v := .int .i64 ((ixIs l s).length : Nat)) rfl rfl rfl (by kernel_rfl) ?_ ?_
  · refine yieldsS_callq (f := 14) (args := #[.pointer (some ⟨g, 0, none⟩), .int .i64 s]) (by rfl) ?_ ?_
    · intro wx
      go_simp
      try with_reducible rfl
    · intro L wx hL hS
      exact hS.fst hL (by decide) (by decide) (fun b w h => xqClear h hl s)
  simp only [Act.put, List.setIfInBounds_toArray, List.set_cons_zero, List.set_cons_succ, List.getElem_toArray, List.getElem_cons_zero, List.getElem_cons_succ]
  refine AllS.next (v := ?_) rfl rfl rfl (by kernel_rfl) ?_ ?_
  rotate_left
  · refine yieldsS_run (fun _ _ h => h.other (by decide) (by decide)) (by rfl) ?_
    intro L wx hS
    go_simp
    try with_reducible rfl
  simp only [Act.put, List.setIfInBounds_toArray, List.set_cons_zero, List.set_cons_succ, List.getElem_toArray, List.getElem_cons_zero, List.getElem_cons_succ]
  refine AllS.next (v := ?_) rfl rfl rfl (by kernel_rfl) ?_ ?_
  rotate_left
  · refine yieldsS_run (fun _ _ h => h.other (by decide) (by decide)) (by rfl) ?_
    intro L wx hS
    go_simp
    try with_reducible rfl
  simp only [Act.put, List.setIfInBounds_toArray, List.set_cons_zero, List.set_cons_succ, List.getElem_toArray, List.getElem_cons_zero, List.getElem_cons_succ]
  refine AllS.next (v := ?_) rfl rfl rfl (by kernel_rfl) ?_ ?_
  rotate_left
  · refine yieldsS_run (fun _ _ h => h.other (by decide) (by decide)) (by rfl) ?_
    intro L wx hS
    obtain ⟨x0, x1, x2, x3, z0, z1⟩ := bx _ _ _ _ hS.at'
    go_simp
    try with_reducible rfl
  simp only [Act.put, List.setIfInBounds_toArray, List.set_cons_zero, List.set_cons_succ, List.getElem_toArray, List.getElem_cons_zero, List.getElem_cons_succ]
  refine AllS.next (v := .int .i64 ((ixIs l s).length : Nat)) rfl rfl rfl (by kernel_rfl) ?_ ?_
  · refine yieldsS_callq (f := 19) (args := #[.pointer (some ⟨r, 0, none⟩), .int .i64 s]) (by rfl) ?_ ?_
    · intro wx
      go_simp
      try with_reducible rfl
    · intro L wx hL hS
      exact hS.snd hL (by decide) (by decide) (fun a w h => xqClearR h hl s)
  simp only [Act.put, List.setIfInBounds_toArray, List.set_cons_zero, List.set_cons_succ, List.getElem_toArray, List.getElem_cons_zero, List.getElem_cons_succ]
  refine AllS.next (v := ?_) rfl rfl rfl (by kernel_rfl) ?_ ?_
  rotate_left
  · refine yieldsS_run (fun _ _ h => h.other (by decide) (by decide)) (by rfl) ?_
    intro L wx hS
    go_simp
    try with_reducible rfl
  simp only [Act.put, List.setIfInBounds_toArray, List.set_cons_zero, List.set_cons_succ, List.getElem_toArray, List.getElem_cons_zero, List.getElem_cons_succ]
  refine AllS.next (v := ?_) rfl rfl rfl (by kernel_rfl) ?_ ?_
  rotate_left
  · refine yieldsS_run (fun _ _ h => h.other (by decide) (by decide)) (by rfl) ?_
    intro L wx hS
    go_simp
    try with_reducible rfl
  simp only [Act.put, List.setIfInBounds_toArray, List.set_cons_zero, List.set_cons_succ, List.getElem_toArray, List.getElem_cons_zero, List.getElem_cons_succ]
  refine AllS.done rfl ?_
  intro w9 hS9
  have k9 : Bx W2 S g r (k + 1) (ixClr l s) (ixClr l s) w9 := Duo.fin hS9 (by rfl) (by rfl)
  go_wp2_with fail
  go_ret
  exact ⟨by simp, fin _ _ _ _ k9⟩
set_option maxRecDepth 8000 in
set_option maxHeartbeats 2000000 in
theorem iact1_any (h : Bx w0 S0 g r k l l W) (hl : l.length ≤ 100000) (m : Iac) (hm : m.Fit) (h0 : m.kind = 1) :
    Calls Try.prog 8 #[.pointer (some ⟨g, 0, none⟩), .pointer (some ⟨r, 0, none⟩), vIac m] W fun e w' => e = .returned (.bool true) ∧ Bx w0 S0 g r (k + 1) l l w' := by
  obtain ⟨S, k1, hx⟩ := iact_box h m
  have y := Iac.cells (Blk.new W 32 (cIac m))
  obtain ⟨W2, hW2⟩ : ∃ W2, W2 = (W.alloc (.cells (cIac m) 32)).alloc (.cells #[.int .i64 m.sym, .int .i64 m.id] 43) := ⟨_, rfl⟩
  rw [← hW2] at k1 hx
  have bx := fun k' l1 l2 w' q => (hx k' l1 l2 w' q).1
  have fin := fun k' l1 l2 w' q => (hx k' l1 l2 w' q).2
  obtain ⟨kind, s, t, d⟩ := m
  obtain ⟨hm0, hs, ht, hd⟩ := hm
  simp only at h0 hs ht hd
  subst h0
  obtain ⟨y0, y1, y2, y3⟩ := y
  simp only at y0 y1 y2 y3
  simp only [cIac] at hW2 y0 y1 y2 y3
  simp only at bx
  obtain ⟨x0, x1, x2, x3, z0, z1⟩ := bx _ _ _ _ k1
  have cG := xqGet k1 hs hd
  have cR := fun w (q : Bx W2 S g r k l l w) => xqGetR q hl s d
  generalize (ixg l s d).isSome = B at *
  generalize (ixg l s d).getD 0 = V at *
  clear hx h
  go_enter Try.func8, Try.ntmps8
  go_wp2_with (first
    | (rw [← hW2]; clear hW2)
    | (go_at_call 15; refine cG.mono ?_; rintro e w2 ⟨rfl, k2⟩; clear cG x0 x1 x2 x3 z0 z1; obtain ⟨x0, x1, x2, x3, z0, z1⟩ := bx _ _ _ _ k2)
    | (go_at_call 17; refine (cR _ k2).mono ?_; rintro e w3 ⟨rfl, k3⟩)
    | fail)
  go_ret
  exact ⟨by simp, (fin _ _ _ _ k3).mono (Nat.le_succ k)⟩
theorem iact_any (h : Bx w0 S0 g r k l l W) (hk : k < 100000) (hl : l.length ≤ 100000) (m : Iac) (hm : m.Fit) :
    Calls Try.prog 8 #[.pointer (some ⟨g, 0, none⟩), .pointer (some ⟨r, 0, none⟩), vIac m] W fun e w' => e = .returned (.bool true) ∧ Bx w0 S0 g r (k + 1) (ixAct l m) (ixAct l m) w' := by
  unfold ixAct
  by_cases h0 : m.kind = 0
  · rw [if_pos h0]; exact iact0_any h hk hl m hm h0
  · rw [if_neg h0]
    by_cases h1 : m.kind = 1
    · rw [if_pos h1]; exact iact1_any h hl m hm h1
    · rw [if_neg h1]
      by_cases h2 : m.kind = 2
      · rw [if_pos h2]; exact iact2_any h hk hl m hm h2
      · rw [if_neg h2]; exact iact3_any h hk hl m hm ⟨h0, h1, h2⟩
end
end Go.Proofs.Ytbfidpngpdaieaa
