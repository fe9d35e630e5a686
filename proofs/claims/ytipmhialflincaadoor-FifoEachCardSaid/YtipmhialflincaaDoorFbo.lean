/-
  The program's queues and the document's, side by side; act: the same on both. (Written by gen/p_fbo.py.)
-/
import Derived.Test.YtipmhialflincaaDoorFrv
import Derived.Test.YtipmhialflincaaDoorFacV
namespace Go.Proofs.YtipmhialflincaaDoor
open Go.RowKit
/-- The two: the program's in blocks g, bl, be, bs, the document's at r; of what was there at w0 only those and S0 have turned. -/
structure Bq (w0 : World) (S0 : Nat → Prop) (g bl be bs r : Nat) (s t : Fq) (w : World) : Prop where
  frm : Frm (fun b => Qb g bl be bs b ∨ S0 b) w0 w
  prog : ∃ K E Z, PM w g bl be bs K E Z ∧ Fqp K E Z s
  ref : ∃ S, RQ w r S t ∧ (∀ b, S b → 2 ≤ b ∧ ¬ Qb g bl be bs b) ∧ ∀ b, S b → S0 b ∨ w0.heap.size ≤ b
section
variable {w0 w w' : World} {S0 : Nat → Prop} {g bl be bs r : Nat} {s s' t t' : Fq}
theorem Bq.below (h : Bq w0 S0 g bl be bs r s t w) (hb : Below w.heap.size w w') : Bq w0 S0 g bl be bs r s t w' := by
  obtain ⟨K, E, Z, h1, h2⟩ := h.prog
  obtain ⟨S, h3, h4, h5⟩ := h.ref
  exact ⟨h.frm.trans (Frm.of_below (S := fun _ => False) hb) (fun _ f => f.elim), ⟨K, E, Z, h1.below hb, h2⟩, S, h3.below hb, h4, h5⟩
theorem Bq.step (h : Bq w0 S0 g bl be bs r s t w) (hf : Frm (Qb g bl be bs) w w') (ha : ∃ K E Z, Fqp K E Z s' ∧ PM w' g bl be bs K E Z) : Bq w0 S0 g bl be bs r s' t w' := by
  obtain ⟨S, h3, h4, h5⟩ := h.ref
  obtain ⟨K, E, Z, h1, h2⟩ := ha
  exact ⟨h.frm.trans hf (fun b e => .inl (.inl e)), ⟨K, E, Z, h2, h1⟩, S, h3.frm hf (fun b e hs => (h4 b hs).2 e), h4, h5⟩
theorem Bq.doc (h : Bq w0 S0 g bl be bs r s t w) {S : Nat → Prop} (h4 : ∀ b, S b → 2 ≤ b ∧ ¬ Qb g bl be bs b) (h5 : ∀ b, S b → S0 b ∨ w0.heap.size ≤ b) (hr : ∃ S', RQ w' r S' t' ∧ ∀ b, S' b → S b ∨ w.heap.size ≤ b) (hf : Frm S w w') : Bq w0 S0 g bl be bs r s t' w' := by
  obtain ⟨K, E, Z, h1, h2⟩ := h.prog
  obtain ⟨S', h6, h7⟩ := hr
  have htw := h1.gl.two
  refine ⟨h.frm.trans hf (fun b e => (h5 b e).imp .inr id), ⟨K, E, Z, h1.frm hf h4, h2⟩, S', h6, fun b e => ?_, fun b e => ?_⟩
  · rcases h7 b e with e | e
    · exact h4 b e
    · exact ⟨by omega, fun hq => by have := h1.lt b hq; omega⟩
  · rcases h7 b e with e | e
    · exact h5 b e
    · have := h.frm.size; exact .inr (by omega)
/-- Seen from a later world. -/
theorem Bq.sub {W1 : World} {S : Nat → Prop} (h : Frm (fun b => Qb g bl be bs b ∨ S0 b) w0 W1) (h5 : ∀ b, S b → S0 b ∨ w0.heap.size ≤ b) (k : Bq W1 S g bl be bs r s t w) : Bq w0 S0 g bl be bs r s t w := by
  obtain ⟨S', h3, h4, h6⟩ := k.ref
  refine ⟨h.trans k.frm (fun b e => ?_), k.prog, S', h3, h4, fun b e => ?_⟩
  · rcases e with e | e
    · exact .inl (.inl e)
    · exact (h5 b e).imp .inr id
  · rcases h6 b e with e | e
    · exact h5 b e
    · have := h.size; exact .inr (by omega)
theorem Bq.blk (h : Bq w0 S0 g bl be bs r s t w) {b : Nat} {T : TypeId} {cs : Array Value} (hb : Blk w0 b T cs) (h1 : ¬ Qb g bl be bs b) (h2 : ¬ S0 b) : Blk w b T cs := (h.frm.block b hb.lt (by rintro (e | e); exact h1 e; exact h2 e)).trans hb
theorem qPush (h : Bq w0 S0 g bl be bs r s t w) (i x : Int) : Calls Tryd.prog 14 #[.pointer (some ⟨g, 0, none⟩), .int .i64 i, .int .i64 x] w fun e w' => e = .returned (.bool (s.pushB i x)) ∧ Bq w0 S0 g bl be bs r (s.pushS i x) t w' := by
  obtain ⟨K, E, Z, h1, h2⟩ := h.prog
  exact (push_any i x h2 h1).mono fun e w' ⟨he, hf, ha⟩ => ⟨he, h.step hf ha⟩
theorem qPushR (h : Bq w0 S0 g bl be bs r s t w) (i x : Int) : Calls Tryd.prog 19 #[.pointer (some ⟨r, 0, none⟩), .int .i64 i, .int .i64 x] w fun e w' => e = .returned (.bool (t.pushB i x)) ∧ Bq w0 S0 g bl be bs r s (t.pushS i x) w' := by
  obtain ⟨S, h3, h4, h5⟩ := h.ref
  exact (rpush_any i x h3).mono fun e w' ⟨he, hr, hf⟩ => ⟨he, h.doc h4 h5 hr hf⟩
theorem qPop (h : Bq w0 S0 g bl be bs r s t w) (i : Int) : Calls Tryd.prog 16 #[.pointer (some ⟨g, 0, none⟩), .int .i64 i] w fun e w' => e = .returned (.tuple #[.int .i64 (s.frontV i), .bool (s.frontB i)]) ∧ Bq w0 S0 g bl be bs r (s.popS i) t w' := by
  obtain ⟨K, E, Z, h1, h2⟩ := h.prog
  exact (pop_any i h2 h1).mono fun e w' ⟨he, hf, ha⟩ => ⟨he, h.step hf ha⟩
theorem qPopR (h : Bq w0 S0 g bl be bs r s t w) (i : Int) : Calls Tryd.prog 20 #[.pointer (some ⟨r, 0, none⟩), .int .i64 i] w fun e w' => e = .returned (.tuple #[.int .i64 (t.frontV i), .bool (t.frontB i)]) ∧ Bq w0 S0 g bl be bs r s (t.popS i) w' := by
  obtain ⟨S, h3, h4, h5⟩ := h.ref
  exact (rpop_any i h3).mono fun e w' ⟨he, hr, hf⟩ => ⟨he, h.doc h4 h5 hr hf⟩
theorem qRem (h : Bq w0 S0 g bl be bs r s t w) (x : Int) : Calls Tryd.prog 15 #[.pointer (some ⟨g, 0, none⟩), .int .i64 x] w fun e w' => e = .returned (.tuple #[.int .i64 (s.ofV x), .bool (s.ofB x)]) ∧ Bq w0 S0 g bl be bs r (s.remS x) t w' := by
  obtain ⟨K, E, Z, h1, h2⟩ := h.prog
  exact (remove_any x h2 h1).mono fun e w' ⟨he, hf, ha⟩ => ⟨he, h.step hf ha⟩
theorem qRemR (h : Bq w0 S0 g bl be bs r s t w) (x : Int) : Calls Tryd.prog 21 #[.pointer (some ⟨r, 0, none⟩), .int .i64 x] w fun e w' => e = .returned (.tuple #[.int .i64 (t.ofV x), .bool (t.ofB x)]) ∧ Bq w0 S0 g bl be bs r s (t.remS x) w' := by
  obtain ⟨S, h3, h4, h5⟩ := h.ref
  exact (rrem_any x h3).mono fun e w' ⟨he, hr, hf⟩ => ⟨he, h.doc h4 h5 hr hf⟩
theorem qFront (h : Bq w0 S0 g bl be bs r s t w) (i : Int) : Calls Tryd.prog 17 #[.pointer (some ⟨g, 0, none⟩), .int .i64 i] w fun e w' => e = .returned (.tuple #[.int .i64 (s.frontV i), .bool (s.frontB i)]) ∧ Bq w0 S0 g bl be bs r s t w' := by
  obtain ⟨K, E, Z, h1, h2⟩ := h.prog
  exact (front_any i h2 h1).mono fun e w' ⟨he, n, hw⟩ => ⟨he, by rw [hw]; exact h.below (below_drewN (Below.refl _ _) n)⟩
theorem qFrontR (h : Bq w0 S0 g bl be bs r s t w) (i : Int) : Calls Tryd.prog 22 #[.pointer (some ⟨r, 0, none⟩), .int .i64 i] w fun e w' => e = .returned (.tuple #[.int .i64 (t.frontV i), .bool (t.frontB i)]) ∧ w' = w := by
  obtain ⟨S, ⟨bm, c, h3⟩, -⟩ := h.ref
  exact rfront_any i h3
theorem qOf (h : Bq w0 S0 g bl be bs r s t w) (x : Int) : Calls Tryd.prog 18 #[.pointer (some ⟨g, 0, none⟩), .int .i64 x] w fun e w' => e = .returned (.tuple #[.int .i64 (s.ofV x), .bool (s.ofB x)]) ∧ Bq w0 S0 g bl be bs r s t w' := by
  obtain ⟨K, E, Z, h1, h2⟩ := h.prog
  exact (of_any x h2 h1).mono fun e w' ⟨he, n, hw⟩ => ⟨he, by rw [hw]; exact h.below (below_drewN (Below.refl _ _) n)⟩
theorem qFindR (h : Bq w0 S0 g bl be bs r s t w) (x : Int) : Calls Tryd.prog 23 #[.pointer (some ⟨r, 0, none⟩), .int .i64 x] w fun e w' => e = .returned (.tuple #[.int .i64 (t.fI x), .int .i64 (t.fK x)]) ∧ w' = w := by
  obtain ⟨S, ⟨bm, c, h3⟩, -⟩ := h.ref
  exact rfind_any x h3
theorem qLen (h : Bq w0 S0 g bl be bs r s t w) (i : Int) : Calls Tryd.prog 12 #[.pointer (some ⟨g, 0, none⟩), .int .i64 i] w fun e w' => e = .returned (.int .i64 ((s.qi i).length : Int)) ∧ w' = w := by
  obtain ⟨K, E, Z, h1, h2⟩ := h.prog
  exact len_any i h2 h1
theorem qHasR (h : Bq w0 S0 g bl be bs r s t w) (i : Int) : Calls Tryd.prog 11 #[.pointer (some ⟨r, 0, none⟩), .int .i64 i] w fun e w' => e = .returned (.bool (t.hasQ i)) ∧ w' = w := by
  obtain ⟨S, ⟨bm, c, h3⟩, -⟩ := h.ref
  exact rhas_any i h3
end
def Fq.act (s : Fq) (m : Fac) : Fq := if m.kind = 0 then s.pushS m.queue m.node else if m.kind = 1 then s.popS m.queue else if m.kind = 2 then s.remS m.node else s
theorem Fq.act_nm (s : Fq) (m : Fac) : (s.act m).n = s.n ∧ (s.act m).L.length = s.L.length := by
  unfold Fq.act
  split
  · exact s.pushS_nm _ _
  · split
    · exact s.popS_nm _
    · split
      · exact s.remS_nm _
      · exact ⟨rfl, rfl⟩
theorem Fac.cells {w : World} {b : Nat} {T : TypeId} {m : Fac} (h : Blk w b T (cFac m)) : w.cell? ⟨b, 0, none⟩ = some (.int .i64 m.kind) ∧ w.cell? ⟨b, 1, none⟩ = some (.int .i64 m.queue) ∧ w.cell? ⟨b, 2, none⟩ = some (.int .i64 m.node) := ⟨h.cell_eq 0 _ rfl, h.cell_eq 1 _ rfl, h.cell_eq 2 _ rfl⟩
/-- What stands at the beginning: the box. -/
theorem act_box {w0 W : World} {S0 : Nat → Prop} {g bl be bs r : Nat} {s : Fq} (h : Bq w0 S0 g bl be bs r s s W) (m : Fac) :
    ∃ S, Bq (W.alloc (.cells (cFac m) 33)) S g bl be bs r s s (W.alloc (.cells (cFac m) 33)) ∧ (∀ s' t' w', Bq (W.alloc (.cells (cFac m) 33)) S g bl be bs r s' t' w' → Blk w' W.heap.size 33 (cFac m) ∧ Bq w0 S0 g bl be bs r s' t' w') := by
  obtain ⟨K, E, Z, h1, h2⟩ := h.prog
  obtain ⟨S, h3, h4, h5⟩ := h.ref
  have hb1 : Below W.heap.size W (W.alloc (.cells (cFac m) 33)) := (Below.refl _ _).alloc (Nat.le_refl _) _
  refine ⟨S, ⟨Frm.refl _ _, ⟨K, E, Z, h1.below hb1, h2⟩, S, h3.below hb1, h4, fun b hb => .inl hb⟩, fun s' t' w' k => ⟨k.blk (Blk.new _ _ _) (fun e => by have := h1.lt _ e; omega) (fun e => by have := h3.lt _ e; omega), Bq.sub (h.frm.trans (Frm.of_below (S := fun _ => False) hb1) (fun _ f => f.elim)) h5 k⟩⟩
variable {w0 W : World} {S0 : Nat → Prop} {g bl be bs r : Nat} {s : Fq}
set_option maxRecDepth 8000 in
set_option maxHeartbeats 1000000 in
theorem act0_any (h : Bq w0 S0 g bl be bs r s s W) (m : Fac) (h0 : m.kind = 0) :
    Calls Tryd.prog 10 #[.pointer (some ⟨g, 0, none⟩), .pointer (some ⟨r, 0, none⟩), vFac m] W fun e w' => e = .returned (.bool true) ∧ Bq w0 S0 g bl be bs r (s.pushS m.queue m.node) (s.pushS m.queue m.node) w' := by
  obtain ⟨S, k1, hk⟩ := act_box h m
  obtain ⟨W1, hW1⟩ : ∃ W1, W1 = W.alloc (.cells (cFac m) 33) := ⟨_, rfl⟩
  rw [← hW1] at k1 hk
  have bx := fun s' t' w' k => (hk s' t' w' k).1
  have fin := fun s' t' w' k => (hk s' t' w' k).2
  obtain ⟨kind, queue, node⟩ := m
  obtain rfl : kind = 0 := h0
  simp only [cFac] at hW1
  have b1 := bx _ _ _ k1
  obtain ⟨x0, x1, x2⟩ := Fac.cells b1
  simp only at x0 x1 x2
  clear hk h b1
  go_enter Tryd.func10, Tryd.ntmps10
  go_wp2_with (first
    | (rw [← hW1]; clear hW1)
    | (go_at_call 14; (with_reducible refine (qPush k1 queue node).mono ?_); rintro e w2 ⟨rfl, k2⟩; clear x0 x1 x2; obtain ⟨x0, x1, x2⟩ := Fac.cells (bx _ _ _ k2); simp only at x0 x1 x2)
    | (go_at_call 19; (with_reducible refine (qPushR k2 queue node).mono ?_); rintro e w3 ⟨rfl, k3⟩))
  go_ret
  exact ⟨by simp, fin _ _ _ k3⟩
set_option maxRecDepth 8000 in
set_option maxHeartbeats 1000000 in
theorem act1_any (h : Bq w0 S0 g bl be bs r s s W) (m : Fac) (h0 : m.kind = 1) :
    Calls Tryd.prog 10 #[.pointer (some ⟨g, 0, none⟩), .pointer (some ⟨r, 0, none⟩), vFac m] W fun e w' => e = .returned (.bool true) ∧ Bq w0 S0 g bl be bs r (s.popS m.queue) (s.popS m.queue) w' := by
  obtain ⟨S, k1, hk⟩ := act_box h m
  obtain ⟨W1, hW1⟩ : ∃ W1, W1 = W.alloc (.cells (cFac m) 33) := ⟨_, rfl⟩
  rw [← hW1] at k1 hk
  have bx := fun s' t' w' k => (hk s' t' w' k).1
  have fin := fun s' t' w' k => (hk s' t' w' k).2
  obtain ⟨kind, queue, node⟩ := m
  obtain rfl : kind = 1 := h0
  simp only [cFac] at hW1
  have b1 := bx _ _ _ k1
  obtain ⟨x0, x1, x2⟩ := Fac.cells b1
  simp only at x0 x1 x2
  clear hk h b1
  go_enter Tryd.func10, Tryd.ntmps10
  go_wp2_with (first
    | (rw [← hW1]; clear hW1)
    | (go_at_call 16; (with_reducible refine (qPop k1 queue).mono ?_); rintro e w2 ⟨rfl, k2⟩; clear x0 x1 x2; obtain ⟨x0, x1, x2⟩ := Fac.cells (bx _ _ _ k2); simp only at x0 x1 x2)
    | (go_at_call 20; (with_reducible refine (qPopR k2 queue).mono ?_); rintro e w3 ⟨rfl, k3⟩))
  go_ret
  exact ⟨by simp, fin _ _ _ k3⟩
set_option maxRecDepth 8000 in
set_option maxHeartbeats 1000000 in
theorem act2_any (h : Bq w0 S0 g bl be bs r s s W) (m : Fac) (h0 : m.kind = 2) :
    Calls Tryd.prog 10 #[.pointer (some ⟨g, 0, none⟩), .pointer (some ⟨r, 0, none⟩), vFac m] W fun e w' => e = .returned (.bool true) ∧ Bq w0 S0 g bl be bs r (s.remS m.node) (s.remS m.node) w' := by
  obtain ⟨S, k1, hk⟩ := act_box h m
  obtain ⟨W1, hW1⟩ : ∃ W1, W1 = W.alloc (.cells (cFac m) 33) := ⟨_, rfl⟩
  rw [← hW1] at k1 hk
  have bx := fun s' t' w' k => (hk s' t' w' k).1
  have fin := fun s' t' w' k => (hk s' t' w' k).2
  obtain ⟨kind, queue, node⟩ := m
  obtain rfl : kind = 2 := h0
  simp only [cFac] at hW1
  have b1 := bx _ _ _ k1
  obtain ⟨x0, x1, x2⟩ := Fac.cells b1
  simp only at x0 x1 x2
  clear hk h b1
  go_enter Tryd.func10, Tryd.ntmps10
  go_wp2_with (first
    | (rw [← hW1]; clear hW1)
    | (go_at_call 15; (with_reducible refine (qRem k1 node).mono ?_); rintro e w2 ⟨rfl, k2⟩; clear x0 x1 x2; obtain ⟨x0, x1, x2⟩ := Fac.cells (bx _ _ _ k2); simp only at x0 x1 x2)
    | (go_at_call 21; (with_reducible refine (qRemR k2 node).mono ?_); rintro e w3 ⟨rfl, k3⟩))
  go_ret
  exact ⟨by simp, fin _ _ _ k3⟩
set_option maxRecDepth 8000 in
set_option maxHeartbeats 1000000 in
theorem act3_any (h : Bq w0 S0 g bl be bs r s s W) (m : Fac) (h0 : m.kind = 3) :
    Calls Tryd.prog 10 #[.pointer (some ⟨g, 0, none⟩), .pointer (some ⟨r, 0, none⟩), vFac m] W fun e w' => e = .returned (.bool true) ∧ Bq w0 S0 g bl be bs r (s) (s) w' := by
  obtain ⟨S, k1, hk⟩ := act_box h m
  obtain ⟨W1, hW1⟩ : ∃ W1, W1 = W.alloc (.cells (cFac m) 33) := ⟨_, rfl⟩
  rw [← hW1] at k1 hk
  have bx := fun s' t' w' k => (hk s' t' w' k).1
  have fin := fun s' t' w' k => (hk s' t' w' k).2
  obtain ⟨kind, queue, node⟩ := m
  obtain rfl : kind = 3 := h0
  simp only [cFac] at hW1
  have b1 := bx _ _ _ k1
  obtain ⟨x0, x1, x2⟩ := Fac.cells b1
  simp only at x0 x1 x2
  clear hk h b1
  go_enter Tryd.func10, Tryd.ntmps10
  go_wp2_with (first
    | (rw [← hW1]; clear hW1)
    | (go_at_call 17; (with_reducible refine (qFront k1 queue).mono ?_); rintro e w2 ⟨rfl, k2⟩; clear x0 x1 x2; obtain ⟨x0, x1, x2⟩ := Fac.cells (bx _ _ _ k2); simp only at x0 x1 x2)
    | (go_at_call 22; (with_reducible refine (qFrontR k2 queue).mono ?_); rintro e w3 ⟨rfl, rfl⟩))
  go_ret
  exact ⟨by simp, fin _ _ _ k2⟩
set_option maxRecDepth 8000 in
set_option maxHeartbeats 1000000 in
theorem act4_any (h : Bq w0 S0 g bl be bs r s s W) (m : Fac) (h0 : m.kind = 4) :
    Calls Tryd.prog 10 #[.pointer (some ⟨g, 0, none⟩), .pointer (some ⟨r, 0, none⟩), vFac m] W fun e w' => e = .returned (.bool true) ∧ Bq w0 S0 g bl be bs r (s) (s) w' := by
  obtain ⟨S, k1, hk⟩ := act_box h m
  obtain ⟨W1, hW1⟩ : ∃ W1, W1 = W.alloc (.cells (cFac m) 33) := ⟨_, rfl⟩
  rw [← hW1] at k1 hk
  have bx := fun s' t' w' k => (hk s' t' w' k).1
  have fin := fun s' t' w' k => (hk s' t' w' k).2
  obtain ⟨kind, queue, node⟩ := m
  obtain rfl : kind = 4 := h0
  simp only [cFac] at hW1
  have b1 := bx _ _ _ k1
  obtain ⟨x0, x1, x2⟩ := Fac.cells b1
  simp only at x0 x1 x2
  clear hk h b1
  have hof : (s.fI node = -1 ∧ s.ofV node = 0 ∧ s.ofB node = false) ∨ ∃ i : Nat, s.fI node = (i : Int) ∧ s.ofV node = (i : Int) ∧ s.ofB node = true := by
    unfold Fq.fI Fq.ofV Fq.ofB
    cases hf : s.findI node with
    | none => exact .inl ⟨rfl, rfl, rfl⟩
    | some p => exact .inr ⟨p.1, rfl, rfl, rfl⟩
  have cO := fun w (k : Bq W1 S g bl be bs r s s w) => qOf k node
  have cI := fun w (k : Bq W1 S g bl be bs r s s w) => qFindR k node
  generalize s.fI node = fi at *
  generalize s.fK node = fk at *
  generalize s.ofV node = ov at *
  generalize s.ofB node = ob at *
  rcases hof with ⟨rfl, rfl, rfl⟩ | ⟨i, rfl, rfl, rfl⟩
  all_goals
    go_enter Tryd.func10, Tryd.ntmps10
    go_wp2_with (first
      | (rw [← hW1]; clear hW1)
      | (go_at_call 18; (with_reducible refine (cO _ k1).mono ?_); rintro e w2 ⟨rfl, k2⟩; clear x0 x1 x2; obtain ⟨x0, x1, x2⟩ := Fac.cells (bx _ _ _ k2); simp only at x0 x1 x2)
      | (go_at_call 23; (with_reducible refine (cI _ k2).mono ?_); rintro e w3 ⟨rfl, rfl⟩))
    all_goals first
      | (exfalso; omega)
      | (go_ret; exact ⟨by simp, fin _ _ _ k2⟩)
set_option maxRecDepth 8000 in
set_option maxHeartbeats 1000000 in
theorem actNo_any (h : Bq w0 S0 g bl be bs r s s W) (m : Fac) (h0 : m.kind ≠ 0 ∧ m.kind ≠ 1 ∧ m.kind ≠ 2 ∧ m.kind ≠ 3 ∧ m.kind ≠ 4) :
    Calls Tryd.prog 10 #[.pointer (some ⟨g, 0, none⟩), .pointer (some ⟨r, 0, none⟩), vFac m] W fun e w' => e = .returned (.bool true) ∧ Bq w0 S0 g bl be bs r s s w' := by
  obtain ⟨S, k1, hk⟩ := act_box h m
  obtain ⟨W1, hW1⟩ : ∃ W1, W1 = W.alloc (.cells (cFac m) 33) := ⟨_, rfl⟩
  rw [← hW1] at k1 hk
  obtain ⟨x0, x1, x2⟩ := Fac.cells (hk _ _ _ k1).1
  have fin := (hk _ _ _ k1).2
  obtain ⟨kind, queue, node⟩ := m
  obtain ⟨n0, n1, n2, n3, n4⟩ := h0
  simp only [cFac] at hW1
  simp only at x0 x1 x2 n0 n1 n2 n3 n4
  have d0 : (kind == 0) = false := by simpa using n0
  have d1 : (kind == 1) = false := by simpa using n1
  have d2 : (kind == 2) = false := by simpa using n2
  have d3 : (kind == 3) = false := by simpa using n3
  have d4 : (kind == 4) = false := by simpa using n4
  clear hk h k1
  go_enter Tryd.func10, Tryd.ntmps10
  go_wp2_with (rw [← hW1]; clear hW1)
  go_ret
  exact ⟨rfl, fin⟩
theorem act_any (h : Bq w0 S0 g bl be bs r s s W) (m : Fac) :
    Calls Tryd.prog 10 #[.pointer (some ⟨g, 0, none⟩), .pointer (some ⟨r, 0, none⟩), vFac m] W fun e w' => e = .returned (.bool true) ∧ Bq w0 S0 g bl be bs r (s.act m) (s.act m) w' := by
  unfold Fq.act
  by_cases h0 : m.kind = 0
  · rw [if_pos h0]; exact act0_any h m h0
  · rw [if_neg h0]
    by_cases h1 : m.kind = 1
    · rw [if_pos h1]; exact act1_any h m h1
    · rw [if_neg h1]
      by_cases h2 : m.kind = 2
      · rw [if_pos h2]; exact act2_any h m h2
      · rw [if_neg h2]
        by_cases h3 : m.kind = 3
        · exact act3_any h m h3
        · by_cases h4 : m.kind = 4
          · exact act4_any h m h4
          · exact actNo_any h m ⟨h0, h1, h2, h3, h4⟩
end Go.Proofs.YtipmhialflincaaDoor
