/-
  The contract of the document's answer Sub: the difference of two numbers of 128 bits.
-/
import Derived.Test.YtnahocdeaopflaaRegB
import Derived.Test.YtnahocdeaopflaaRefAdd
import Derived.Test.YtnahocdeaopflaaRefNot
import Derived.Test.YtnahocdeaopflaaRefCmp
namespace Go.Proofs.Ytnahocdeaopflaa
open Go.RowKit
/-- What is kept while the last statement of Sub is carried out. -/
structure SubMem (w0 : World) (b g : Nat) (X Y S R : Nat → Bool) (w : World) : Prop where
  bx : Blk w b 45 (arr X)
  by_ : Blk w (b + 1) 45 (arr Y)
  br : Blk w (b + 1 + 1) 45 (arr R)
  b8 : Blk w g 45 (arr S)
  below : Below w0.heap.size w0 w
theorem SubMem.keep {w0 w w' : World} {b g : Nat} {X Y S R : Nat → Bool} (h : SubMem w0 b g X Y S R w) (hb : Below w.heap.size w w') : SubMem w0 b g X Y S R w' :=
  ⟨h.bx.below hb h.bx.lt, h.by_.below hb h.by_.lt, h.br.below hb h.br.lt, h.b8.below hb h.b8.lt, h.below.trans (hb.mono h.below.size)⟩
theorem SubMem.drew {w0 w : World} {b g : Nat} {X Y S R : Nat → Bool} (h : SubMem w0 b g X Y S R w) : SubMem w0 b g X Y S R w.drew := ⟨h.bx, h.by_, h.br, h.b8, h.below.drew⟩
theorem SubMem.put {w0 w : World} {b g : Nat} {X Y S R : Nat → Bool} (h : SubMem w0 b g X Y S R w) (hb : w0.heap.size ≤ b) (hg : g ≠ b + 1 + 1) : SubMem w0 b g X Y S S (w.setRow (b + 1 + 1) (arr S)) :=
  ⟨h.bx.setRow_other (by omega) _, h.by_.setRow_other (by omega) _, h.br.setRow _, h.b8.setRow_other (fun e => hg e.symm) _, below_setRow h.below (by omega) _⟩
theorem SubMem.next {w0 w : World} {b g : Nat} {X Y S R : Nat → Bool} (h : SubMem w0 b g X Y S R w) (A : Nat → Bool) (Z : Array Value) : SubMem w0 b w.heap.size X Y A R ((w.alloc (.cells Z 45)).setRow w.heap.size (arr A)) :=
  ⟨(h.bx.alloc _).setRow_other (by have := h.bx.lt; omega) _, (h.by_.alloc _).setRow_other (by have := h.by_.lt; omega) _, (h.br.alloc _).setRow_other (by have := h.br.lt; omega) _, (Blk.new' rfl).setRow _,
    below_setRow (h.below.alloc h.below.size _) h.below.size _⟩
set_option maxRecDepth 100000 in
set_option maxHeartbeats 4000000 in
theorem sub_road (X Y N O A S : Nat → Bool) (c : Int) (f1 f2 : Bool) (w : World)
    (cN : ∀ W, Calls Try.prog 59 #[.agg (arr Y)] W fun e w' => e = .returned (.agg (arr N)) ∧ Below W.heap.size W w')
    (cO : ∀ W, Calls Try.prog 46 #[.int .u64 0, .int .u64 1] W fun e w' => e = .returned (.agg (arr O)) ∧ Below W.heap.size W w')
    (cA : ∀ W, Calls Try.prog 45 #[.agg (arr N), .agg (arr O)] W fun e w' => e = .returned (.tuple #[.agg (arr A), .bool f1]) ∧ Below W.heap.size W w')
    (cB : ∀ W, Calls Try.prog 45 #[.agg (arr X), .agg (arr A)] W fun e w' => e = .returned (.tuple #[.agg (arr S), .bool f2]) ∧ Below W.heap.size W w')
    (cC : ∀ W, Calls Try.prog 55 #[.agg (arr X), .agg (arr Y)] W fun e w' => e = .returned (.int .i64 c) ∧ Below W.heap.size W w') :
    Calls Try.prog 56 #[.agg (arr X), .agg (arr Y)] w fun e w' => e = .returned (.tuple #[.agg (arr S), .bool (decide (0 ≤ c))]) ∧ Below w.heap.size w w' := by
  have zv := zero28
  have h0 : SubMem w w.heap.size w.heap.size X Y X (fun _ => false) (((w.alloc (.cells (arr X) 45)).alloc (.cells (arr Y) 45)).alloc (.cells (arr fun _ => false) 45)) :=
    ⟨((Blk.new' rfl).alloc _).alloc _, (Blk.new' (by simp)).alloc _, Blk.new' (by simp), ((Blk.new' rfl).alloc _).alloc _, (((Below.refl _ _).alloc (Nat.le_refl _) _).alloc (by simp) _).alloc (by simp; omega) _⟩
  go_enter Try.func56, Try.ntmps56
  go_wp2_with (first
    | (refine ld28 rfl _ rfl (w.heap.size + 1) rfl Y h0.by_ ?_)
    | (go_at_call 59; (with_reducible refine (cN _).mono ?_); rintro e w2 ⟨rfl, hb1⟩; have h1 := h0.keep hb1)
    | (go_at_call 46; (with_reducible refine (cO _).mono ?_); rintro e w3 ⟨rfl, hb2⟩; have h2 := h1.keep hb2)
    | (go_at_call 45; (with_reducible refine (cA _).mono ?_); rintro e w4 ⟨rfl, hb3⟩; have h3 := h2.keep hb3; clear h0 h1 h2 hb1 hb2 hb3)
    | (refine st28 rfl _ _ rfl w4.heap.size A (fun _ => false) rfl rfl (Blk.new' rfl) ?_))
  have n4 := h3.next A (arr fun _ => false)
  generalize ((w4.alloc (.cells (arr fun _ => false) 45)).setRow w4.heap.size (arr A)) = W4 at *
  generalize w4.heap.size = g4 at *
  clear h3 cN cO cA
  refine ld28_op (ops := #[]) rfl w.heap.size X rfl n4.bx ?_ rfl
  go_wp2_with (first
    | (refine ld28 rfl _ rfl g4 rfl A n4.b8 ?_)
    | (go_at_call 45; (with_reducible refine (cB _).mono ?_); rintro e w5 ⟨rfl, hb4⟩; have h4 := n4.keep hb4; clear n4 hb4)
    | (refine st28 rfl _ _ rfl w5.heap.size S (fun _ => false) rfl rfl (Blk.new' rfl) ?_))
  have n5 := h4.next S (arr fun _ => false)
  have hgn : w5.heap.size ≠ w.heap.size + 1 + 1 := by have := h4.br.lt; omega
  generalize ((w5.alloc (.cells (arr fun _ => false) 45)).setRow w5.heap.size (arr S)) = W5 at *
  generalize w5.heap.size = g5 at *
  clear h4 cB zv
  have hg5 : g5 ≠ w.heap.size + 1 + 1 := hgn
  refine wp_region_S (S := fun L w' => L.size = 7 ∧ SubMem w w.heap.size g5 X Y S (if L.getD 5 false = true then S else fun _ => false) w') (by kernel_rfl) ⟨rfl, n5.drew⟩ ?_
  refine AllS.next (v := .agg (arr S)) rfl rfl rfl (by kernel_rfl) ?_ ?_
  · exact yieldsS_load28 (fun L wx h => ⟨by simpa using h.1, by rw [getD_next (by decide)]; exact h.2⟩) (by rfl) rfl rfl fun L wx hS => hS.2.b8
  simp only [Act.put, List.setIfInBounds_toArray, List.set_cons_zero, List.set_cons_succ, List.getElem_toArray, List.getElem_cons_zero]
  refine AllS.next (v := .agg (arr X)) rfl rfl rfl (by kernel_rfl) ?_ ?_
  · exact yieldsS_load28 (fun L wx h => ⟨by simpa using h.1, by rw [getD_next (by decide)]; exact h.2⟩) (by rfl) rfl rfl fun L wx hS => hS.2.bx
  simp only [Act.put, List.setIfInBounds_toArray, List.set_cons_zero, List.set_cons_succ, List.getElem_toArray, List.getElem_cons_zero, List.getElem_cons_succ]
  refine AllS.next (v := .agg (arr Y)) rfl rfl rfl (by kernel_rfl) ?_ ?_
  · exact yieldsS_load28 (fun L wx h => ⟨by simpa using h.1, by rw [getD_next (by decide)]; exact h.2⟩) (by rfl) rfl rfl fun L wx hS => hS.2.by_
  simp only [Act.put, List.setIfInBounds_toArray, List.set_cons_zero, List.set_cons_succ, List.getElem_toArray, List.getElem_cons_zero, List.getElem_cons_succ]
  refine AllS.next (v := .int .i64 c) rfl rfl rfl (by kernel_rfl) ?_ ?_
  · refine yieldsS_call (f := 55) (args := #[.agg (arr X), .agg (arr Y)]) (by rfl) ?_ ?_
    · intro wx
      go_simp
      try with_reducible rfl
    · intro L wx hS
      exact (cC wx).mono fun e w' h => ⟨h.1, by simpa using hS.1, by rw [getD_next (by decide)]; exact hS.2.keep h.2⟩
  simp only [Act.put, List.setIfInBounds_toArray, List.set_cons_zero, List.set_cons_succ, List.getElem_toArray, List.getElem_cons_zero, List.getElem_cons_succ]
  refine AllS.next (v := ?_) rfl rfl rfl (by kernel_rfl) ?_ ?_
  rotate_left
  · refine yieldsS_run (fun L wx h => ⟨by simpa using h.1, by rw [getD_next (by decide)]; exact h.2⟩) (by rfl) ?_
    intro L wx hS
    go_simp
    try with_reducible rfl
  simp only [Act.put, List.setIfInBounds_toArray, List.set_cons_zero, List.set_cons_succ, List.getElem_toArray, List.getElem_cons_zero, List.getElem_cons_succ]
  refine AllS.next (v := undef) rfl rfl rfl (by kernel_rfl) ?_ ?_
  · exact yieldsS_store28 (by rfl) rfl rfl rfl fun L wx _ hS => ⟨⟨_, hS.2.br⟩, by simpa using hS.1, by rw [getD_self (by rw [hS.1]; decide)]; exact hS.2.put (Nat.le_refl _) hg5⟩
  simp only [Act.put, List.getElem_toArray, List.getElem_cons_zero, List.getElem_cons_succ]
  refine AllS.next (v := ?_) rfl rfl rfl (by kernel_rfl) ?_ ?_
  rotate_left
  · refine yieldsS_run (fun L wx h => ⟨by simpa using h.1, by rw [getD_next (by decide)]; exact h.2⟩) (by rfl) ?_
    intro L wx hS
    go_simp
    try with_reducible rfl
  simp only [Act.put, List.setIfInBounds_toArray, List.set_cons_zero, List.set_cons_succ, List.getElem_toArray, List.getElem_cons_zero, List.getElem_cons_succ]
  refine AllS.done (by kernel_rfl) ?_
  intro wx hS
  have hf := hS.2
  rw [if_pos (by rfl)] at hf
  clear hS
  go_wp2
  have hr := res28 _ _ _ hf.br
  refine bodyPost_ret (v := .tuple #[.agg (arr S), .bool (decide (0 ≤ c))]) ?_ rfl ⟨rfl, hf.below⟩
  simp [results, Try.results56, asAddr, hr]
theorem rsub_any (x y : BitVec 128) (w : World) :
    Calls Try.prog 56 #[.agg (bv x), .agg (bv y)] w fun e w' => e = .returned (.tuple #[.agg (bv (x - y)), .bool (decide (0 ≤ cmpN x.toNat y.toNat))]) ∧ Below w.heap.size w w' := by
  have cO := of_any 0 1 ⟨by decide, by decide⟩ ⟨by decide, by decide⟩
  have e1 : BitVec.ofInt 128 (0 * 18446744073709551616 + 1) = 1#128 := by decide
  rw [e1] at cO
  have cB := radd_any x (~~~y + 1#128)
  have e2 : x + (~~~y + 1#128) = x - y := by rw [BitVec.sub_eq_add_neg, BitVec.neg_eq_not_add]
  rw [e2] at cB
  exact sub_road _ _ _ _ _ _ _ _ _ w (rnot_any y) cO (radd_any (~~~y) 1#128) cB (rcmp_any x y)
end Go.Proofs.Ytnahocdeaopflaa
