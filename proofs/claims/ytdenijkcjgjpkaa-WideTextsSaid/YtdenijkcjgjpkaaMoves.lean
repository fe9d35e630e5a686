/-
  Any number moved by any number of bits, and how many bits it has: the statement's function returns true for every input.
-/
import Derived.Test.YtdenijkcjgjpkaaRefNot
import Derived.Test.YtdenijkcjgjpkaaRefMv
import Derived.Test.YtdenijkcjgjpkaaRefIs
import Derived.Test.YtdenijkcjgjpkaaAlive
import Derived.Test.YtdenijkcjgjpkaaRegB
namespace Go.Proofs.Ytdenijkcjgjpkaa
open Go.RowKit
/-- What is kept of the world: the bits in block g, the two words in block g + 1, and all that was there before. -/
structure MS (w0 : World) (g : Nat) (f : Nat → Bool) (a b : Int) (w : World) : Prop where
  bits : Blk w g 28 (arr f)
  words : Blk w (g + 1) 25 #[.int .u64 a, .int .u64 b]
  below : Below w0.heap.size w0 w
theorem MS.keep {w0 w w' : World} {g : Nat} {f : Nat → Bool} {a b : Int} (h : MS w0 g f a b w) (hb : Below w.heap.size w w') : MS w0 g f a b w' :=
  ⟨h.bits.below hb h.bits.lt, h.words.below hb h.words.lt, h.below.trans (hb.mono h.below.size)⟩
theorem MS.drew {w0 w : World} {g : Nat} {f : Nat → Bool} {a b : Int} (h : MS w0 g f a b w) : MS w0 g f a b w.drew := ⟨h.bits, h.words, h.below.drew⟩
set_option maxRecDepth 100000 in
set_option maxHeartbeats 4000000 in
theorem moves_road (a b n lh ll rh rl l : Int) (f : Nat → Bool) (D E : Array Value)
    (cO : ∀ W, Calls Try.prog 13 #[.int .u64 a, .int .u64 b] W fun e w' => e = .returned (.agg (arr f)) ∧ Below W.heap.size W w')
    (cL : ∀ W, Calls Try.prog 20 #[.agg #[.int .u64 a, .int .u64 b], .int .i64 n] W fun e w' => e = .returned (.agg #[.int .u64 lh, .int .u64 ll]) ∧ Below W.heap.size W w')
    (rL : ∀ W, Calls Try.prog 21 #[.agg (arr f), .int .i64 n] W fun e w' => e = .returned (.agg D) ∧ Below W.heap.size W w')
    (i1 : ∀ W, Calls Try.prog 9 #[.agg #[.int .u64 lh, .int .u64 ll], .agg D] W fun e w' => e = .returned (.bool true) ∧ Below W.heap.size W w')
    (cR : ∀ W, Calls Try.prog 22 #[.agg #[.int .u64 a, .int .u64 b], .int .i64 n] W fun e w' => e = .returned (.agg #[.int .u64 rh, .int .u64 rl]) ∧ Below W.heap.size W w')
    (rR : ∀ W, Calls Try.prog 23 #[.agg (arr f), .int .i64 n] W fun e w' => e = .returned (.agg E) ∧ Below W.heap.size W w')
    (i2 : ∀ W, Calls Try.prog 9 #[.agg #[.int .u64 rh, .int .u64 rl], .agg E] W fun e w' => e = .returned (.bool true) ∧ Below W.heap.size W w')
    (cN : ∀ W, Calls Try.prog 24 #[.agg #[.int .u64 a, .int .u64 b]] W fun e w' => e = .returned (.int .i64 l) ∧ Below W.heap.size W w')
    (rN : ∀ W, Calls Try.prog 25 #[.agg (arr f)] W fun e w' => e = .returned (.int .i64 l) ∧ Below W.heap.size W w')
    (w : World) : Calls Try.prog 5 #[.int .u64 a, .int .u64 b, .int .i64 n] w fun e w' => e = .returned (.bool true) ∧ Below w.heap.size w w' := by
  have zv := zero28
  have ha := alive_any
  go_enter Try.func5, Try.ntmps5
  go_wp2_with (first
    | (go_at_call 13; (with_reducible refine (cO _).mono ?_); rintro e w2 ⟨rfl, hb1⟩)
    | (refine st28 rfl _ _ rfl w2.heap.size f (fun _ => false) rfl rfl (Blk.new' rfl) ?_))
  have hS0 : MS w w2.heap.size f a b (((w2.alloc (.cells (arr fun _ => false) 28)).setRow w2.heap.size (arr f)).alloc (.cells #[.int .u64 a, .int .u64 b] 25)) :=
    ⟨((Blk.new' rfl).setRow _).alloc _, Blk.new' (by simp [World.setRow]), (below_setRow (hb1.alloc hb1.size _) hb1.size _).alloc (by have := hb1.size; simp [World.setRow]; omega) _⟩
  generalize (((w2.alloc (.cells (arr fun _ => false) 28)).setRow w2.heap.size (arr f)).alloc (.cells #[.int .u64 a, .int .u64 b] 25)) = W0 at *
  generalize w2.heap.size = g at *
  clear hb1 zv cO
  refine wp_region_S (S := fun _ w' => MS w g f a b w') (by kernel_rfl) hS0.drew ?_
  refine AllS.next (v := ?_) rfl rfl rfl (by kernel_rfl) ?_ ?_
  rotate_left
  · refine yieldsS_run (fun _ _ h => h) (by rfl) ?_
    intro L wx hS
    have c0 := hS.words.cell_eq 0 (.int .u64 a) rfl
    have c1 := hS.words.cell_eq 1 (.int .u64 b) rfl
    go_simp
    try with_reducible rfl
  simp only [Act.put, List.setIfInBounds_toArray, List.set_cons_zero, List.set_cons_succ, List.getElem_toArray, List.getElem_cons_zero]
  refine AllS.next (v := ?_) rfl rfl rfl (by kernel_rfl) ?_ ?_
  rotate_left
  · refine yieldsS_run (fun _ _ h => h) (by rfl) ?_
    intro L wx hS
    have c0 := hS.words.cell_eq 0 (.int .u64 a) rfl
    have c1 := hS.words.cell_eq 1 (.int .u64 b) rfl
    go_simp
    try with_reducible rfl
  simp only [Act.put, List.setIfInBounds_toArray, List.set_cons_zero, List.set_cons_succ, List.getElem_toArray, List.getElem_cons_zero, List.getElem_cons_succ]
  refine AllS.next (v := .agg #[.int .u64 lh, .int .u64 ll]) rfl rfl rfl (by kernel_rfl) ?_ ?_
  · refine yieldsS_call (f := 20) (args := #[.agg #[.int .u64 a, .int .u64 b], .int .i64 n]) (by rfl) ?_ ?_
    · intro wx
      go_simp
      try with_reducible rfl
    · intro L wx hS
      exact (cL wx).mono fun e w' h => ⟨h.1, hS.keep h.2⟩
  simp only [Act.put, List.setIfInBounds_toArray, List.set_cons_zero, List.set_cons_succ, List.getElem_toArray, List.getElem_cons_zero, List.getElem_cons_succ]
  refine AllS.next (v := .agg (arr f)) rfl rfl rfl (by kernel_rfl) ?_ ?_
  · exact yieldsS_load28 (fun _ _ h => h) (by rfl) rfl rfl fun L wx hS => hS.bits
  simp only [Act.put, List.setIfInBounds_toArray, List.set_cons_zero, List.set_cons_succ, List.getElem_toArray, List.getElem_cons_zero, List.getElem_cons_succ]
  refine AllS.next (v := ?_) rfl rfl rfl (by kernel_rfl) ?_ ?_
  rotate_left
  · refine yieldsS_run (fun _ _ h => h) (by rfl) ?_
    intro L wx hS
    have c0 := hS.words.cell_eq 0 (.int .u64 a) rfl
    have c1 := hS.words.cell_eq 1 (.int .u64 b) rfl
    go_simp
    try with_reducible rfl
  simp only [Act.put, List.setIfInBounds_toArray, List.set_cons_zero, List.set_cons_succ, List.getElem_toArray, List.getElem_cons_zero, List.getElem_cons_succ]
  refine AllS.next (v := .agg D) rfl rfl rfl (by kernel_rfl) ?_ ?_
  · refine yieldsS_call (f := 21) (args := #[.agg (arr f), .int .i64 n]) (by rfl) ?_ ?_
    · intro wx
      go_simp
      try with_reducible rfl
    · intro L wx hS
      exact (rL wx).mono fun e w' h => ⟨h.1, hS.keep h.2⟩
  simp only [Act.put, List.setIfInBounds_toArray, List.set_cons_zero, List.set_cons_succ, List.getElem_toArray, List.getElem_cons_zero, List.getElem_cons_succ]
  refine AllS.next (v := .bool true) rfl rfl rfl (by kernel_rfl) ?_ ?_
  · refine yieldsS_call (f := 9) (args := #[.agg #[.int .u64 lh, .int .u64 ll], .agg D]) (by rfl) ?_ ?_
    · intro wx
      go_simp
      try with_reducible rfl
    · intro L wx hS
      exact (i1 wx).mono fun e w' h => ⟨h.1, hS.keep h.2⟩
  simp only [Act.put, List.setIfInBounds_toArray, List.set_cons_zero, List.set_cons_succ, List.getElem_toArray, List.getElem_cons_zero, List.getElem_cons_succ]
  refine AllS.next (v := ?_) rfl rfl rfl (by kernel_rfl) ?_ ?_
  rotate_left
  · refine yieldsS_run (fun _ _ h => h) (by rfl) ?_
    intro L wx hS
    have c0 := hS.words.cell_eq 0 (.int .u64 a) rfl
    have c1 := hS.words.cell_eq 1 (.int .u64 b) rfl
    go_simp
    try with_reducible rfl
  simp only [Act.put, List.setIfInBounds_toArray, List.set_cons_zero, List.set_cons_succ, List.getElem_toArray, List.getElem_cons_zero, List.getElem_cons_succ]
  refine AllS.next (v := ?_) rfl rfl rfl (by kernel_rfl) ?_ ?_
  rotate_left
  · refine yieldsS_run (fun _ _ h => h) (by rfl) ?_
    intro L wx hS
    have c0 := hS.words.cell_eq 0 (.int .u64 a) rfl
    have c1 := hS.words.cell_eq 1 (.int .u64 b) rfl
    go_simp
    try with_reducible rfl
  simp only [Act.put, List.setIfInBounds_toArray, List.set_cons_zero, List.set_cons_succ, List.getElem_toArray, List.getElem_cons_zero, List.getElem_cons_succ]
  refine AllS.next (v := ?_) rfl rfl rfl (by kernel_rfl) ?_ ?_
  rotate_left
  · refine yieldsS_run (fun _ _ h => h) (by rfl) ?_
    intro L wx hS
    have c0 := hS.words.cell_eq 0 (.int .u64 a) rfl
    have c1 := hS.words.cell_eq 1 (.int .u64 b) rfl
    go_simp
    try with_reducible rfl
  simp only [Act.put, List.setIfInBounds_toArray, List.set_cons_zero, List.set_cons_succ, List.getElem_toArray, List.getElem_cons_zero, List.getElem_cons_succ]
  refine AllS.next (v := .agg #[.int .u64 rh, .int .u64 rl]) rfl rfl rfl (by kernel_rfl) ?_ ?_
  · refine yieldsS_call (f := 22) (args := #[.agg #[.int .u64 a, .int .u64 b], .int .i64 n]) (by rfl) ?_ ?_
    · intro wx
      go_simp
      try with_reducible rfl
    · intro L wx hS
      exact (cR wx).mono fun e w' h => ⟨h.1, hS.keep h.2⟩
  simp only [Act.put, List.setIfInBounds_toArray, List.set_cons_zero, List.set_cons_succ, List.getElem_toArray, List.getElem_cons_zero, List.getElem_cons_succ]
  refine AllS.next (v := .agg (arr f)) rfl rfl rfl (by kernel_rfl) ?_ ?_
  · exact yieldsS_load28 (fun _ _ h => h) (by rfl) rfl rfl fun L wx hS => hS.bits
  simp only [Act.put, List.setIfInBounds_toArray, List.set_cons_zero, List.set_cons_succ, List.getElem_toArray, List.getElem_cons_zero, List.getElem_cons_succ]
  refine AllS.next (v := ?_) rfl rfl rfl (by kernel_rfl) ?_ ?_
  rotate_left
  · refine yieldsS_run (fun _ _ h => h) (by rfl) ?_
    intro L wx hS
    have c0 := hS.words.cell_eq 0 (.int .u64 a) rfl
    have c1 := hS.words.cell_eq 1 (.int .u64 b) rfl
    go_simp
    try with_reducible rfl
  simp only [Act.put, List.setIfInBounds_toArray, List.set_cons_zero, List.set_cons_succ, List.getElem_toArray, List.getElem_cons_zero, List.getElem_cons_succ]
  refine AllS.next (v := .agg E) rfl rfl rfl (by kernel_rfl) ?_ ?_
  · refine yieldsS_call (f := 23) (args := #[.agg (arr f), .int .i64 n]) (by rfl) ?_ ?_
    · intro wx
      go_simp
      try with_reducible rfl
    · intro L wx hS
      exact (rR wx).mono fun e w' h => ⟨h.1, hS.keep h.2⟩
  simp only [Act.put, List.setIfInBounds_toArray, List.set_cons_zero, List.set_cons_succ, List.getElem_toArray, List.getElem_cons_zero, List.getElem_cons_succ]
  refine AllS.next (v := .bool true) rfl rfl rfl (by kernel_rfl) ?_ ?_
  · refine yieldsS_call (f := 9) (args := #[.agg #[.int .u64 rh, .int .u64 rl], .agg E]) (by rfl) ?_ ?_
    · intro wx
      go_simp
      try with_reducible rfl
    · intro L wx hS
      exact (i2 wx).mono fun e w' h => ⟨h.1, hS.keep h.2⟩
  simp only [Act.put, List.setIfInBounds_toArray, List.set_cons_zero, List.set_cons_succ, List.getElem_toArray, List.getElem_cons_zero, List.getElem_cons_succ]
  refine AllS.next (v := ?_) rfl rfl rfl (by kernel_rfl) ?_ ?_
  rotate_left
  · refine yieldsS_run (fun _ _ h => h) (by rfl) ?_
    intro L wx hS
    have c0 := hS.words.cell_eq 0 (.int .u64 a) rfl
    have c1 := hS.words.cell_eq 1 (.int .u64 b) rfl
    go_simp
    try with_reducible rfl
  simp only [Act.put, List.setIfInBounds_toArray, List.set_cons_zero, List.set_cons_succ, List.getElem_toArray, List.getElem_cons_zero, List.getElem_cons_succ]
  refine AllS.next (v := ?_) rfl rfl rfl (by kernel_rfl) ?_ ?_
  rotate_left
  · refine yieldsS_run (fun _ _ h => h) (by rfl) ?_
    intro L wx hS
    have c0 := hS.words.cell_eq 0 (.int .u64 a) rfl
    have c1 := hS.words.cell_eq 1 (.int .u64 b) rfl
    go_simp
    try with_reducible rfl
  simp only [Act.put, List.setIfInBounds_toArray, List.set_cons_zero, List.set_cons_succ, List.getElem_toArray, List.getElem_cons_zero, List.getElem_cons_succ]
  refine AllS.next (v := ?_) rfl rfl rfl (by kernel_rfl) ?_ ?_
  rotate_left
  · refine yieldsS_run (fun _ _ h => h) (by rfl) ?_
    intro L wx hS
    have c0 := hS.words.cell_eq 0 (.int .u64 a) rfl
    have c1 := hS.words.cell_eq 1 (.int .u64 b) rfl
    go_simp
    try with_reducible rfl
  simp only [Act.put, List.setIfInBounds_toArray, List.set_cons_zero, List.set_cons_succ, List.getElem_toArray, List.getElem_cons_zero, List.getElem_cons_succ]
  refine AllS.next (v := .int .i64 l) rfl rfl rfl (by kernel_rfl) ?_ ?_
  · refine yieldsS_call (f := 24) (args := #[.agg #[.int .u64 a, .int .u64 b]]) (by rfl) ?_ ?_
    · intro wx
      go_simp
      try with_reducible rfl
    · intro L wx hS
      exact (cN wx).mono fun e w' h => ⟨h.1, hS.keep h.2⟩
  simp only [Act.put, List.setIfInBounds_toArray, List.set_cons_zero, List.set_cons_succ, List.getElem_toArray, List.getElem_cons_zero, List.getElem_cons_succ]
  refine AllS.next (v := .agg (arr f)) rfl rfl rfl (by kernel_rfl) ?_ ?_
  · exact yieldsS_load28 (fun _ _ h => h) (by rfl) rfl rfl fun L wx hS => hS.bits
  simp only [Act.put, List.setIfInBounds_toArray, List.set_cons_zero, List.set_cons_succ, List.getElem_toArray, List.getElem_cons_zero, List.getElem_cons_succ]
  refine AllS.next (v := .int .i64 l) rfl rfl rfl (by kernel_rfl) ?_ ?_
  · refine yieldsS_call (f := 25) (args := #[.agg (arr f)]) (by rfl) ?_ ?_
    · intro wx
      go_simp
      try with_reducible rfl
    · intro L wx hS
      exact (rN wx).mono fun e w' h => ⟨h.1, hS.keep h.2⟩
  simp only [Act.put, List.setIfInBounds_toArray, List.set_cons_zero, List.set_cons_succ, List.getElem_toArray, List.getElem_cons_zero, List.getElem_cons_succ]
  refine AllS.next (v := ?_) rfl rfl rfl (by kernel_rfl) ?_ ?_
  rotate_left
  · refine yieldsS_run (fun _ _ h => h) (by rfl) ?_
    intro L wx hS
    have c0 := hS.words.cell_eq 0 (.int .u64 a) rfl
    have c1 := hS.words.cell_eq 1 (.int .u64 b) rfl
    go_simp
    try with_reducible rfl
  simp only [Act.put, List.setIfInBounds_toArray, List.set_cons_zero, List.set_cons_succ, List.getElem_toArray, List.getElem_cons_zero, List.getElem_cons_succ]
  refine AllS.next (v := ?_) rfl rfl rfl (by kernel_rfl) ?_ ?_
  rotate_left
  · refine yieldsS_run (fun _ _ h => h) (by rfl) ?_
    intro L wx hS
    have c0 := hS.words.cell_eq 0 (.int .u64 a) rfl
    have c1 := hS.words.cell_eq 1 (.int .u64 b) rfl
    go_simp
    try with_reducible rfl
  simp only [Act.put, List.setIfInBounds_toArray, List.set_cons_zero, List.set_cons_succ, List.getElem_toArray, List.getElem_cons_zero, List.getElem_cons_succ]
  refine AllS.next (v := ?_) rfl rfl rfl (by kernel_rfl) ?_ ?_
  rotate_left
  · refine yieldsS_run (fun _ _ h => h) (by rfl) ?_
    intro L wx hS
    have c0 := hS.words.cell_eq 0 (.int .u64 a) rfl
    have c1 := hS.words.cell_eq 1 (.int .u64 b) rfl
    go_simp
    try with_reducible rfl
  simp only [Act.put, List.setIfInBounds_toArray, List.set_cons_zero, List.set_cons_succ, List.getElem_toArray, List.getElem_cons_zero, List.getElem_cons_succ]
  refine AllS.next (v := .bool true) rfl rfl rfl (by kernel_rfl) ?_ ?_
  · refine yieldsS_call (f := 12) (args := #[]) (by rfl) ?_ ?_
    · intro wx
      go_simp
      try with_reducible rfl
    · intro L wx hS
      exact (ha wx).mono fun e w' h => ⟨h.1, hS.keep h.2⟩
  simp only [Act.put, List.setIfInBounds_toArray, List.set_cons_zero, List.set_cons_succ, List.getElem_toArray, List.getElem_cons_zero, List.getElem_cons_succ]
  refine AllS.next (v := ?_) rfl rfl rfl (by kernel_rfl) ?_ ?_
  rotate_left
  · refine yieldsS_run (fun _ _ h => h) (by rfl) ?_
    intro L wx hS
    have c0 := hS.words.cell_eq 0 (.int .u64 a) rfl
    have c1 := hS.words.cell_eq 1 (.int .u64 b) rfl
    go_simp
    try with_reducible rfl
  simp only [Act.put, List.setIfInBounds_toArray, List.set_cons_zero, List.set_cons_succ, List.getElem_toArray, List.getElem_cons_zero, List.getElem_cons_succ]
  refine AllS.next (v := ?_) rfl rfl rfl (by kernel_rfl) ?_ ?_
  rotate_left
  · refine yieldsS_run (fun _ _ h => h) (by rfl) ?_
    intro L wx hS
    have c0 := hS.words.cell_eq 0 (.int .u64 a) rfl
    have c1 := hS.words.cell_eq 1 (.int .u64 b) rfl
    go_simp
    try with_reducible rfl
  simp only [Act.put, List.setIfInBounds_toArray, List.set_cons_zero, List.set_cons_succ, List.getElem_toArray, List.getElem_cons_zero, List.getElem_cons_succ]
  refine AllS.done rfl ?_
  intro wx hS
  go_wp2
  go_ret
  exact ⟨rfl, hS.below⟩
end Go.Proofs.Ytdenijkcjgjpkaa
