/-
  The walk of the statement on sums, differences and comparisons of two numbers, its callees by what they answer.
-/
import Derived.Test.YtdenijkcjgjpkaaRefSub
import Derived.Test.YtdenijkcjgjpkaaRefIs
import Derived.Test.YtdenijkcjgjpkaaCmp
import Derived.Test.YtdenijkcjgjpkaaAlive
namespace Go.Proofs.Ytdenijkcjgjpkaa
open Go.RowKit
theorem two_rows {w0 w : World} {l : List (Nat × TypeId × Array Value)} (h : Mem w0 l w) (t : TypeId) (Z cx cy : Array Value) :
    Mem w0 ((w.heap.size + 1, t, cy) :: (w.heap.size, t, cx) :: l) ((((w.alloc (.cells Z t)).alloc (.cells Z t)).setRow w.heap.size cx).setRow (w.heap.size + 1) cy) :=
  ⟨fun p hp => by
    rcases List.mem_cons.1 hp with rfl | hp
    · exact ((Blk.new' (by simp)).setRow_other (by omega) _).setRow _
    · rcases List.mem_cons.1 hp with rfl | hp
      · exact (((Blk.new' rfl).alloc _).setRow _).setRow_other (by show w.heap.size + 1 ≠ w.heap.size; omega) _
      · have hlt := (h.blks p hp).lt
        exact ((((h.blks p hp).alloc _).alloc _).setRow_other (by omega) _).setRow_other (by omega) _,
    below_setRow (below_setRow ((h.below.alloc h.below.size _).alloc (by have := h.below.size; simp; omega) _) h.below.size _) (by have := h.below.size; omega) _⟩
theorem Mem.new' {w0 w : World} {l : List (Nat × TypeId × Array Value)} {n : Nat} (h : Mem w0 l w) (t : TypeId) (cs : Array Value) (hn : n = w.heap.size) : Mem w0 ((n, t, cs) :: l) (w.alloc (.cells cs t)) := by subst hn; exact h.new t cs
set_option maxRecDepth 100000 in
set_option maxHeartbeats 8000000 in
theorem sums_road (a b c d s1 s2 u1 u2 v : Int) (X Y A Z : Nat → Bool) (p1 p2 : Bool) (w : World)
    (cO1 : ∀ W, Calls Try.prog 13 #[.int .u64 a, .int .u64 b] W fun e w' => e = .returned (.agg (arr X)) ∧ Below W.heap.size W w')
    (cO2 : ∀ W, Calls Try.prog 13 #[.int .u64 c, .int .u64 d] W fun e w' => e = .returned (.agg (arr Y)) ∧ Below W.heap.size W w')
    (cW : ∀ W, Calls Try.prog 14 #[.agg #[.int .u64 a, .int .u64 b], .agg #[.int .u64 c, .int .u64 d]] W fun e w' => e = .returned (.tuple #[.agg #[.int .u64 s1, .int .u64 s2], .bool p1]) ∧ Below W.heap.size W w')
    (cA : ∀ W, Calls Try.prog 15 #[.agg (arr X), .agg (arr Y)] W fun e w' => e = .returned (.tuple #[.agg (arr A), .bool p1]) ∧ Below W.heap.size W w')
    (cV : ∀ W, Calls Try.prog 16 #[.agg #[.int .u64 a, .int .u64 b], .agg #[.int .u64 c, .int .u64 d]] W fun e w' => e = .returned (.tuple #[.agg #[.int .u64 u1, .int .u64 u2], .bool p2]) ∧ Below W.heap.size W w')
    (cZ : ∀ W, Calls Try.prog 17 #[.agg (arr X), .agg (arr Y)] W fun e w' => e = .returned (.tuple #[.agg (arr Z), .bool p2]) ∧ Below W.heap.size W w')
    (cI1 : ∀ W, Calls Try.prog 9 #[.agg #[.int .u64 s1, .int .u64 s2], .agg (arr A)] W fun e w' => e = .returned (.bool true) ∧ Below W.heap.size W w')
    (cI2 : ∀ W, Calls Try.prog 9 #[.agg #[.int .u64 u1, .int .u64 u2], .agg (arr Z)] W fun e w' => e = .returned (.bool true) ∧ Below W.heap.size W w')
    (cCm : ∀ W, Calls Try.prog 18 #[.agg #[.int .u64 a, .int .u64 b], .agg #[.int .u64 c, .int .u64 d]] W fun e w' => e = .returned (.int .i64 v) ∧ Below W.heap.size W w')
    (cCr : ∀ W, Calls Try.prog 19 #[.agg (arr X), .agg (arr Y)] W fun e w' => e = .returned (.int .i64 v) ∧ Below W.heap.size W w') :
    Calls Try.prog 4 #[.int .u64 a, .int .u64 b, .int .u64 c, .int .u64 d] w fun e w' => e = .returned (.bool true) ∧ Below w.heap.size w w' := by
  have zv := zero28
  have ha := alive_any
  have m0 := Mem.start w
  go_enter Try.func4, Try.ntmps4
  go_wp2_with (first
    | (go_at_call 13; (with_reducible refine (cO1 _).mono ?_); rintro e w2 ⟨rfl, hb1⟩; have m1 := m0.keep hb1)
    | (go_at_call 13; (with_reducible refine (cO2 _).mono ?_); rintro e w3 ⟨rfl, hb2⟩; have m2 := m1.keep hb2; clear m0 m1 hb1 hb2)
    | (refine st28 rfl (.tmp 9) (.tmp 23) rfl w3.heap.size X (fun _ => false) rfl rfl ((Blk.new' rfl).alloc _) ?_; refine st28 rfl (.tmp 10) (.tmp 26) rfl (w3.heap.size + 1) Y (fun _ => false) rfl rfl ((Blk.new' (by simp)).setRow_other (by omega) _) ?_; have m3 := two_rows m2 28 (arr fun _ => false) (arr X) (arr Y); generalize (((w3.alloc (.cells (arr fun _ => false) 28)).alloc (.cells (arr fun _ => false) 28)).setRow w3.heap.size (arr X)).setRow (w3.heap.size + 1) (arr Y) = W3 at *; generalize w3.heap.size = g1 at *; clear m2))
  have m4 : Mem w ((W3.heap.size + 1, 25, #[.int .u64 c, .int .u64 d]) :: _) _ := (m3.new 25 #[.int .u64 a, .int .u64 b]).new' 25 #[.int .u64 c, .int .u64 d] (by simp)
  refine (cW _).mono ?_
  rintro e w5 ⟨rfl, hb5⟩
  have m6 := (m4.keep hb5).new 25 #[.int .u64 s1, .int .u64 s2]
  clear m3 m4 hb5 cO1 cO2 cW
  generalize W3.heap.size = g11 at *
  go_wp2_with (first
    | (refine ld28 rfl (.tmp 9) rfl g1 rfl X (m6.blk _ _ _ (by simp)) ?_)
    | (refine ld28 rfl (.tmp 10) rfl (g1 + 1) rfl Y (m6.blk _ _ _ (by simp)) ?_)
    | (go_at_call 15; (with_reducible refine (cA _).mono ?_); rintro e w6 ⟨rfl, hb6⟩; have m7 := m6.keep hb6; clear m6 hb6)
    | (refine st28 rfl (.tmp 15) (.tmp 43) rfl w6.heap.size A (fun _ => false) rfl rfl (Blk.new' rfl) ?_; have m8 := m7.row 28 (arr fun _ => false) (arr A); generalize (w6.alloc (.cells (arr fun _ => false) 28)).setRow w6.heap.size (arr A) = W6 at *; generalize w6.heap.size = g15 at *; generalize w5.heap.size = g13 at *; clear m7 cA; have a0 := (m8.blk g11 25 #[.int .u64 a, .int .u64 b] (by simp)).cell_eq 0 (.int .u64 a) rfl; have a1 := (m8.blk g11 25 #[.int .u64 a, .int .u64 b] (by simp)).cell_eq 1 (.int .u64 b) rfl; have a2 := (m8.blk (g11 + 1) 25 #[.int .u64 c, .int .u64 d] (by simp)).cell_eq 0 (.int .u64 c) rfl; have a3 := (m8.blk (g11 + 1) 25 #[.int .u64 c, .int .u64 d] (by simp)).cell_eq 1 (.int .u64 d) rfl)
    | (go_at_call 16; (with_reducible refine (cV _).mono ?_); rintro e w7 ⟨rfl, hb7⟩; have m10 := (m8.keep hb7).new 25 #[.int .u64 u1, .int .u64 u2]; clear m8 hb7 a0 a1 a2 a3 cV)
    | (refine ld28 rfl (.tmp 9) rfl g1 rfl X (m10.blk _ _ _ (by simp)) ?_)
    | (refine ld28 rfl (.tmp 10) rfl (g1 + 1) rfl Y (m10.blk _ _ _ (by simp)) ?_)
    | (go_at_call 17; (with_reducible refine (cZ _).mono ?_); rintro e w8 ⟨rfl, hb8⟩; have m11 := m10.keep hb8; clear m10 hb8)
    | (refine st28 rfl (.tmp 19) (.tmp 55) rfl w8.heap.size Z (fun _ => false) rfl rfl (Blk.new' rfl) ?_; have m12 := m11.row 28 (arr fun _ => false) (arr Z); generalize (w8.alloc (.cells (arr fun _ => false) 28)).setRow w8.heap.size (arr Z) = W8 at *; generalize w8.heap.size = g19 at *; generalize w7.heap.size = g17 at *; clear m11 cZ zv))
  refine wp_region_S (S := fun _ w' => Mem w [(g19, 28, arr Z), (g17, 25, #[.int .u64 u1, .int .u64 u2]), (g15, 28, arr A), (g13, 25, #[.int .u64 s1, .int .u64 s2]), (g11 + 1, 25, #[.int .u64 c, .int .u64 d]), (g11, 25, #[.int .u64 a, .int .u64 b]), (g1 + 1, 28, arr Y), (g1, 28, arr X)] w') (by kernel_rfl) m12.drew ?_
  refine AllS.next (v := ?_) rfl rfl rfl (by kernel_rfl) ?_ ?_
  rotate_left
  · refine yieldsS_run (fun _ _ h => h) (by rfl) ?_
    intro L wx hS
    have k := hS.blk (g13) 25 (#[.int .u64 s1, .int .u64 s2]) (by simp)
    have c0 := k.cell_eq 0 (.int .u64 s1) rfl
    have c1 := k.cell_eq 1 (.int .u64 s2) rfl
    go_simp
    try with_reducible rfl
  simp only [Act.put, List.setIfInBounds_toArray, List.set_cons_zero, List.set_cons_succ, List.getElem_toArray, List.getElem_cons_zero]
  refine AllS.next (v := .agg (arr A)) rfl rfl rfl (by kernel_rfl) ?_ ?_
  · exact yieldsS_load28 (fun _ _ h => h) (by rfl) rfl rfl fun L wx hS => hS.blk (g15) 28 (arr A) (by simp)
  simp only [Act.put, List.setIfInBounds_toArray, List.set_cons_zero, List.set_cons_succ, List.getElem_toArray, List.getElem_cons_zero, List.getElem_cons_succ]
  refine AllS.next (v := .bool true) rfl rfl rfl (by kernel_rfl) ?_ ?_
  · refine yieldsS_call (f := 9) (args := #[.agg #[.int .u64 s1, .int .u64 s2], .agg (arr A)]) (by rfl) ?_ ?_
    · intro wx
      go_simp
      try with_reducible rfl
    · intro L wx hS
      exact (cI1 wx).mono fun e w' h => ⟨h.1, hS.keep h.2⟩
  simp only [Act.put, List.setIfInBounds_toArray, List.set_cons_zero, List.set_cons_succ, List.getElem_toArray, List.getElem_cons_zero, List.getElem_cons_succ]
  refine AllS.next (v := ?_) rfl rfl rfl (by kernel_rfl) ?_ ?_
  rotate_left
  · refine yieldsS_run (fun _ _ h => h) (by rfl) ?_
    intro L wx hS
    go_simp
    try with_reducible rfl
  simp only [Act.put, List.setIfInBounds_toArray, List.set_cons_zero, List.set_cons_succ, List.getElem_toArray, List.getElem_cons_zero, List.getElem_cons_succ]
  refine AllS.next (v := ?_) rfl rfl rfl (by kernel_rfl) ?_ ?_
  rotate_left
  · refine yieldsS_run (fun _ _ h => h) (by rfl) ?_
    intro L wx hS
    go_simp
    try with_reducible rfl
  simp only [Act.put, List.setIfInBounds_toArray, List.set_cons_zero, List.set_cons_succ, List.getElem_toArray, List.getElem_cons_zero, List.getElem_cons_succ]
  refine AllS.next (v := ?_) rfl rfl rfl (by kernel_rfl) ?_ ?_
  rotate_left
  · refine yieldsS_run (fun _ _ h => h) (by rfl) ?_
    intro L wx hS
    go_simp
    try with_reducible rfl
  simp only [Act.put, List.setIfInBounds_toArray, List.set_cons_zero, List.set_cons_succ, List.getElem_toArray, List.getElem_cons_zero, List.getElem_cons_succ]
  refine AllS.next (v := ?_) rfl rfl rfl (by kernel_rfl) ?_ ?_
  rotate_left
  · refine yieldsS_run (fun _ _ h => h) (by rfl) ?_
    intro L wx hS
    go_simp
    try with_reducible rfl
  simp only [Act.put, List.setIfInBounds_toArray, List.set_cons_zero, List.set_cons_succ, List.getElem_toArray, List.getElem_cons_zero, List.getElem_cons_succ]
  refine AllS.next (v := ?_) rfl rfl rfl (by kernel_rfl) ?_ ?_
  rotate_left
  · refine yieldsS_run (fun _ _ h => h) (by rfl) ?_
    intro L wx hS
    go_simp
    try with_reducible rfl
  simp only [Act.put, List.setIfInBounds_toArray, List.set_cons_zero, List.set_cons_succ, List.getElem_toArray, List.getElem_cons_zero, List.getElem_cons_succ]
  refine AllS.next (v := ?_) rfl rfl rfl (by kernel_rfl) ?_ ?_
  rotate_left
  · refine yieldsS_run (fun _ _ h => h) (by rfl) ?_
    intro L wx hS
    go_simp
    try with_reducible rfl
  simp only [Act.put, List.setIfInBounds_toArray, List.set_cons_zero, List.set_cons_succ, List.getElem_toArray, List.getElem_cons_zero, List.getElem_cons_succ]
  refine AllS.next (v := ?_) rfl rfl rfl (by kernel_rfl) ?_ ?_
  rotate_left
  · refine yieldsS_run (fun _ _ h => h) (by rfl) ?_
    intro L wx hS
    have k := hS.blk (g17) 25 (#[.int .u64 u1, .int .u64 u2]) (by simp)
    have c0 := k.cell_eq 0 (.int .u64 u1) rfl
    have c1 := k.cell_eq 1 (.int .u64 u2) rfl
    go_simp
    try with_reducible rfl
  simp only [Act.put, List.setIfInBounds_toArray, List.set_cons_zero, List.set_cons_succ, List.getElem_toArray, List.getElem_cons_zero, List.getElem_cons_succ]
  refine AllS.next (v := .agg (arr Z)) rfl rfl rfl (by kernel_rfl) ?_ ?_
  · exact yieldsS_load28 (fun _ _ h => h) (by rfl) rfl rfl fun L wx hS => hS.blk (g19) 28 (arr Z) (by simp)
  simp only [Act.put, List.setIfInBounds_toArray, List.set_cons_zero, List.set_cons_succ, List.getElem_toArray, List.getElem_cons_zero, List.getElem_cons_succ]
  refine AllS.next (v := .bool true) rfl rfl rfl (by kernel_rfl) ?_ ?_
  · refine yieldsS_call (f := 9) (args := #[.agg #[.int .u64 u1, .int .u64 u2], .agg (arr Z)]) (by rfl) ?_ ?_
    · intro wx
      go_simp
      try with_reducible rfl
    · intro L wx hS
      exact (cI2 wx).mono fun e w' h => ⟨h.1, hS.keep h.2⟩
  simp only [Act.put, List.setIfInBounds_toArray, List.set_cons_zero, List.set_cons_succ, List.getElem_toArray, List.getElem_cons_zero, List.getElem_cons_succ]
  refine AllS.next (v := ?_) rfl rfl rfl (by kernel_rfl) ?_ ?_
  rotate_left
  · refine yieldsS_run (fun _ _ h => h) (by rfl) ?_
    intro L wx hS
    go_simp
    try with_reducible rfl
  simp only [Act.put, List.setIfInBounds_toArray, List.set_cons_zero, List.set_cons_succ, List.getElem_toArray, List.getElem_cons_zero, List.getElem_cons_succ]
  refine AllS.next (v := ?_) rfl rfl rfl (by kernel_rfl) ?_ ?_
  rotate_left
  · refine yieldsS_run (fun _ _ h => h) (by rfl) ?_
    intro L wx hS
    go_simp
    try with_reducible rfl
  simp only [Act.put, List.setIfInBounds_toArray, List.set_cons_zero, List.set_cons_succ, List.getElem_toArray, List.getElem_cons_zero, List.getElem_cons_succ]
  refine AllS.next (v := ?_) rfl rfl rfl (by kernel_rfl) ?_ ?_
  rotate_left
  · refine yieldsS_run (fun _ _ h => h) (by rfl) ?_
    intro L wx hS
    go_simp
    try with_reducible rfl
  simp only [Act.put, List.setIfInBounds_toArray, List.set_cons_zero, List.set_cons_succ, List.getElem_toArray, List.getElem_cons_zero, List.getElem_cons_succ]
  refine AllS.next (v := ?_) rfl rfl rfl (by kernel_rfl) ?_ ?_
  rotate_left
  · refine yieldsS_run (fun _ _ h => h) (by rfl) ?_
    intro L wx hS
    go_simp
    try with_reducible rfl
  simp only [Act.put, List.setIfInBounds_toArray, List.set_cons_zero, List.set_cons_succ, List.getElem_toArray, List.getElem_cons_zero, List.getElem_cons_succ]
  refine AllS.next (v := ?_) rfl rfl rfl (by kernel_rfl) ?_ ?_
  rotate_left
  · refine yieldsS_run (fun _ _ h => h) (by rfl) ?_
    intro L wx hS
    go_simp
    try with_reducible rfl
  simp only [Act.put, List.setIfInBounds_toArray, List.set_cons_zero, List.set_cons_succ, List.getElem_toArray, List.getElem_cons_zero, List.getElem_cons_succ]
  refine AllS.next (v := ?_) rfl rfl rfl (by kernel_rfl) ?_ ?_
  rotate_left
  · refine yieldsS_run (fun _ _ h => h) (by rfl) ?_
    intro L wx hS
    go_simp
    try with_reducible rfl
  simp only [Act.put, List.setIfInBounds_toArray, List.set_cons_zero, List.set_cons_succ, List.getElem_toArray, List.getElem_cons_zero, List.getElem_cons_succ]
  refine AllS.next (v := ?_) rfl rfl rfl (by kernel_rfl) ?_ ?_
  rotate_left
  · refine yieldsS_run (fun _ _ h => h) (by rfl) ?_
    intro L wx hS
    go_simp
    try with_reducible rfl
  simp only [Act.put, List.setIfInBounds_toArray, List.set_cons_zero, List.set_cons_succ, List.getElem_toArray, List.getElem_cons_zero, List.getElem_cons_succ]
  refine AllS.next (v := ?_) rfl rfl rfl (by kernel_rfl) ?_ ?_
  rotate_left
  · refine yieldsS_run (fun _ _ h => h) (by rfl) ?_
    intro L wx hS
    have k := hS.blk (g11) 25 (#[.int .u64 a, .int .u64 b]) (by simp)
    have c0 := k.cell_eq 0 (.int .u64 a) rfl
    have c1 := k.cell_eq 1 (.int .u64 b) rfl
    go_simp
    try with_reducible rfl
  simp only [Act.put, List.setIfInBounds_toArray, List.set_cons_zero, List.set_cons_succ, List.getElem_toArray, List.getElem_cons_zero, List.getElem_cons_succ]
  refine AllS.next (v := ?_) rfl rfl rfl (by kernel_rfl) ?_ ?_
  rotate_left
  · refine yieldsS_run (fun _ _ h => h) (by rfl) ?_
    intro L wx hS
    have k := hS.blk (g11 + 1) 25 (#[.int .u64 c, .int .u64 d]) (by simp)
    have c0 := k.cell_eq 0 (.int .u64 c) rfl
    have c1 := k.cell_eq 1 (.int .u64 d) rfl
    go_simp
    try with_reducible rfl
  simp only [Act.put, List.setIfInBounds_toArray, List.set_cons_zero, List.set_cons_succ, List.getElem_toArray, List.getElem_cons_zero, List.getElem_cons_succ]
  refine AllS.next (v := .int .i64 v) rfl rfl rfl (by kernel_rfl) ?_ ?_
  · refine yieldsS_call (f := 18) (args := #[.agg #[.int .u64 a, .int .u64 b], .agg #[.int .u64 c, .int .u64 d]]) (by rfl) ?_ ?_
    · intro wx
      go_simp
      try with_reducible rfl
    · intro L wx hS
      exact (cCm wx).mono fun e w' h => ⟨h.1, hS.keep h.2⟩
  simp only [Act.put, List.setIfInBounds_toArray, List.set_cons_zero, List.set_cons_succ, List.getElem_toArray, List.getElem_cons_zero, List.getElem_cons_succ]
  refine AllS.next (v := .agg (arr X)) rfl rfl rfl (by kernel_rfl) ?_ ?_
  · exact yieldsS_load28 (fun _ _ h => h) (by rfl) rfl rfl fun L wx hS => hS.blk (g1) 28 (arr X) (by simp)
  simp only [Act.put, List.setIfInBounds_toArray, List.set_cons_zero, List.set_cons_succ, List.getElem_toArray, List.getElem_cons_zero, List.getElem_cons_succ]
  refine AllS.next (v := .agg (arr Y)) rfl rfl rfl (by kernel_rfl) ?_ ?_
  · exact yieldsS_load28 (fun _ _ h => h) (by rfl) rfl rfl fun L wx hS => hS.blk (g1 + 1) 28 (arr Y) (by simp)
  simp only [Act.put, List.setIfInBounds_toArray, List.set_cons_zero, List.set_cons_succ, List.getElem_toArray, List.getElem_cons_zero, List.getElem_cons_succ]
  refine AllS.next (v := .int .i64 v) rfl rfl rfl (by kernel_rfl) ?_ ?_
  · refine yieldsS_call (f := 19) (args := #[.agg (arr X), .agg (arr Y)]) (by rfl) ?_ ?_
    · intro wx
      go_simp
      try with_reducible rfl
    · intro L wx hS
      exact (cCr wx).mono fun e w' h => ⟨h.1, hS.keep h.2⟩
  simp only [Act.put, List.setIfInBounds_toArray, List.set_cons_zero, List.set_cons_succ, List.getElem_toArray, List.getElem_cons_zero, List.getElem_cons_succ]
  refine AllS.next (v := ?_) rfl rfl rfl (by kernel_rfl) ?_ ?_
  rotate_left
  · refine yieldsS_run (fun _ _ h => h) (by rfl) ?_
    intro L wx hS
    go_simp
    try with_reducible rfl
  simp only [Act.put, List.setIfInBounds_toArray, List.set_cons_zero, List.set_cons_succ, List.getElem_toArray, List.getElem_cons_zero, List.getElem_cons_succ]
  refine AllS.next (v := ?_) rfl rfl rfl (by kernel_rfl) ?_ ?_
  rotate_left
  · refine yieldsS_run (fun _ _ h => h) (by rfl) ?_
    intro L wx hS
    go_simp
    try with_reducible rfl
  simp only [Act.put, List.setIfInBounds_toArray, List.set_cons_zero, List.set_cons_succ, List.getElem_toArray, List.getElem_cons_zero, List.getElem_cons_succ]
  refine AllS.next (v := ?_) rfl rfl rfl (by kernel_rfl) ?_ ?_
  rotate_left
  · refine yieldsS_run (fun _ _ h => h) (by rfl) ?_
    intro L wx hS
    go_simp
    try with_reducible rfl
  simp only [Act.put, List.setIfInBounds_toArray, List.set_cons_zero, List.set_cons_succ, List.getElem_toArray, List.getElem_cons_zero, List.getElem_cons_succ]
  refine AllS.next (v := .bool true) rfl rfl rfl (by kernel_rfl) ?_ ?_
  · refine yieldsS_call (f := 12) (args := #[]) (by rfl) ?_ ?_
    · intro wx
      go_simp
      try with_reducible rfl
    · intro L wx hS
      exact (ha wx).mono fun e w' h => ⟨h.1, hS.keep h.2⟩
  simp only [Act.put, List.setIfInBounds_toArray, List.set_cons_zero, List.set_cons_succ, List.getElem_toArray, List.getElem_cons_zero, List.getElem_cons_succ]
  refine AllS.next (v := ?_) rfl rfl rfl (by kernel_rfl) ?_ ?_
  rotate_left
  · refine yieldsS_run (fun _ _ h => h) (by rfl) ?_
    intro L wx hS
    go_simp
    try with_reducible rfl
  simp only [Act.put, List.setIfInBounds_toArray, List.set_cons_zero, List.set_cons_succ, List.getElem_toArray, List.getElem_cons_zero, List.getElem_cons_succ]
  refine AllS.next (v := ?_) rfl rfl rfl (by kernel_rfl) ?_ ?_
  rotate_left
  · refine yieldsS_run (fun _ _ h => h) (by rfl) ?_
    intro L wx hS
    go_simp
    try with_reducible rfl
  simp only [Act.put, List.setIfInBounds_toArray, List.set_cons_zero, List.set_cons_succ, List.getElem_toArray, List.getElem_cons_zero, List.getElem_cons_succ]
  refine AllS.done (by kernel_rfl) ?_
  intro wx hS
  have hb := hS.below
  clear hS m12
  go_wp2
  go_ret
  exact ⟨rfl, hb⟩
end Go.Proofs.Ytdenijkcjgjpkaa
