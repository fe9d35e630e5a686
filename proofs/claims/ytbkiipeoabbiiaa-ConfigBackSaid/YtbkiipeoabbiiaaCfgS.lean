/-
  The contracts of the document's in, part, ticks, Symbol and Bound.
-/
import Derived.Test.YtbkiipeoabbiiaaCfgV
import Derived.Test.YtbkiipeoabbiiaaOctB
namespace Go.Proofs.Ytbkiipeoabbiiaa
open Go.RowKit
theorem Below.alK {W w : World} (h : Below W.heap.size W w) (o : Obj) : Below W.heap.size W (w.alloc o) := h.alloc h.size o
theorem inK_any (n lo hi : Int) (w : World) : Calls Try.prog 26 #[.int .i64 n, .int .i64 lo, .int .i64 hi] w fun e w' => e = .returned (.bool (inK n lo hi)) ∧ w = w' := by
  unfold inK
  go_enter Try.func26, Try.ntmps26
  go_wp2
  all_goals go_ret
  all_goals (simp_all; try omega)
theorem part_any (n : Int) (w : World) : Calls Try.prog 40 #[.int .i64 n] w fun e w' => e = .returned (.bool (inK n 0 9999)) ∧ w = w' := by
  have c := fun w => inK_any n 0 9999 w
  generalize inK n 0 9999 = b at c ⊢
  go_enter Try.func40, Try.ntmps40
  go_wp2_with (go_at_call 26; refine (c _).mono ?_; rintro e w1 ⟨rfl, rfl⟩)
  go_ret
  exact ⟨rfl, rfl⟩
theorem ticks_any (n : Int) (w : World) : Calls Try.prog 27 #[.int .i64 n] w fun e w' => e = .returned (.bool (inK n 1 1099511627776)) ∧ w = w' := by
  have c := fun w => inK_any n 1 1099511627776 w
  generalize inK n 1 1099511627776 = b at c ⊢
  go_enter Try.func27, Try.ntmps27
  go_wp2_with (go_at_call 26; refine (c _).mono ?_; rintro e w1 ⟨rfl, rfl⟩)
  go_ret
  exact ⟨rfl, rfl⟩
set_option maxRecDepth 8000 in
set_option maxHeartbeats 2000000 in
theorem symbol_r1 (s : Symb) (h1 : symR1 s = false) (W : World) : Calls Try.prog 12 #[vSymb s] W fun e w' => e = .returned (.int .i64 9) ∧ Below W.heap.size W w' := by
  have hb := fun o => Below.alK (Below.refl W.heap.size W) o
  have c10 := fun w => inK_any s.grid 1 1099511627776 w
  have c11 := fun w => inK_any s.refp 1 1099511627776 w
  unfold symR1 at h1
  generalize inK s.grid 1 1099511627776 = b0 at c10 h1
  generalize inK s.refp 1 1099511627776 = b1 at c11 h1
  obtain ⟨grid, refp, stat, dyn, win, move, lim, pau, ext, mext, col, wid, self, slots, levels, short⟩ := s
  simp only [vSymb, cSymb] at *
  go_enter Try.func12, Try.ntmps12
  go_wp2_with (first
    | (go_at_call 26; (with_reducible refine (c10 _).mono ?_); rintro e w1 ⟨rfl, rfl⟩)
    | (go_at_call 26; (with_reducible refine (c11 _).mono ?_); rintro e w1 ⟨rfl, rfl⟩))
  all_goals first
    | (exfalso; simp_all; done)
    | (go_ret; exact ⟨rfl, hb _⟩)
set_option maxRecDepth 8000 in
set_option maxHeartbeats 2000000 in
theorem symbol_grid (s : Symb) (h1 : symR1 s = true) (hg : ¬ s.refp.tmod s.grid = 0) (W : World) : Calls Try.prog 12 #[vSymb s] W fun e w' => e = .returned (.int .i64 8) ∧ Below W.heap.size W w' := by
  have hb := fun o => Below.alK (Below.refl W.heap.size W) o
  have c10 := fun w => inK_any s.grid 1 1099511627776 w
  have c11 := fun w => inK_any s.refp 1 1099511627776 w
  have hz : ¬ s.grid = 0 := by
    have g := h1
    unfold symR1 at g
    simp only [Bool.and_eq_true, inK_true] at g
    omega
  unfold symR1 at h1
  simp only [Bool.and_eq_true] at h1
  obtain ⟨g10, g11⟩ := h1
  rw [g10] at c10
  rw [g11] at c11
  clear g10 g11
  have hq : (s.refp.tmod s.grid != 0) = true := by simpa using hg
  clear hg
  obtain ⟨grid, refp, stat, dyn, win, move, lim, pau, ext, mext, col, wid, self, slots, levels, short⟩ := s
  simp only [vSymb, cSymb] at *
  go_enter Try.func12, Try.ntmps12
  go_wp2_with (first
    | (go_at_call 26; (with_reducible refine (c10 _).mono ?_); rintro e w1 ⟨rfl, rfl⟩)
    | (go_at_call 26; (with_reducible refine (c11 _).mono ?_); rintro e w1 ⟨rfl, rfl⟩))
  all_goals first
    | (exfalso; simp_all; done)
    | (go_ret; exact ⟨rfl, hb _⟩)
set_option maxRecDepth 8000 in
set_option maxHeartbeats 2000000 in
theorem symbol_r2 (s : Symb) (h1 : symR1 s = true) (hg : s.refp.tmod s.grid = 0) (h2 : symR2 s = false) (W : World) : Calls Try.prog 12 #[vSymb s] W fun e w' => e = .returned (.int .i64 9) ∧ Below W.heap.size W w' := by
  have hb := fun o => Below.alK (Below.refl W.heap.size W) o
  have c10 := fun w => inK_any s.grid 1 1099511627776 w
  have c11 := fun w => inK_any s.refp 1 1099511627776 w
  have c20 := fun w => part_any s.stat w
  have c21 := fun w => part_any s.dyn w
  have c22 := fun w => part_any s.move w
  have c23 := fun w => part_any s.col w
  have c24 := fun w => part_any s.wid w
  have c25 := fun w => part_any s.short w
  have hz : ¬ s.grid = 0 := by
    have g := h1
    unfold symR1 at g
    simp only [Bool.and_eq_true, inK_true] at g
    omega
  have hq : (s.refp.tmod s.grid != 0) = false := by simpa using hg
  clear hg
  unfold symR1 at h1
  simp only [Bool.and_eq_true] at h1
  obtain ⟨g10, g11⟩ := h1
  rw [g10] at c10
  rw [g11] at c11
  clear g10 g11
  unfold symR2 at h2
  generalize inK s.stat 0 9999 = b0 at c20 h2
  generalize inK s.dyn 0 9999 = b1 at c21 h2
  generalize inK s.move 0 9999 = b2 at c22 h2
  generalize inK s.col 0 9999 = b3 at c23 h2
  generalize inK s.wid 0 9999 = b4 at c24 h2
  generalize inK s.short 0 9999 = b5 at c25 h2
  obtain ⟨grid, refp, stat, dyn, win, move, lim, pau, ext, mext, col, wid, self, slots, levels, short⟩ := s
  simp only [vSymb, cSymb] at *
  go_enter Try.func12, Try.ntmps12
  go_wp2_with (first
    | (go_at_call 26; (with_reducible refine (c10 _).mono ?_); rintro e w1 ⟨rfl, rfl⟩)
    | (go_at_call 26; (with_reducible refine (c11 _).mono ?_); rintro e w1 ⟨rfl, rfl⟩)
    | (go_at_call 40; (with_reducible refine (c20 _).mono ?_); rintro e w1 ⟨rfl, rfl⟩)
    | (go_at_call 40; (with_reducible refine (c21 _).mono ?_); rintro e w1 ⟨rfl, rfl⟩)
    | (go_at_call 40; (with_reducible refine (c22 _).mono ?_); rintro e w1 ⟨rfl, rfl⟩)
    | (go_at_call 40; (with_reducible refine (c23 _).mono ?_); rintro e w1 ⟨rfl, rfl⟩)
    | (go_at_call 40; (with_reducible refine (c24 _).mono ?_); rintro e w1 ⟨rfl, rfl⟩)
    | (go_at_call 40; (with_reducible refine (c25 _).mono ?_); rintro e w1 ⟨rfl, rfl⟩))
  all_goals first
    | (exfalso; simp_all; done)
    | (go_ret; exact ⟨rfl, hb _⟩)
set_option maxRecDepth 8000 in
set_option maxHeartbeats 2000000 in
theorem symbol_r3 (s : Symb) (h1 : symR1 s = true) (hg : s.refp.tmod s.grid = 0) (h2 : symR2 s = true) (h3 : symR3 s = false) (W : World) : Calls Try.prog 12 #[vSymb s] W fun e w' => e = .returned (.int .i64 9) ∧ Below W.heap.size W w' := by
  have hb := fun o => Below.alK (Below.refl W.heap.size W) o
  have c10 := fun w => inK_any s.grid 1 1099511627776 w
  have c11 := fun w => inK_any s.refp 1 1099511627776 w
  have c20 := fun w => part_any s.stat w
  have c21 := fun w => part_any s.dyn w
  have c22 := fun w => part_any s.move w
  have c23 := fun w => part_any s.col w
  have c24 := fun w => part_any s.wid w
  have c25 := fun w => part_any s.short w
  have c30 := fun w => ticks_any s.win w
  have c31 := fun w => ticks_any s.lim w
  have c32 := fun w => ticks_any s.pau w
  have c33 := fun w => ticks_any s.ext w
  have c34 := fun w => inK_any s.mext 0 10 w
  have c35 := fun w => inK_any s.self 0 3 w
  have c36 := fun w => inK_any s.slots 1 500 w
  have c37 := fun w => inK_any s.levels 1 200 w
  have hz : ¬ s.grid = 0 := by
    have g := h1
    unfold symR1 at g
    simp only [Bool.and_eq_true, inK_true] at g
    omega
  have hq : (s.refp.tmod s.grid != 0) = false := by simpa using hg
  clear hg
  unfold symR1 at h1
  simp only [Bool.and_eq_true] at h1
  obtain ⟨g10, g11⟩ := h1
  rw [g10] at c10
  rw [g11] at c11
  clear g10 g11
  unfold symR2 at h2
  simp only [Bool.and_eq_true] at h2
  obtain ⟨g20, g21, g22, g23, g24, g25⟩ := h2
  rw [g20] at c20
  rw [g21] at c21
  rw [g22] at c22
  rw [g23] at c23
  rw [g24] at c24
  rw [g25] at c25
  clear g20 g21 g22 g23 g24 g25
  unfold symR3 at h3
  generalize inK s.win 1 1099511627776 = b0 at c30 h3
  generalize inK s.lim 1 1099511627776 = b1 at c31 h3
  generalize inK s.pau 1 1099511627776 = b2 at c32 h3
  generalize inK s.ext 1 1099511627776 = b3 at c33 h3
  generalize inK s.mext 0 10 = b4 at c34 h3
  generalize inK s.self 0 3 = b5 at c35 h3
  generalize inK s.slots 1 500 = b6 at c36 h3
  generalize inK s.levels 1 200 = b7 at c37 h3
  obtain ⟨grid, refp, stat, dyn, win, move, lim, pau, ext, mext, col, wid, self, slots, levels, short⟩ := s
  simp only [vSymb, cSymb] at *
  go_enter Try.func12, Try.ntmps12
  go_wp2_with (first
    | (go_at_call 26; (with_reducible refine (c10 _).mono ?_); rintro e w1 ⟨rfl, rfl⟩)
    | (go_at_call 26; (with_reducible refine (c11 _).mono ?_); rintro e w1 ⟨rfl, rfl⟩)
    | (go_at_call 40; (with_reducible refine (c20 _).mono ?_); rintro e w1 ⟨rfl, rfl⟩)
    | (go_at_call 40; (with_reducible refine (c21 _).mono ?_); rintro e w1 ⟨rfl, rfl⟩)
    | (go_at_call 40; (with_reducible refine (c22 _).mono ?_); rintro e w1 ⟨rfl, rfl⟩)
    | (go_at_call 40; (with_reducible refine (c23 _).mono ?_); rintro e w1 ⟨rfl, rfl⟩)
    | (go_at_call 40; (with_reducible refine (c24 _).mono ?_); rintro e w1 ⟨rfl, rfl⟩)
    | (go_at_call 40; (with_reducible refine (c25 _).mono ?_); rintro e w1 ⟨rfl, rfl⟩)
    | (go_at_call 27; (with_reducible refine (c30 _).mono ?_); rintro e w1 ⟨rfl, rfl⟩)
    | (go_at_call 27; (with_reducible refine (c31 _).mono ?_); rintro e w1 ⟨rfl, rfl⟩)
    | (go_at_call 27; (with_reducible refine (c32 _).mono ?_); rintro e w1 ⟨rfl, rfl⟩)
    | (go_at_call 27; (with_reducible refine (c33 _).mono ?_); rintro e w1 ⟨rfl, rfl⟩)
    | (go_at_call 26; (with_reducible refine (c34 _).mono ?_); rintro e w1 ⟨rfl, rfl⟩)
    | (go_at_call 26; (with_reducible refine (c35 _).mono ?_); rintro e w1 ⟨rfl, rfl⟩)
    | (go_at_call 26; (with_reducible refine (c36 _).mono ?_); rintro e w1 ⟨rfl, rfl⟩)
    | (go_at_call 26; (with_reducible refine (c37 _).mono ?_); rintro e w1 ⟨rfl, rfl⟩))
  all_goals first
    | (exfalso; simp_all; done)
    | (go_ret; exact ⟨rfl, hb _⟩)
set_option maxRecDepth 8000 in
set_option maxHeartbeats 2000000 in
theorem symbol_out (s : Symb) (h1 : symR1 s = true) (hg : s.refp.tmod s.grid = 0) (h2 : symR2 s = true) (h3 : symR3 s = true) (h4 : s.stat < s.dyn) (W : World) : Calls Try.prog 12 #[vSymb s] W fun e w' => e = .returned (.int .i64 11) ∧ Below W.heap.size W w' := by
  have hb := fun o => Below.alK (Below.refl W.heap.size W) o
  have c10 := fun w => inK_any s.grid 1 1099511627776 w
  have c11 := fun w => inK_any s.refp 1 1099511627776 w
  have c20 := fun w => part_any s.stat w
  have c21 := fun w => part_any s.dyn w
  have c22 := fun w => part_any s.move w
  have c23 := fun w => part_any s.col w
  have c24 := fun w => part_any s.wid w
  have c25 := fun w => part_any s.short w
  have c30 := fun w => ticks_any s.win w
  have c31 := fun w => ticks_any s.lim w
  have c32 := fun w => ticks_any s.pau w
  have c33 := fun w => ticks_any s.ext w
  have c34 := fun w => inK_any s.mext 0 10 w
  have c35 := fun w => inK_any s.self 0 3 w
  have c36 := fun w => inK_any s.slots 1 500 w
  have c37 := fun w => inK_any s.levels 1 200 w
  have hz : ¬ s.grid = 0 := by
    have g := h1
    unfold symR1 at g
    simp only [Bool.and_eq_true, inK_true] at g
    omega
  have hq : (s.refp.tmod s.grid != 0) = false := by simpa using hg
  clear hg
  unfold symR1 at h1
  simp only [Bool.and_eq_true] at h1
  obtain ⟨g10, g11⟩ := h1
  rw [g10] at c10
  rw [g11] at c11
  clear g10 g11
  unfold symR2 at h2
  simp only [Bool.and_eq_true] at h2
  obtain ⟨g20, g21, g22, g23, g24, g25⟩ := h2
  rw [g20] at c20
  rw [g21] at c21
  rw [g22] at c22
  rw [g23] at c23
  rw [g24] at c24
  rw [g25] at c25
  clear g20 g21 g22 g23 g24 g25
  unfold symR3 at h3
  simp only [Bool.and_eq_true] at h3
  obtain ⟨g30, g31, g32, g33, g34, g35, g36, g37⟩ := h3
  rw [g30] at c30
  rw [g31] at c31
  rw [g32] at c32
  rw [g33] at c33
  rw [g34] at c34
  rw [g35] at c35
  rw [g36] at c36
  rw [g37] at c37
  clear g30 g31 g32 g33 g34 g35 g36 g37
  obtain ⟨grid, refp, stat, dyn, win, move, lim, pau, ext, mext, col, wid, self, slots, levels, short⟩ := s
  simp only [vSymb, cSymb] at *
  go_enter Try.func12, Try.ntmps12
  go_wp2_with (first
    | (go_at_call 26; (with_reducible refine (c10 _).mono ?_); rintro e w1 ⟨rfl, rfl⟩)
    | (go_at_call 26; (with_reducible refine (c11 _).mono ?_); rintro e w1 ⟨rfl, rfl⟩)
    | (go_at_call 40; (with_reducible refine (c20 _).mono ?_); rintro e w1 ⟨rfl, rfl⟩)
    | (go_at_call 40; (with_reducible refine (c21 _).mono ?_); rintro e w1 ⟨rfl, rfl⟩)
    | (go_at_call 40; (with_reducible refine (c22 _).mono ?_); rintro e w1 ⟨rfl, rfl⟩)
    | (go_at_call 40; (with_reducible refine (c23 _).mono ?_); rintro e w1 ⟨rfl, rfl⟩)
    | (go_at_call 40; (with_reducible refine (c24 _).mono ?_); rintro e w1 ⟨rfl, rfl⟩)
    | (go_at_call 40; (with_reducible refine (c25 _).mono ?_); rintro e w1 ⟨rfl, rfl⟩)
    | (go_at_call 27; (with_reducible refine (c30 _).mono ?_); rintro e w1 ⟨rfl, rfl⟩)
    | (go_at_call 27; (with_reducible refine (c31 _).mono ?_); rintro e w1 ⟨rfl, rfl⟩)
    | (go_at_call 27; (with_reducible refine (c32 _).mono ?_); rintro e w1 ⟨rfl, rfl⟩)
    | (go_at_call 27; (with_reducible refine (c33 _).mono ?_); rintro e w1 ⟨rfl, rfl⟩)
    | (go_at_call 26; (with_reducible refine (c34 _).mono ?_); rintro e w1 ⟨rfl, rfl⟩)
    | (go_at_call 26; (with_reducible refine (c35 _).mono ?_); rintro e w1 ⟨rfl, rfl⟩)
    | (go_at_call 26; (with_reducible refine (c36 _).mono ?_); rintro e w1 ⟨rfl, rfl⟩)
    | (go_at_call 26; (with_reducible refine (c37 _).mono ?_); rintro e w1 ⟨rfl, rfl⟩))
  all_goals first
    | (exfalso; simp_all; done)
    | (go_ret; exact ⟨rfl, hb _⟩)
set_option maxRecDepth 8000 in
set_option maxHeartbeats 2000000 in
theorem symbol_ok (s : Symb) (h1 : symR1 s = true) (hg : s.refp.tmod s.grid = 0) (h2 : symR2 s = true) (h3 : symR3 s = true) (h4 : ¬ s.stat < s.dyn) (W : World) : Calls Try.prog 12 #[vSymb s] W fun e w' => e = .returned (.int .i64 0) ∧ Below W.heap.size W w' := by
  have hb := fun o => Below.alK (Below.refl W.heap.size W) o
  have c10 := fun w => inK_any s.grid 1 1099511627776 w
  have c11 := fun w => inK_any s.refp 1 1099511627776 w
  have c20 := fun w => part_any s.stat w
  have c21 := fun w => part_any s.dyn w
  have c22 := fun w => part_any s.move w
  have c23 := fun w => part_any s.col w
  have c24 := fun w => part_any s.wid w
  have c25 := fun w => part_any s.short w
  have c30 := fun w => ticks_any s.win w
  have c31 := fun w => ticks_any s.lim w
  have c32 := fun w => ticks_any s.pau w
  have c33 := fun w => ticks_any s.ext w
  have c34 := fun w => inK_any s.mext 0 10 w
  have c35 := fun w => inK_any s.self 0 3 w
  have c36 := fun w => inK_any s.slots 1 500 w
  have c37 := fun w => inK_any s.levels 1 200 w
  have hz : ¬ s.grid = 0 := by
    have g := h1
    unfold symR1 at g
    simp only [Bool.and_eq_true, inK_true] at g
    omega
  have hq : (s.refp.tmod s.grid != 0) = false := by simpa using hg
  clear hg
  unfold symR1 at h1
  simp only [Bool.and_eq_true] at h1
  obtain ⟨g10, g11⟩ := h1
  rw [g10] at c10
  rw [g11] at c11
  clear g10 g11
  unfold symR2 at h2
  simp only [Bool.and_eq_true] at h2
  obtain ⟨g20, g21, g22, g23, g24, g25⟩ := h2
  rw [g20] at c20
  rw [g21] at c21
  rw [g22] at c22
  rw [g23] at c23
  rw [g24] at c24
  rw [g25] at c25
  clear g20 g21 g22 g23 g24 g25
  unfold symR3 at h3
  simp only [Bool.and_eq_true] at h3
  obtain ⟨g30, g31, g32, g33, g34, g35, g36, g37⟩ := h3
  rw [g30] at c30
  rw [g31] at c31
  rw [g32] at c32
  rw [g33] at c33
  rw [g34] at c34
  rw [g35] at c35
  rw [g36] at c36
  rw [g37] at c37
  clear g30 g31 g32 g33 g34 g35 g36 g37
  obtain ⟨grid, refp, stat, dyn, win, move, lim, pau, ext, mext, col, wid, self, slots, levels, short⟩ := s
  simp only [vSymb, cSymb] at *
  go_enter Try.func12, Try.ntmps12
  go_wp2_with (first
    | (go_at_call 26; (with_reducible refine (c10 _).mono ?_); rintro e w1 ⟨rfl, rfl⟩)
    | (go_at_call 26; (with_reducible refine (c11 _).mono ?_); rintro e w1 ⟨rfl, rfl⟩)
    | (go_at_call 40; (with_reducible refine (c20 _).mono ?_); rintro e w1 ⟨rfl, rfl⟩)
    | (go_at_call 40; (with_reducible refine (c21 _).mono ?_); rintro e w1 ⟨rfl, rfl⟩)
    | (go_at_call 40; (with_reducible refine (c22 _).mono ?_); rintro e w1 ⟨rfl, rfl⟩)
    | (go_at_call 40; (with_reducible refine (c23 _).mono ?_); rintro e w1 ⟨rfl, rfl⟩)
    | (go_at_call 40; (with_reducible refine (c24 _).mono ?_); rintro e w1 ⟨rfl, rfl⟩)
    | (go_at_call 40; (with_reducible refine (c25 _).mono ?_); rintro e w1 ⟨rfl, rfl⟩)
    | (go_at_call 27; (with_reducible refine (c30 _).mono ?_); rintro e w1 ⟨rfl, rfl⟩)
    | (go_at_call 27; (with_reducible refine (c31 _).mono ?_); rintro e w1 ⟨rfl, rfl⟩)
    | (go_at_call 27; (with_reducible refine (c32 _).mono ?_); rintro e w1 ⟨rfl, rfl⟩)
    | (go_at_call 27; (with_reducible refine (c33 _).mono ?_); rintro e w1 ⟨rfl, rfl⟩)
    | (go_at_call 26; (with_reducible refine (c34 _).mono ?_); rintro e w1 ⟨rfl, rfl⟩)
    | (go_at_call 26; (with_reducible refine (c35 _).mono ?_); rintro e w1 ⟨rfl, rfl⟩)
    | (go_at_call 26; (with_reducible refine (c36 _).mono ?_); rintro e w1 ⟨rfl, rfl⟩)
    | (go_at_call 26; (with_reducible refine (c37 _).mono ?_); rintro e w1 ⟨rfl, rfl⟩))
  all_goals first
    | (exfalso; simp_all; done)
    | (go_ret; exact ⟨rfl, hb _⟩)
theorem refSymbol_any (s : Symb) (W : World) : Calls Try.prog 12 #[vSymb s] W fun e w' => e = .returned (.int .i64 (symF s : Int)) ∧ Below W.heap.size W w' := by
  unfold symF
  cases h1 : symR1 s with
  | false => exact symbol_r1 s h1 W
  | true =>
    by_cases hg : s.refp.tmod s.grid = 0
    · cases h2 : symR2 s with
      | false => simpa [hg] using symbol_r2 s h1 hg h2 W
      | true =>
        cases h3 : symR3 s with
        | false => simpa [hg] using symbol_r3 s h1 hg h2 h3 W
        | true =>
          by_cases h4 : s.stat < s.dyn
          · simpa [hg, h4] using symbol_out s h1 hg h2 h3 h4 W
          · simpa [hg, h4] using symbol_ok s h1 hg h2 h3 h4 W
    · simpa [hg] using symbol_grid s h1 hg W
set_option maxHeartbeats 1000000 in
theorem refBound_any (s : Symb) (W : World) : Calls Try.prog 14 #[vSymb s] W fun e w' => e = .returned (.int .i64 (boundS s)) ∧ Below W.heap.size W w' := by
  have cS := fun w => refSymbol_any s w
  have hb := fun o => Below.alK (Below.refl W.heap.size W) o
  have hB0 : ∀ w1, Below (W.alloc (.cells (cSymb s) 35)).heap.size (W.alloc (.cells (cSymb s) 35)) w1 → Blk w1 W.heap.size 35 (cSymb s) ∧ Below W.heap.size W w1 := fun w1 h => ⟨(Blk.new W _ _).below h (by simp), (hb _).trans (h.mono (by simp))⟩
  unfold boundS
  by_cases hf : symF s = 0
  · have hR := symF_right.1 hf
    rw [hf] at cS
    replace cS : ∀ w, Calls Try.prog 12 #[vSymb s] w fun e w' => e = .returned (.int .i64 0) ∧ Below w.heap.size w w' := cS
    rw [if_pos hf]
    have e1 := hR.pau
    have e2 := hR.ext
    have e3 := hR.mext
    have hm : 0 ≤ s.ext * (s.mext + 1) ∧ s.ext * (s.mext + 1) ≤ 12094627905536 := by
      constructor
      · exact Int.mul_nonneg (by omega) (by omega)
      · exact Int.le_trans (Int.mul_le_mul e2.2 (show s.mext + 1 ≤ 11 by omega) (by omega) (by omega)) (by decide)
    have hw1 : IntKind.i64.wrap (s.ext * (s.mext + 1)) = s.ext * (s.mext + 1) := by rw [IntKind.wrap_i64]; omega
    have hw2 : IntKind.i64.wrap (s.pau + s.ext * (s.mext + 1)) = s.pau + s.ext * (s.mext + 1) := by rw [IntKind.wrap_i64]; omega
    clear hR hf
    obtain ⟨grid, refp, stat, dyn, win, move, lim, pau, ext, mext, col, wid, self, slots, levels, short⟩ := s
    simp only [vSymb, cSymb] at *
    go_enter Try.func14, Try.ntmps14
    go_wp2_with (go_at_call 12; refine (cS _).mono ?_; rintro e w1 ⟨rfl, hb1⟩; obtain ⟨hB, hbel⟩ := hB0 _ hb1; obtain ⟨x0, x1, x2, x3, x4, x5, x6, x7, x8, x9, xa, xb, xc, xd, xe, xf⟩ := Symb.cells (m := ⟨grid, refp, stat, dyn, win, move, lim, pau, ext, mext, col, wid, self, slots, levels, short⟩) hB)
    all_goals go_ret
    all_goals exact ⟨rfl, hbel⟩
  · rw [if_neg hf]
    generalize symF s = f at cS hf
    have q1 : ((f : Int) != 0) = true := by simp; omega
    clear hf hB0
    obtain ⟨grid, refp, stat, dyn, win, move, lim, pau, ext, mext, col, wid, self, slots, levels, short⟩ := s
    simp only [vSymb, cSymb] at *
    go_enter Try.func14, Try.ntmps14
    go_wp2_with (go_at_call 12; refine (cS _).mono ?_; rintro e w1 ⟨rfl, hb1⟩)
    go_ret
    exact ⟨rfl, (hb _).trans (hb1.mono (by simp))⟩
end Go.Proofs.Ytbkiipeoabbiiaa
