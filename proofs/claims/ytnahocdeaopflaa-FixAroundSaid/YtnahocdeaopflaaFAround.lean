/-
  A reference on the grid lies within its bounds, which are on the grid, and with more parts they are no nearer: the statement's function, for every input.
-/
import Derived.Test.YtnahocdeaopflaaFBands
import Derived.Test.YtnahocdeaopflaaFChecks
namespace Go.Proofs.Ytnahocdeaopflaa
open Go.RowKit Go.Shelf
theorem upV_mul (e g : Int) (hg : 1 ≤ g) : ∃ k, upV e g = g * k ∧ e ≤ g * k ∧ g * k < e + g := by
  have m0 := Int.emod_nonneg e (show g ≠ 0 by omega)
  have m1 := Int.emod_lt_of_pos e (show 0 < g by omega)
  have m2 := Int.mul_ediv_add_emod e g
  unfold upV
  by_cases h : e % g = 0
  · exact ⟨e / g, by rw [if_pos h]; omega, by omega, by omega⟩
  · refine ⟨e / g + 1, by rw [if_neg h, Int.mul_add]; omega, ?_, ?_⟩ <;> rw [Int.mul_add] <;> omega
theorem mul_le_of_lt {g k j : Int} (hg : 1 ≤ g) (h : g * k < g * j + g) : g * k ≤ g * j := by
  rcases (show j < k ∨ k ≤ j by omega) with hk | hk
  · exfalso
    have := Int.mul_le_mul_of_nonneg_left (show j + 1 ≤ k by omega) (show 0 ≤ g by omega)
    rw [Int.mul_add] at this
    omega
  · exact Int.mul_le_mul_of_nonneg_left hk (by omega)
theorem upV_le {e e' g : Int} (hg : 1 ≤ g) (h : e ≤ e') : upV e g ≤ upV e' g := by
  obtain ⟨k, h1, h2, h3⟩ := upV_mul e g hg
  obtain ⟨j, i1, i2, i3⟩ := upV_mul e' g hg
  rw [h1, i1]
  exact mul_le_of_lt hg (by omega)
theorem upV_top {e n g : Int} (hg : 1 ≤ g) (h : e ≤ g * n) : upV e g ≤ g * n := by
  obtain ⟨k, h1, h2, h3⟩ := upV_mul e g hg
  rw [h1]
  exact mul_le_of_lt hg (by omega)
theorem upV_ge (e g : Int) (hg : 1 ≤ g) : e ≤ upV e g ∧ upV e g % g = 0 := by
  obtain ⟨k, h1, h2, h3⟩ := upV_mul e g hg
  rw [h1]
  exact ⟨h2, Int.mul_emod_right g k⟩
theorem downV_mul (p g : Int) (hp : 0 ≤ p) (hg : 1 ≤ g) : downV p g = g * (p / g) ∧ downV p g ≤ p ∧ p < downV p g + g := by
  have m0 := Int.emod_nonneg p (show g ≠ 0 by omega)
  have m1 := Int.emod_lt_of_pos p (show 0 < g by omega)
  have m2 := Int.mul_ediv_add_emod p g
  unfold downV
  rw [if_neg (by omega)]
  exact ⟨by omega, by omega, by omega⟩
theorem downV_le {p p' g : Int} (hp : 0 ≤ p) (hg : 1 ≤ g) (h : p ≤ p') : downV p g ≤ downV p' g := by
  obtain ⟨h1, h2, h3⟩ := downV_mul p g hp hg
  obtain ⟨i1, i2, i3⟩ := downV_mul p' g (by omega) hg
  rw [h1] at h2 h3 ⊢
  rw [i1] at i2 i3 ⊢
  exact mul_le_of_lt hg (by omega)
theorem downV_top {p n g : Int} (hp : 0 ≤ p) (hg : 1 ≤ g) (h : g * n ≤ p) : g * n ≤ downV p g := by
  obtain ⟨h1, h2, h3⟩ := downV_mul p g hp hg
  rw [h1] at h2 h3 ⊢
  exact mul_le_of_lt hg (by omega)
theorem downV_mod (p g : Int) (hp : 0 ≤ p) (hg : 1 ≤ g) : downV p g % g = 0 := by
  rw [(downV_mul p g hp hg).1]; exact Int.mul_emod_right g _
theorem lowV_mono {r b m : Int} (hr : 1 ≤ r) (hr2 : r ≤ 1099511627776) (hb : 0 ≤ b) (h : b ≤ m) (hm : m ≤ 9999) : lowV r m ≤ lowV r b := by
  obtain ⟨-, -, e1, -⟩ := low_le hr hr2 hb (by omega)
  obtain ⟨-, -, e2, -⟩ := low_le hr hr2 (show 0 ≤ m by omega) hm
  have := Int.mul_le_mul_of_nonneg_left (show 10000 - m ≤ 10000 - b by omega) (show 0 ≤ r by omega)
  rw [e1, e2]
  generalize r * (10000 - m) = x at *
  generalize r * (10000 - b) = y at *
  split <;> split <;> omega
theorem hiV_mono {r b m : Int} (hr : 1 ≤ r) (h : b ≤ m) : hiV r b ≤ hiV r m := by
  have := Int.mul_le_mul_of_nonneg_left (show 10000 + b ≤ 10000 + m by omega) (show 0 ≤ r by omega)
  unfold hiV
  omega
set_option maxHeartbeats 2000000 in
theorem faround_out (n g b m : Int) (h : g < 1 ∨ 1048576 < g ∨ n < 1 ∨ 1048576 < n ∨ b < 0 ∨ m < b ∨ 9999 < m) (w : World) :
    Calls Try.prog 8 #[.int .i64 n, .int .i64 g, .int .i64 b, .int .i64 m] w fun e w' => e = .returned (.bool true) ∧ Below w.heap.size w w' := by
  have ca := alive2_any
  go_enter Try.func8, Try.ntmps8
  go_wp2_with (go_at_call 15; (with_reducible refine (ca _).mono ?_); rintro e w1 ⟨rfl, hb1⟩)
  all_goals first | (exfalso; omega) | go_ret
  all_goals exact ⟨rfl, hb1⟩
set_option maxHeartbeats 2000000 in
theorem faround_in (n g b m r A B C D : Int) (h1 : 1 ≤ g) (h2 : g ≤ 1048576) (h3 : 1 ≤ n) (h4 : n ≤ 1048576) (h5 : 0 ≤ b) (h6 : b ≤ m) (h7 : m ≤ 9999) (hr : IntKind.i64.wrap (n * g) = r)
    (k0 : 1 ≤ C) (k1 : C ≤ A) (k2 : A ≤ r) (k3 : r ≤ B) (k4 : B ≤ D) (k5 : (A % g == 0) = true) (k6 : (B % g == 0) = true)
    (c0 : ∀ W, Calls Try.prog 22 #[.int .i64 r, .int .i64 b, .int .i64 g] W fun e w' => e = .returned (.tuple #[.int .i64 A, .bool true]) ∧ Below W.heap.size W w')
    (c1 : ∀ W, Calls Try.prog 24 #[.int .i64 r, .int .i64 b, .int .i64 g] W fun e w' => e = .returned (.tuple #[.int .i64 B, .bool true]) ∧ Below W.heap.size W w')
    (c2 : ∀ W, Calls Try.prog 22 #[.int .i64 r, .int .i64 m, .int .i64 g] W fun e w' => e = .returned (.tuple #[.int .i64 C, .bool true]) ∧ Below W.heap.size W w')
    (c3 : ∀ W, Calls Try.prog 24 #[.int .i64 r, .int .i64 m, .int .i64 g] W fun e w' => e = .returned (.tuple #[.int .i64 D, .bool true]) ∧ Below W.heap.size W w')
    (c4 : ∀ W, Calls Try.prog 28 #[.int .i64 A, .int .i64 g] W fun e w' => e = .returned (.int .i64 0) ∧ Below W.heap.size W w') (w : World) :
    Calls Try.prog 8 #[.int .i64 n, .int .i64 g, .int .i64 b, .int .i64 m] w fun e w' => e = .returned (.bool true) ∧ Below w.heap.size w w' := by
  have ca := alive2_any
  have m0 := Mem.start w
  have e0 : (g == 0) = false := by simp; omega
  have k7 : 0 ≤ A := by omega
  have k8 : 0 ≤ B := by omega
  go_enter Try.func8, Try.ntmps8
  go_wp2_with (first
    | (go_at_call 22; (with_reducible refine (c0 _).mono ?_); rintro e w1 ⟨rfl, hb1⟩; have m1 := m0.keep hb1; clear m0 hb1)
    | (go_at_call 24; (with_reducible refine (c1 _).mono ?_); rintro e w2 ⟨rfl, hb1⟩; have m2 := m1.keep hb1; clear m1 hb1)
    | (go_at_call 22; (with_reducible refine (c2 _).mono ?_); rintro e w3 ⟨rfl, hb1⟩; have m3 := m2.keep hb1; clear m2 hb1)
    | (go_at_call 24; (with_reducible refine (c3 _).mono ?_); rintro e w4 ⟨rfl, hb1⟩; have m4 := m3.keep hb1; clear m3 hb1)
    | (go_at_call 28; (with_reducible refine (c4 _).mono ?_); rintro e w5 ⟨rfl, hb1⟩; have m5 := m4.keep hb1; clear m4 hb1)
    | (go_at_call 15; (with_reducible refine (ca _).mono ?_); rintro e w6 ⟨rfl, hb1⟩; have m6 := m5.keep hb1; clear m5 hb1))
  all_goals first | (exfalso; omega) | go_ret
  all_goals exact ⟨rfl, m6.below⟩
theorem faround_any (n g b m : Int) (w : World) :
    Calls Try.prog 8 #[.int .i64 n, .int .i64 g, .int .i64 b, .int .i64 m] w fun e w' => e = .returned (.bool true) ∧ Below w.heap.size w w' := by
  by_cases h : g < 1 ∨ 1048576 < g ∨ n < 1 ∨ 1048576 < n ∨ b < 0 ∨ m < b ∨ 9999 < m
  · exact faround_out n g b m h w
  · have h1 : 1 ≤ g := by omega
    have h2 : g ≤ 1048576 := by omega
    have h3 : 1 ≤ n := by omega
    have h4 : n ≤ 1048576 := by omega
    have h5 : 0 ≤ b := by omega
    have h6 : b ≤ m := by omega
    have h7 : m ≤ 9999 := by omega
    clear h
    have r1 : 1 * 1 ≤ g * n := Int.mul_le_mul h1 h3 (by decide) (by omega)
    have r2 : g * n ≤ 1048576 * 1048576 := Int.mul_le_mul h2 h4 (by omega) (by decide)
    have hr : IntKind.i64.wrap (n * g) = g * n := by rw [IntKind.wrap_i64, Int.mul_comm n g]; omega
    have b1 : bandV (g * n) b g = true := by unfold bandV; simp; omega
    have b2 : bandV (g * n) m g = true := by unfold bandV; simp; omega
    have c0 := flower_any (g * n) b g
    have c1 := fupper_any (g * n) b g
    have c2 := flower_any (g * n) m g
    have c3 := fupper_any (g * n) m g
    unfold lowT upT at c0 c2
    unfold hiT at c1 c3
    obtain ⟨-, -, -, l4, l5⟩ := low_le (show 1 ≤ g * n by omega) (by omega) h5 (by omega)
    obtain ⟨-, -, -, l6, l7⟩ := low_le (show 1 ≤ g * n by omega) (by omega) (show 0 ≤ m by omega) h7
    obtain ⟨-, -, u3, u4⟩ := hi_ge (show 1 ≤ g * n by omega) (by omega) h5 (show b ≤ 9999 by omega)
    obtain ⟨-, -, u5, u6⟩ := hi_ge (show 1 ≤ g * n by omega) (by omega) (show 0 ≤ m by omega) h7
    have a1 := upV_top h1 l5
    obtain ⟨a2, a3⟩ := upV_ge (lowV (g * n) b) g h1
    have d1 := upV_top h1 l7
    obtain ⟨d2, -⟩ := upV_ge (lowV (g * n) m) g h1
    have d3 := upV_le h1 (lowV_mono (show 1 ≤ g * n by omega) (by omega) h5 h6 h7)
    have p1 := downV_top (show 0 ≤ hiV (g * n) b by omega) h1 u3
    have p2 := downV_mod _ g (show 0 ≤ hiV (g * n) b by omega) h1
    have p3 := downV_le (show 0 ≤ hiV (g * n) b by omega) h1 (hiV_mono (show 1 ≤ g * n by omega) h6)
    rw [if_pos b1, if_neg (by omega), fit_yes ⟨by omega, by omega⟩] at c0
    rw [if_pos b2, if_neg (by omega), fit_yes ⟨by omega, by omega⟩] at c2
    rw [if_pos b1] at c1
    rw [if_pos b2] at c3
    have c4 := fprice_any (upV (lowV (g * n) b) g) g ⟨by omega, by omega⟩ ⟨by omega, by omega⟩
    unfold priceV at c4
    rw [if_neg (by omega), if_neg (by omega), if_pos a3] at c4
    exact faround_in n g b m (g * n) _ _ _ _ h1 h2 h3 h4 h5 h6 h7 hr (by omega) d3 a1 p1 p3 (by simpa using a3) (by simpa using p2) c0 c1 c2 c3 c4 w
end Go.Proofs.Ytnahocdeaopflaa
