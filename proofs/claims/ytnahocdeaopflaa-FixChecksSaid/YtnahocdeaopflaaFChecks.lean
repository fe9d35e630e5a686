/-
  What any price and quantity come to, and which may be: the statement's function, for every input.
-/
import Derived.Test.YtnahocdeaopflaaFixL
namespace Go.Proofs.Ytnahocdeaopflaa
open Go.RowKit Go.Shelf
def priceV (p g : Int) : Int := if g < 1 then 1 else if p < 1 ∨ 1099511627776 < p then 9 else if p % g = 0 then 0 else 8
def qtyV (q : Int) : Int := if q < 1 ∨ 4294967296 < q then 9 else 0
theorem fprice_any (p g : Int) (hp : In64 p) (hg : In64 g) (w : World) :
    Calls Try.prog 28 #[.int .i64 p, .int .i64 g] w fun e w' => e = .returned (.int .i64 (priceV p g)) ∧ Below w.heap.size w w' := by
  obtain ⟨p0, p1⟩ := hp
  obtain ⟨g0, g1⟩ := hg
  unfold priceV
  by_cases h1 : g < 1
  · rw [if_pos h1]
    go_enter Try.func28, Try.ntmps28
    go_wp2
    all_goals first | (exfalso; omega) | go_ret
    all_goals exact ⟨rfl, Below.refl _ _⟩
  · rw [if_neg h1]
    have e0 : (g == 0) = false := by simp; omega
    by_cases h2 : p < 1 ∨ 1099511627776 < p
    · rw [if_pos h2]
      go_enter Try.func28, Try.ntmps28
      go_wp2
      all_goals first | (exfalso; omega) | go_ret
      all_goals exact ⟨rfl, Below.refl _ _⟩
    · rw [if_neg h2]
      have m0 := Int.emod_nonneg p (show g ≠ 0 by omega)
      have m1 := Int.emod_lt_of_pos p (show 0 < g by omega)
      have h3 : 1 ≤ p := by omega
      by_cases hz : p % g = 0
      · rw [if_pos hz]
        go_enter Try.func28, Try.ntmps28
        go_wp2
        all_goals first | (exfalso; omega) | go_ret
        all_goals exact ⟨rfl, Below.refl _ _⟩
      · rw [if_neg hz]
        have ez : (p % g == 0) = false := by simpa using hz
        go_enter Try.func28, Try.ntmps28
        go_wp2
        all_goals first | (exfalso; omega) | go_ret
        all_goals exact ⟨rfl, Below.refl _ _⟩
theorem rprice_any (p g : Int) (hp : In64 p) (hg : In64 g) (w : World) :
    Calls Try.prog 29 #[.int .i64 p, .int .i64 g] w fun e w' => e = .returned (.int .i64 (priceV p g)) ∧ Below w.heap.size w w' := by
  obtain ⟨p0, p1⟩ := hp
  obtain ⟨g0, g1⟩ := hg
  unfold priceV
  by_cases h1 : g < 1
  · rw [if_pos h1]
    go_enter Try.func29, Try.ntmps29
    go_wp2
    all_goals first | (exfalso; omega) | go_ret
    all_goals exact ⟨rfl, Below.refl _ _⟩
  · rw [if_neg h1]
    have e0 : (g == 0) = false := by simp; omega
    by_cases h2 : p < 1 ∨ 1099511627776 < p
    · rw [if_pos h2]
      go_enter Try.func29, Try.ntmps29
      go_wp2
      all_goals first | (exfalso; omega) | go_ret
      all_goals exact ⟨rfl, Below.refl _ _⟩
    · rw [if_neg h2]
      have m0 := Int.emod_nonneg p (show g ≠ 0 by omega)
      have m1 := Int.emod_lt_of_pos p (show 0 < g by omega)
      have h3 : 1 ≤ p := by omega
      by_cases hz : p % g = 0
      · rw [if_pos hz]
        go_enter Try.func29, Try.ntmps29
        go_wp2
        all_goals first | (exfalso; omega) | go_ret
        all_goals exact ⟨rfl, Below.refl _ _⟩
      · rw [if_neg hz]
        have ez : (p % g == 0) = false := by simpa using hz
        go_enter Try.func29, Try.ntmps29
        go_wp2
        all_goals first | (exfalso; omega) | go_ret
        all_goals exact ⟨rfl, Below.refl _ _⟩
theorem fqty_any (q : Int) (w : World) :
    Calls Try.prog 30 #[.int .i64 q] w fun e w' => e = .returned (.int .i64 (qtyV q)) ∧ Below w.heap.size w w' := by
  unfold qtyV
  by_cases h1 : q < 1 ∨ 4294967296 < q
  · rw [if_pos h1]
    go_enter Try.func30, Try.ntmps30
    go_wp2
    all_goals first | (exfalso; omega) | go_ret
    all_goals exact ⟨rfl, Below.refl _ _⟩
  · rw [if_neg h1]
    go_enter Try.func30, Try.ntmps30
    go_wp2
    all_goals first | (exfalso; omega) | go_ret
    all_goals exact ⟨rfl, Below.refl _ _⟩
theorem rqty_any (q : Int) (w : World) :
    Calls Try.prog 31 #[.int .i64 q] w fun e w' => e = .returned (.int .i64 (qtyV q)) ∧ Below w.heap.size w w' := by
  unfold qtyV
  by_cases h1 : q < 1 ∨ 4294967296 < q
  · rw [if_pos h1]
    go_enter Try.func31, Try.ntmps31
    go_wp2
    all_goals first | (exfalso; omega) | go_ret
    all_goals exact ⟨rfl, Below.refl _ _⟩
  · rw [if_neg h1]
    go_enter Try.func31, Try.ntmps31
    go_wp2
    all_goals first | (exfalso; omega) | go_ret
    all_goals exact ⟨rfl, Below.refl _ _⟩
theorem fnot_any (p q : Int) (hp : In64 p) (hq : In64 q) (w : World) :
    Calls Try.prog 26 #[.int .i64 p, .int .i64 q] w fun e w' => e = .returned (if p < 0 ∨ q < 0 then nay else fitT (p * q)) ∧ Below w.heap.size w w' := by
  by_cases h1 : p < 0 ∨ q < 0
  · rw [if_pos h1]
    go_enter Try.func26, Try.ntmps26
    go_wp2
    all_goals first | (exfalso; omega) | go_ret2
    all_goals exact ⟨rfl, Below.refl _ _⟩
  · rw [if_neg h1]
    have cM := fmul_any p q hp hq
    obtain ⟨x, r, hx, -⟩ := fit_is (p * q)
    rw [hx] at cM ⊢
    have h2 : 0 ≤ p := by omega
    have h3 : 0 ≤ q := by omega
    clear h1 hx
    go_enter Try.func26, Try.ntmps26
    go_wp2_with (go_at_call 11; (with_reducible refine (cM _).mono ?_); rintro e w1 ⟨rfl, hb1⟩)
    all_goals first | (exfalso; omega) | go_ret2
    all_goals exact ⟨rfl, hb1⟩
theorem rnot_any2 (p q : Int) (hp : In64 p) (hq : In64 q) (w : World) :
    Calls Try.prog 27 #[.int .i64 p, .int .i64 q] w fun e w' => e = .returned (if p < 0 ∨ q < 0 then nay else fitT (p * q)) ∧ Below w.heap.size w w' := by
  by_cases h1 : p < 0 ∨ q < 0
  · rw [if_pos h1]
    go_enter Try.func27, Try.ntmps27
    go_wp2
    all_goals first | (exfalso; omega) | go_ret2
    all_goals exact ⟨rfl, Below.refl _ _⟩
  · rw [if_neg h1]
    have cM := rmul2_any p q hp hq
    obtain ⟨x, r, hx, -⟩ := fit_is (p * q)
    rw [hx] at cM ⊢
    have h2 : 0 ≤ p := by omega
    have h3 : 0 ≤ q := by omega
    clear h1 hx
    go_enter Try.func27, Try.ntmps27
    go_wp2_with (go_at_call 14; (with_reducible refine (cM _).mono ?_); rintro e w1 ⟨rfl, hb1⟩)
    all_goals first | (exfalso; omega) | go_ret2
    all_goals exact ⟨rfl, hb1⟩
set_option maxHeartbeats 2000000 in
theorem fchecks_road (p q g x y z : Int) (r : Bool)
    (c0 : ∀ W, Calls Try.prog 26 #[.int .i64 p, .int .i64 q] W fun e w' => e = .returned (.tuple #[.int .i64 x, .bool r]) ∧ Below W.heap.size W w')
    (c1 : ∀ W, Calls Try.prog 27 #[.int .i64 p, .int .i64 q] W fun e w' => e = .returned (.tuple #[.int .i64 x, .bool r]) ∧ Below W.heap.size W w')
    (c2 : ∀ W, Calls Try.prog 28 #[.int .i64 p, .int .i64 g] W fun e w' => e = .returned (.int .i64 y) ∧ Below W.heap.size W w')
    (c3 : ∀ W, Calls Try.prog 29 #[.int .i64 p, .int .i64 g] W fun e w' => e = .returned (.int .i64 y) ∧ Below W.heap.size W w')
    (c4 : ∀ W, Calls Try.prog 30 #[.int .i64 q] W fun e w' => e = .returned (.int .i64 z) ∧ Below W.heap.size W w')
    (c5 : ∀ W, Calls Try.prog 31 #[.int .i64 q] W fun e w' => e = .returned (.int .i64 z) ∧ Below W.heap.size W w') (w : World) :
    Calls Try.prog 7 #[.int .i64 p, .int .i64 q, .int .i64 g] w fun e w' => e = .returned (.bool true) ∧ Below w.heap.size w w' := by
  have ca := alive2_any
  have m0 := Mem.start w
  go_enter Try.func7, Try.ntmps7
  go_wp2_with (first
    | (go_at_call 26; (with_reducible refine (c0 _).mono ?_); rintro e w1 ⟨rfl, hb1⟩; have m1 := m0.keep hb1; clear m0 hb1)
    | (go_at_call 27; (with_reducible refine (c1 _).mono ?_); rintro e w2 ⟨rfl, hb1⟩; have m2 := m1.keep hb1; clear m1 hb1)
    | (go_at_call 28; (with_reducible refine (c2 _).mono ?_); rintro e w3 ⟨rfl, hb1⟩; have m3 := m2.keep hb1; clear m2 hb1)
    | (go_at_call 29; (with_reducible refine (c3 _).mono ?_); rintro e w4 ⟨rfl, hb1⟩; have m4 := m3.keep hb1; clear m3 hb1)
    | (go_at_call 30; (with_reducible refine (c4 _).mono ?_); rintro e w5 ⟨rfl, hb1⟩; have m5 := m4.keep hb1; clear m4 hb1)
    | (go_at_call 31; (with_reducible refine (c5 _).mono ?_); rintro e w6 ⟨rfl, hb1⟩; have m6 := m5.keep hb1; clear m5 hb1)
    | (go_at_call 15; (with_reducible refine (ca _).mono ?_); rintro e w7 ⟨rfl, hb1⟩; have m7 := m6.keep hb1; clear m6 hb1))
  all_goals go_ret
  all_goals exact ⟨rfl, m7.below⟩
theorem fchecks_any (p q g : Int) (hp : In64 p) (hq : In64 q) (hg : In64 g) (w : World) :
    Calls Try.prog 7 #[.int .i64 p, .int .i64 q, .int .i64 g] w fun e w' => e = .returned (.bool true) ∧ Below w.heap.size w w' := by
  have c0 := fnot_any p q hp hq
  have c1 := rnot_any2 p q hp hq
  obtain ⟨x, r, hx⟩ : ∃ x r, (if p < 0 ∨ q < 0 then nay else fitT (p * q)) = .tuple #[.int .i64 x, .bool r] := by
    split
    · exact ⟨0, false, rfl⟩
    · obtain ⟨x, r, h, -⟩ := fit_is (p * q); exact ⟨x, r, h⟩
  rw [hx] at c0 c1
  exact fchecks_road p q g x _ _ r c0 c1 (fprice_any p g hp hg) (rprice_any p g hp hg) (fqty_any q) (rqty_any q) w
end Go.Proofs.Ytnahocdeaopflaa
