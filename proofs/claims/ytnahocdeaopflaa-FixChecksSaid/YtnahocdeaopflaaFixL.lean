/-
  The contracts of package fix's Lower and Upper, and of the document's answers, for every input.
-/
import Derived.Test.YtnahocdeaopflaaFixB
import Derived.Test.YtnahocdeaopflaaFixR2
namespace Go.Proofs.Ytnahocdeaopflaa
open Go.RowKit Go.Shelf
def lowV (r b : Int) : Int := mdV r (10000 - b) 10000 true
def hiV (r b : Int) : Int := r * (10000 + b) / 10000
def lowT (r b g : Int) : Value := if bandV r b g = true then upT (lowV r b) g else nay
def hiT (r b g : Int) : Value := if bandV r b g = true then .tuple #[.int .i64 (downV (hiV r b) g), .bool true] else nay
theorem band_is {r b g : Int} (h : bandV r b g = true) : 1 ≤ r ∧ r ≤ 1099511627776 ∧ 0 ≤ b ∧ b ≤ 9999 ∧ 1 ≤ g ∧ g ≤ 1099511627776 := by unfold bandV at h; simpa using h
theorem low_le {r b : Int} (hr : 1 ≤ r) (hr2 : r ≤ 1099511627776) (hb : 0 ≤ b) (hb2 : b ≤ 9999) :
    1 ≤ r * (10000 - b) ∧ r * (10000 - b) ≤ 10000 * r ∧ lowV r b = r * (10000 - b) / 10000 + (if r * (10000 - b) % 10000 ≠ 0 then 1 else 0) ∧ 1 ≤ lowV r b ∧ lowV r b ≤ r := by
  have h1 : r * 1 ≤ r * (10000 - b) := Int.mul_le_mul_of_nonneg_left (by omega) (by omega)
  have h2 : r * (10000 - b) ≤ r * 10000 := Int.mul_le_mul_of_nonneg_left (by omega) (by omega)
  unfold lowV mdV
  simp only [true_and]
  generalize r * (10000 - b) = n at *
  refine ⟨by omega, by omega, ?_, ?_⟩ <;> split <;> omega
theorem hi_ge {r b : Int} (hr : 1 ≤ r) (hr2 : r ≤ 1099511627776) (hb : 0 ≤ b) (hb2 : b ≤ 9999) :
    10000 * r ≤ r * (10000 + b) ∧ r * (10000 + b) ≤ 20000 * r ∧ r ≤ hiV r b ∧ hiV r b ≤ 2 * r := by
  have h1 : r * 10000 ≤ r * (10000 + b) := Int.mul_le_mul_of_nonneg_left (by omega) (by omega)
  have h2 : r * (10000 + b) ≤ r * 20000 := Int.mul_le_mul_of_nonneg_left (by omega) (by omega)
  unfold hiV
  generalize r * (10000 + b) = n at *
  exact ⟨by omega, by omega, by omega, by omega⟩
theorem up_is (p g : Int) : ∃ (x : Int) (q : Bool), upT p g = .tuple #[.int .i64 x, .bool q] ∧ In64 x := by
  unfold upT
  split
  · exact ⟨0, false, rfl, ⟨by decide, by decide⟩⟩
  · obtain ⟨x, q, h, h2, -⟩ := fit_is (upV p g)
    exact ⟨x, q, h, h2⟩
theorem rup2_any (p g : Int) (hp : In64 p) (hg : In64 g) (w : World) :
    Calls Try.prog 19 #[.int .i64 p, .int .i64 g] w fun e w' => e = .returned (upT p g) ∧ Below w.heap.size w w' := by
  by_cases h : p < 0 ∨ g < 1
  · unfold upT
    rw [if_pos h]
    unfold In64 at hp hg
    go_enter Try.func19, Try.ntmps19
    go_wp2
    all_goals first | (exfalso; omega) | go_ret2
    all_goals exact ⟨rfl, Below.refl _ _⟩
  · have m0 := Int.emod_nonneg p (show g ≠ 0 by omega)
    have m1 := Int.mul_ediv_add_emod p g
    have m2 := Int.mul_nonneg (show 0 ≤ g by omega) (Int.ediv_nonneg (show 0 ≤ p by omega) (show 0 ≤ g by omega))
    exact rup_any p g hp hg w (radd2_any (p - p % g) g ⟨by omega, by have := hp.2; omega⟩ hg)
theorem flower_none (r b g : Int)
    (cB : ∀ W, Calls Try.prog 47 #[.int .i64 r, .int .i64 b, .int .i64 g] W fun e w' => e = .returned (.bool false) ∧ Below W.heap.size W w') (w : World) :
    Calls Try.prog 22 #[.int .i64 r, .int .i64 b, .int .i64 g] w fun e w' => e = .returned nay ∧ Below w.heap.size w w' := by
  go_enter Try.func22, Try.ntmps22
  go_wp2_with (go_at_call 47; (with_reducible refine (cB _).mono ?_); rintro e w1 ⟨rfl, hb1⟩)
  go_ret2
  exact ⟨rfl, hb1⟩
theorem fupper_none (r b g : Int)
    (cB : ∀ W, Calls Try.prog 47 #[.int .i64 r, .int .i64 b, .int .i64 g] W fun e w' => e = .returned (.bool false) ∧ Below W.heap.size W w') (w : World) :
    Calls Try.prog 24 #[.int .i64 r, .int .i64 b, .int .i64 g] w fun e w' => e = .returned nay ∧ Below w.heap.size w w' := by
  go_enter Try.func24, Try.ntmps24
  go_wp2_with (go_at_call 47; (with_reducible refine (cB _).mono ?_); rintro e w1 ⟨rfl, hb1⟩)
  go_ret2
  exact ⟨rfl, hb1⟩
theorem rlower_none (r b g : Int)
    (cB : ∀ W, Calls Try.prog 48 #[.int .i64 r, .int .i64 b, .int .i64 g] W fun e w' => e = .returned (.bool false) ∧ Below W.heap.size W w') (w : World) :
    Calls Try.prog 23 #[.int .i64 r, .int .i64 b, .int .i64 g] w fun e w' => e = .returned nay ∧ Below w.heap.size w w' := by
  go_enter Try.func23, Try.ntmps23
  go_wp2_with (go_at_call 48; (with_reducible refine (cB _).mono ?_); rintro e w1 ⟨rfl, hb1⟩)
  go_ret2
  exact ⟨rfl, hb1⟩
theorem rupper_none (r b g : Int)
    (cB : ∀ W, Calls Try.prog 48 #[.int .i64 r, .int .i64 b, .int .i64 g] W fun e w' => e = .returned (.bool false) ∧ Below W.heap.size W w') (w : World) :
    Calls Try.prog 25 #[.int .i64 r, .int .i64 b, .int .i64 g] w fun e w' => e = .returned nay ∧ Below w.heap.size w w' := by
  go_enter Try.func25, Try.ntmps25
  go_wp2_with (go_at_call 48; (with_reducible refine (cB _).mono ?_); rintro e w1 ⟨rfl, hb1⟩)
  go_ret2
  exact ⟨rfl, hb1⟩
set_option maxHeartbeats 1000000 in
theorem flower_road (r b g E x : Int) (p q : Bool) (hr : 1 ≤ r ∧ r ≤ 1099511627776) (hb : 0 ≤ b ∧ b ≤ 9999)
    (cB : ∀ W, Calls Try.prog 47 #[.int .i64 r, .int .i64 b, .int .i64 g] W fun e w' => e = .returned (.bool true) ∧ Below W.heap.size W w')
    (cM : ∀ W, Calls Try.prog 16 #[.int .i64 r, .int .i64 (10000 - b), .int .i64 10000, .bool true] W fun e w' => e = .returned (.tuple #[.int .i64 E, .bool p]) ∧ Below W.heap.size W w')
    (cU : ∀ W, Calls Try.prog 18 #[.int .i64 E, .int .i64 g] W fun e w' => e = .returned (.tuple #[.int .i64 x, .bool q]) ∧ Below W.heap.size W w') (w : World) :
    Calls Try.prog 22 #[.int .i64 r, .int .i64 b, .int .i64 g] w fun e w' => e = .returned (.tuple #[.int .i64 x, .bool q]) ∧ Below w.heap.size w w' := by
  obtain ⟨r0, r1⟩ := hr
  obtain ⟨b0, b1⟩ := hb
  have m0 := Mem.start w
  go_enter Try.func22, Try.ntmps22
  go_wp2_with (first
    | (go_at_call 47; (with_reducible refine (cB _).mono ?_); rintro e w1 ⟨rfl, hb1⟩; have m1 := m0.keep hb1; clear m0 hb1)
    | (go_at_call 16; (with_reducible refine (cM _).mono ?_); rintro e w2 ⟨rfl, hb1⟩; have m2 := m1.keep hb1; clear m1 hb1)
    | (go_at_call 18; (with_reducible refine (cU _).mono ?_); rintro e w3 ⟨rfl, hb1⟩; have m3 := m2.keep hb1; clear m2 hb1))
  go_ret2
  exact ⟨rfl, m3.below⟩
set_option maxHeartbeats 1000000 in
theorem fupper_road (r b g E x : Int) (p : Bool) (hr : 1 ≤ r ∧ r ≤ 1099511627776) (hb : 0 ≤ b ∧ b ≤ 9999)
    (cB : ∀ W, Calls Try.prog 47 #[.int .i64 r, .int .i64 b, .int .i64 g] W fun e w' => e = .returned (.bool true) ∧ Below W.heap.size W w')
    (cM : ∀ W, Calls Try.prog 16 #[.int .i64 r, .int .i64 (10000 + b), .int .i64 10000, .bool false] W fun e w' => e = .returned (.tuple #[.int .i64 E, .bool p]) ∧ Below W.heap.size W w')
    (cU : ∀ W, Calls Try.prog 20 #[.int .i64 E, .int .i64 g] W fun e w' => e = .returned (.int .i64 x) ∧ Below W.heap.size W w') (w : World) :
    Calls Try.prog 24 #[.int .i64 r, .int .i64 b, .int .i64 g] w fun e w' => e = .returned (.tuple #[.int .i64 x, .bool true]) ∧ Below w.heap.size w w' := by
  obtain ⟨r0, r1⟩ := hr
  obtain ⟨b0, b1⟩ := hb
  have m0 := Mem.start w
  go_enter Try.func24, Try.ntmps24
  go_wp2_with (first
    | (go_at_call 47; (with_reducible refine (cB _).mono ?_); rintro e w1 ⟨rfl, hb1⟩; have m1 := m0.keep hb1; clear m0 hb1)
    | (go_at_call 16; (with_reducible refine (cM _).mono ?_); rintro e w2 ⟨rfl, hb1⟩; have m2 := m1.keep hb1; clear m1 hb1)
    | (go_at_call 20; (with_reducible refine (cU _).mono ?_); rintro e w3 ⟨rfl, hb1⟩; have m3 := m2.keep hb1; clear m2 hb1))
  go_ret2
  exact ⟨rfl, m3.below⟩
set_option maxHeartbeats 1000000 in
theorem rlower_road (r b g n E x : Int) (q : Bool) (hr : 1 ≤ r ∧ r ≤ 1099511627776) (hb : 0 ≤ b ∧ b ≤ 9999) (hn : r * (10000 - b) = n) (hn1 : 1 ≤ n) (hn2 : n ≤ 10995116277760000) (hE : E = n / 10000 + (if n % 10000 ≠ 0 then 1 else 0))
    (cB : ∀ W, Calls Try.prog 48 #[.int .i64 r, .int .i64 b, .int .i64 g] W fun e w' => e = .returned (.bool true) ∧ Below W.heap.size W w')
    (cU : ∀ W, Calls Try.prog 19 #[.int .i64 E, .int .i64 g] W fun e w' => e = .returned (.tuple #[.int .i64 x, .bool q]) ∧ Below W.heap.size W w') (w : World) :
    Calls Try.prog 23 #[.int .i64 r, .int .i64 b, .int .i64 g] w fun e w' => e = .returned (.tuple #[.int .i64 x, .bool q]) ∧ Below w.heap.size w w' := by
  obtain ⟨r0, r1⟩ := hr
  obtain ⟨b0, b1⟩ := hb
  have m0 := Mem.start w
  have hn3 : IntKind.i64.wrap (r * (10000 - b)) = n := by rw [IntKind.wrap_i64]; omega
  by_cases hz : n % 10000 = 0
  · rw [if_neg (by omega), Int.add_zero] at hE
    subst hE
    go_enter Try.func23, Try.ntmps23
    go_wp2_with (first
      | (go_at_call 48; (with_reducible refine (cB _).mono ?_); rintro e w1 ⟨rfl, hb1⟩; have m1 := m0.keep hb1; clear m0 hb1)
      | (go_at_call 19; (with_reducible refine (cU _).mono ?_); rintro e w3 ⟨rfl, hb1⟩; have m3 := m1.keep hb1; clear m1 hb1))
    all_goals first | (exfalso; omega) | go_ret2
    all_goals exact ⟨rfl, m3.below⟩
  · rw [if_pos hz] at hE
    subst hE
    go_enter Try.func23, Try.ntmps23
    go_wp2_with (first
      | (go_at_call 48; (with_reducible refine (cB _).mono ?_); rintro e w1 ⟨rfl, hb1⟩; have m1 := m0.keep hb1; clear m0 hb1)
      | (go_at_call 19; (with_reducible refine (cU _).mono ?_); rintro e w3 ⟨rfl, hb1⟩; have m3 := m1.keep hb1; clear m1 hb1))
    all_goals first | (exfalso; omega) | go_ret2
    all_goals exact ⟨rfl, m3.below⟩
set_option maxHeartbeats 1000000 in
theorem rupper_road (r b g n x : Int) (hr : 1 ≤ r ∧ r ≤ 1099511627776) (hb : 0 ≤ b ∧ b ≤ 9999) (hn : r * (10000 + b) = n) (hn1 : 1 ≤ n) (hn2 : n ≤ 21990232555520000)
    (cB : ∀ W, Calls Try.prog 48 #[.int .i64 r, .int .i64 b, .int .i64 g] W fun e w' => e = .returned (.bool true) ∧ Below W.heap.size W w')
    (cU : ∀ W, Calls Try.prog 21 #[.int .i64 (n / 10000), .int .i64 g] W fun e w' => e = .returned (.int .i64 x) ∧ Below W.heap.size W w') (w : World) :
    Calls Try.prog 25 #[.int .i64 r, .int .i64 b, .int .i64 g] w fun e w' => e = .returned (.tuple #[.int .i64 x, .bool true]) ∧ Below w.heap.size w w' := by
  obtain ⟨r0, r1⟩ := hr
  obtain ⟨b0, b1⟩ := hb
  have m0 := Mem.start w
  go_enter Try.func25, Try.ntmps25
  go_wp2_with (first
    | (go_at_call 48; (with_reducible refine (cB _).mono ?_); rintro e w1 ⟨rfl, hb1⟩; have m1 := m0.keep hb1; clear m0 hb1)
    | (go_at_call 21; (with_reducible refine (cU _).mono ?_); rintro e w3 ⟨rfl, hb1⟩; have m3 := m1.keep hb1; clear m1 hb1))
  all_goals go_ret2
  all_goals exact ⟨rfl, m3.below⟩
theorem flower_any (r b g : Int) (w : World) :
    Calls Try.prog 22 #[.int .i64 r, .int .i64 b, .int .i64 g] w fun e w' => e = .returned (lowT r b g) ∧ Below w.heap.size w w' := by
  have cB := bandable_any r b g
  unfold lowT
  by_cases h : bandV r b g = true
  · rw [if_pos h]
    rw [h] at cB
    obtain ⟨h1, h2, h3, h4, h5, h6⟩ := band_is h
    obtain ⟨l1, l2, l3, l4, l5⟩ := low_le h1 h2 h3 h4
    have cM := fmuldiv_any r (10000 - b) 10000 true ⟨by omega, by omega⟩ ⟨by omega, by omega⟩ ⟨by decide, by decide⟩
    unfold mdT at cM
    rw [if_neg (by omega), fit_yes (show In64 (mdV r (10000 - b) 10000 true) from ⟨by unfold lowV at l4; omega, by unfold lowV at l5; omega⟩)] at cM
    have cU := fup_any (lowV r b) g ⟨by omega, by omega⟩ ⟨by omega, by omega⟩
    obtain ⟨x, q, hx, -⟩ := up_is (lowV r b) g
    rw [hx] at cU ⊢
    exact flower_road r b g _ x _ q ⟨h1, h2⟩ ⟨h3, h4⟩ cB cM cU w
  · rw [if_neg h]
    have h' : bandV r b g = false := by simpa using h
    rw [h'] at cB
    exact flower_none r b g cB w
theorem fupper_any (r b g : Int) (w : World) :
    Calls Try.prog 24 #[.int .i64 r, .int .i64 b, .int .i64 g] w fun e w' => e = .returned (hiT r b g) ∧ Below w.heap.size w w' := by
  have cB := bandable_any r b g
  unfold hiT
  by_cases h : bandV r b g = true
  · rw [if_pos h]
    rw [h] at cB
    obtain ⟨h1, h2, h3, h4, h5, h6⟩ := band_is h
    obtain ⟨l1, l2, l3, l4⟩ := hi_ge h1 h2 h3 h4
    have cM := fmuldiv_any r (10000 + b) 10000 false ⟨by omega, by omega⟩ ⟨by omega, by omega⟩ ⟨by decide, by decide⟩
    have e1 : mdV r (10000 + b) 10000 false = hiV r b := by unfold mdV hiV; simp
    unfold mdT at cM
    rw [if_neg (by omega), e1, fit_yes ⟨by omega, by omega⟩] at cM
    have cU := fdown_any (hiV r b) g ⟨by omega, by omega⟩ ⟨by omega, by omega⟩
    exact fupper_road r b g _ _ _ ⟨h1, h2⟩ ⟨h3, h4⟩ cB cM cU w
  · rw [if_neg h]
    have h' : bandV r b g = false := by simpa using h
    rw [h'] at cB
    exact fupper_none r b g cB w
theorem rlower_any (r b g : Int) (w : World) :
    Calls Try.prog 23 #[.int .i64 r, .int .i64 b, .int .i64 g] w fun e w' => e = .returned (lowT r b g) ∧ Below w.heap.size w w' := by
  have cB := fits_any r b g
  unfold lowT
  by_cases h : bandV r b g = true
  · rw [if_pos h]
    rw [h] at cB
    obtain ⟨h1, h2, h3, h4, h5, h6⟩ := band_is h
    obtain ⟨l1, l2, l3, l4, l5⟩ := low_le h1 h2 h3 h4
    have cU := rup2_any (lowV r b) g ⟨by omega, by omega⟩ ⟨by omega, by omega⟩
    obtain ⟨x, q, hx, -⟩ := up_is (lowV r b) g
    rw [hx] at cU ⊢
    exact rlower_road r b g _ _ x q ⟨h1, h2⟩ ⟨h3, h4⟩ rfl l1 (by omega) l3 cB cU w
  · rw [if_neg h]
    have h' : bandV r b g = false := by simpa using h
    rw [h'] at cB
    exact rlower_none r b g cB w
theorem rupper_any (r b g : Int) (w : World) :
    Calls Try.prog 25 #[.int .i64 r, .int .i64 b, .int .i64 g] w fun e w' => e = .returned (hiT r b g) ∧ Below w.heap.size w w' := by
  have cB := fits_any r b g
  unfold hiT
  by_cases h : bandV r b g = true
  · rw [if_pos h]
    rw [h] at cB
    obtain ⟨h1, h2, h3, h4, h5, h6⟩ := band_is h
    obtain ⟨l1, l2, l3, l4⟩ := hi_ge h1 h2 h3 h4
    have cU := rdown_any (hiV r b) g ⟨by omega, by omega⟩ ⟨by omega, by omega⟩
    exact rupper_road r b g _ _ ⟨h1, h2⟩ ⟨h3, h4⟩ rfl (by omega) (by omega) cB cU w
  · rw [if_neg h]
    have h' : bandV r b g = false := by simpa using h
    rw [h'] at cB
    exact rupper_none r b g cB w
/-- The chapter's example. -/
theorem alive2_any (w : World) : Calls Try.prog 15 #[] w fun e w' => e = .returned (.bool true) ∧ Below w.heap.size w w' := by
  have c1 : ∀ W, Calls Try.prog 22 #[.int .i64 1000, .int .i64 500, .int .i64 7] W fun e w' => e = .returned (.tuple #[.int .i64 952, .bool true]) ∧ Below W.heap.size W w' := flower_any 1000 500 7
  have c2 : ∀ W, Calls Try.prog 24 #[.int .i64 1000, .int .i64 500, .int .i64 7] W fun e w' => e = .returned (.tuple #[.int .i64 1050, .bool true]) ∧ Below W.heap.size W w' := fupper_any 1000 500 7
  have m0 := Mem.start w
  go_enter Try.func15, Try.ntmps15
  go_wp2_with (first
    | (go_at_call 22; (with_reducible refine (c1 _).mono ?_); rintro e w1 ⟨rfl, hb1⟩; have m1 := m0.keep hb1; clear m0 hb1)
    | (go_at_call 24; (with_reducible refine (c2 _).mono ?_); rintro e w2 ⟨rfl, hb1⟩; have m2 := m1.keep hb1; clear m1 hb1))
  go_ret
  exact ⟨rfl, m2.below⟩
end Go.Proofs.Ytnahocdeaopflaa
