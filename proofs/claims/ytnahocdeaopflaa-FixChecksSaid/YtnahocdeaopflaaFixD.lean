/-
  The contracts of package fix's MulDiv, Down and Up, and of the document's answers Down and Up, for every input.
-/
import Derived.Test.YtnahocdeaopflaaFixM
namespace Go.Proofs.Ytnahocdeaopflaa
open Go.RowKit Go.Shelf
def upV (p g : Int) : Int := if p % g = 0 then p else p + (g - p % g)
def nay : Value := .tuple #[.int .i64 0, .bool false]
def upT (p g : Int) : Value := if p < 0 ∨ g < 1 then nay else fitT (upV p g)
def downV (p g : Int) : Int := if p < 0 ∨ g < 1 then 0 else p - p % g
def mdV (a b d : Int) (up : Bool) : Int := a * b / d + if up = true ∧ a * b % d ≠ 0 then 1 else 0
def mdT (a b d : Int) (up : Bool) : Value := if a < 0 ∨ b < 0 ∨ d < 1 then nay else fitT (mdV a b d up)
theorem fdown_any (p g : Int) (hp : In64 p) (hg : In64 g) (w : World) :
    Calls Try.prog 20 #[.int .i64 p, .int .i64 g] w fun e w' => e = .returned (.int .i64 (downV p g)) ∧ Below w.heap.size w w' := by
  unfold downV
  obtain ⟨p0, p1⟩ := hp
  obtain ⟨g0, g1⟩ := hg
  by_cases h : p < 0 ∨ g < 1
  · rw [if_pos h]
    go_enter Try.func20, Try.ntmps20
    go_wp2
    all_goals first | (exfalso; omega) | go_ret
    all_goals exact ⟨rfl, Below.refl _ _⟩
  · rw [if_neg h]
    have h1 : 0 ≤ p := by omega
    have h2 : 1 ≤ g := by omega
    have m0 := Int.emod_nonneg p (show g ≠ 0 by omega)
    have m1 := Int.emod_lt_of_pos p (show 0 < g by omega)
    have e0 : (g == 0) = false := by simp; omega
    clear h
    go_enter Try.func20, Try.ntmps20
    go_wp2
    all_goals first | (exfalso; omega) | go_ret
    all_goals exact ⟨rfl, Below.refl _ _⟩
theorem rdown_any (p g : Int) (hp : In64 p) (hg : In64 g) (w : World) :
    Calls Try.prog 21 #[.int .i64 p, .int .i64 g] w fun e w' => e = .returned (.int .i64 (downV p g)) ∧ Below w.heap.size w w' := by
  unfold downV
  obtain ⟨p0, p1⟩ := hp
  obtain ⟨g0, g1⟩ := hg
  by_cases h : p < 0 ∨ g < 1
  · rw [if_pos h]
    go_enter Try.func21, Try.ntmps21
    go_wp2
    all_goals first | (exfalso; omega) | go_ret
    all_goals exact ⟨rfl, Below.refl _ _⟩
  · rw [if_neg h]
    have h1 : 0 ≤ p := by omega
    have h2 : 1 ≤ g := by omega
    have m0 := Int.emod_nonneg p (show g ≠ 0 by omega)
    have m1 := Int.emod_lt_of_pos p (show 0 < g by omega)
    have e0 : (g == 0) = false := by simp; omega
    clear h
    go_enter Try.func21, Try.ntmps21
    go_wp2
    all_goals first | (exfalso; omega) | go_ret
    all_goals exact ⟨rfl, Below.refl _ _⟩
theorem fup_any (p g : Int) (hp : In64 p) (hg : In64 g) (w : World) :
    Calls Try.prog 18 #[.int .i64 p, .int .i64 g] w fun e w' => e = .returned (upT p g) ∧ Below w.heap.size w w' := by
  unfold upT
  obtain ⟨p0, p1⟩ := hp
  obtain ⟨g0, g1⟩ := hg
  by_cases h : p < 0 ∨ g < 1
  · rw [if_pos h]
    go_enter Try.func18, Try.ntmps18
    go_wp2
    all_goals first | (exfalso; omega) | go_ret2
    all_goals exact ⟨rfl, Below.refl _ _⟩
  · rw [if_neg h]
    have h1 : 0 ≤ p := by omega
    have h2 : 1 ≤ g := by omega
    have m0 := Int.emod_nonneg p (show g ≠ 0 by omega)
    have m1 := Int.emod_lt_of_pos p (show 0 < g by omega)
    have e0 : (g == 0) = false := by simp; omega
    clear h
    unfold upV
    by_cases hz : p % g = 0
    · rw [if_pos hz, fit_yes ⟨by omega, by omega⟩]
      go_enter Try.func18, Try.ntmps18
      go_wp2
      all_goals first | (exfalso; omega) | go_ret2
      all_goals exact ⟨rfl, Below.refl _ _⟩
    · rw [if_neg hz]
      have ez : (p % g == 0) = false := by simpa using hz
      have cA := fadd_any p (g - p % g) ⟨p0, p1⟩ ⟨by omega, by omega⟩
      obtain ⟨x, q, hx, -, -⟩ := fit_is (p + (g - p % g))
      rw [hx] at cA ⊢
      clear hx hz
      go_enter Try.func18, Try.ntmps18
      go_wp2_with (go_at_call 9; (with_reducible refine (cA _).mono ?_); rintro e w1 ⟨rfl, hb1⟩)
      all_goals first | (exfalso; omega) | go_ret2
      all_goals exact ⟨rfl, hb1⟩
theorem rup_any (p g : Int) (hp : In64 p) (hg : In64 g) (w : World)
    (cA : ∀ W, Calls Try.prog 12 #[.int .i64 (p - p % g), .int .i64 g] W fun e w' => e = .returned (fitT (p - p % g + g)) ∧ Below W.heap.size W w') :
    Calls Try.prog 19 #[.int .i64 p, .int .i64 g] w fun e w' => e = .returned (upT p g) ∧ Below w.heap.size w w' := by
  unfold upT
  obtain ⟨p0, p1⟩ := hp
  obtain ⟨g0, g1⟩ := hg
  by_cases h : p < 0 ∨ g < 1
  · rw [if_pos h]
    go_enter Try.func19, Try.ntmps19
    go_wp2
    all_goals first | (exfalso; omega) | go_ret2
    all_goals exact ⟨rfl, Below.refl _ _⟩
  · rw [if_neg h]
    have h1 : 0 ≤ p := by omega
    have h2 : 1 ≤ g := by omega
    have m0 := Int.emod_nonneg p (show g ≠ 0 by omega)
    have m1 := Int.emod_lt_of_pos p (show 0 < g by omega)
    have e0 : (g == 0) = false := by simp; omega
    clear h
    unfold upV
    by_cases hz : p % g = 0
    · rw [if_pos hz, fit_yes ⟨by omega, by omega⟩]
      go_enter Try.func19, Try.ntmps19
      go_wp2
      all_goals first | (exfalso; omega) | go_ret2
      all_goals exact ⟨rfl, Below.refl _ _⟩
    · rw [if_neg hz]
      have ez : (p % g == 0) = false := by simpa using hz
      rw [show p - p % g + g = p + (g - p % g) by omega] at cA
      obtain ⟨x, q, hx, -, -⟩ := fit_is (p + (g - p % g))
      rw [hx] at cA ⊢
      clear hx hz
      go_enter Try.func19, Try.ntmps19
      go_wp2_with (go_at_call 12; (with_reducible refine (cA _).mono ?_); rintro e w1 ⟨rfl, hb1⟩)
      all_goals first | (exfalso; omega) | go_ret2
      all_goals exact ⟨rfl, hb1⟩
set_option maxHeartbeats 1000000 in
theorem muldiv_down (a b d R h l qh ql x : Int) (p up : Bool) (ha : 0 ≤ a ∧ a < 9223372036854775808) (hb : 0 ≤ b ∧ b < 9223372036854775808) (hd : 1 ≤ d ∧ d < 9223372036854775808)
    (cM : ∀ W, Calls Try.prog 32 #[.int .u64 a, .int .u64 b] W fun e w' => e = .returned (.agg #[.int .u64 h, .int .u64 l]) ∧ Below W.heap.size W w')
    (cD : ∀ W, Calls Try.prog 41 #[.agg #[.int .u64 h, .int .u64 l], .int .u64 d] W fun e w' => e = .returned (.tuple #[.agg #[.int .u64 qh, .int .u64 ql], .int .u64 R, .bool true]) ∧ Below W.heap.size W w')
    (hup : up = false ∨ R = 0)
    (cN : ∀ W, Calls Try.prog 35 #[.agg #[.int .u64 qh, .int .u64 ql]] W fun e w' => e = .returned (.tuple #[.int .i64 x, .bool p]) ∧ Below W.heap.size W w')
    (w : World) :
    Calls Try.prog 16 #[.int .i64 a, .int .i64 b, .int .i64 d, .bool up] w fun e w' => e = .returned (.tuple #[.int .i64 x, .bool p]) ∧ Below w.heap.size w w' := by
  obtain ⟨a0, a1⟩ := ha
  obtain ⟨b0, b1⟩ := hb
  obtain ⟨d0, d1⟩ := hd
  rcases hup with rfl | rfl
  · skip
    have m0 := Mem.start w
    go_enter Try.func16, Try.ntmps16
    go_wp2_with (first
      | (go_at_call 32; (with_reducible refine (cM _).mono ?_); rintro e w1 ⟨rfl, hb1⟩; have m1 := m0.keep hb1; clear m0 hb1)
      | (go_at_call 41; (with_reducible refine (cD _).mono ?_); rintro e w2 ⟨rfl, hb1⟩; have m2 := (m1.keep hb1).new 38 #[.int .u64 qh, .int .u64 ql]; have hlt := (m1.keep hb1).below.size; clear m1 hb1; have k := m2.blk w2.heap.size 38 #[.int .u64 qh, .int .u64 ql] (by simp); have c0 := k.cell_eq 0 (.int .u64 qh) rfl; have c1 := k.cell_eq 1 (.int .u64 ql) rfl; have k0 := k.free 0; have k1 := k.free 1; clear k)
      | (go_at_call 35; (with_reducible refine (cN _).mono ?_); rintro e w3 ⟨rfl, hb1⟩; have m3 := m2.keep hb1; clear m2 hb1))
    all_goals first | (exfalso; omega) | go_ret2
    all_goals exact ⟨rfl, m3.below⟩
  · skip
    have m0 := Mem.start w
    go_enter Try.func16, Try.ntmps16
    go_wp2_with (first
      | (go_at_call 32; (with_reducible refine (cM _).mono ?_); rintro e w1 ⟨rfl, hb1⟩; have m1 := m0.keep hb1; clear m0 hb1)
      | (go_at_call 41; (with_reducible refine (cD _).mono ?_); rintro e w2 ⟨rfl, hb1⟩; have m2 := (m1.keep hb1).new 38 #[.int .u64 qh, .int .u64 ql]; have hlt := (m1.keep hb1).below.size; clear m1 hb1; have k := m2.blk w2.heap.size 38 #[.int .u64 qh, .int .u64 ql] (by simp); have c0 := k.cell_eq 0 (.int .u64 qh) rfl; have c1 := k.cell_eq 1 (.int .u64 ql) rfl; have k0 := k.free 0; have k1 := k.free 1; clear k)
      | (go_at_call 35; (with_reducible refine (cN _).mono ?_); rintro e w3 ⟨rfl, hb1⟩; have m3 := m2.keep hb1; clear m2 hb1))
    all_goals first | (exfalso; omega) | go_ret2
    all_goals exact ⟨rfl, m3.below⟩
set_option maxHeartbeats 1000000 in
theorem muldiv_up (a b d R h l qh ql sh sl x : Int) (p up : Bool) (ha : 0 ≤ a ∧ a < 9223372036854775808) (hb : 0 ≤ b ∧ b < 9223372036854775808) (hd : 1 ≤ d ∧ d < 9223372036854775808)
    (cM : ∀ W, Calls Try.prog 32 #[.int .u64 a, .int .u64 b] W fun e w' => e = .returned (.agg #[.int .u64 h, .int .u64 l]) ∧ Below W.heap.size W w')
    (cD : ∀ W, Calls Try.prog 41 #[.agg #[.int .u64 h, .int .u64 l], .int .u64 d] W fun e w' => e = .returned (.tuple #[.agg #[.int .u64 qh, .int .u64 ql], .int .u64 R, .bool true]) ∧ Below W.heap.size W w')
    (hR : (R == 0) = false)
    (cA : ∀ W, Calls Try.prog 42 #[.agg #[.int .u64 qh, .int .u64 ql], .agg #[.int .u64 0, .int .u64 1]] W fun e w' => e = .returned (.tuple #[.agg #[.int .u64 sh, .int .u64 sl], .bool true]) ∧ Below W.heap.size W w')
    (cN : ∀ W, Calls Try.prog 35 #[.agg #[.int .u64 sh, .int .u64 sl]] W fun e w' => e = .returned (.tuple #[.int .i64 x, .bool p]) ∧ Below W.heap.size W w')
    (hup : up = true)
    (w : World) :
    Calls Try.prog 16 #[.int .i64 a, .int .i64 b, .int .i64 d, .bool up] w fun e w' => e = .returned (.tuple #[.int .i64 x, .bool p]) ∧ Below w.heap.size w w' := by
  obtain ⟨a0, a1⟩ := ha
  obtain ⟨b0, b1⟩ := hb
  obtain ⟨d0, d1⟩ := hd
  subst hup
  · skip
    have m0 := Mem.start w
    go_enter Try.func16, Try.ntmps16
    go_wp2_with (first
      | (go_at_call 32; (with_reducible refine (cM _).mono ?_); rintro e w1 ⟨rfl, hb1⟩; have m1 := m0.keep hb1; clear m0 hb1)
      | (go_at_call 41; (with_reducible refine (cD _).mono ?_); rintro e w2 ⟨rfl, hb1⟩; have m2 := (m1.keep hb1).new 38 #[.int .u64 qh, .int .u64 ql]; have hlt := (m1.keep hb1).below.size; clear m1 hb1; have k := m2.blk w2.heap.size 38 #[.int .u64 qh, .int .u64 ql] (by simp); have c0 := k.cell_eq 0 (.int .u64 qh) rfl; have c1 := k.cell_eq 1 (.int .u64 ql) rfl; have k0 := k.free 0; have k1 := k.free 1; clear k)
      | (go_at_call 42; (with_reducible refine (cA _).mono ?_); rintro e w4 ⟨rfl, hb1⟩; have m2' := m2.keep hb1; clear m2 hb1 c0 c1 k0 k1; have k := m2'.blk w2.heap.size 38 #[.int .u64 qh, .int .u64 ql] (by simp); have k0 := k.free 0; have k1 := k.free 1; have c0 := k.cell_eq 0 (.int .u64 qh) rfl; have c1 := k.cell_eq 1 (.int .u64 ql) rfl; clear k)
      | (go_at_call 35; (with_reducible refine (cN _).mono ?_); rintro e w3 ⟨rfl, hb1⟩; have hB := (m2'.below.setCell (p := ⟨w2.heap.size, 0, none⟩) hlt (.int .u64 sh)).setCell (p := ⟨w2.heap.size, 1, none⟩) hlt (.int .u64 sl); have hz := hB.size; have m3 := hB.trans (hb1.mono hz)))
    all_goals first | (exfalso; omega) | go_ret2
    all_goals exact ⟨rfl, m3⟩
theorem fmuldiv_any (a b d : Int) (up : Bool) (ha : In64 a) (hb : In64 b) (hd : In64 d) (w : World) :
    Calls Try.prog 16 #[.int .i64 a, .int .i64 b, .int .i64 d, .bool up] w fun e w' => e = .returned (mdT a b d up) ∧ Below w.heap.size w w' := by
  unfold mdT
  by_cases hn : a < 0 ∨ b < 0 ∨ d < 1
  · rw [if_pos hn]
    unfold In64 at ha hb hd
    go_enter Try.func16, Try.ntmps16
    go_wp2
    all_goals first | (exfalso; omega) | go_ret2
    all_goals exact ⟨rfl, Below.refl _ _⟩
  · rw [if_neg hn]
    have ha' : 0 ≤ a ∧ a < 9223372036854775808 := ⟨by omega, ha.2⟩
    have hb' : 0 ≤ b ∧ b < 9223372036854775808 := ⟨by omega, hb.2⟩
    have hd' : 1 ≤ d ∧ d < 9223372036854775808 := ⟨by omega, hd.2⟩
    have wa : Word a := ⟨ha'.1, by omega⟩
    have wb : Word b := ⟨hb'.1, by omega⟩
    have hP := two_mul a b wa wb
    have cM := mul_two a b wa wb
    have cD := div_pos (a * b) d hP (by omega) (by omega)
    have hPP : a * b ≤ 9223372036854775807 * 9223372036854775807 := Int.mul_le_mul (by omega) (by omega) hb'.1 (by decide)
    unfold mdV
    generalize a * b = P at *
    have q0 : 0 ≤ P / d := Int.ediv_nonneg hP.1 (by omega)
    have q1 : P / d ≤ P := Int.ediv_le_self _ hP.1
    have hQ : Two (P / d) := ⟨q0, by have := hP.2; omega⟩
    by_cases hu : up = true ∧ P % d ≠ 0
    · rw [if_pos hu]
      have cA := add_two (P / d) 1 hQ ⟨by decide, by decide⟩ (by omega)
      have cN := narrow_any (P / d + 1) ⟨by omega, by omega⟩
      obtain ⟨x, q, hx, -, -⟩ := fit_is (P / d + 1)
      rw [hx] at cN ⊢
      exact muldiv_up a b d _ _ _ _ _ _ _ x q up ha' hb' hd' cM cD (by simpa using hu.2) cA cN hu.1 w
    · rw [if_neg hu, Int.add_zero]
      have cN := narrow_any (P / d) hQ
      obtain ⟨x, q, hx, -, -⟩ := fit_is (P / d)
      rw [hx] at cN ⊢
      refine muldiv_down a b d _ _ _ _ _ x q up ha' hb' hd' cM cD ?_ cN w
      cases up
      · exact .inl rfl
      · right; exact Decidable.byContradiction fun h => hu ⟨rfl, h⟩
end Go.Proofs.Ytnahocdeaopflaa
