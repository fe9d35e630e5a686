/-
  The sum, the difference and the product of any two numbers, or that it is none: the statement's function, for every input.
-/
import Derived.Test.YtnahocdeaopflaaFixL
namespace Go.Proofs.Ytnahocdeaopflaa
open Go.RowKit Go.Shelf
set_option maxHeartbeats 2000000 in
theorem fsums_road (a b x y z : Int) (p q r : Bool)
    (c0 : ∀ W, Calls Try.prog 9 #[.int .i64 a, .int .i64 b] W fun e w' => e = .returned (.tuple #[.int .i64 x, .bool p]) ∧ Below W.heap.size W w')
    (c1 : ∀ W, Calls Try.prog 10 #[.int .i64 a, .int .i64 b] W fun e w' => e = .returned (.tuple #[.int .i64 y, .bool q]) ∧ Below W.heap.size W w')
    (c2 : ∀ W, Calls Try.prog 11 #[.int .i64 a, .int .i64 b] W fun e w' => e = .returned (.tuple #[.int .i64 z, .bool r]) ∧ Below W.heap.size W w')
    (c3 : ∀ W, Calls Try.prog 12 #[.int .i64 a, .int .i64 b] W fun e w' => e = .returned (.tuple #[.int .i64 x, .bool p]) ∧ Below W.heap.size W w')
    (c4 : ∀ W, Calls Try.prog 13 #[.int .i64 a, .int .i64 b] W fun e w' => e = .returned (.tuple #[.int .i64 y, .bool q]) ∧ Below W.heap.size W w')
    (c5 : ∀ W, Calls Try.prog 14 #[.int .i64 a, .int .i64 b] W fun e w' => e = .returned (.tuple #[.int .i64 z, .bool r]) ∧ Below W.heap.size W w') (w : World) :
    Calls Try.prog 3 #[.int .i64 a, .int .i64 b] w fun e w' => e = .returned (.bool true) ∧ Below w.heap.size w w' := by
  have ca := alive2_any
  have m0 := Mem.start w
  go_enter Try.func3, Try.ntmps3
  go_wp2_with (first
    | (go_at_call 9; (with_reducible refine (c0 _).mono ?_); rintro e w1 ⟨rfl, hb1⟩; have m1 := m0.keep hb1; clear m0 hb1)
    | (go_at_call 10; (with_reducible refine (c1 _).mono ?_); rintro e w2 ⟨rfl, hb1⟩; have m2 := m1.keep hb1; clear m1 hb1)
    | (go_at_call 11; (with_reducible refine (c2 _).mono ?_); rintro e w3 ⟨rfl, hb1⟩; have m3 := m2.keep hb1; clear m2 hb1)
    | (go_at_call 12; (with_reducible refine (c3 _).mono ?_); rintro e w4 ⟨rfl, hb1⟩; have m4 := m3.keep hb1; clear m3 hb1)
    | (go_at_call 13; (with_reducible refine (c4 _).mono ?_); rintro e w5 ⟨rfl, hb1⟩; have m5 := m4.keep hb1; clear m4 hb1)
    | (go_at_call 14; (with_reducible refine (c5 _).mono ?_); rintro e w6 ⟨rfl, hb1⟩; have m6 := m5.keep hb1; clear m5 hb1)
    | (go_at_call 15; (with_reducible refine (ca _).mono ?_); rintro e w7 ⟨rfl, hb1⟩; have m7 := m6.keep hb1; clear m6 hb1))
  all_goals go_ret
  all_goals exact ⟨rfl, m7.below⟩
theorem fsums_any (a b : Int) (ha : In64 a) (hb : In64 b) (w : World) :
    Calls Try.prog 3 #[.int .i64 a, .int .i64 b] w fun e w' => e = .returned (.bool true) ∧ Below w.heap.size w w' := by
  have c0 := fadd_any a b ha hb
  have c1 := fsub_any a b ha hb
  have c2 := fmul_any a b ha hb
  have c3 := radd2_any a b ha hb
  have c4 := rsub2_any a b ha hb
  have c5 := rmul2_any a b ha hb
  obtain ⟨x, p, hx, -⟩ := fit_is (a + b)
  obtain ⟨y, q, hy, -⟩ := fit_is (a - b)
  obtain ⟨z, r, hz, -⟩ := fit_is (a * b)
  rw [hx] at c0 c3
  rw [hy] at c1 c4
  rw [hz] at c2 c5
  exact fsums_road a b x y z p q r c0 c1 c2 c3 c4 c5 w
end Go.Proofs.Ytnahocdeaopflaa
