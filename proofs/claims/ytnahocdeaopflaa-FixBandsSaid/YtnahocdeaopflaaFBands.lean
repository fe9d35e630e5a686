/-
  What is so many parts of 10000 below, and above, any reference, on any grid: the statement's function, for every input.
-/
import Derived.Test.YtnahocdeaopflaaFixL
namespace Go.Proofs.Ytnahocdeaopflaa
open Go.RowKit Go.Shelf
set_option maxHeartbeats 2000000 in
theorem fbands_road (r b g x y : Int) (p q : Bool)
    (c0 : ∀ W, Calls Try.prog 22 #[.int .i64 r, .int .i64 b, .int .i64 g] W fun e w' => e = .returned (.tuple #[.int .i64 x, .bool p]) ∧ Below W.heap.size W w')
    (c1 : ∀ W, Calls Try.prog 23 #[.int .i64 r, .int .i64 b, .int .i64 g] W fun e w' => e = .returned (.tuple #[.int .i64 x, .bool p]) ∧ Below W.heap.size W w')
    (c2 : ∀ W, Calls Try.prog 24 #[.int .i64 r, .int .i64 b, .int .i64 g] W fun e w' => e = .returned (.tuple #[.int .i64 y, .bool q]) ∧ Below W.heap.size W w')
    (c3 : ∀ W, Calls Try.prog 25 #[.int .i64 r, .int .i64 b, .int .i64 g] W fun e w' => e = .returned (.tuple #[.int .i64 y, .bool q]) ∧ Below W.heap.size W w') (w : World) :
    Calls Try.prog 6 #[.int .i64 r, .int .i64 b, .int .i64 g] w fun e w' => e = .returned (.bool true) ∧ Below w.heap.size w w' := by
  have ca := alive2_any
  have m0 := Mem.start w
  go_enter Try.func6, Try.ntmps6
  go_wp2_with (first
    | (go_at_call 22; (with_reducible refine (c0 _).mono ?_); rintro e w1 ⟨rfl, hb1⟩; have m1 := m0.keep hb1; clear m0 hb1)
    | (go_at_call 23; (with_reducible refine (c1 _).mono ?_); rintro e w2 ⟨rfl, hb1⟩; have m2 := m1.keep hb1; clear m1 hb1)
    | (go_at_call 24; (with_reducible refine (c2 _).mono ?_); rintro e w3 ⟨rfl, hb1⟩; have m3 := m2.keep hb1; clear m2 hb1)
    | (go_at_call 25; (with_reducible refine (c3 _).mono ?_); rintro e w4 ⟨rfl, hb1⟩; have m4 := m3.keep hb1; clear m3 hb1)
    | (go_at_call 15; (with_reducible refine (ca _).mono ?_); rintro e w5 ⟨rfl, hb1⟩; have m5 := m4.keep hb1; clear m4 hb1))
  all_goals go_ret
  all_goals exact ⟨rfl, m5.below⟩
theorem low_is (r b g : Int) : ∃ x p, lowT r b g = .tuple #[.int .i64 x, .bool p] := by
  unfold lowT
  split
  · obtain ⟨x, q, h, -⟩ := up_is (lowV r b) g; exact ⟨x, q, h⟩
  · exact ⟨0, false, rfl⟩
theorem hi_is (r b g : Int) : ∃ x p, hiT r b g = .tuple #[.int .i64 x, .bool p] := by
  unfold hiT
  split
  · exact ⟨_, _, rfl⟩
  · exact ⟨0, false, rfl⟩
theorem fbands_any (r b g : Int) (w : World) :
    Calls Try.prog 6 #[.int .i64 r, .int .i64 b, .int .i64 g] w fun e w' => e = .returned (.bool true) ∧ Below w.heap.size w w' := by
  have c0 := flower_any r b g
  have c1 := rlower_any r b g
  have c2 := fupper_any r b g
  have c3 := rupper_any r b g
  obtain ⟨x, p, hx⟩ := low_is r b g
  obtain ⟨y, q, hy⟩ := hi_is r b g
  rw [hx] at c0 c1
  rw [hy] at c2 c3
  exact fbands_road r b g x y p q c0 c1 c2 c3 w
end Go.Proofs.Ytnahocdeaopflaa
