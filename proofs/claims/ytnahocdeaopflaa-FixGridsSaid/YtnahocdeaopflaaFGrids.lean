/-
  Any number brought down, and up, to any grid: the statement's function, for every input.
-/
import Derived.Test.YtnahocdeaopflaaFixL
namespace Go.Proofs.Ytnahocdeaopflaa
open Go.RowKit Go.Shelf
set_option maxHeartbeats 2000000 in
theorem fgrids_road (p g x y : Int) (q : Bool)
    (c0 : ∀ W, Calls Try.prog 18 #[.int .i64 p, .int .i64 g] W fun e w' => e = .returned (.tuple #[.int .i64 x, .bool q]) ∧ Below W.heap.size W w')
    (c1 : ∀ W, Calls Try.prog 19 #[.int .i64 p, .int .i64 g] W fun e w' => e = .returned (.tuple #[.int .i64 x, .bool q]) ∧ Below W.heap.size W w')
    (c2 : ∀ W, Calls Try.prog 20 #[.int .i64 p, .int .i64 g] W fun e w' => e = .returned (.int .i64 y) ∧ Below W.heap.size W w')
    (c3 : ∀ W, Calls Try.prog 21 #[.int .i64 p, .int .i64 g] W fun e w' => e = .returned (.int .i64 y) ∧ Below W.heap.size W w') (w : World) :
    Calls Try.prog 5 #[.int .i64 p, .int .i64 g] w fun e w' => e = .returned (.bool true) ∧ Below w.heap.size w w' := by
  have ca := alive2_any
  have m0 := Mem.start w
  go_enter Try.func5, Try.ntmps5
  go_wp2_with (first
    | (go_at_call 18; (with_reducible refine (c0 _).mono ?_); rintro e w1 ⟨rfl, hb1⟩; have m1 := m0.keep hb1; clear m0 hb1)
    | (go_at_call 19; (with_reducible refine (c1 _).mono ?_); rintro e w2 ⟨rfl, hb1⟩; have m2 := m1.keep hb1; clear m1 hb1)
    | (go_at_call 20; (with_reducible refine (c2 _).mono ?_); rintro e w3 ⟨rfl, hb1⟩; have m3 := m2.keep hb1; clear m2 hb1)
    | (go_at_call 21; (with_reducible refine (c3 _).mono ?_); rintro e w4 ⟨rfl, hb1⟩; have m4 := m3.keep hb1; clear m3 hb1)
    | (go_at_call 15; (with_reducible refine (ca _).mono ?_); rintro e w5 ⟨rfl, hb1⟩; have m5 := m4.keep hb1; clear m4 hb1))
  all_goals go_ret
  all_goals exact ⟨rfl, m5.below⟩
theorem fgrids_any (p g : Int) (hp : In64 p) (hg : In64 g) (w : World) :
    Calls Try.prog 5 #[.int .i64 p, .int .i64 g] w fun e w' => e = .returned (.bool true) ∧ Below w.heap.size w w' := by
  have c0 := fup_any p g hp hg
  have c1 := rup2_any p g hp hg
  obtain ⟨x, q, hx, -⟩ := up_is p g
  rw [hx] at c0 c1
  exact fgrids_road p g x _ q c0 c1 (fdown_any p g hp hg) (rdown_any p g hp hg) w
end Go.Proofs.Ytnahocdeaopflaa
