/-
  Any product divided, rounded down and up, or that it is none: the statement's function, for every input.
-/
import Derived.Test.YtnahocdeaopflaaFixL
namespace Go.Proofs.Ytnahocdeaopflaa
open Go.RowKit Go.Shelf
set_option maxHeartbeats 2000000 in
theorem fdivs_road (a b d x : Int) (up p : Bool)
    (c0 : ∀ W, Calls Try.prog 16 #[.int .i64 a, .int .i64 b, .int .i64 d, .bool up] W fun e w' => e = .returned (.tuple #[.int .i64 x, .bool p]) ∧ Below W.heap.size W w')
    (c1 : ∀ W, Calls Try.prog 17 #[.int .i64 a, .int .i64 b, .int .i64 d, .bool up] W fun e w' => e = .returned (.tuple #[.int .i64 x, .bool p]) ∧ Below W.heap.size W w') (w : World) :
    Calls Try.prog 4 #[.int .i64 a, .int .i64 b, .int .i64 d, .bool up] w fun e w' => e = .returned (.bool true) ∧ Below w.heap.size w w' := by
  have ca := alive2_any
  have m0 := Mem.start w
  go_enter Try.func4, Try.ntmps4
  go_wp2_with (first
    | (go_at_call 16; (with_reducible refine (c0 _).mono ?_); rintro e w1 ⟨rfl, hb1⟩; have m1 := m0.keep hb1; clear m0 hb1)
    | (go_at_call 17; (with_reducible refine (c1 _).mono ?_); rintro e w2 ⟨rfl, hb1⟩; have m2 := m1.keep hb1; clear m1 hb1)
    | (go_at_call 15; (with_reducible refine (ca _).mono ?_); rintro e w3 ⟨rfl, hb1⟩; have m3 := m2.keep hb1; clear m2 hb1))
  all_goals go_ret
  all_goals exact ⟨rfl, m3.below⟩
theorem fdivs_any (a b d : Int) (up : Bool) (ha : In64 a) (hb : In64 b) (hd : In64 d) (w : World) :
    Calls Try.prog 4 #[.int .i64 a, .int .i64 b, .int .i64 d, .bool up] w fun e w' => e = .returned (.bool true) ∧ Below w.heap.size w w' := by
  have c0 := fmuldiv_any a b d up ha hb hd
  have c1 := rmuldiv_any a b d up ha hb hd
  obtain ⟨x, p, hx⟩ : ∃ x p, mdT a b d up = .tuple #[.int .i64 x, .bool p] := by
    unfold mdT
    split
    · exact ⟨0, false, rfl⟩
    · obtain ⟨x, p, h, -⟩ := fit_is (mdV a b d up); exact ⟨x, p, h⟩
  rw [hx] at c0 c1
  exact fdivs_road a b d x up p c0 c1 w
end Go.Proofs.Ytnahocdeaopflaa
