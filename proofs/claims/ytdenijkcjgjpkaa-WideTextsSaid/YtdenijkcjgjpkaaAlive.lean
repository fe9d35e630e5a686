/-
  The chapter's example holds: what the statements of layer 1 all ask besides.
-/
import Derived.Test.YtdenijkcjgjpkaaText
namespace Go.Proofs.Ytdenijkcjgjpkaa
open Go.RowKit Go.Shelf
theorem mul_ex (w : World) : Calls Try.prog 10 #[.int .u64 9223372036854775808, .int .u64 4] w fun e w' => e = .returned (.agg #[.int .u64 2, .int .u64 0]) ∧ Below w.heap.size w w' :=
  mul_any 9223372036854775808 4 ⟨by decide, by decide⟩ ⟨by decide, by decide⟩ w
theorem text_ex (w : World) : Calls Try.prog 29 #[.agg #[.int .u64 2, .int .u64 0]] w fun e w' =>
    e = .returned (.string ⟨#[51, 54, 56, 57, 51, 52, 56, 56, 49, 52, 55, 52, 49, 57, 49, 48, 51, 50, 51, 50]⟩) ∧ Below w.heap.size w w' :=
  text_any 36893488147419103232 ⟨by decide, by decide⟩ w
theorem alive_any (w : World) : Calls Try.prog 12 #[] w fun e w' => e = .returned (.bool true) ∧ Below w.heap.size w w' := by
  go_enter Try.func12, Try.ntmps12
  go_wp2_with (first
    | (go_at_call 10; refine (mul_ex _).mono ?_; rintro e w2 ⟨rfl, hb⟩)
    | (go_at_call 29; refine (text_ex _).mono ?_; rintro e w2 ⟨rfl, hb2⟩))
  go_ret
  exact ⟨rfl, (hb.alloc hb.size _).trans (hb2.mono (by have := hb.size; simp; omega))⟩
end Go.Proofs.Ytdenijkcjgjpkaa
