/-
  The contract of wide's Cmp, for every two numbers.
-/
import Derived.Test.YtdenijkcjgjpkaaWide
import Derived.BigGuardPart
namespace Go.Proofs.Ytdenijkcjgjpkaa
open Go.RowKit Go.Shelf
theorem cmp_words (a b c d v : Int) (w : World)
    (hv : (a = c ∧ b = d ∧ v = 0) ∨ (a < c ∧ v = -1) ∨ (a = c ∧ b < d ∧ v = -1) ∨ (a = c ∧ d < b ∧ v = 1) ∨ (c < a ∧ v = 1)) :
    Calls Try.prog 18 #[.agg #[.int .u64 a, .int .u64 b], .agg #[.int .u64 c, .int .u64 d]] w fun e w' =>
      e = .returned (.int .i64 v) ∧ Below w.heap.size w w' := by
  rcases hv with ⟨rfl, rfl, rfl⟩ | ⟨h, rfl⟩ | ⟨rfl, h, rfl⟩ | ⟨rfl, h, rfl⟩ | ⟨h, rfl⟩
  · go_enter Try.func18, Try.ntmps18
    go_wp2
    go_ret
    exact ⟨rfl, two_blocks _ _ _ _ _⟩
  · have e0 : (a == c) = false := by simp; omega
    go_enter Try.func18, Try.ntmps18
    go_wp2
    go_ret
    exact ⟨rfl, two_blocks _ _ _ _ _⟩
  · have e0 : (b == d) = false := by simp; omega
    go_enter Try.func18, Try.ntmps18
    go_wp2
    go_ret
    exact ⟨rfl, two_blocks _ _ _ _ _⟩
  · have e0 : (b == d) = false := by simp; omega
    have e1 : decide (b < d) = false := by simp; omega
    go_enter Try.func18, Try.ntmps18
    go_wp2
    go_ret
    exact ⟨rfl, two_blocks _ _ _ _ _⟩
  · have e0 : (a == c) = false := by simp; omega
    have e1 : decide (a < c) = false := by simp; omega
    go_enter Try.func18, Try.ntmps18
    go_wp2
    go_ret
    exact ⟨rfl, two_blocks _ _ _ _ _⟩
end Go.Proofs.Ytdenijkcjgjpkaa
