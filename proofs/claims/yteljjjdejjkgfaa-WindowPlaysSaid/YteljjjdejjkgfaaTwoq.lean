/-
  Products and sums of package wide, said of whole numbers of two words.
-/
import Derived.Test.YteljjjdejjkgfaaWideq
namespace Go.Proofs.Yteljjjdejjkgfaa
open Go.RowKit Go.Shelf
theorem mul_two (a b : Int) (ha : Word a) (hb : Word b) (w : World) : Calls Try.prog 43 #[.int .u64 a, .int .u64 b] w fun e w' =>
    e = .returned (.agg #[.int .u64 (hi (a * b)), .int .u64 (lo (a * b))]) ∧ Below w.heap.size w w' := mul_any a b ha hb w
theorem add_two (r s : Int) (h : Two r) (h' : Two s) (hs : r + s < 340282366920938463463374607431768211456) (w : World) :
    Calls Try.prog 29 #[.agg #[.int .u64 (hi r), .int .u64 (lo r)], .agg #[.int .u64 (hi s), .int .u64 (lo s)]] w fun e w' =>
      e = .returned (.tuple #[.agg #[.int .u64 (hi (r + s)), .int .u64 (lo (r + s))], .bool true]) ∧ Below w.heap.size w w' := by
  have e1 : (hi r + hi s + (lo r + lo s) / 18446744073709551616) % 18446744073709551616 = hi (r + s) := by obtain ⟨a, b⟩ := h; obtain ⟨c, d⟩ := h'; unfold hi lo; omega
  have e2 : (lo r + lo s) % 18446744073709551616 = lo (r + s) := by unfold lo; omega
  have e3 : ((hi r + hi s + (lo r + lo s) / 18446744073709551616) / 18446744073709551616 == 0) = true := by obtain ⟨a, b⟩ := h; obtain ⟨c, d⟩ := h'; unfold hi lo; simp; omega
  have := add_any (hi r) (lo r) (hi s) (lo s) (word_hi h) (word_lo h) (word_hi h') (word_lo h') w
  rw [e1, e2, e3] at this
  exact this
theorem two_mul (a b : Int) (ha : Word a) (hb : Word b) : Two (a * b) := by
  obtain ⟨a0, a1⟩ := ha; obtain ⟨b0, b1⟩ := hb
  refine ⟨Int.mul_nonneg a0 b0, ?_⟩
  have h1 : a * b ≤ 18446744073709551615 * b := Int.mul_le_mul_of_nonneg_right (by omega) b0
  omega
theorem hi_small (x : Int) (h : Word x) : hi x = 0 ∧ lo x = x := by obtain ⟨a, b⟩ := h; unfold hi lo; omega
end Go.Proofs.Yteljjjdejjkgfaa
