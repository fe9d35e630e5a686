/-
  Moved of the document's window.
-/
import Derived.Test.YteljjjdejjkgfaaWnaq
import Derived.Test.YteljjjdejjkgfaaGE
import Derived.Test.YteljjjdejjkgfaaGJ
namespace Go.Proofs.Yteljjjdejjkgfaa
open Go.RowKit
set_option linter.unusedSimpArgs false
theorem wmin_fact (a c m : Int) (h : m = if c < a then c else a) : ∀ ts t w, (Builtin.min_ ts t #[.int .i64 a, .int .i64 c]).run Try.prog w = .ok (.int .i64 m) w := by
  intro ts t w
  rw [run_min_int2, h]
theorem wmax_fact (a c m : Int) (h : m = if a < c then c else a) : ∀ ts t w, (Builtin.max_ ts t #[.int .i64 a, .int .i64 c]).run Try.prog w = .ok (.int .i64 m) w := by
  intro ts t w
  rw [run_max_int2, h]
set_option maxRecDepth 8000 in
set_option maxHeartbeats 4000000 in
theorem rmoved_any (a b bps : Int) (W : World) : Calls Try.prog 14 #[.int .i64 a, .int .i64 b, .int .i64 bps] W fun e w' => e = .returned (.bool (movedB a b bps)) ∧ Below W.heap.size W w' := by
  have key : (movedB a b bps = false ∧ (decide (a < 1) = true ∨ (decide (a < 1) = false ∧ (decide (1099511627776 < a) = true ∨ (decide (1099511627776 < a) = false ∧ (decide (b < 1) = true ∨ (decide (b < 1) = false ∧ (decide (1099511627776 < b) = true ∨ (decide (1099511627776 < b) = false ∧ (decide (bps < 0) = true ∨ (decide (bps < 0) = false ∧ (decide (9999 < bps) = true ∨ (decide (9999 < bps) = false ∧ (a == b) = true)))))))))))))
      ∨ (decide (a < 1) = false ∧ decide (1099511627776 < a) = false ∧ decide (b < 1) = false ∧ decide (1099511627776 < b) = false ∧ decide (bps < 0) = false ∧ decide (9999 < bps) = false ∧ (a == b) = false ∧ 1 ≤ a ∧ a ≤ 1099511627776 ∧ 1 ≤ b ∧ b ≤ 1099511627776 ∧ 0 ≤ bps ∧ bps ≤ 9999 ∧ a ≠ b) := by
    by_cases h : 1 ≤ a ∧ a ≤ 1099511627776 ∧ 1 ≤ b ∧ b ≤ 1099511627776 ∧ 0 ≤ bps ∧ bps ≤ 9999 ∧ a ≠ b
    · refine .inr ?_
      simp only [decide_eq_false_iff_not, beq_eq_false_iff_ne]
      omega
    · refine .inl ⟨?_, ?_⟩
      · unfold movedB
        rw [decide_eq_false_iff_not]
        omega
      · simp only [decide_eq_true_eq, decide_eq_false_iff_not, beq_iff_eq]
        omega
  rcases key with ⟨e, k⟩ | ⟨k1, k2, k3, k4, k5, k6, k7, h1, h2, h3, h4, h5, h6, h7⟩
  · rw [e]
    clear e
    rcases k with k1 | ⟨k1, k2 | ⟨k2, k3 | ⟨k3, k4 | ⟨k4, k5 | ⟨k5, k6 | ⟨k6, k7⟩⟩⟩⟩⟩⟩
    all_goals
      go_enter Try.func14, Try.ntmps14
      go_wp2_with fail
      go_ret
      exact ⟨rfl, Below.refl _ _⟩
  · have hm0 : 0 ≤ a * bps := Int.mul_nonneg (by omega) h5
    have hm1 : a * bps ≤ 1099511627776 * 9999 := Int.mul_le_mul h2 h6 h5 (by omega)
    have hM : movedB a b bps = decide (a * bps ≤ ((if a < b then b else a) - (if b < a then b else a)) * 10000) := by
      unfold movedB
      exact decide_eq_decide.2 ⟨fun h => h.2.2.2.2.2.2.2, fun h => ⟨h1, h2, h3, h4, h5, h6, h7, h⟩⟩
    rw [hM]
    obtain ⟨mx, hmx⟩ : ∃ m, m = if a < b then b else a := ⟨_, rfl⟩
    obtain ⟨mn, hmn⟩ : ∃ m, m = if b < a then b else a := ⟨_, rfl⟩
    have b1 : 1 ≤ mx ∧ mx ≤ 1099511627776 ∧ 1 ≤ mn ∧ mn ≤ 1099511627776 ∧ mn ≤ mx := by rw [hmx, hmn]; split <;> split <;> omega
    have x1 := wmax_fact a b mx hmx
    have x2 := wmin_fact a b mn hmn
    rw [← hmx, ← hmn]
    clear hM hmx hmn
    obtain ⟨b1, b2, b3, b4, b5⟩ := b1
    have q1 : 0 ≤ (mx - mn) * 10000 ∧ (mx - mn) * 10000 < 9223372036854775808 := by omega
    go_enter Try.func14, Try.ntmps14
    go_wp2_with fail
    go_ret
    exact ⟨rfl, Below.refl _ _⟩
end Go.Proofs.Yteljjjdejjkgfaa
