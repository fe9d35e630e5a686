/-
  The contracts of package fix's small helpers, of its Add and Sub, and of the document's answers size and signed: each for every input.
  The contract of package fix's Mul, for every two numbers.
  The contracts of package fix's MulDiv, Down and Up, and of the document's answers Down and Up, for every input.
  The contracts of package fix's bandable, and of the document's answer fits, for every input.
-/
import Derived.Test.YteljjjdejjkgfaaDivq
import Derived.Test.YteljjjdejjkgfaaIn64q
import Derived.Laws.BitsAllLaws
import Derived.Test.YteljjjdejjkgfaaTwoq
namespace Go.Proofs.Yteljjjdejjkgfaa
open Go.RowKit Go.Shelf
instance (x : Int) : Decidable (In64 x) := by unfold In64; exact inferInstance
/-- A number and whether it is an int64; 0 if it is none. -/
def fitT (v : Int) : Value := if In64 v then .tuple #[.int .i64 v, .bool true] else .tuple #[.int .i64 0, .bool false]
theorem fit_yes {v : Int} (h : In64 v) : fitT v = .tuple #[.int .i64 v, .bool true] := if_pos h
theorem fit_no {v : Int} (h : ¬ In64 v) : fitT v = .tuple #[.int .i64 0, .bool false] := if_neg h
theorem fit_is (v : Int) : ∃ (x : Int) (p : Bool), fitT v = .tuple #[.int .i64 x, .bool p] ∧ In64 x ∧ ((p = true ∧ x = v) ∨ (p = false ∧ x = 0 ∧ ¬ In64 v)) := by
  by_cases h : In64 v
  · exact ⟨v, true, fit_yes h, h, .inl ⟨rfl, rfl⟩⟩
  · exact ⟨0, false, fit_no h, ⟨by decide, by decide⟩, .inr ⟨rfl, rfl, h⟩⟩
theorem not64 (n : Int) (h : In64 n) : bits .xor .i64 (-1) n = -1 - n := by
  obtain ⟨h0, h1⟩ := h
  show IntKind.i64.wrap ((BitVec.ofInt 64 (-1) ^^^ BitVec.ofInt 64 n).toNat : Int) = _
  have e1 : BitVec.ofInt 64 (-1) = BitVec.allOnes 64 := by decide
  rw [e1, BitVec.allOnes_xor, BitVec.toNat_not, BitVec.toNat_ofInt, IntKind.wrap_i64]
  omega
/-- What has no sign. -/
def mag (n : Int) : Int := if n < 0 then -n else n
theorem mag_pos {n : Int} (h : 0 ≤ n) : mag n = n := if_neg (by omega)
theorem mag_neg {n : Int} (h : n < 0) : mag n = -n := if_pos h
theorem mag_word {n : Int} (h : In64 n) : Word (mag n) := by obtain ⟨h0, h1⟩ := h; unfold mag; split <;> exact ⟨by omega, by omega⟩
theorem len63 (r : Int) (h : Two r) : (r < 9223372036854775808 → len2 r ≤ 63) ∧ (9223372036854775808 ≤ r → 63 < len2 r) := by
  obtain ⟨L, hL, hL1, hL2, hL3, hL4⟩ := len2_spec r h
  rw [hL]
  have h0 := h.1
  constructor
  · intro hr
    by_cases hr0 : r = 0
    · rw [hL4 hr0]; decide
    · obtain ⟨k1, k2⟩ := hL3 hr0
      rcases Nat.lt_or_ge 63 L with hb | hb
      · exfalso
        have k3 : (2 : Int) ^ 63 ≤ 2 ^ (L - 1) := by exact_mod_cast Nat.pow_le_pow_right (by decide) (by omega)
        have k4 : r / 2 ^ (L - 1) = 0 := Int.ediv_eq_zero_of_lt h0 (by have : (2 : Int) ^ 63 = 9223372036854775808 := by decide
                                                                       omega)
        omega
      · omega
  · intro hr
    rcases Nat.lt_or_ge 63 L with hb | hb
    · omega
    · exfalso
      have k3 : (2 : Int) ^ L ≤ 2 ^ 63 := by exact_mod_cast Nat.pow_le_pow_right (by decide) hb
      have k5 : (2 : Int) ^ 63 = 9223372036854775808 := by decide
      have k4 := Int.mul_ediv_add_emod r (2 ^ L)
      rw [hL2] at k4
      have k6 := Int.emod_lt_of_pos r (pow_pos' L)
      omega
/-! ### The document's answers -/
end Go.Proofs.Yteljjjdejjkgfaa
namespace Go.Proofs.Yteljjjdejjkgfaa
open Go.RowKit Go.Shelf
theorem mag_mul (a b : Int) : mag a * mag b = (if (decide (a < 0) == decide (b < 0)) = true then a * b else -(a * b)) := by
  by_cases ha : a < 0 <;> by_cases hb : b < 0
  · rw [mag_neg ha, mag_neg hb, Int.neg_mul_neg]; simp [ha, hb]
  · rw [mag_neg ha, mag_pos (by omega)]; simp [ha, hb, Int.neg_mul]
  · rw [mag_pos (by omega), mag_neg hb]; simp [ha, hb, Int.mul_neg]
  · rw [mag_pos (by omega), mag_pos (by omega)]; simp [ha, hb]
theorem sgn_same {a b : Int} (h : (decide (a < 0) == decide (b < 0)) = true) : (if b < 0 then (1 : Int) else 0) = if a < 0 then 1 else 0 := by
  by_cases h1 : a < 0 <;> by_cases h2 : b < 0 <;> simp [h1, h2] at h ⊢
theorem sgn_other {a b : Int} (h : ¬ (decide (a < 0) == decide (b < 0)) = true) : ((if a < 0 then (1 : Int) else 0) == if b < 0 then 1 else 0) = false := by
  by_cases h1 : a < 0 <;> by_cases h2 : b < 0 <;> simp [h1, h2] at h ⊢
end Go.Proofs.Yteljjjdejjkgfaa
namespace Go.Proofs.Yteljjjdejjkgfaa
open Go.RowKit Go.Shelf
def upV (p g : Int) : Int := if p % g = 0 then p else p + (g - p % g)
def nay : Value := .tuple #[.int .i64 0, .bool false]
def upT (p g : Int) : Value := if p < 0 ∨ g < 1 then nay else fitT (upV p g)
def downV (p g : Int) : Int := if p < 0 ∨ g < 1 then 0 else p - p % g
def mdV (a b d : Int) (up : Bool) : Int := a * b / d + if up = true ∧ a * b % d ≠ 0 then 1 else 0
def mdT (a b d : Int) (up : Bool) : Value := if a < 0 ∨ b < 0 ∨ d < 1 then nay else fitT (mdV a b d up)
theorem fdown_any (p g : Int) (hp : In64 p) (hg : In64 g) (w : World) :
    Calls Try.prog 34 #[.int .i64 p, .int .i64 g] w fun e w' => e = .returned (.int .i64 (downV p g)) ∧ Below w.heap.size w w' := by
  unfold downV
  obtain ⟨p0, p1⟩ := hp
  obtain ⟨g0, g1⟩ := hg
  by_cases h : p < 0 ∨ g < 1
  · rw [if_pos h]
    go_enter Try.func34, Try.ntmps34
    go_wp2
    all_goals first | (exfalso; omega) | go_ret
    all_goals exact ⟨rfl, Below.refl _ _⟩
  · rw [if_neg h]
    have h1 : 0 ≤ p := by omega
    have h2 : 1 ≤ g := by omega
    have m0 := Int.emod_nonneg p (show g ≠ 0 by omega)
    have m1 := Int.emod_lt_of_pos p (show 0 < g by omega)
    have e0 : (g == 0) = false := by simp; omega
    clear h
    go_enter Try.func34, Try.ntmps34
    go_wp2
    all_goals first | (exfalso; omega) | go_ret
    all_goals exact ⟨rfl, Below.refl _ _⟩
theorem rdown_any (p g : Int) (hp : In64 p) (hg : In64 g) (w : World) :
    Calls Try.prog 41 #[.int .i64 p, .int .i64 g] w fun e w' => e = .returned (.int .i64 (downV p g)) ∧ Below w.heap.size w w' := by
  unfold downV
  obtain ⟨p0, p1⟩ := hp
  obtain ⟨g0, g1⟩ := hg
  by_cases h : p < 0 ∨ g < 1
  · rw [if_pos h]
    go_enter Try.func41, Try.ntmps41
    go_wp2
    all_goals first | (exfalso; omega) | go_ret
    all_goals exact ⟨rfl, Below.refl _ _⟩
  · rw [if_neg h]
    have h1 : 0 ≤ p := by omega
    have h2 : 1 ≤ g := by omega
    have m0 := Int.emod_nonneg p (show g ≠ 0 by omega)
    have m1 := Int.emod_lt_of_pos p (show 0 < g by omega)
    have e0 : (g == 0) = false := by simp; omega
    clear h
    go_enter Try.func41, Try.ntmps41
    go_wp2
    all_goals first | (exfalso; omega) | go_ret
    all_goals exact ⟨rfl, Below.refl _ _⟩
end Go.Proofs.Yteljjjdejjkgfaa
namespace Go.Proofs.Yteljjjdejjkgfaa
open Go.RowKit Go.Shelf
def bandV (r b g : Int) : Bool := decide (1 ≤ r ∧ r ≤ 1099511627776 ∧ 0 ≤ b ∧ b ≤ 9999 ∧ 1 ≤ g ∧ g ≤ 1099511627776)
end Go.Proofs.Yteljjjdejjkgfaa
