/-
  The sum and the difference of any two numbers, and which of them is above: the statement's function, for every input.
-/
import Derived.Test.YtdenijkcjgjpkaaSums
import Derived.Test.YtdenijkcjgjpkaaMovesAny
namespace Go.Proofs.Ytdenijkcjgjpkaa
open Go.RowKit
theorem cmp_cases (a b c d : Int) (X Y : Nat) (hb : Word b) (hd : Word d) (hx : a * 18446744073709551616 + b = X) (hy : c * 18446744073709551616 + d = Y) :
    (a = c ∧ b = d ∧ cmpN X Y = 0) ∨ (a < c ∧ cmpN X Y = -1) ∨ (a = c ∧ b < d ∧ cmpN X Y = -1) ∨ (a = c ∧ d < b ∧ cmpN X Y = 1) ∨ (c < a ∧ cmpN X Y = 1) := by
  obtain ⟨b0, b1⟩ := hb; obtain ⟨d0, d1⟩ := hd
  unfold cmpN
  by_cases h1 : X = Y
  · rw [if_pos h1]
    have e1 : a = c := by omega
    have e2 : b = d := by omega
    exact Or.inl ⟨e1, e2, rfl⟩
  · rw [if_neg h1]
    by_cases h2 : X < Y
    · rw [if_pos h2]
      by_cases h3 : a = c
      · exact Or.inr (Or.inr (Or.inl ⟨h3, by omega, rfl⟩))
      · exact Or.inr (Or.inl ⟨by omega, rfl⟩)
    · rw [if_neg h2]
      by_cases h3 : a = c
      · exact Or.inr (Or.inr (Or.inr (Or.inl ⟨h3, by omega, rfl⟩)))
      · exact Or.inr (Or.inr (Or.inr (Or.inr ⟨by omega, rfl⟩)))
set_option maxHeartbeats 2000000 in
theorem sums_any (a b c d : Int) (ha : Word a) (hb : Word b) (hc : Word c) (hd : Word d) (w : World) :
    Calls Try.prog 4 #[.int .u64 a, .int .u64 b, .int .u64 c, .int .u64 d] w fun e w' => e = .returned (.bool true) ∧ Below w.heap.size w w' := by
  have hr : Two (a * 18446744073709551616 + b) := two_mk ha hb
  have hs : Two (c * 18446744073709551616 + d) := two_mk hc hd
  have cW := add_any a b c d ha hb hc hd
  have cV := sub_any a b c d ha hb hc hd
  have cA := radd_any (num (a * 18446744073709551616 + b)) (num (c * 18446744073709551616 + d))
  have cZ := rsub_any (num (a * 18446744073709551616 + b)) (num (c * 18446744073709551616 + d))
  have i1 := is_any _ (num (a * 18446744073709551616 + b) + num (c * 18446744073709551616 + d)) rfl
  have i2 := is_any _ (num (a * 18446744073709551616 + b) - num (c * 18446744073709551616 + d)) rfl
  have cC := rcmp_any (num (a * 18446744073709551616 + b)) (num (c * 18446744073709551616 + d))
  have hx := num_cast hr
  have hy := num_cast hs
  have lx := (num (a * 18446744073709551616 + b)).isLt
  have ly := (num (c * 18446744073709551616 + d)).isLt
  have o1 := of_any a b ha hb
  have o2 := of_any c d hc hd
  change ∀ W, Calls Try.prog _ _ W fun e w' => e = .returned (.agg (bv (num (a * 18446744073709551616 + b)))) ∧ _ at o1
  change ∀ W, Calls Try.prog _ _ W fun e w' => e = .returned (.agg (bv (num (c * 18446744073709551616 + d)))) ∧ _ at o2
  generalize num (a * 18446744073709551616 + b) = x at *
  generalize num (c * 18446744073709551616 + d) = y at *
  obtain ⟨a0, a1⟩ := ha; obtain ⟨b0, b1⟩ := hb; obtain ⟨c0, c1⟩ := hc; obtain ⟨d0, d1⟩ := hd
  have e1 : (a + c + (b + d) / 18446744073709551616) % 18446744073709551616 = hi ((x + y).toNat : Int) := by rw [BitVec.toNat_add]; unfold hi; omega
  have e2 : (b + d) % 18446744073709551616 = lo ((x + y).toNat : Int) := by rw [BitVec.toNat_add]; unfold lo; omega
  have e3 : ((a + c + (b + d) / 18446744073709551616) / 18446744073709551616 == 0) = !BitVec.carry 128 x y false := by
    unfold BitVec.carry
    rw [Nat.mod_eq_of_lt lx, Nat.mod_eq_of_lt ly, Bool.eq_iff_iff]
    simp
    omega
  have e4 : (a - c - bor b d) % 18446744073709551616 = hi ((x - y).toNat : Int) := by rw [BitVec.toNat_sub]; unfold hi bor; split <;> omega
  have e5 : (b - d) % 18446744073709551616 = lo ((x - y).toNat : Int) := by rw [BitVec.toNat_sub]; unfold lo; omega
  have e6 : (bor a (c + bor b d) == 0) = decide (0 ≤ cmpN x.toNat y.toNat) := by
    unfold bor cmpN
    rw [Bool.eq_iff_iff]
    by_cases h1 : b < d
    · by_cases h2 : a < c + 1
      · simp [h1, h2]; omega
      · simp [h1, h2]; omega
    · by_cases h2 : a < c
      · simp [h1, h2]; omega
      · simp [h1, h2]; omega
  rw [e1, e2, e3] at cW
  rw [e4, e5, e6] at cV
  have hv := cmp_cases a b c d x.toNat y.toNat ⟨b0, b1⟩ ⟨d0, d1⟩ hx hy
  exact sums_road a b c d _ _ _ _ _ _ _ _ _ _ _ w o1 o2 cW cA cV cZ i1 i2 (fun W => cmp_words a b c d (cmpN x.toNat y.toNat) W hv) cC
end Go.Proofs.Ytdenijkcjgjpkaa
