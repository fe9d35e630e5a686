/-
  Any product of two numbers of 64 bits: the statement's function, for every input.
-/
import Derived.Test.YtdenijkcjgjpkaaRefMul
import Derived.Test.YtdenijkcjgjpkaaRefIs
import Derived.Test.YtdenijkcjgjpkaaAlive
namespace Go.Proofs.Ytdenijkcjgjpkaa
open Go.RowKit
set_option maxRecDepth 100000 in
set_option maxHeartbeats 1000000 in
theorem muls_road (a b h l : Int) (X : Nat → Bool) (w : World)
    (cM : ∀ W, Calls Try.prog 10 #[.int .u64 a, .int .u64 b] W fun e w' => e = .returned (.agg #[.int .u64 h, .int .u64 l]) ∧ Below W.heap.size W w')
    (cR : ∀ W, Calls Try.prog 11 #[.int .u64 a, .int .u64 b] W fun e w' => e = .returned (.agg (arr X)) ∧ Below W.heap.size W w')
    (cI : ∀ W, Calls Try.prog 9 #[.agg #[.int .u64 h, .int .u64 l], .agg (arr X)] W fun e w' => e = .returned (.bool true) ∧ Below W.heap.size W w') :
    Calls Try.prog 3 #[.int .u64 a, .int .u64 b] w fun e w' => e = .returned (.bool true) ∧ Below w.heap.size w w' := by
  have m0 := Mem.start w
  go_enter Try.func3, Try.ntmps3
  go_wp2_with (first
    | (go_at_call 10; (with_reducible refine (cM _).mono ?_); rintro e w2 ⟨rfl, hb1⟩; have m1 := m0.keep hb1)
    | (go_at_call 11; (with_reducible refine (cR _).mono ?_); rintro e w3 ⟨rfl, hb2⟩; have m2 := m1.keep hb2)
    | (go_at_call 9; (with_reducible refine (cI _).mono ?_); rintro e w4 ⟨rfl, hb3⟩; have m3 := m2.keep hb3)
    | (go_at_call 12; (with_reducible refine (alive_any _).mono ?_); rintro e w5 ⟨rfl, hb4⟩; have m4 := m3.keep hb4))
  go_ret
  exact ⟨rfl, m4.below⟩
theorem muls_any (a b : Int) (ha : Word a) (hb : Word b) (w : World) :
    Calls Try.prog 3 #[.int .u64 a, .int .u64 b] w fun e w' => e = .returned (.bool true) ∧ Below w.heap.size w w' := by
  have hv : a * b = ((BitVec.ofNat 128 (a.toNat * b.toNat)).toNat : Int) := by
    obtain ⟨a0, a1⟩ := ha
    obtain ⟨b0, b1⟩ := hb
    obtain ⟨A, rfl⟩ := Int.eq_ofNat_of_zero_le a0
    obtain ⟨B, rfl⟩ := Int.eq_ofNat_of_zero_le b0
    have h1 : A * B < 2 ^ 128 := by
      have h2 : A * B ≤ 18446744073709551615 * 18446744073709551615 := Nat.mul_le_mul (by omega) (by omega)
      omega
    rw [BitVec.toNat_ofNat, Int.toNat_natCast, Int.toNat_natCast, Nat.mod_eq_of_lt h1]
    simp
  exact muls_road a b _ _ _ w (mul_any a b ha hb) (rmul_any a b ha hb) (is_any (a * b) _ hv)
end Go.Proofs.Ytdenijkcjgjpkaa
