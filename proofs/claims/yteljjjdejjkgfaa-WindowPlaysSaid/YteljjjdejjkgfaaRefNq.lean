/-
  The document's answers over bits, said of plain numbers: Of, Add, Halves, Mul and Len.
-/
import Derived.Test.YteljjjdejjkgfaaGD
import Derived.Test.YteljjjdejjkgfaaGC
import Derived.Test.YteljjjdejjkgfaaRefLenq
namespace Go.Proofs.Yteljjjdejjkgfaa
open Go.RowKit
theorem ofN (n : Int) (h : Word n) (w : World) :
    Calls Try.prog 49 #[.int .u64 0, .int .u64 n] w fun e w' => e = .returned (.agg (arr (nb n.toNat))) ∧ Below w.heap.size w w' := by
  have := of_any 0 n ⟨by decide, by decide⟩ h w
  rw [Int.zero_mul, Int.zero_add] at this
  obtain ⟨N, rfl⟩ := Int.eq_ofNat_of_zero_le h.1
  rw [BitVec.ofInt_natCast] at this
  exact this
theorem addN (m n : Nat) : ∃ p : Bool, ∀ w, Calls Try.prog 37 #[.agg (arr (nb m)), .agg (arr (nb n))] w fun e w' => e = .returned (.tuple #[.agg (arr (nb (m + n))), .bool p]) ∧ Below w.heap.size w w' := by
  refine ⟨!BitVec.carry 128 (BitVec.ofNat 128 m) (BitVec.ofNat 128 n) false, fun w => ?_⟩
  have := radd_any (BitVec.ofNat 128 m) (BitVec.ofNat 128 n) w
  rw [← BitVec.ofNat_add] at this
  exact this
theorem halvesN (n : Nat) (h : n < 340282366920938463463374607431768211456) (w : World) :
    Calls Try.prog 40 #[.agg (arr (nb n))] w fun e w' => e = .returned (.tuple #[.int .u64 (n / 18446744073709551616 : Nat), .int .u64 (n % 18446744073709551616 : Nat)]) ∧ Below w.heap.size w w' := by
  have := halves_any (BitVec.ofNat 128 n) w
  rw [BitVec.toNat_ofNat, Nat.mod_eq_of_lt h] at this
  exact this
theorem mulN (a b : Int) (ha : Word a) (hb : Word b) (w : World) :
    Calls Try.prog 38 #[.int .u64 a, .int .u64 b] w fun e w' => e = .returned (.agg (arr (nb (a.toNat * b.toNat)))) ∧ Below w.heap.size w w' := rmul_any a b ha hb w
end Go.Proofs.Yteljjjdejjkgfaa
