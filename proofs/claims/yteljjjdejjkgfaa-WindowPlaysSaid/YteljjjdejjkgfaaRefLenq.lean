/-
  How many bits a number has, by the document's count.
-/
import Derived.Test.YteljjjdejjkgfaaRefNotq
import Derived.Test.YteljjjdejjkgfaaGC
namespace Go.Proofs.Yteljjjdejjkgfaa
open Go.RowKit
theorem lenB_spec (x : BitVec 128) : ∀ k, x.toNat % 2 ^ k < 2 ^ lenB x k ∧ (lenB x k ≠ 0 → x.toNat.testBit (lenB x k - 1) = true) ∧ lenB x k ≤ k := by
  intro k
  induction k with
  | zero => simp [lenB, Nat.mod_one]
  | succ k ih =>
    have e := mod_step x.toNat k
    have hb : x.toNat.testBit k = x.getLsbD k := rfl
    rw [lenB]
    by_cases h : x.getLsbD k = true
    · rw [if_pos h]
      exact ⟨Nat.mod_lt _ (Nat.pow_pos (by decide)), fun _ => (by rw [Nat.add_sub_cancel, hb]; exact h), Nat.le_refl _⟩
    · rw [if_neg h]
      rw [hb, if_neg h, Nat.add_zero] at e
      rw [e]
      exact ⟨ih.1, ih.2.1, by omega⟩
theorem len_zero (q : Nat) (hq : q < 340282366920938463463374607431768211456) : (q = 0 → lenB (BitVec.ofNat 128 q) 128 = 0) ∧ (q ≠ 0 → lenB (BitVec.ofNat 128 q) 128 ≠ 0) := by
  obtain ⟨l1, l2, -⟩ := lenB_spec (BitVec.ofNat 128 q) 128
  have e : (BitVec.ofNat 128 q).toNat = q := by rw [BitVec.toNat_ofNat]; exact Nat.mod_eq_of_lt hq
  rw [e, Nat.mod_eq_of_lt (show q < 2 ^ 128 by omega)] at l1
  rw [e] at l2
  constructor
  · intro h0
    subst h0
    by_cases h : lenB (BitVec.ofNat 128 0) 128 = 0
    · exact h
    · have := l2 h
      simp at this
  · intro h0 h
    rw [h] at l1
    omega
end Go.Proofs.Yteljjjdejjkgfaa
