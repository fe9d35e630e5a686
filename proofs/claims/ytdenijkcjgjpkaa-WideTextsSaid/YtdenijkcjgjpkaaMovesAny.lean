/-
  Any number moved by any number of bits, and how many bits it has: the statement's function, for every input.
-/
import Derived.Test.YtdenijkcjgjpkaaMoves
namespace Go.Proofs.Ytdenijkcjgjpkaa
open Go.RowKit
/-- The bits of a number of two words. -/
def num (r : Int) : BitVec 128 := BitVec.ofInt 128 r
theorem num_toNat {r : Int} (h : Two r) : (num r).toNat = r.toNat := by
  obtain ⟨h0, h1⟩ := h
  unfold num
  rw [BitVec.toNat_ofInt, Int.emod_eq_of_lt h0 (by simpa using h1)]
theorem num_cast {r : Int} (h : Two r) : r = ((num r).toNat : Int) := by rw [num_toNat h]; have := h.1; omega
theorem shl_num {r : Int} (h : Two r) (n : Int) : shl r n = ((shlB (num r) n).toNat : Int) := by
  unfold shl shlB
  split
  · exact num_cast h
  · rw [BitVec.toNat_shiftLeft, Nat.shiftLeft_eq, num_toNat h]
    obtain ⟨R, rfl⟩ := Int.eq_ofNat_of_zero_le h.1
    simp
theorem shr_num {r : Int} (h : Two r) (n : Int) : shr r n = ((shrB (num r) n).toNat : Int) := by
  unfold shr shrB
  split
  · exact num_cast h
  · rw [BitVec.toNat_ushiftRight, Nat.shiftRight_eq_div_pow, num_toNat h]
    obtain ⟨R, rfl⟩ := Int.eq_ofNat_of_zero_le h.1
    simp
theorem lenB_spec (x : BitVec 128) : ∀ k, x.toNat % 2 ^ k < 2 ^ lenB x k ∧ (lenB x k ≠ 0 → x.toNat.testBit (lenB x k - 1) = true) ∧ lenB x k ≤ k := by
  intro k
  induction k with
  | zero => simp [lenB, Nat.mod_one]
  | succ k ih =>
    have e := mod_step x.toNat k
    have hb : x.toNat.testBit k = x.getLsbD k := rfl
    rw [lenB]
    by_cases h : x.getLsbD k = true
    · rw [if_pos h]
      exact ⟨Nat.mod_lt _ (Nat.pow_pos (by decide)), fun _ => (by rw [Nat.add_sub_cancel, hb]; exact h), Nat.le_refl _⟩
    · rw [if_neg h]
      rw [hb, if_neg h, Nat.add_zero] at e
      rw [e]
      exact ⟨ih.1, ih.2.1, by omega⟩
theorem len_num {r : Int} (h : Two r) : len2 r = ((lenB (num r) 128 : Nat) : Int) := by
  obtain ⟨L, e, hL, h0, h1, h2⟩ := len2_spec r h
  obtain ⟨l1, l2, -⟩ := lenB_spec (num r) 128
  rw [e]
  have hx := num_toNat h
  have hlt := (num r).isLt
  rw [Nat.mod_eq_of_lt hlt] at l1
  generalize lenB (num r) 128 = l at *
  rw [hx] at l1 l2 hlt
  obtain ⟨R, rfl⟩ := Int.eq_ofNat_of_zero_le h.1
  rw [Int.toNat_natCast] at l1 l2 hlt
  have c0 : ∀ k : Nat, (R : Int) / 2 ^ k = ((R / 2 ^ k : Nat) : Int) := fun k => by simp
  rw [c0] at h0 h1
  have h0' : R / 2 ^ L = 0 := by omega
  have hRL : R < 2 ^ L := by
    rcases Nat.div_eq_zero_iff.1 h0' with h3 | h3
    · exact absurd h3 (Nat.ne_of_gt (Nat.pow_pos (by decide)))
    · exact h3
  have : ¬ L < l := fun hc => by
    have hb := l2 (by omega)
    have hge := Nat.ge_two_pow_of_testBit hb
    have : 2 ^ L ≤ 2 ^ (l - 1) := Nat.pow_le_pow_right (by decide) (by omega)
    omega
  have : ¬ l < L := fun hc => by
    have hne : R ≠ 0 := fun e0 => by have := h2 (by omega); omega
    have h3 := (h1 (by omega)).2
    have h4 : 1 ≤ R / 2 ^ (L - 1) := by omega
    rw [Nat.le_div_iff_mul_le (Nat.pow_pos (by decide))] at h4
    have : 2 ^ l ≤ 2 ^ (L - 1) := Nat.pow_le_pow_right (by decide) (by omega)
    omega
  have : L = l := by omega
  rw [this]
theorem moves_any (a b n : Int) (ha : Word a) (hb : Word b) (hn : n < 9223372036854775808) (w : World) :
    Calls Try.prog 5 #[.int .u64 a, .int .u64 b, .int .i64 n] w fun e w' => e = .returned (.bool true) ∧ Below w.heap.size w w' := by
  have hr : Two (a * 18446744073709551616 + b) := two_mk ha hb
  have cL := left_any _ n hr hn
  have cR := right_any _ n hr hn
  have cN := len_any _ hr
  rw [len_num hr] at cN
  rw [hi_mk hb, lo_mk hb] at cL cR cN
  exact moves_road a b n _ _ _ _ _ _ _ _ (of_any a b ha hb) cL (rleft_any (num _) n hn) (is_any _ _ (shl_num hr n)) cR (rright_any (num _) n hn) (is_any _ _ (shr_num hr n)) cN (rlen_any (num _)) w
theorem lt_of_wf {x : Int} (h : (Lit.int .i64 x).wf = true) : x < 9223372036854775808 := by
  simp [Lit.wf, IntKind.min, IntKind.max, IntKind.signed, IntKind.bits] at h
  omega
end Go.Proofs.Ytdenijkcjgjpkaa
