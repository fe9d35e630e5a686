/-
  The contract of the document's answer Halves: a number's two words.
-/
import Derived.Test.YthlpnlmjpdcbiaaRefOf
namespace Go.Proofs.Ythlpnlmjpdcbiaa
open Go.RowKit
theorem or_pow (L k : Nat) (hL : L < 2 ^ k) (hk : k < 64) : bits .or .u64 (L : Int) (IntKind.u64.wrap ((2 : Int) ^ k)) = ((L + 2 ^ k : Nat) : Int) := by
  have hp : 2 ^ k ≤ 2 ^ 63 := Nat.pow_le_pow_right (by decide) (by omega)
  have e : IntKind.u64.wrap ((2 : Int) ^ k) = ((2 ^ k : Nat) : Int) := by
    rw [IntKind.wrap_u64, show (2 : Int) ^ k = ((2 ^ k : Nat) : Int) by simp]; omega
  rw [e, bits_or_u64_nat _ _ (by omega) (by omega), Nat.or_comm]
  have := Nat.two_pow_add_eq_or_of_lt hL 1
  rw [Nat.mul_one] at this
  rw [← this, Nat.add_comm]
theorem mod_step (X k : Nat) : X % 2 ^ (k + 1) = X % 2 ^ k + if X.testBit k then 2 ^ k else 0 := by
  rw [Nat.pow_succ, Nat.mod_mul, Nat.testBit_eq_decide_div_mod_eq]
  have : X / 2 ^ k % 2 < 2 := Nat.mod_lt _ (by decide)
  by_cases h : X / 2 ^ k % 2 = 1
  · simp [h]
  · have h0 : X / 2 ^ k % 2 = 0 := by omega
    simp [h0]
set_option maxRecDepth 100000 in
set_option maxHeartbeats 1000000 in
theorem halves_any (x : BitVec 128) (w : World) :
    Calls Try.prog 44 #[.agg (bv x)] w fun e w' =>
      e = .returned (.tuple #[.int .u64 (x.toNat / 18446744073709551616 : Nat), .int .u64 (x.toNat % 18446744073709551616 : Nat)]) ∧ Below w.heap.size w w' := by
  unfold bv
  go_enter Try.func44, Try.ntmps44
  go_wp2
  go_loopg [4, 5, 6] 64 (fun n s4 s5 s6 wr => ∃ (k h l : Nat), n + k = 64 ∧ s6 = .int .i64 k ∧ s4 = .int .u64 h ∧ s5 = .int .u64 l ∧ h = x.toNat / 18446744073709551616 % 2 ^ k ∧ l = x.toNat % 2 ^ k ∧
    Blk wr w.heap.size 87 (arr fun i => x.getLsbD i) ∧ Below w.heap.size w wr)
  case atStart => exact ⟨0, 0, 0, rfl, rfl, rfl, rfl, by simp [Nat.mod_one], by simp [Nat.mod_one], Blk.new' rfl, (Below.refl _ _).alloc (Nat.le_refl _) _⟩
  case round =>
    obtain ⟨k, h, l, hn, rfl, rfl, rfl, hh, hl, hd, hbl⟩ := hrel
    by_cases hk : k < 64
    · have hp : 2 ^ k ≤ 2 ^ 63 := Nat.pow_le_pow_right (by decide) (by omega)
      have d0 := hd.bit k (by omega)
      have d1 := hd.bit (k + 64) (by omega)
      have sh := mod_step (x.toNat / 18446744073709551616) k
      have sl := mod_step x.toNat k
      have eh : (x.toNat / 18446744073709551616).testBit k = x.getLsbD (k + 64) := by
        rw [BitVec.getLsbD, show (18446744073709551616 : Nat) = 2 ^ 64 by rfl, Nat.testBit_div_two_pow, Nat.add_comm]
      have el : x.toNat.testBit k = x.getLsbD k := rfl
      rw [eh, ← hh] at sh
      rw [el, ← hl] at sl
      have oh := or_pow h k (by rw [hh]; exact Nat.mod_lt _ (Nat.pow_pos (by decide))) hk
      have ol := or_pow l k (by rw [hl]; exact Nat.mod_lt _ (Nat.pow_pos (by decide))) hk
      have Hn := Lib.hid hn
      have Hh := Lib.hid sh
      have Hl := Lib.hid sl
      clear hn hh hl sh sl eh el hp
      go_wp2
      all_goals
        go_roundg (gk - 1)
        case measure => (have := Hn.out; omega)
        case rel =>
          refine ⟨k + 1, x.toNat / 18446744073709551616 % 2 ^ (k + 1), x.toNat % 2 ^ (k + 1), by have := Hn.out; omega, by go_num, ?_, ?_, rfl, rfl, hd, hbl⟩
          · first
              | (rw [Hh.out, if_pos (by assumption)]; simp; done)
              | rw [Hh.out, if_neg (by simp [*]), Nat.add_zero]
          · first
              | (rw [Hl.out, if_pos (by assumption)]; simp; done)
              | rw [Hl.out, if_neg (by simp [*]), Nat.add_zero]
    · have hk64 : k = 64 := by omega
      subst hk64
      have Hh := Lib.hid hh
      have Hl := Lib.hid hl
      clear hn hh hl
      go_wp2
      go_ret2
      refine ⟨?_, hbl⟩
      have hx := x.isLt
      rw [Hh.out, Hl.out]
      rw [Nat.mod_eq_of_lt (show x.toNat / 18446744073709551616 < 2 ^ 64 by omega)]
      rfl
end Go.Proofs.Ythlpnlmjpdcbiaa
