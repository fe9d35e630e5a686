/-
  The contracts of the document's answers Of and Halves: a number's 128 bits, and back.
-/
import Derived.Test.YthlpnlmjpdcbiaaArr
import Derived.Outline
import Derived.Lib.Hide
import Derived.Deep.LoopGhost
import Derived.Deep.DeepMust
namespace Go.Proofs.Ythlpnlmjpdcbiaa
open Go.RowKit
set_option maxRecDepth 100000 in
set_option maxHeartbeats 1000000 in
theorem of_any (a b : Int) (ha : Word a) (hb : Word b) (w : World) :
    Calls Try.prog 51 #[.int .u64 a, .int .u64 b] w fun e w' =>
      e = .returned (.agg (bv (BitVec.ofInt 128 (a * 18446744073709551616 + b)))) ∧ Below w.heap.size w w' := by
  have zv := zero28
  go_enter Try.func51, Try.ntmps51
  go_wp2
  go_loopg [6] 64 (fun n s6 wr => ∃ (k : Nat) (f : Nat → Bool), n + k = 64 ∧ s6 = .int .i64 k ∧ (∀ i, f i = ((decide (i < k) && b.toNat.testBit i) || (decide (64 ≤ i ∧ i < 64 + k) && a.toNat.testBit (i - 64)))) ∧
    Blk wr w.heap.size 87 (arr fun _ => false) ∧ Blk wr (w.heap.size + 1) 87 (arr f) ∧ Below w.heap.size w wr)
  case atStart => exact ⟨0, fun _ => false, rfl, rfl, by intro i; simp; omega, (Blk.new' rfl).alloc _, Blk.new' (by simp), ((Below.refl _ _).alloc (Nat.le_refl _) _).alloc (by simp) _⟩
  case round =>
    obtain ⟨k, f, hn, rfl, hf, hres, hd, hbl⟩ := hrel
    by_cases hk : k < 64
    · have Hf := Lib.hid hf
      have Hn := Lib.hid hn
      clear hf hn
      have d0 := hd.bit k (by omega)
      have d1 := hd.bit (k + 64) (by omega)
      have d2 := hd.free k
      have d3 := hd.free (k + 64)
      go_wp2
      rw [bit_word b hb, bit_word a ha]
      go_roundg (gk - 1)
      case measure => (have := Hn.out; omega)
      case rel =>
        refine ⟨k + 1, _, by have := Hn.out; omega, by go_num, ?_, (hres.other (by simp) _).other (by simp) _, (hd.putBit _ _).putBit _ _, (hbl.setCell (by simp) _).setCell (by simp) _⟩
        intro i
        simp only [Hf.out]
        by_cases h1 : i = k + 64
        · subst h1; simp; omega
        · rw [if_neg h1]
          by_cases h2 : i = k
          · subst h2; simp; omega
          · rw [if_neg h2]
            have e1 : decide (i < k + 1) = decide (i < k) := by rw [decide_eq_decide]; omega
            have e2 : decide (64 ≤ i ∧ i < 64 + (k + 1)) = decide (64 ≤ i ∧ i < 64 + k) := by rw [decide_eq_decide]; omega
            rw [e1, e2]
    · have hk64 : k = 64 := by omega
      subst hk64
      have Hf := Lib.hid hf
      clear hf hn
      go_wp2_with (first
        | (refine ld28 rfl _ rfl (w.heap.size + 1) rfl f hd ?_)
        | (refine st28 rfl _ _ rfl w.heap.size f (fun _ => false) rfl rfl hres ?_))
      refine bodyPost_ret (v := .agg (arr f)) ?_ rfl ⟨?_, below_setRow hbl (Nat.le_refl _) _⟩
      · exact results_cell_row rfl _ _ _ _ _ _ _ rfl (hres.setRow _) under28 rfl (by rw [arr_size]; exact size28)
      · congr 2
        apply arr_congr
        intro i hi
        obtain ⟨a0, a1⟩ := ha
        obtain ⟨b0, b1⟩ := hb
        rw [Hf.out]
        obtain ⟨A, rfl⟩ := Int.eq_ofNat_of_zero_le a0
        obtain ⟨B, rfl⟩ := Int.eq_ofNat_of_zero_le b0
        have e : BitVec.ofInt 128 ((A : Int) * 18446744073709551616 + B) = BitVec.ofNat 128 (A * 18446744073709551616 + B) := by
          rw [← BitVec.ofInt_natCast]; simp
        rw [e, getLsbD_two A B i (by omega) hi]
        simp only [Int.toNat_natCast]
        by_cases h1 : i < 64
        · have h2 : ¬ 64 ≤ i := by omega
          simp [h1, h2]
        · have h2 : 64 ≤ i := by omega
          simp [h1, h2, hi]
end Go.Proofs.Ythlpnlmjpdcbiaa
