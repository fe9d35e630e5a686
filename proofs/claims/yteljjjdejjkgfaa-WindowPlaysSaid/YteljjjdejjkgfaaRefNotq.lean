/-
  The contracts of the document's answers not and Len of bits.
-/
import Derived.Test.YteljjjdejjkgfaaGC
namespace Go.Proofs.Yteljjjdejjkgfaa
open Go.RowKit
set_option maxRecDepth 100000 in
set_option maxHeartbeats 1000000 in
theorem rnot_any (x : BitVec 128) (w : World) :
    Calls Try.prog 56 #[.agg (bv x)] w fun e w' => e = .returned (.agg (bv (~~~x))) ∧ Below w.heap.size w w' := by
  have zv := zero28
  unfold bv
  go_enter Try.func56, Try.ntmps56
  go_wp2
  go_loopg [3] 128 (fun n s3 wr => ∃ (k : Nat) (f : Nat → Bool), n + k = 128 ∧ s3 = .int .i64 k ∧ (∀ i, f i = if i < k then !x.getLsbD i else x.getLsbD i) ∧
    Blk wr w.heap.size 70 (arr f) ∧ Blk wr (w.heap.size + 1) 70 (arr fun _ => false) ∧ Below w.heap.size w wr)
  case atStart => exact ⟨0, fun i => x.getLsbD i, rfl, rfl, by simp, (Blk.new' rfl).alloc _, Blk.new' (by simp), ((Below.refl _ _).alloc (Nat.le_refl _) _).alloc (by simp) _⟩
  case round =>
    obtain ⟨k, f, hn, rfl, hf, hd, hres, hbl⟩ := hrel
    by_cases hk : k < 128
    · have Hn := Lib.hid hn
      have Hf := Lib.hid hf
      clear hn hf
      have d0 := hd.bit k hk
      have d2 := hd.free k
      go_wp2
      go_roundg (gk - 1)
      case measure => (have := Hn.out; omega)
      case rel =>
        refine ⟨k + 1, _, by have := Hn.out; omega, by go_num, ?_, hd.putBit _ _, hres.other (by simp) _, hbl.setCell (by simp) _⟩
        intro i
        by_cases h1 : i = k
        · subst h1; simp [Hf.out]
        · rw [if_neg h1, Hf.out]
          by_cases h2 : i < k
          · rw [if_pos h2, if_pos (by omega)]
          · rw [if_neg h2, if_neg (by omega)]
    · have hk64 : k = 128 := by omega
      subst hk64
      have Hf := Lib.hid hf
      clear hf hn
      go_wp2_with (first
        | (refine ld28 rfl _ rfl w.heap.size rfl f hd ?_)
        | (refine st28 rfl _ _ rfl (w.heap.size + 1) f (fun _ => false) rfl rfl hres ?_))
      refine bodyPost_ret (v := .agg (arr f)) ?_ rfl ⟨?_, below_setRow hbl (by omega) _⟩
      · exact results_cell_row rfl _ _ _ _ _ _ _ rfl (hres.setRow _) under28 rfl (by rw [arr_size]; exact size28)
      · rw [arr_congr (g := fun i => (~~~x).getLsbD i) (fun i hi => by rw [Hf.out, if_pos hi, BitVec.getLsbD_not]; simp [hi])]
/-- How many bits a number has. -/
def lenB (x : BitVec 128) : Nat → Nat
  | 0 => 0
  | k + 1 => if x.getLsbD k then k + 1 else lenB x k
end Go.Proofs.Yteljjjdejjkgfaa
