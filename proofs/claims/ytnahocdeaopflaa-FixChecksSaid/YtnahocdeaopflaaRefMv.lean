/-
  The contracts of the document's answer Left of bits.
-/
import Derived.Test.YtnahocdeaopflaaRefOf
namespace Go.Proofs.Ytnahocdeaopflaa
open Go.RowKit
def shlB (x : BitVec 128) (n : Int) : BitVec 128 := if n < 0 then x else x <<< n.toNat
set_option maxRecDepth 100000 in
set_option maxHeartbeats 1000000 in
theorem rleft_any (x : BitVec 128) (n : Int) (hn2 : n < 9223372036854775808) (w : World) :
    Calls Try.prog 51 #[.agg (bv x), .int .i64 n] w fun e w' => e = .returned (.agg (bv (shlB x n))) ∧ Below w.heap.size w w' := by
  have zv := zero28
  unfold bv
  have HN := Lib.hid hn2
  clear hn2
  by_cases hneg : n < 0
  · have e : shlB x n = x := if_pos hneg
    rw [e]
    clear e
    have hx := (((Blk.new' (w := w) (t := 45) (cs := arr fun i => x.getLsbD i) rfl).alloc (.cells (arr fun _ => false) 45)).alloc (.cells (arr fun _ => false) 45))
    have hres := (Blk.new' (w := w.alloc (.cells (arr fun i => x.getLsbD i) 45)) (t := 45) (n := w.heap.size + 1) (cs := arr fun _ => false) (by simp)).alloc (.cells (arr fun _ => false) 45)
    go_enter Try.func51, Try.ntmps51
    go_wp2_with (first
        | (refine ld28 rfl _ rfl w.heap.size rfl (fun i => x.getLsbD i) hx ?_)
        | (refine st28 rfl _ _ rfl (w.heap.size + 1) (fun i => x.getLsbD i) (fun _ => false) rfl rfl hres ?_))
    refine bodyPost_ret (v := .agg (arr fun i => x.getLsbD i)) ?_ rfl ⟨rfl, below_setRow ((((Below.refl _ _).alloc (Nat.le_refl _) _).alloc (by simp) _).alloc (by simp; omega) _) (by omega) _⟩
    exact results_cell_row rfl _ _ _ _ _ _ _ rfl (hres.setRow _) under28 rfl (by rw [arr_size]; exact size28)
  · obtain ⟨m, hm⟩ : ∃ m : Nat, n = m := ⟨n.toNat, by omega⟩
    have e : shlB x n = x <<< m := by unfold shlB; rw [if_neg hneg, hm, Int.toNat_natCast]
    rw [e]
    clear e
    have Hm := Lib.hid hm
    have hn0 : 0 ≤ n := by omega
    clear hm
    go_enter Try.func51, Try.ntmps51
    go_wp2
    go_loopg [6] 128 (fun g s6 wr => ∃ (k : Nat) (f : Nat → Bool), g + k = 128 ∧ s6 = .int .i64 k ∧ (n < 128 ∨ k = 0) ∧ (∀ i, f i = (decide (i < k) && (decide (m ≤ i) && x.getLsbD (i - m)))) ∧
      Blk wr w.heap.size 45 (arr fun i => x.getLsbD i) ∧ Blk wr (w.heap.size + 1) 45 (arr fun _ => false) ∧ Blk wr (w.heap.size + 1 + 1) 45 (arr f) ∧ Below w.heap.size w wr)
    case atStart => exact ⟨0, fun _ => false, rfl, rfl, Or.inr rfl, by simp, ((Blk.new' rfl).alloc _).alloc _, (Blk.new' (by simp)).alloc _, Blk.new' (by simp), (((Below.refl _ _).alloc (Nat.le_refl _) _).alloc (by simp) _).alloc (by simp; omega) _⟩
    case round =>
      obtain ⟨k, f, hn, rfl, hor, hf, hx, hres, hd, hbl⟩ := hrel
      by_cases hk : k < 128 ∧ n < 128
      · obtain ⟨hk, hn128⟩ := hk
        have Hn := Lib.hid hn
        have Hf := Lib.hid hf
        have hkI : (k : Int) < 128 := by omega
        clear hn hf hor
        have d0 := hd.bit k hk
        have d2 := hd.free k
        by_cases hge : n ≤ (k : Int)
        · have hmk : m ≤ k := by have := Hm.out; omega
          have x0 := hx.bit (k - m) (by omega)
          have eI : ((k : Int) - n).toNat = k - m := by have := Hm.out; omega
          have eI0 : (0 : Int) ≤ (k : Int) - n := by omega
          have eI1 : (k : Int) - n < 128 := by omega
          generalize hv : x.getLsbD (k - m) = v at x0
          have Hv := Lib.hid hv
          clear hv
          rw [← eI] at x0
          clear eI
          go_wp2
          go_roundg (gk - 1)
          case measure => (have := Hn.out; omega)
          case rel =>
            refine ⟨k + 1, _, by have := Hn.out; omega, by go_num, Or.inl hn128, ?_, hx.other (by simp; omega) _, hres.other (by simp) _, hd.putBit _ _, hbl.setCell (by simp; omega) _⟩
            intro i
            by_cases h1 : i = k
            · subst h1; rw [if_pos rfl, decide_eq_true (show i < i + 1 by omega), decide_eq_true hmk, Bool.true_and, Bool.true_and]; exact Hv.out.symm
            · rw [if_neg h1, Hf.out, show decide (i < k + 1) = decide (i < k) by rw [decide_eq_decide]; omega]
        · have hmk : k < m := by have := Hm.out; omega
          go_wp2
          go_roundg (gk - 1)
          case measure => (have := Hn.out; omega)
          case rel =>
            refine ⟨k + 1, f, by have := Hn.out; omega, by go_num, Or.inl hn128, ?_, hx, hres, hd, hbl⟩
            intro i
            rw [Hf.out]
            by_cases h1 : i = k
            · subst h1
              have : ¬ m ≤ i := by omega
              simp [this]
            · rw [show decide (i < k + 1) = decide (i < k) by rw [decide_eq_decide]; omega]
      · have Hf := Lib.hid hf
        have hfin : ∀ i, i < 128 → f i = (x <<< m).getLsbD i := by
          intro i hi
          rw [hf i, BitVec.getLsbD_shiftLeft]
          by_cases hc : n < 128
          · have hk2 : k = 128 := by omega
            have e2 : (!decide (i < m)) = decide (m ≤ i) := by
              by_cases h3 : i < m
              · have : ¬ m ≤ i := by omega
                simp [h3, this]
              · have : m ≤ i := by omega
                simp [h3, this]
            rw [hk2, e2]; simp [hi]
          · have hm1 : i < m := by have := Hm.out; omega
            have : ¬ m ≤ i := by omega
            simp [hm1, this]
        have Hfin := Lib.hid hfin
        have hdec : (k : Int) < 128 ∧ 128 ≤ n ∨ 128 ≤ (k : Int) := by omega
        clear hf hn hor hfin hk
        rcases hdec with ⟨h1, h2⟩ | h1
        all_goals
          go_wp2_with (first
            | (refine ld28 rfl _ rfl (w.heap.size + 1 + 1) rfl f hd ?_)
            | (refine st28 rfl _ _ rfl (w.heap.size + 1) f (fun _ => false) rfl rfl hres ?_))
          refine bodyPost_ret (v := .agg (arr f)) ?_ rfl ⟨?_, below_setRow hbl (by omega) _⟩
          · exact results_cell_row rfl _ _ _ _ _ _ _ rfl (hres.setRow _) under28 rfl (by rw [arr_size]; exact size28)
          · rw [arr_congr (g := fun i => (x <<< m).getLsbD i) Hfin.out] <;> simp
end Go.Proofs.Ytnahocdeaopflaa
