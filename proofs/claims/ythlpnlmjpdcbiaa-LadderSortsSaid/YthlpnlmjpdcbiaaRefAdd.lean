/-
  The contract of the document's answer Add: the sum of two numbers of 128 bits, bit by bit.
-/
import Derived.Test.YthlpnlmjpdcbiaaRefOf
namespace Go.Proofs.Ythlpnlmjpdcbiaa
open Go.RowKit
set_option maxRecDepth 100000 in
set_option maxHeartbeats 4000000 in
theorem radd_any (x y : BitVec 128) (w : World) :
    Calls Try.prog 50 #[.agg (bv x), .agg (bv y)] w fun e w' =>
      e = .returned (.tuple #[.agg (bv (x + y)), .bool (!BitVec.carry 128 x y false)]) ∧ Below w.heap.size w w' := by
  have zv := zero28
  unfold bv
  go_enter Try.func50, Try.ntmps50
  go_wp2
  go_loopg [7, 8] 128 (fun n s7 s8 wr => ∃ (k : Nat) (f : Nat → Bool) (c : Bool), n + k = 128 ∧ s8 = .int .i64 k ∧ s7 = .bool c ∧ c = BitVec.carry k x y false ∧ (∀ i, i < 128 → f i = (decide (i < k) && (x + y).getLsbD i)) ∧
    Blk wr w.heap.size 87 (arr fun i => x.getLsbD i) ∧ Blk wr (w.heap.size + 1) 87 (arr fun i => y.getLsbD i) ∧
    Blk wr (w.heap.size + 1 + 1) 87 (arr fun _ => false) ∧ Blk wr (w.heap.size + 1 + 1 + 1) 87 (arr f) ∧ Below w.heap.size w wr)
  case atStart =>
    exact ⟨0, fun _ => false, false, rfl, rfl, rfl, by simp [BitVec.carry, Nat.mod_one], by simp, (((Blk.new' rfl).alloc _).alloc _).alloc _, ((Blk.new' (by simp)).alloc _).alloc _, (Blk.new' (by simp)).alloc _, Blk.new' (by simp),
      ((((Below.refl _ _).alloc (Nat.le_refl _) _).alloc (by simp) _).alloc (by simp; omega) _).alloc (by simp; omega) _⟩
  case round =>
    obtain ⟨k, f, c, hn, rfl, rfl, hc, hf, hx, hy, hres, hd, hbl⟩ := hrel
    by_cases hk : k < 128
    · have Hf := Lib.hid hf
      have Hn := Lib.hid hn
      have hsum := BitVec.getLsbD_add hk x y
      have hcar := BitVec.carry_succ k x y false
      clear hf hn
      have x0 := hx.bit k hk
      have y0 := hy.bit k hk
      have d0 := hd.bit k hk
      have d2 := hd.free k
      rw [← hc] at hsum hcar
      have nx : ∀ v c', (x + y).getLsbD k = v → BitVec.carry (k + 1) x y false = c' → ∃ (k' : Nat) (f' : Nat → Bool) (c : Bool), (gk - 1) + k' = 128 ∧ Value.int .i64 ((k : Int) + 1) = .int .i64 k' ∧ Value.bool c' = .bool c ∧ c = BitVec.carry k' x y false ∧ (∀ i, i < 128 → f' i = (decide (i < k') && (x + y).getLsbD i)) ∧
          Blk (wr.setCell ⟨w.heap.size + 1 + 1 + 1, k, none⟩ (.bool v)) w.heap.size 87 (arr fun i => x.getLsbD i) ∧ Blk (wr.setCell ⟨w.heap.size + 1 + 1 + 1, k, none⟩ (.bool v)) (w.heap.size + 1) 87 (arr fun i => y.getLsbD i) ∧
          Blk (wr.setCell ⟨w.heap.size + 1 + 1 + 1, k, none⟩ (.bool v)) (w.heap.size + 1 + 1) 87 (arr fun _ => false) ∧ Blk (wr.setCell ⟨w.heap.size + 1 + 1 + 1, k, none⟩ (.bool v)) (w.heap.size + 1 + 1 + 1) 87 (arr f') ∧
          Below w.heap.size w (wr.setCell ⟨w.heap.size + 1 + 1 + 1, k, none⟩ (.bool v)) := by
        intro v c' hv hc'
        refine ⟨k + 1, _, c', by have := Hn.out; omega, by go_num, rfl, hc'.symm, ?_, hx.other (by simp; omega) _, hy.other (by simp; omega) _, hres.other (by simp) _, hd.putBit _ _, hbl.setCell (by simp; omega) _⟩
        intro i hi
        by_cases h1 : i = k
        · subst h1; simp [hv]
        · have e1 : decide (i < k + 1) = decide (i < k) := by rw [decide_eq_decide]; omega
          simp only [if_neg h1, e1]
          exact Hf.out i hi
      have Hnx := Lib.hid nx
      have Hs := Lib.hid hsum
      have Hc := Lib.hid hcar
      clear hsum hcar hc nx
      generalize hbx : x.getLsbD k = bx at *
      generalize hby : y.getLsbD k = bb at *
      have g1 : 0 < gk := by have := Hn.out; omega
      clear hbx hby
      cases bx <;> cases bb <;> cases c
      all_goals
        go_wp2
        go_roundg (gk - 1)
        case measure => omega
        case rel => exact Hnx.out _ _ Hs.out Hc.out
    · have hk64 : k = 128 := by omega
      subst hk64
      have Hf := Lib.hid hf
      clear hf hn
      go_wp2_with (first
        | (refine ld28 rfl _ rfl (w.heap.size + 1 + 1 + 1) rfl f hd ?_)
        | (refine st28 rfl _ _ rfl (w.heap.size + 1 + 1) f (fun _ => false) rfl rfl hres ?_))
      refine bodyPost_ret (v := .tuple #[.agg (arr f), .bool (!c)]) ?_ rfl ⟨?_, below_setRow hbl (by omega) _⟩
      · have := res28 _ _ _ (hres.setRow (arr f))
        simp [results, Try.results50, asAddr, this]
        exact hc.symm
      · rw [hc, arr_congr (g := fun i => (x + y).getLsbD i) (fun i hi => by rw [Hf.out i hi]; simp [hi])]
end Go.Proofs.Ythlpnlmjpdcbiaa
