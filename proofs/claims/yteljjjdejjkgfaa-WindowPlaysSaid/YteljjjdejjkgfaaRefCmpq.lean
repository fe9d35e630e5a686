/-
  The contract of the document's answer Cmp of bits.
-/
import Derived.Test.YteljjjdejjkgfaaGC
namespace Go.Proofs.Yteljjjdejjkgfaa
open Go.RowKit
/-- Which of two numbers is above. -/
def cmpN (x y : Nat) : Int := if x = y then 0 else if x < y then -1 else 1
theorem lt_of_bit {x y : Nat} (k : Nat) (hx : x.testBit k = false) (hy : y.testBit k = true) (h : ∀ j, k < j → x.testBit j = y.testBit j) : x < y := by
  have e : x / 2 ^ (k + 1) = y / 2 ^ (k + 1) := Nat.eq_of_testBit_eq fun i => by
    rw [Nat.testBit_div_two_pow, Nat.testBit_div_two_pow]; exact h _ (by omega)
  have mx := mod_step x k
  have my := mod_step y k
  rw [hx] at mx
  rw [hy] at my
  have lx : x % 2 ^ k < 2 ^ k := Nat.mod_lt _ (Nat.pow_pos (by decide))
  have dx := Nat.div_add_mod x (2 ^ (k + 1))
  have dy := Nat.div_add_mod y (2 ^ (k + 1))
  rw [e] at dx
  simp only [Bool.false_eq_true, if_false, if_true] at mx my
  omega
set_option maxRecDepth 100000 in
set_option maxHeartbeats 1000000 in
theorem rcmp_any (x y : BitVec 128) (w : World) :
    Calls Try.prog 51 #[.agg (bv x), .agg (bv y)] w fun e w' => e = .returned (.int .i64 (cmpN x.toNat y.toNat)) ∧ Below w.heap.size w w' := by
  unfold bv
  go_enter Try.func51, Try.ntmps51
  go_wp2
  go_loopg [5] 128 (fun n s5 wr => ∃ (k : Nat), n = k ∧ k ≤ 128 ∧ s5 = .int .i64 ((k : Int) - 1) ∧ (∀ i, k ≤ i → x.getLsbD i = y.getLsbD i) ∧
    Blk wr w.heap.size 70 (arr fun i => x.getLsbD i) ∧ Blk wr (w.heap.size + 1) 70 (arr fun i => y.getLsbD i) ∧ Below w.heap.size w wr)
  case atStart => exact ⟨128, rfl, by omega, rfl, by intro i hi; rw [BitVec.getLsbD_of_ge _ _ hi, BitVec.getLsbD_of_ge _ _ hi], (Blk.new' rfl).alloc _, Blk.new' (by simp), ((Below.refl _ _).alloc (Nat.le_refl _) _).alloc (by simp) _⟩
  case round =>
    obtain ⟨k, rfl, hn, rfl, heq, hx, hy, hbl⟩ := hrel
    by_cases hk : gk = 0
    · subst hk
      have Heq := Lib.hid heq
      clear heq
      go_wp2
      go_ret
      refine ⟨?_, hbl⟩
      have e : x = y := BitVec.eq_of_getLsbD_eq fun i _ => Heq.out i (by omega)
      rw [e]; simp [cmpN]
    · obtain ⟨k, rfl⟩ : ∃ k, gk = k + 1 := ⟨gk - 1, by omega⟩
      have Heq := Lib.hid heq
      clear heq
      have x0 := hx.bit k (by omega)
      have y0 := hy.bit k (by omega)
      have hlt : ∀ j, k < j → x.getLsbD j = y.getLsbD j := fun j hj => Heq.out j (by omega)
      have Hlt := Lib.hid hlt
      clear hlt
      cases hbx : x.getLsbD k <;> cases hby : y.getLsbD k
      all_goals rw [hbx] at x0
      all_goals rw [hby] at y0
      all_goals
        have Bx := Lib.hid hbx
        have By := Lib.hid hby
        clear hbx hby
        go_wp2
        go_region
        go_wp2
      · go_roundg k
        case measure => omega
        case rel => exact ⟨k, rfl, by omega, by go_num, fun i hi => by
          by_cases h1 : i = k
          · subst h1; rw [Bx.out, By.out]
          · exact Hlt.out i (by omega), hx.drew, hy.drew, hbl.drew⟩
      · go_ret
        refine ⟨?_, hbl.drew⟩
        have : x.toNat < y.toNat := lt_of_bit k Bx.out By.out (fun j hj => Hlt.out j hj)
        rw [cmpN, if_neg (by omega), if_pos this]; rfl
      · go_ret
        refine ⟨?_, hbl.drew⟩
        have : y.toNat < x.toNat := lt_of_bit k By.out Bx.out (fun j hj => (Hlt.out j hj).symm)
        rw [cmpN, if_neg (by omega), if_neg (by omega)]; rfl
      · go_roundg k
        case measure => omega
        case rel => exact ⟨k, rfl, by omega, by go_num, fun i hi => by
          by_cases h1 : i = k
          · subst h1; rw [Bx.out, By.out]
          · exact Hlt.out i (by omega), hx.drew, hy.drew, hbl.drew⟩
end Go.Proofs.Yteljjjdejjkgfaa
