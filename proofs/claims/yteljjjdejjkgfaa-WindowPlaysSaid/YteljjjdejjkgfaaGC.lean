/-
  The contracts of the document's answers Of and Halves: a number's 128 bits, and back.
  The contract of the document's answer Add: the sum of two numbers of 128 bits, bit by bit.
  The contracts of the document's answer Left of bits.
  The contract of the document's answer Halves: a number's two words.
-/
import Derived.Test.YteljjjdejjkgfaaArrq
import Derived.Outline
import Derived.Lib.Hide
import Derived.Deep.LoopGhost
import Derived.Deep.DeepMust
namespace Go.Proofs.Yteljjjdejjkgfaa
open Go.RowKit
set_option maxRecDepth 100000 in
set_option maxHeartbeats 1000000 in
theorem of_any (a b : Int) (ha : Word a) (hb : Word b) (w : World) :
    Calls Try.prog 49 #[.int .u64 a, .int .u64 b] w fun e w' =>
      e = .returned (.agg (bv (BitVec.ofInt 128 (a * 18446744073709551616 + b)))) ∧ Below w.heap.size w w' := by
  have zv := zero28
  go_enter Try.func49, Try.ntmps49
  go_wp2
  go_loopg [6] 64 (fun n s6 wr => ∃ (k : Nat) (f : Nat → Bool), n + k = 64 ∧ s6 = .int .i64 k ∧ (∀ i, f i = ((decide (i < k) && b.toNat.testBit i) || (decide (64 ≤ i ∧ i < 64 + k) && a.toNat.testBit (i - 64)))) ∧
    Blk wr w.heap.size 70 (arr fun _ => false) ∧ Blk wr (w.heap.size + 1) 70 (arr f) ∧ Below w.heap.size w wr)
  case atStart => exact ⟨0, fun _ => false, rfl, rfl, by intro i; simp; omega, (Blk.new' rfl).alloc _, Blk.new' (by simp), ((Below.refl _ _).alloc (Nat.le_refl _) _).alloc (by simp) _⟩
  case round =>
    obtain ⟨k, f, hn, rfl, hf, hres, hd, hbl⟩ := hrel
    by_cases hk : k < 64
    · have Hf := Lib.hid hf
      have Hn := Lib.hid hn
      clear hf hn
      have d0 := hd.bit k (by omega)
      have d1 := hd.bit (k + 64) (by omega)
      have d2 := hd.free k
      have d3 := hd.free (k + 64)
      go_wp2
      rw [bit_word b hb, bit_word a ha]
      go_roundg (gk - 1)
      case measure => (have := Hn.out; omega)
      case rel =>
        refine ⟨k + 1, _, by have := Hn.out; omega, by go_num, ?_, (hres.other (by simp) _).other (by simp) _, (hd.putBit _ _).putBit _ _, (hbl.setCell (by simp) _).setCell (by simp) _⟩
        intro i
        simp only [Hf.out]
        by_cases h1 : i = k + 64
        · subst h1; simp; omega
        · rw [if_neg h1]
          by_cases h2 : i = k
          · subst h2; simp; omega
          · rw [if_neg h2]
            have e1 : decide (i < k + 1) = decide (i < k) := by rw [decide_eq_decide]; omega
            have e2 : decide (64 ≤ i ∧ i < 64 + (k + 1)) = decide (64 ≤ i ∧ i < 64 + k) := by rw [decide_eq_decide]; omega
            rw [e1, e2]
    · have hk64 : k = 64 := by omega
      subst hk64
      have Hf := Lib.hid hf
      clear hf hn
      go_wp2_with (first
        | (refine ld28 rfl _ rfl (w.heap.size + 1) rfl f hd ?_)
        | (refine st28 rfl _ _ rfl w.heap.size f (fun _ => false) rfl rfl hres ?_))
      refine bodyPost_ret (v := .agg (arr f)) ?_ rfl ⟨?_, below_setRow hbl (Nat.le_refl _) _⟩
      · exact results_cell_row rfl _ _ _ _ _ _ _ rfl (hres.setRow _) under28 rfl (by rw [arr_size]; exact size28)
      · congr 2
        apply arr_congr
        intro i hi
        obtain ⟨a0, a1⟩ := ha
        obtain ⟨b0, b1⟩ := hb
        rw [Hf.out]
        obtain ⟨A, rfl⟩ := Int.eq_ofNat_of_zero_le a0
        obtain ⟨B, rfl⟩ := Int.eq_ofNat_of_zero_le b0
        have e : BitVec.ofInt 128 ((A : Int) * 18446744073709551616 + B) = BitVec.ofNat 128 (A * 18446744073709551616 + B) := by
          rw [← BitVec.ofInt_natCast]; simp
        rw [e, getLsbD_two A B i (by omega) hi]
        simp only [Int.toNat_natCast]
        by_cases h1 : i < 64
        · have h2 : ¬ 64 ≤ i := by omega
          simp [h1, h2]
        · have h2 : 64 ≤ i := by omega
          simp [h1, h2, hi]
end Go.Proofs.Yteljjjdejjkgfaa
namespace Go.Proofs.Yteljjjdejjkgfaa
open Go.RowKit
set_option maxRecDepth 100000 in
set_option maxHeartbeats 4000000 in
theorem radd_any (x y : BitVec 128) (w : World) :
    Calls Try.prog 37 #[.agg (bv x), .agg (bv y)] w fun e w' =>
      e = .returned (.tuple #[.agg (bv (x + y)), .bool (!BitVec.carry 128 x y false)]) ∧ Below w.heap.size w w' := by
  have zv := zero28
  unfold bv
  go_enter Try.func37, Try.ntmps37
  go_wp2
  go_loopg [7, 8] 128 (fun n s7 s8 wr => ∃ (k : Nat) (f : Nat → Bool) (c : Bool), n + k = 128 ∧ s8 = .int .i64 k ∧ s7 = .bool c ∧ c = BitVec.carry k x y false ∧ (∀ i, i < 128 → f i = (decide (i < k) && (x + y).getLsbD i)) ∧
    Blk wr w.heap.size 70 (arr fun i => x.getLsbD i) ∧ Blk wr (w.heap.size + 1) 70 (arr fun i => y.getLsbD i) ∧
    Blk wr (w.heap.size + 1 + 1) 70 (arr fun _ => false) ∧ Blk wr (w.heap.size + 1 + 1 + 1) 70 (arr f) ∧ Below w.heap.size w wr)
  case atStart =>
    exact ⟨0, fun _ => false, false, rfl, rfl, rfl, by simp [BitVec.carry, Nat.mod_one], by simp, (((Blk.new' rfl).alloc _).alloc _).alloc _, ((Blk.new' (by simp)).alloc _).alloc _, (Blk.new' (by simp)).alloc _, Blk.new' (by simp),
      ((((Below.refl _ _).alloc (Nat.le_refl _) _).alloc (by simp) _).alloc (by simp; omega) _).alloc (by simp; omega) _⟩
  case round =>
    obtain ⟨k, f, c, hn, rfl, rfl, hc, hf, hx, hy, hres, hd, hbl⟩ := hrel
    by_cases hk : k < 128
    · have Hf := Lib.hid hf
      have Hn := Lib.hid hn
      have hsum := BitVec.getLsbD_add hk x y
      have hcar := BitVec.carry_succ k x y false
      clear hf hn
      have x0 := hx.bit k hk
      have y0 := hy.bit k hk
      have d0 := hd.bit k hk
      have d2 := hd.free k
      rw [← hc] at hsum hcar
      have nx : ∀ v c', (x + y).getLsbD k = v → BitVec.carry (k + 1) x y false = c' → ∃ (k' : Nat) (f' : Nat → Bool) (c : Bool), (gk - 1) + k' = 128 ∧ Value.int .i64 ((k : Int) + 1) = .int .i64 k' ∧ Value.bool c' = .bool c ∧ c = BitVec.carry k' x y false ∧ (∀ i, i < 128 → f' i = (decide (i < k') && (x + y).getLsbD i)) ∧
          Blk (wr.setCell ⟨w.heap.size + 1 + 1 + 1, k, none⟩ (.bool v)) w.heap.size 70 (arr fun i => x.getLsbD i) ∧ Blk (wr.setCell ⟨w.heap.size + 1 + 1 + 1, k, none⟩ (.bool v)) (w.heap.size + 1) 70 (arr fun i => y.getLsbD i) ∧
          Blk (wr.setCell ⟨w.heap.size + 1 + 1 + 1, k, none⟩ (.bool v)) (w.heap.size + 1 + 1) 70 (arr fun _ => false) ∧ Blk (wr.setCell ⟨w.heap.size + 1 + 1 + 1, k, none⟩ (.bool v)) (w.heap.size + 1 + 1 + 1) 70 (arr f') ∧
          Below w.heap.size w (wr.setCell ⟨w.heap.size + 1 + 1 + 1, k, none⟩ (.bool v)) := by
        intro v c' hv hc'
        refine ⟨k + 1, _, c', by have := Hn.out; omega, by go_num, rfl, hc'.symm, ?_, hx.other (by simp; omega) _, hy.other (by simp; omega) _, hres.other (by simp) _, hd.putBit _ _, hbl.setCell (by simp; omega) _⟩
        intro i hi
        by_cases h1 : i = k
        · subst h1; simp [hv]
        · have e1 : decide (i < k + 1) = decide (i < k) := by rw [decide_eq_decide]; omega
          simp only [if_neg h1, e1]
          exact Hf.out i hi
      have Hnx := Lib.hid nx
      have Hs := Lib.hid hsum
      have Hc := Lib.hid hcar
      clear hsum hcar hc nx
      generalize hbx : x.getLsbD k = bx at *
      generalize hby : y.getLsbD k = bb at *
      have g1 : 0 < gk := by have := Hn.out; omega
      clear hbx hby
      cases bx <;> cases bb <;> cases c
      all_goals
        go_wp2
        go_roundg (gk - 1)
        case measure => omega
        case rel => exact Hnx.out _ _ Hs.out Hc.out
    · have hk64 : k = 128 := by omega
      subst hk64
      have Hf := Lib.hid hf
      clear hf hn
      go_wp2_with (first
        | (refine ld28 rfl _ rfl (w.heap.size + 1 + 1 + 1) rfl f hd ?_)
        | (refine st28 rfl _ _ rfl (w.heap.size + 1 + 1) f (fun _ => false) rfl rfl hres ?_))
      refine bodyPost_ret (v := .tuple #[.agg (arr f), .bool (!c)]) ?_ rfl ⟨?_, below_setRow hbl (by omega) _⟩
      · have := res28 _ _ _ (hres.setRow (arr f))
        simp [results, Try.results37, asAddr, this]
        exact hc.symm
      · rw [hc, arr_congr (g := fun i => (x + y).getLsbD i) (fun i hi => by rw [Hf.out i hi]; simp [hi])]
end Go.Proofs.Yteljjjdejjkgfaa
namespace Go.Proofs.Yteljjjdejjkgfaa
open Go.RowKit
def shlB (x : BitVec 128) (n : Int) : BitVec 128 := if n < 0 then x else x <<< n.toNat
set_option maxRecDepth 100000 in
set_option maxHeartbeats 1000000 in
theorem rleft_any (x : BitVec 128) (n : Int) (hn2 : n < 9223372036854775808) (w : World) :
    Calls Try.prog 50 #[.agg (bv x), .int .i64 n] w fun e w' => e = .returned (.agg (bv (shlB x n))) ∧ Below w.heap.size w w' := by
  have zv := zero28
  unfold bv
  have HN := Lib.hid hn2
  clear hn2
  by_cases hneg : n < 0
  · have e : shlB x n = x := if_pos hneg
    rw [e]
    clear e
    have hx := (((Blk.new' (w := w) (t := 70) (cs := arr fun i => x.getLsbD i) rfl).alloc (.cells (arr fun _ => false) 70)).alloc (.cells (arr fun _ => false) 70))
    have hres := (Blk.new' (w := w.alloc (.cells (arr fun i => x.getLsbD i) 70)) (t := 70) (n := w.heap.size + 1) (cs := arr fun _ => false) (by simp)).alloc (.cells (arr fun _ => false) 70)
    go_enter Try.func50, Try.ntmps50
    go_wp2_with (first
        | (refine ld28 rfl _ rfl w.heap.size rfl (fun i => x.getLsbD i) hx ?_)
        | (refine st28 rfl _ _ rfl (w.heap.size + 1) (fun i => x.getLsbD i) (fun _ => false) rfl rfl hres ?_))
    refine bodyPost_ret (v := .agg (arr fun i => x.getLsbD i)) ?_ rfl ⟨rfl, below_setRow ((((Below.refl _ _).alloc (Nat.le_refl _) _).alloc (by simp) _).alloc (by simp; omega) _) (by omega) _⟩
    exact results_cell_row rfl _ _ _ _ _ _ _ rfl (hres.setRow _) under28 rfl (by rw [arr_size]; exact size28)
  · obtain ⟨m, hm⟩ : ∃ m : Nat, n = m := ⟨n.toNat, by omega⟩
    have e : shlB x n = x <<< m := by unfold shlB; rw [if_neg hneg, hm, Int.toNat_natCast]
    rw [e]
    clear e
    have Hm := Lib.hid hm
    have hn0 : 0 ≤ n := by omega
    clear hm
    go_enter Try.func50, Try.ntmps50
    go_wp2
    go_loopg [6] 128 (fun g s6 wr => ∃ (k : Nat) (f : Nat → Bool), g + k = 128 ∧ s6 = .int .i64 k ∧ (n < 128 ∨ k = 0) ∧ (∀ i, f i = (decide (i < k) && (decide (m ≤ i) && x.getLsbD (i - m)))) ∧
      Blk wr w.heap.size 70 (arr fun i => x.getLsbD i) ∧ Blk wr (w.heap.size + 1) 70 (arr fun _ => false) ∧ Blk wr (w.heap.size + 1 + 1) 70 (arr f) ∧ Below w.heap.size w wr)
    case atStart => exact ⟨0, fun _ => false, rfl, rfl, Or.inr rfl, by simp, ((Blk.new' rfl).alloc _).alloc _, (Blk.new' (by simp)).alloc _, Blk.new' (by simp), (((Below.refl _ _).alloc (Nat.le_refl _) _).alloc (by simp) _).alloc (by simp; omega) _⟩
    case round =>
      obtain ⟨k, f, hn, rfl, hor, hf, hx, hres, hd, hbl⟩ := hrel
      by_cases hk : k < 128 ∧ n < 128
      · obtain ⟨hk, hn128⟩ := hk
        have Hn := Lib.hid hn
        have Hf := Lib.hid hf
        have hkI : (k : Int) < 128 := by omega
        clear hn hf hor
        have d0 := hd.bit k hk
        have d2 := hd.free k
        by_cases hge : n ≤ (k : Int)
        · have hmk : m ≤ k := by have := Hm.out; omega
          have x0 := hx.bit (k - m) (by omega)
          have eI : ((k : Int) - n).toNat = k - m := by have := Hm.out; omega
          have eI0 : (0 : Int) ≤ (k : Int) - n := by omega
          have eI1 : (k : Int) - n < 128 := by omega
          generalize hv : x.getLsbD (k - m) = v at x0
          have Hv := Lib.hid hv
          clear hv
          rw [← eI] at x0
          clear eI
          go_wp2
          go_roundg (gk - 1)
          case measure => (have := Hn.out; omega)
          case rel =>
            refine ⟨k + 1, _, by have := Hn.out; omega, by go_num, Or.inl hn128, ?_, hx.other (by simp; omega) _, hres.other (by simp) _, hd.putBit _ _, hbl.setCell (by simp; omega) _⟩
            intro i
            by_cases h1 : i = k
            · subst h1; rw [if_pos rfl, decide_eq_true (show i < i + 1 by omega), decide_eq_true hmk, Bool.true_and, Bool.true_and]; exact Hv.out.symm
            · rw [if_neg h1, Hf.out, show decide (i < k + 1) = decide (i < k) by rw [decide_eq_decide]; omega]
        · have hmk : k < m := by have := Hm.out; omega
          go_wp2
          go_roundg (gk - 1)
          case measure => (have := Hn.out; omega)
          case rel =>
            refine ⟨k + 1, f, by have := Hn.out; omega, by go_num, Or.inl hn128, ?_, hx, hres, hd, hbl⟩
            intro i
            rw [Hf.out]
            by_cases h1 : i = k
            · subst h1
              have : ¬ m ≤ i := by omega
              simp [this]
            · rw [show decide (i < k + 1) = decide (i < k) by rw [decide_eq_decide]; omega]
      · have Hf := Lib.hid hf
        have hfin : ∀ i, i < 128 → f i = (x <<< m).getLsbD i := by
          intro i hi
          rw [hf i, BitVec.getLsbD_shiftLeft]
          by_cases hc : n < 128
          · have hk2 : k = 128 := by omega
            have e2 : (!decide (i < m)) = decide (m ≤ i) := by
              by_cases h3 : i < m
              · have : ¬ m ≤ i := by omega
                simp [h3, this]
              · have : m ≤ i := by omega
                simp [h3, this]
            rw [hk2, e2]; simp [hi]
          · have hm1 : i < m := by have := Hm.out; omega
            have : ¬ m ≤ i := by omega
            simp [hm1, this]
        have Hfin := Lib.hid hfin
        have hdec : (k : Int) < 128 ∧ 128 ≤ n ∨ 128 ≤ (k : Int) := by omega
        clear hf hn hor hfin hk
        rcases hdec with ⟨h1, h2⟩ | h1
        all_goals
          go_wp2_with (first
            | (refine ld28 rfl _ rfl (w.heap.size + 1 + 1) rfl f hd ?_)
            | (refine st28 rfl _ _ rfl (w.heap.size + 1) f (fun _ => false) rfl rfl hres ?_))
          refine bodyPost_ret (v := .agg (arr f)) ?_ rfl ⟨?_, below_setRow hbl (by omega) _⟩
          · exact results_cell_row rfl _ _ _ _ _ _ _ rfl (hres.setRow _) under28 rfl (by rw [arr_size]; exact size28)
          · rw [arr_congr (g := fun i => (x <<< m).getLsbD i) Hfin.out] <;> simp
end Go.Proofs.Yteljjjdejjkgfaa
namespace Go.Proofs.Yteljjjdejjkgfaa
open Go.RowKit
theorem or_pow (L k : Nat) (hL : L < 2 ^ k) (hk : k < 64) : bits .or .u64 (L : Int) (IntKind.u64.wrap ((2 : Int) ^ k)) = ((L + 2 ^ k : Nat) : Int) := by
  have hp : 2 ^ k ≤ 2 ^ 63 := Nat.pow_le_pow_right (by decide) (by omega)
  have e : IntKind.u64.wrap ((2 : Int) ^ k) = ((2 ^ k : Nat) : Int) := by
    rw [IntKind.wrap_u64, show (2 : Int) ^ k = ((2 ^ k : Nat) : Int) by simp]; omega
  rw [e, bits_or_u64_nat _ _ (by omega) (by omega), Nat.or_comm]
  have := Nat.two_pow_add_eq_or_of_lt hL 1
  rw [Nat.mul_one] at this
  rw [← this, Nat.add_comm]
theorem mod_step (X k : Nat) : X % 2 ^ (k + 1) = X % 2 ^ k + if X.testBit k then 2 ^ k else 0 := by
  rw [Nat.pow_succ, Nat.mod_mul, Nat.testBit_eq_decide_div_mod_eq]
  have : X / 2 ^ k % 2 < 2 := Nat.mod_lt _ (by decide)
  by_cases h : X / 2 ^ k % 2 = 1
  · simp [h]
  · have h0 : X / 2 ^ k % 2 = 0 := by omega
    simp [h0]
set_option maxRecDepth 100000 in
set_option maxHeartbeats 1000000 in
theorem halves_any (x : BitVec 128) (w : World) :
    Calls Try.prog 40 #[.agg (bv x)] w fun e w' =>
      e = .returned (.tuple #[.int .u64 (x.toNat / 18446744073709551616 : Nat), .int .u64 (x.toNat % 18446744073709551616 : Nat)]) ∧ Below w.heap.size w w' := by
  unfold bv
  go_enter Try.func40, Try.ntmps40
  go_wp2
  go_loopg [4, 5, 6] 64 (fun n s4 s5 s6 wr => ∃ (k h l : Nat), n + k = 64 ∧ s6 = .int .i64 k ∧ s4 = .int .u64 h ∧ s5 = .int .u64 l ∧ h = x.toNat / 18446744073709551616 % 2 ^ k ∧ l = x.toNat % 2 ^ k ∧
    Blk wr w.heap.size 70 (arr fun i => x.getLsbD i) ∧ Below w.heap.size w wr)
  case atStart => exact ⟨0, 0, 0, rfl, rfl, rfl, rfl, by simp [Nat.mod_one], by simp [Nat.mod_one], Blk.new' rfl, (Below.refl _ _).alloc (Nat.le_refl _) _⟩
  case round =>
    obtain ⟨k, h, l, hn, rfl, rfl, rfl, hh, hl, hd, hbl⟩ := hrel
    by_cases hk : k < 64
    · have hp : 2 ^ k ≤ 2 ^ 63 := Nat.pow_le_pow_right (by decide) (by omega)
      have d0 := hd.bit k (by omega)
      have d1 := hd.bit (k + 64) (by omega)
      have sh := mod_step (x.toNat / 18446744073709551616) k
      have sl := mod_step x.toNat k
      have eh : (x.toNat / 18446744073709551616).testBit k = x.getLsbD (k + 64) := by
        rw [BitVec.getLsbD, show (18446744073709551616 : Nat) = 2 ^ 64 by rfl, Nat.testBit_div_two_pow, Nat.add_comm]
      have el : x.toNat.testBit k = x.getLsbD k := rfl
      rw [eh, ← hh] at sh
      rw [el, ← hl] at sl
      have oh := or_pow h k (by rw [hh]; exact Nat.mod_lt _ (Nat.pow_pos (by decide))) hk
      have ol := or_pow l k (by rw [hl]; exact Nat.mod_lt _ (Nat.pow_pos (by decide))) hk
      have Hn := Lib.hid hn
      have Hh := Lib.hid sh
      have Hl := Lib.hid sl
      clear hn hh hl sh sl eh el hp
      go_wp2
      all_goals
        go_roundg (gk - 1)
        case measure => (have := Hn.out; omega)
        case rel =>
          refine ⟨k + 1, x.toNat / 18446744073709551616 % 2 ^ (k + 1), x.toNat % 2 ^ (k + 1), by have := Hn.out; omega, by go_num, ?_, ?_, rfl, rfl, hd, hbl⟩
          · first
              | (rw [Hh.out, if_pos (by assumption)]; simp; done)
              | rw [Hh.out, if_neg (by simp [*]), Nat.add_zero]
          · first
              | (rw [Hl.out, if_pos (by assumption)]; simp; done)
              | rw [Hl.out, if_neg (by simp [*]), Nat.add_zero]
    · have hk64 : k = 64 := by omega
      subst hk64
      have Hh := Lib.hid hh
      have Hl := Lib.hid hl
      clear hn hh hl
      go_wp2
      go_ret2
      refine ⟨?_, hbl⟩
      have hx := x.isLt
      rw [Hh.out, Hl.out]
      rw [Nat.mod_eq_of_lt (show x.toNat / 18446744073709551616 < 2 ^ 64 by omega)]
      rfl
end Go.Proofs.Yteljjjdejjkgfaa
