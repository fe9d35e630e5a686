/-
  The contracts of package fix's Add, and of the document's Add of layer 2, for every two numbers.
-/
import Derived.Test.YthlpnlmjpdcbiaaRefAdd
import Derived.Test.YthlpnlmjpdcbiaaRefHv
import Derived.Test.YthlpnlmjpdcbiaaIn64
import Derived.Laws.BitsAllLaws
namespace Go.Proofs.Ythlpnlmjpdcbiaa
open Go.RowKit
instance (x : Int) : Decidable (In64 x) := by unfold In64; exact inferInstance
/-- A number and whether it is an int64; 0 if it is none. -/
def fitT (v : Int) : Value := if In64 v then .tuple #[.int .i64 v, .bool true] else .tuple #[.int .i64 0, .bool false]
theorem fit_yes {v : Int} (h : In64 v) : fitT v = .tuple #[.int .i64 v, .bool true] := if_pos h
theorem fit_no {v : Int} (h : ¬ In64 v) : fitT v = .tuple #[.int .i64 0, .bool false] := if_neg h
theorem fit_is (v : Int) : ∃ (x : Int) (p : Bool), fitT v = .tuple #[.int .i64 x, .bool p] ∧ In64 x ∧ ((p = true ∧ x = v) ∨ (p = false ∧ x = 0 ∧ ¬ In64 v)) := by
  by_cases h : In64 v
  · exact ⟨v, true, fit_yes h, h, .inl ⟨rfl, rfl⟩⟩
  · exact ⟨0, false, fit_no h, ⟨by decide, by decide⟩, .inr ⟨rfl, rfl, h⟩⟩
theorem not64 (n : Int) (h : In64 n) : bits .xor .i64 (-1) n = -1 - n := by
  obtain ⟨h0, h1⟩ := h
  show IntKind.i64.wrap ((BitVec.ofInt 64 (-1) ^^^ BitVec.ofInt 64 n).toNat : Int) = _
  have e1 : BitVec.ofInt 64 (-1) = BitVec.allOnes 64 := by decide
  rw [e1, BitVec.allOnes_xor, BitVec.toNat_not, BitVec.toNat_ofInt, IntKind.wrap_i64]
  omega
/-- What has no sign. -/
def mag (n : Int) : Int := if n < 0 then -n else n
theorem mag_pos {n : Int} (h : 0 ≤ n) : mag n = n := if_neg (by omega)
theorem mag_neg {n : Int} (h : n < 0) : mag n = -n := if_pos h
theorem mag_word {n : Int} (h : In64 n) : Word (mag n) := by obtain ⟨h0, h1⟩ := h; unfold mag; split <;> exact ⟨by omega, by omega⟩
theorem fadd_any (a b : Int) (ha : In64 a) (hb : In64 b) (w : World) :
    Calls Try.prog 32 #[.int .i64 a, .int .i64 b] w fun e w' => e = .returned (fitT (a + b)) ∧ Below w.heap.size w w' := by
  obtain ⟨a0, a1⟩ := ha
  obtain ⟨b0, b1⟩ := hb
  by_cases hs : In64 (a + b)
  · rw [fit_yes hs]
    obtain ⟨s0, s1⟩ := hs
    go_enter Try.func32, Try.ntmps32
    go_wp2
    all_goals first | (exfalso; omega) | go_ret2
    all_goals exact ⟨rfl, Below.refl _ _⟩
  · rw [fit_no hs]
    unfold In64 at hs
    go_enter Try.func32, Try.ntmps32
    go_wp2
    all_goals first | (exfalso; omega) | go_ret2
    all_goals exact ⟨rfl, Below.refl _ _⟩
theorem rsize_any (n : Int) (h : In64 n) (w : World) :
    Calls Try.prog 46 #[.int .i64 n] w fun e w' => e = .returned (.int .u64 (mag n)) ∧ Below w.heap.size w w' := by
  obtain ⟨h0, h1⟩ := h
  by_cases hn : n < 0
  · rw [mag_neg hn]
    go_enter Try.func46, Try.ntmps46
    go_wp2
    all_goals first | (exfalso; omega) | go_ret
    all_goals exact ⟨by first | rfl | (refine congrArg (fun z => Ending.returned (Value.int .u64 z)) ?_; omega), Below.refl _ _⟩
  · rw [mag_pos (by omega)]
    go_enter Try.func46, Try.ntmps46
    go_wp2
    all_goals first | (exfalso; omega) | go_ret
    all_goals exact ⟨by first | rfl | (refine congrArg (fun z => Ending.returned (Value.int .u64 z)) ?_; omega), Below.refl _ _⟩
theorem signed_any (n : Int) (m : Bool) (h : Word n) (w : World) :
    Calls Try.prog 47 #[.int .u64 n, .bool m] w fun e w' => e = .returned (fitT (if m = true then -n else n)) ∧ Below w.heap.size w w' := by
  obtain ⟨h0, h1⟩ := h
  cases m
  · rw [if_neg (by decide)]
    by_cases hs : In64 n
    · rw [fit_yes hs]
      obtain ⟨s0, s1⟩ := hs
      go_enter Try.func47, Try.ntmps47
      go_wp2
      all_goals first | (exfalso; omega) | go_ret2
      all_goals exact ⟨rfl, Below.refl _ _⟩
    · rw [fit_no hs]
      unfold In64 at hs
      go_enter Try.func47, Try.ntmps47
      go_wp2
      all_goals first | (exfalso; omega) | go_ret2
      all_goals exact ⟨rfl, Below.refl _ _⟩
  · rw [if_pos rfl]
    by_cases hs : In64 (-n)
    · rw [fit_yes hs]
      obtain ⟨s0, s1⟩ := hs
      by_cases hx : n = 9223372036854775808
      · subst hx
        go_enter Try.func47, Try.ntmps47
        go_wp2
        all_goals first | (exfalso; omega) | go_ret2
        all_goals exact ⟨rfl, Below.refl _ _⟩
      · have e0 : (n == 9223372036854775808) = false := by simpa using hx
        go_enter Try.func47, Try.ntmps47
        go_wp2
        all_goals first | (exfalso; omega) | go_ret2
        all_goals exact ⟨rfl, Below.refl _ _⟩
    · rw [fit_no hs]
      unfold In64 at hs
      have e0 : (n == 9223372036854775808) = false := by simp; omega
      go_enter Try.func47, Try.ntmps47
      go_wp2
      all_goals first | (exfalso; omega) | go_ret2
      all_goals exact ⟨rfl, Below.refl _ _⟩
def nb (n : Nat) : Nat → Bool := fun i => (BitVec.ofNat 128 n).getLsbD i
theorem ofN (n : Int) (h : Word n) (w : World) :
    Calls Try.prog 51 #[.int .u64 0, .int .u64 n] w fun e w' => e = .returned (.agg (arr (nb n.toNat))) ∧ Below w.heap.size w w' := by
  have := of_any 0 n ⟨by decide, by decide⟩ h w
  rw [Int.zero_mul, Int.zero_add] at this
  obtain ⟨N, rfl⟩ := Int.eq_ofNat_of_zero_le h.1
  rw [BitVec.ofInt_natCast] at this
  exact this
theorem addN (m n : Nat) : ∃ p : Bool, ∀ w, Calls Try.prog 50 #[.agg (arr (nb m)), .agg (arr (nb n))] w fun e w' => e = .returned (.tuple #[.agg (arr (nb (m + n))), .bool p]) ∧ Below w.heap.size w w' := by
  refine ⟨!BitVec.carry 128 (BitVec.ofNat 128 m) (BitVec.ofNat 128 n) false, fun w => ?_⟩
  have := radd_any (BitVec.ofNat 128 m) (BitVec.ofNat 128 n) w
  rw [← BitVec.ofNat_add] at this
  exact this
theorem halvesN (n : Nat) (h : n < 340282366920938463463374607431768211456) (w : World) :
    Calls Try.prog 44 #[.agg (arr (nb n))] w fun e w' => e = .returned (.tuple #[.int .u64 (n / 18446744073709551616 : Nat), .int .u64 (n % 18446744073709551616 : Nat)]) ∧ Below w.heap.size w w' := by
  have := halves_any (BitVec.ofNat 128 n) w
  rw [BitVec.toNat_ofNat, Nat.mod_eq_of_lt h] at this
  exact this
set_option maxRecDepth 100000 in
set_option maxHeartbeats 1000000 in
theorem rsum_road (a b : Int) (X Y S : Nat → Bool) (p : Bool)
    (cO : ∀ W, Calls Try.prog 51 #[.int .u64 0, .int .u64 a] W fun e w' => e = .returned (.agg (arr X)) ∧ Below W.heap.size W w')
    (cP : ∀ W, Calls Try.prog 51 #[.int .u64 0, .int .u64 b] W fun e w' => e = .returned (.agg (arr Y)) ∧ Below W.heap.size W w')
    (cA : ∀ W, Calls Try.prog 50 #[.agg (arr X), .agg (arr Y)] W fun e w' => e = .returned (.tuple #[.agg (arr S), .bool p]) ∧ Below W.heap.size W w') (w : World) :
    Calls Try.prog 45 #[.int .u64 a, .int .u64 b] w fun e w' => e = .returned (.agg (arr S)) ∧ Below w.heap.size w w' := by
  have zv := zero28
  have m0 := (Mem.start w).new 87 (arr fun _ => false)
  go_enter Try.func45, Try.ntmps45
  go_wp2_with (first
    | (go_at_call 51; (with_reducible refine (cO _).mono ?_); rintro e w1 ⟨rfl, hb1⟩; have m1 := m0.keep hb1; clear m0 hb1)
    | (go_at_call 51; (with_reducible refine (cP _).mono ?_); rintro e w2 ⟨rfl, hb1⟩; have m2 := m1.keep hb1; clear m1 hb1)
    | (go_at_call 50; (with_reducible refine (cA _).mono ?_); rintro e w3 ⟨rfl, hb1⟩; have m3 := m2.keep hb1; clear m2 hb1)
    | (refine st28 rfl (.tmp 5) (.tmp 13) rfl w3.heap.size S (fun _ => false) rfl rfl (Blk.new' rfl) ?_; have m4 := m3.row 87 (arr fun _ => false) (arr S); generalize (w3.alloc (.cells (arr fun _ => false) 87)).setRow w3.heap.size (arr S) = W4 at *; generalize w3.heap.size = g at *; clear m3)
    | (refine ld28 rfl (.tmp 5) rfl g rfl S (m4.blk g _ _ (by simp)) ?_)
    | (refine st28 rfl (.tmp 4) (.tmp 15) rfl w.heap.size S (fun _ => false) rfl rfl (m4.blk w.heap.size _ _ (by simp)) ?_))
  refine bodyPost_ret (v := .agg (arr S)) ?_ rfl ⟨rfl, below_setRow m4.below (Nat.le_refl _) _⟩
  exact results_cell_row rfl _ _ _ _ _ _ _ rfl ((m4.blk w.heap.size 87 (arr fun _ => false) (by simp)).setRow _) under28 rfl (by rw [arr_size]; exact size28)
theorem rsum_any (a b : Int) (ha : Word a) (hb : Word b) (w : World) :
    Calls Try.prog 45 #[.int .u64 a, .int .u64 b] w fun e w' => e = .returned (.agg (arr (nb (a.toNat + b.toNat)))) ∧ Below w.heap.size w w' := by
  obtain ⟨p, cA⟩ := addN a.toNat b.toNat
  exact rsum_road a b _ _ _ p (ofN a ha) (ofN b hb) cA w
set_option maxRecDepth 100000 in
set_option maxHeartbeats 1000000 in
theorem radd_over (a b A B h l : Int) (S : Nat → Bool) (m : Bool) (hm : decide (a < 0) = m) (hn : decide (b < 0) = m) (hh : 0 < h)
    (cA : ∀ W, Calls Try.prog 46 #[.int .i64 a] W fun e w' => e = .returned (.int .u64 A) ∧ Below W.heap.size W w')
    (cB : ∀ W, Calls Try.prog 46 #[.int .i64 b] W fun e w' => e = .returned (.int .u64 B) ∧ Below W.heap.size W w')
    (cS : ∀ W, Calls Try.prog 45 #[.int .u64 A, .int .u64 B] W fun e w' => e = .returned (.agg (arr S)) ∧ Below W.heap.size W w')
    (cH : ∀ W, Calls Try.prog 44 #[.agg (arr S)] W fun e w' => e = .returned (.tuple #[.int .u64 h, .int .u64 l]) ∧ Below W.heap.size W w') (w : World) :
    Calls Try.prog 38 #[.int .i64 a, .int .i64 b] w fun e w' => e = .returned (.tuple #[.int .i64 0, .bool false]) ∧ Below w.heap.size w w' := by
  have m0 := Mem.start w
  cases m
  all_goals
    go_enter Try.func38, Try.ntmps38
    go_wp2_with (first
      | (go_at_call 46; (with_reducible refine (cA _).mono ?_); rintro e w1 ⟨rfl, hb1⟩; have m1 := m0.keep hb1; clear m0 hb1)
      | (go_at_call 46; (with_reducible refine (cB _).mono ?_); rintro e w2 ⟨rfl, hb1⟩; have m2 := m1.keep hb1; clear m1 hb1)
      | (go_at_call 45; (with_reducible refine (cS _).mono ?_); rintro e w3 ⟨rfl, hb1⟩; have m3 := m2.keep hb1; clear m2 hb1)
      | (go_at_call 44; (with_reducible refine (cH _).mono ?_); rintro e w4 ⟨rfl, hb1⟩; have m4 := m3.keep hb1; clear m3 hb1))
    all_goals go_ret2
    all_goals exact ⟨rfl, m4.below⟩
set_option maxRecDepth 100000 in
set_option maxHeartbeats 1000000 in
theorem radd_sum (a b A B l x : Int) (S : Nat → Bool) (m p : Bool) (hm : decide (a < 0) = m) (hn : decide (b < 0) = m)
    (cA : ∀ W, Calls Try.prog 46 #[.int .i64 a] W fun e w' => e = .returned (.int .u64 A) ∧ Below W.heap.size W w')
    (cB : ∀ W, Calls Try.prog 46 #[.int .i64 b] W fun e w' => e = .returned (.int .u64 B) ∧ Below W.heap.size W w')
    (cS : ∀ W, Calls Try.prog 45 #[.int .u64 A, .int .u64 B] W fun e w' => e = .returned (.agg (arr S)) ∧ Below W.heap.size W w')
    (cH : ∀ W, Calls Try.prog 44 #[.agg (arr S)] W fun e w' => e = .returned (.tuple #[.int .u64 0, .int .u64 l]) ∧ Below W.heap.size W w')
    (cG : ∀ W, Calls Try.prog 47 #[.int .u64 l, .bool m] W fun e w' => e = .returned (.tuple #[.int .i64 x, .bool p]) ∧ Below W.heap.size W w') (w : World) :
    Calls Try.prog 38 #[.int .i64 a, .int .i64 b] w fun e w' => e = .returned (.tuple #[.int .i64 x, .bool p]) ∧ Below w.heap.size w w' := by
  have m0 := Mem.start w
  cases m
  all_goals
    go_enter Try.func38, Try.ntmps38
    go_wp2_with (first
      | (go_at_call 46; (with_reducible refine (cA _).mono ?_); rintro e w1 ⟨rfl, hb1⟩; have m1 := m0.keep hb1; clear m0 hb1)
      | (go_at_call 46; (with_reducible refine (cB _).mono ?_); rintro e w2 ⟨rfl, hb1⟩; have m2 := m1.keep hb1; clear m1 hb1)
      | (go_at_call 45; (with_reducible refine (cS _).mono ?_); rintro e w3 ⟨rfl, hb1⟩; have m3 := m2.keep hb1; clear m2 hb1)
      | (go_at_call 44; (with_reducible refine (cH _).mono ?_); rintro e w4 ⟨rfl, hb1⟩; have m4 := m3.keep hb1; clear m3 hb1)
      | (go_at_call 47; (with_reducible refine (cG _).mono ?_); rintro e w5 ⟨rfl, hb1⟩; have m5 := m4.keep hb1; clear m4 hb1))
    all_goals go_ret2
    all_goals exact ⟨rfl, m5.below⟩
theorem radd_plain (a b : Int) (m : Bool) (hm : decide (a < 0) = m) (hn : (decide (b < 0) = m) → False) (h : In64 (a + b)) (w : World) :
    Calls Try.prog 38 #[.int .i64 a, .int .i64 b] w fun e w' => e = .returned (.tuple #[.int .i64 (a + b), .bool true]) ∧ Below w.heap.size w w' := by
  obtain ⟨h0, h1⟩ := h
  have hn2 : decide (b < 0) = !(m) := by
    revert hn; cases decide (b < 0) <;> cases m <;> simp
  clear hn
  cases m
  all_goals
    go_enter Try.func38, Try.ntmps38
    go_wp2
    all_goals go_ret2
    all_goals exact ⟨rfl, Below.refl _ _⟩
theorem radd2_any (a b : Int) (ha : In64 a) (hb : In64 b) (w : World) :
    Calls Try.prog 38 #[.int .i64 a, .int .i64 b] w fun e w' => e = .returned (fitT (a + b)) ∧ Below w.heap.size w w' := by
  have cA := rsize_any a ha
  have cB := rsize_any b hb
  have wa := mag_word ha
  have wb := mag_word hb
  have cS := rsum_any _ _ wa wb
  have hN : (mag a).toNat + (mag b).toNat ≤ 18446744073709551616 := by unfold In64 at ha hb; unfold mag; split <;> split <;> omega
  have cH := halvesN ((mag a).toNat + (mag b).toNat) (by omega)
  have hsum : (((mag a).toNat + (mag b).toNat : Nat) : Int) = mag a + mag b := by have := wa.1; have := wb.1; omega
  by_cases hs : decide (b < 0) = decide (a < 0)
  · have hv : a + b = if decide (a < 0) = true then -(mag a + mag b) else mag a + mag b := by
      unfold mag
      by_cases h1 : a < 0 <;> by_cases h2 : b < 0 <;> simp [h1, h2] at hs ⊢
      omega
    rw [← hsum] at hv
    generalize (mag a).toNat + (mag b).toNat = N at *
    by_cases hN2 : N = 18446744073709551616
    · subst hN2
      have hno : ¬ In64 (a + b) := by rw [hv]; unfold In64; split <;> omega
      rw [fit_no hno]
      exact radd_over a b _ _ _ _ _ _ rfl hs (by decide) cA cB cS cH w
    · have hlt : N < 18446744073709551616 := by omega
      rw [Nat.div_eq_of_lt hlt, Nat.mod_eq_of_lt hlt] at cH
      have cG := signed_any N (decide (a < 0)) ⟨by omega, by omega⟩
      rw [← hv] at cG
      obtain ⟨x, p, hx, -, -⟩ := fit_is (a + b)
      rw [hx] at cG ⊢
      exact radd_sum a b _ _ _ x _ _ p rfl hs cA cB cS cH cG w
  · have hin : In64 (a + b) := by
      unfold In64 at *
      by_cases h1 : a < 0 <;> by_cases h2 : b < 0 <;> simp [h1, h2] at hs ⊢ <;> omega
    rw [fit_yes hin]
    exact radd_plain a b _ rfl hs hin w
end Go.Proofs.Ythlpnlmjpdcbiaa
