/-
  The contract of package fix's Mul, for every two numbers.
-/
import Derived.Test.YtnahocdeaopflaaFixA
import Derived.Test.YtnahocdeaopflaaTwo
namespace Go.Proofs.Ytnahocdeaopflaa
open Go.RowKit Go.Shelf
set_option maxHeartbeats 1000000 in
theorem fmul_same (a b h l A B s x : Int) (p : Bool)
    (cA : ∀ W, Calls Try.prog 33 #[.int .i64 a] W fun e w' => e = .returned (.int .u64 A) ∧ Below W.heap.size W w')
    (cB : ∀ W, Calls Try.prog 33 #[.int .i64 b] W fun e w' => e = .returned (.int .u64 B) ∧ Below W.heap.size W w')
    (cM : ∀ W, Calls Try.prog 32 #[.int .u64 A, .int .u64 B] W fun e w' => e = .returned (.agg #[.int .u64 h, .int .u64 l]) ∧ Below W.heap.size W w')
    (cS : ∀ W, Calls Try.prog 34 #[.int .i64 a] W fun e w' => e = .returned (.int .u64 s) ∧ Below W.heap.size W w')
    (cT : ∀ W, Calls Try.prog 34 #[.int .i64 b] W fun e w' => e = .returned (.int .u64 s) ∧ Below W.heap.size W w')
    (cN : ∀ W, Calls Try.prog 35 #[.agg #[.int .u64 h, .int .u64 l]] W fun e w' => e = .returned (.tuple #[.int .i64 x, .bool p]) ∧ Below W.heap.size W w')
    (w : World) :
    Calls Try.prog 11 #[.int .i64 a, .int .i64 b] w fun e w' => e = .returned (.tuple #[.int .i64 x, .bool p]) ∧ Below w.heap.size w w' := by
  have m0 := Mem.start w
  go_enter Try.func11, Try.ntmps11
  go_wp2_with (first
    | (go_at_call 33; (with_reducible refine (cA _).mono ?_); rintro e w1 ⟨rfl, hb1⟩; have m1 := m0.keep hb1; clear m0 hb1)
    | (go_at_call 33; (with_reducible refine (cB _).mono ?_); rintro e w2 ⟨rfl, hb1⟩; have m2 := m1.keep hb1; clear m1 hb1)
    | (go_at_call 32; (with_reducible refine (cM _).mono ?_); rintro e w3 ⟨rfl, hb1⟩; have m3 := (m2.keep hb1).new 38 #[.int .u64 h, .int .u64 l]; clear m2 hb1)
    | (go_at_call 34; (with_reducible refine (cS _).mono ?_); rintro e w4 ⟨rfl, hb1⟩; have m4 := m3.keep hb1; clear m3 hb1)
    | (go_at_call 34; (with_reducible refine (cT _).mono ?_); rintro e w5 ⟨rfl, hb1⟩; have m5 := m4.keep hb1; clear m4 hb1; have k := m5.blk w3.heap.size 38 #[.int .u64 h, .int .u64 l] (by simp); have c0 := k.cell_eq 0 (.int .u64 h) rfl; have c1 := k.cell_eq 1 (.int .u64 l) rfl; clear k)
    | (go_at_call 35; (with_reducible refine (cN _).mono ?_); rintro e w6 ⟨rfl, hb1⟩; have m6 := m5.keep hb1; clear m5 hb1))
  go_ret2
  exact ⟨rfl, m6.below⟩
set_option maxHeartbeats 1000000 in
theorem fmul_least (a b A B s t : Int) (hst : (s == t) = false)
    (cA : ∀ W, Calls Try.prog 33 #[.int .i64 a] W fun e w' => e = .returned (.int .u64 A) ∧ Below W.heap.size W w')
    (cB : ∀ W, Calls Try.prog 33 #[.int .i64 b] W fun e w' => e = .returned (.int .u64 B) ∧ Below W.heap.size W w')
    (cM : ∀ W, Calls Try.prog 32 #[.int .u64 A, .int .u64 B] W fun e w' => e = .returned (.agg #[.int .u64 0, .int .u64 9223372036854775808]) ∧ Below W.heap.size W w')
    (cS : ∀ W, Calls Try.prog 34 #[.int .i64 a] W fun e w' => e = .returned (.int .u64 s) ∧ Below W.heap.size W w')
    (cT : ∀ W, Calls Try.prog 34 #[.int .i64 b] W fun e w' => e = .returned (.int .u64 t) ∧ Below W.heap.size W w')
    (w : World) :
    Calls Try.prog 11 #[.int .i64 a, .int .i64 b] w fun e w' => e = .returned (.tuple #[.int .i64 (-9223372036854775808), .bool true]) ∧ Below w.heap.size w w' := by
  have m0 := Mem.start w
  go_enter Try.func11, Try.ntmps11
  go_wp2_with (first
    | (go_at_call 33; (with_reducible refine (cA _).mono ?_); rintro e w1 ⟨rfl, hb1⟩; have m1 := m0.keep hb1; clear m0 hb1)
    | (go_at_call 33; (with_reducible refine (cB _).mono ?_); rintro e w2 ⟨rfl, hb1⟩; have m2 := m1.keep hb1; clear m1 hb1)
    | (go_at_call 32; (with_reducible refine (cM _).mono ?_); rintro e w3 ⟨rfl, hb1⟩; have m3 := (m2.keep hb1).new 38 #[.int .u64 0, .int .u64 9223372036854775808]; clear m2 hb1)
    | (go_at_call 34; (with_reducible refine (cS _).mono ?_); rintro e w4 ⟨rfl, hb1⟩; have m4 := m3.keep hb1; clear m3 hb1)
    | (go_at_call 34; (with_reducible refine (cT _).mono ?_); rintro e w5 ⟨rfl, hb1⟩; have m5 := m4.keep hb1; clear m4 hb1; have k := m5.blk w3.heap.size 38 #[.int .u64 0, .int .u64 9223372036854775808] (by simp); have c0 := k.cell_eq 0 (.int .u64 0) rfl; have c1 := k.cell_eq 1 (.int .u64 9223372036854775808) rfl; clear k))
  go_ret2
  exact ⟨rfl, m5.below⟩
set_option maxHeartbeats 1000000 in
theorem fmul_other (a b h l A B s t x : Int) (p q1 q2 : Bool) (hst : (s == t) = false) (hx : 0 ≤ x ∧ x < 9223372036854775808)
    (hh : (h == 0) = q1) (hl : (l == 9223372036854775808) = q2) (hq : (q1 && q2) = false)
    (cA : ∀ W, Calls Try.prog 33 #[.int .i64 a] W fun e w' => e = .returned (.int .u64 A) ∧ Below W.heap.size W w')
    (cB : ∀ W, Calls Try.prog 33 #[.int .i64 b] W fun e w' => e = .returned (.int .u64 B) ∧ Below W.heap.size W w')
    (cM : ∀ W, Calls Try.prog 32 #[.int .u64 A, .int .u64 B] W fun e w' => e = .returned (.agg #[.int .u64 h, .int .u64 l]) ∧ Below W.heap.size W w')
    (cS : ∀ W, Calls Try.prog 34 #[.int .i64 a] W fun e w' => e = .returned (.int .u64 s) ∧ Below W.heap.size W w')
    (cT : ∀ W, Calls Try.prog 34 #[.int .i64 b] W fun e w' => e = .returned (.int .u64 t) ∧ Below W.heap.size W w')
    (cN : ∀ W, Calls Try.prog 35 #[.agg #[.int .u64 h, .int .u64 l]] W fun e w' => e = .returned (.tuple #[.int .i64 x, .bool p]) ∧ Below W.heap.size W w')
    (w : World) :
    Calls Try.prog 11 #[.int .i64 a, .int .i64 b] w fun e w' => e = .returned (.tuple #[.int .i64 (-x), .bool p]) ∧ Below w.heap.size w w' := by
  have m0 := Mem.start w
  obtain ⟨hx0, hx1⟩ := hx
  go_enter Try.func11, Try.ntmps11
  go_wp2_with (first
    | (go_at_call 33; (with_reducible refine (cA _).mono ?_); rintro e w1 ⟨rfl, hb1⟩; have m1 := m0.keep hb1; clear m0 hb1)
    | (go_at_call 33; (with_reducible refine (cB _).mono ?_); rintro e w2 ⟨rfl, hb1⟩; have m2 := m1.keep hb1; clear m1 hb1)
    | (go_at_call 32; (with_reducible refine (cM _).mono ?_); rintro e w3 ⟨rfl, hb1⟩; have m3 := (m2.keep hb1).new 38 #[.int .u64 h, .int .u64 l]; clear m2 hb1)
    | (go_at_call 34; (with_reducible refine (cS _).mono ?_); rintro e w4 ⟨rfl, hb1⟩; have m4 := m3.keep hb1; clear m3 hb1)
    | (go_at_call 34; (with_reducible refine (cT _).mono ?_); rintro e w5 ⟨rfl, hb1⟩; have m5 := m4.keep hb1; clear m4 hb1; have k := m5.blk w3.heap.size 38 #[.int .u64 h, .int .u64 l] (by simp); have c0 := k.cell_eq 0 (.int .u64 h) rfl; have c1 := k.cell_eq 1 (.int .u64 l) rfl; clear k)
    | (go_at_call 35; (with_reducible refine (cN _).mono ?_); rintro e w6 ⟨rfl, hb1⟩; have m6 := m5.keep hb1; clear m5 hb1))
  all_goals first
    | (rename_i n1 n2; cases q1 with
        | false => exact absurd rfl n1
        | true => cases q2 with
          | false => exact absurd rfl n2
          | true => cases hq)
    | (go_ret2; exact ⟨rfl, m6.below⟩)
theorem mag_mul (a b : Int) : mag a * mag b = (if (decide (a < 0) == decide (b < 0)) = true then a * b else -(a * b)) := by
  by_cases ha : a < 0 <;> by_cases hb : b < 0
  · rw [mag_neg ha, mag_neg hb, Int.neg_mul_neg]; simp [ha, hb]
  · rw [mag_neg ha, mag_pos (by omega)]; simp [ha, hb, Int.neg_mul]
  · rw [mag_pos (by omega), mag_neg hb]; simp [ha, hb, Int.mul_neg]
  · rw [mag_pos (by omega), mag_pos (by omega)]; simp [ha, hb]
theorem sgn_same {a b : Int} (h : (decide (a < 0) == decide (b < 0)) = true) : (if b < 0 then (1 : Int) else 0) = if a < 0 then 1 else 0 := by
  by_cases h1 : a < 0 <;> by_cases h2 : b < 0 <;> simp [h1, h2] at h ⊢
theorem sgn_other {a b : Int} (h : ¬ (decide (a < 0) == decide (b < 0)) = true) : ((if a < 0 then (1 : Int) else 0) == if b < 0 then 1 else 0) = false := by
  by_cases h1 : a < 0 <;> by_cases h2 : b < 0 <;> simp [h1, h2] at h ⊢
theorem fmul_any (a b : Int) (ha : In64 a) (hb : In64 b) (w : World) :
    Calls Try.prog 11 #[.int .i64 a, .int .i64 b] w fun e w' => e = .returned (fitT (a * b)) ∧ Below w.heap.size w w' := by
  have cA := size_any a ha
  have cB := size_any b hb
  have hP := two_mul _ _ (mag_word ha) (mag_word hb)
  have cM := mul_two _ _ (mag_word ha) (mag_word hb)
  have cS := sign_any a ha
  have cT := sign_any b hb
  have cN := narrow_any _ hP
  have hm := mag_mul a b
  generalize mag a * mag b = P at *
  by_cases hsg : (decide (a < 0) == decide (b < 0)) = true
  · rw [if_pos hsg] at hm
    subst hm
    rw [sgn_same hsg] at cT
    obtain ⟨x, p, hx, -, -⟩ := fit_is (a * b)
    rw [hx] at cN ⊢
    exact fmul_same a b _ _ _ _ _ x p cA cB cM cS cT cN w
  · rw [if_neg hsg] at hm
    have e1 := sgn_other hsg
    have e2 : a * b = -P := by omega
    rw [e2]
    obtain ⟨p0, p1⟩ := hP
    by_cases hl : P = 9223372036854775808
    · subst hl
      exact fmul_least a b _ _ _ _ e1 cA cB cM cS cT w
    · by_cases hp : P < 9223372036854775808
      · rw [fit_yes ⟨by omega, hp⟩] at cN
        rw [fit_yes ⟨by omega, by omega⟩]
        refine fmul_other a b _ _ _ _ _ _ P true _ _ e1 ⟨p0, hp⟩ rfl rfl ?_ cA cB cM cS cT cN w
        simp [hi, lo]; omega
      · rw [fit_no (fun h => hp h.2)] at cN
        rw [fit_no (by unfold In64; omega)]
        refine fmul_other a b _ _ _ _ _ _ 0 false _ _ e1 ⟨by decide, by decide⟩ rfl rfl ?_ cA cB cM cS cT cN w
        simp [hi, lo]; omega
end Go.Proofs.Ytnahocdeaopflaa
