/-
  A product divided by a factor is the other one, and a number divided, multiplied again, with what was left, is the number: the statement's function returns true for every three numbers.
-/
import Derived.Test.YtdenijkcjgjpkaaBackWalk
namespace Go.Proofs.Ytdenijkcjgjpkaa
open Go.RowKit Go.Shelf
theorem back_zero (a c : Int) (w : World) : Calls Try.prog 8 #[.int .u64 a, .int .u64 0, .int .u64 c] w fun e w' => e = .returned (.bool true) ∧ Below w.heap.size w w' := by
  go_enter Try.func8, Try.ntmps8
  go_wp2_with (go_at_call 12; refine (alive_any _).mono ?_; rintro e wl ⟨rfl, hb9⟩)
  go_ret
  exact ⟨rfl, hb9⟩
theorem back_any (a b c : Int) (ha : Word a) (hb : Word b) (hc : Word c) (w : World) :
    Calls Try.prog 8 #[.int .u64 a, .int .u64 b, .int .u64 c] w fun e w' => e = .returned (.bool true) ∧ Below w.heap.size w w' := by
  by_cases hb0 : b = 0
  · subst hb0; exact back_zero a c w
  · have hbp : 0 < b := by have := hb.1; omega
    obtain ⟨V, hV⟩ : ∃ V, V = a * 18446744073709551616 + c := ⟨_, rfl⟩
    have hV2 : Two V := hV ▸ two_mk ha hc
    have hVh : hi V = a := hV ▸ hi_mk hc
    have hVl : lo V = c := hV ▸ lo_mk hc
    have hQ0 : 0 ≤ V / b := Int.ediv_nonneg hV2.1 (by omega)
    have hQ1 : V / b ≤ V := Int.ediv_le_self _ hV2.1
    have hQ2 : Two (V / b) := ⟨hQ0, by have := hV2.2; omega⟩
    have hR0 := Int.emod_nonneg V (show b ≠ 0 by omega)
    have hR1 := Int.emod_lt_of_pos V hbp
    have hRw : Word (V % b) := ⟨hR0, by have := hb.2; omega⟩
    have hsum := Int.mul_ediv_add_emod V b
    have hql := hi_lo (V / b)
    have e1 : lo (V / b) * b + V % b + hi (V / b) * b * 18446744073709551616 = V := by
      have : b * (V / b) = lo (V / b) * b + hi (V / b) * b * 18446744073709551616 := by
        rw [← hql, Int.mul_add]
        rw [hi_mk (word_lo hQ2), lo_mk (word_lo hQ2)]
        rw [Int.mul_comm b (lo _), Int.mul_right_comm, ← Int.mul_assoc, Int.mul_comm b]
        rw [Int.mul_right_comm]
        omega
      omega
    have t1 := two_mul (lo (V / b)) b (word_lo hQ2) hb
    have t2 := two_mul (hi (V / b)) b (word_hi hQ2) hb
    have hV3 := hV2.2
    have t3 : Two (hi (V / b) * b * 18446744073709551616) := ⟨by have := t2.1; omega, by have := t1.1; omega⟩
    have t4 : Two (lo (V / b) * b + V % b) := ⟨by have := t1.1; omega, by have := t2.1; omega⟩
    have hsh : shl (hi (V / b) * b) 64 = hi (V / b) * b * 18446744073709551616 := by
      unfold shl
      rw [if_neg (by decide), show (2 : Int) ^ (64 : Int).toNat = 18446744073709551616 by rfl]
      exact Int.emod_eq_of_lt t3.1 t3.2
    have c2 := div_pos (a * b) b (two_mul a b ha hb) hbp hb.2
    rw [Int.mul_ediv_cancel a (by omega), Int.mul_emod_left, (hi_small a ha).1, (hi_small a ha).2] at c2
    have c3 := div_pos V b hV2 hbp hb.2
    have c5 := add_two (lo (V / b) * b) (V % b) t1 ⟨hRw.1, by have := hRw.2; omega⟩ (by have := t4.2; omega)
    rw [(hi_small _ hRw).1, (hi_small _ hRw).2] at c5
    have c7 := left_any (hi (V / b) * b) 64 t2 (by decide)
    rw [hsh] at c7
    have c8 := add_two (lo (V / b) * b + V % b) (hi (V / b) * b * 18446744073709551616) t4 t3 (by omega)
    rw [e1, hVh, hVl] at c8
    rw [hVh, hVl] at c3
    exact back_road a b c _ _ _ _ _ _ _ _ _ _ _ _ _ (by simpa using hb0) hR1 (mul_two a b ha hb) c2 c3 (mul_two _ b (word_lo hQ2) hb) c5 (mul_two _ b (word_hi hQ2) hb) c7 c8 w
end Go.Proofs.Ytdenijkcjgjpkaa
