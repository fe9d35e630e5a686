/-
  The contracts of package wide's functions, each for every input: what it returns, and that nothing that was there before the call has changed.
-/
import Derived.Test.YteljjjdejjkgfaaShelfq
import Derived.Test.YteljjjdejjkgfaaNumq
import Derived.WalkKit
import Derived.WalkSpells
import Derived.StillTactics
import Derived.Laws.Pointers
import Derived.RegionTactic
import Derived.Deep.RegionHeld3
import Derived.Lib.Hide
import Derived.RowKit3
import Derived.BigRegion
import Derived.Outline
namespace Go.Proofs.Yteljjjdejjkgfaa
open Go.RowKit Go.Shelf

theorem add64 (x y c : Int) (hx : 0 ≤ x) (hy : 0 ≤ y) (hc0 : 0 ≤ c) (hc : c ≤ 1) (w : World) : (callFunc 42 #[.int .u64 x, .int .u64 y, .int .u64 c]).run Try.prog w =
    .ok (.value (.tuple #[.int .u64 ((x + y + c) % 18446744073709551616), .int .u64 ((x + y + c) / 18446744073709551616)])) w := by
  obtain ⟨x, rfl⟩ := Int.eq_ofNat_of_zero_le hx
  obtain ⟨y, rfl⟩ := Int.eq_ofNat_of_zero_le hy
  obtain ⟨c, rfl⟩ := Int.eq_ofNat_of_zero_le hc0
  refine (Any7.bits_Add64 Try.lays25 x y c (by omega) w).trans ?_
  congr 5 <;> omega
theorem add64_0 (x y : Int) (hx : 0 ≤ x) (hy : 0 ≤ y) (w : World) : (callFunc 42 #[.int .u64 x, .int .u64 y, .int .u64 0]).run Try.prog w =
    .ok (.value (.tuple #[.int .u64 ((x + y) % 18446744073709551616), .int .u64 ((x + y) / 18446744073709551616)])) w := by
  simpa using add64 x y 0 hx hy (Int.le_refl 0) (by decide) w
theorem mul_any (a b : Int) (ha : Word a) (hb : Word b) (w : World) :
    Calls Try.prog 43 #[.int .u64 a, .int .u64 b] w fun e w' =>
      e = .returned (.agg #[.int .u64 (a * b / 18446744073709551616), .int .u64 (a * b % 18446744073709551616)]) ∧ Below w.heap.size w w' := by
  obtain ⟨a1, a2⟩ := ha; obtain ⟨b1, b2⟩ := hb
  obtain ⟨a, rfl⟩ := Int.eq_ofNat_of_zero_le a1
  obtain ⟨b, rfl⟩ := Int.eq_ofNat_of_zero_le b1
  have m1 : a < 18446744073709551616 := by omega
  have m2 : b < 18446744073709551616 := by omega
  go_enter Try.func43, Try.ntmps43
  go_wp2_with (go_at_call 53; refine (Try.bits_Mul64 a b m1 m2 _).mono ?_; rintro e w' ⟨rfl, rfl⟩)
  simp [bodyPost, results, Try.results43, go_sem]
  exact (Below.refl _ _).alloc (Nat.le_refl _) _

theorem add_any (ah al bh bl : Int) (h1 : Word ah) (h2 : Word al) (h3 : Word bh) (h4 : Word bl) (w : World) :
    Calls Try.prog 29 #[.agg #[.int .u64 ah, .int .u64 al], .agg #[.int .u64 bh, .int .u64 bl]] w fun e w' =>
      e = .returned (.tuple #[.agg #[.int .u64 ((ah + bh + (al + bl) / 18446744073709551616) % 18446744073709551616), .int .u64 ((al + bl) % 18446744073709551616)], .bool ((ah + bh + (al + bl) / 18446744073709551616) / 18446744073709551616 == 0)]) ∧ Below w.heap.size w w' := by
  obtain ⟨a1, a2⟩ := h1; obtain ⟨b1, b2⟩ := h2; obtain ⟨c1, c2⟩ := h3; obtain ⟨d1, d2⟩ := h4
  have k0 : 0 ≤ (al + bl) / 18446744073709551616 := by omega
  have k1 : (al + bl) / 18446744073709551616 ≤ 1 := by omega
  go_enter Try.func29, Try.ntmps29
  go_wp2_with (first | simp only [add64_0 al bl b1 d1] | simp only [add64 ah bh _ a1 c1 k0 k1])
  simp [bodyPost, results, Try.results29, go_sem]
  exact (((Below.refl _ _).alloc (Nat.le_refl _) _).alloc (by simp) _).alloc (by simp; omega) _

theorem len_any (r : Int) (h : Two r) (w : World) :
    Calls Try.prog 46 #[.agg #[.int .u64 (hi r), .int .u64 (lo r)]] w fun e w' =>
      e = .returned (.int .i64 (len2 r)) ∧ Below w.heap.size w w' := by
  obtain ⟨a1, a2⟩ := word_hi h; obtain ⟨b1, b2⟩ := word_lo h
  unfold len2
  generalize hi r = ah at *
  generalize lo r = al at *
  have hL := Lib.bitLen_le ah.toNat 64 (by omega) (by omega)
  by_cases h0 : ah = 0
  · subst h0
    go_enter Try.func46, Try.ntmps46
    go_wp2_with (go_at_call 55; refine (Try.bits_Len64 _ _ b1 (by omega)).mono ?_; rintro e w' ⟨rfl, rfl⟩)
    go_ret
    exact ⟨rfl, (Below.refl _ _).alloc (Nat.le_refl _) _⟩
  · rw [if_neg h0]
    have hb : (0 : Int) ≤ (Lib.bitLen ah.toNat : Int) := by omega
    have hb2 : (Lib.bitLen ah.toNat : Int) ≤ 64 := by omega
    have e0 : (ah == 0) = false := by simpa using h0
    go_enter Try.func46, Try.ntmps46
    go_wp2_with (go_at_call 55; refine (Try.bits_Len64 _ _ a1 (by omega)).mono ?_; rintro e w' ⟨rfl, rfl⟩)
    go_ret
    exact ⟨rfl, (Below.refl _ _).alloc (Nat.le_refl _) _⟩

theorem two_blocks (w : World) (c1 c2 : Array Value) (t1 t2 : TypeId) : Below w.heap.size w ((w.alloc (.cells c1 t1)).alloc (.cells c2 t2)) :=
  ((Below.refl _ _).alloc (Nat.le_refl _) _).alloc (by simp) _

theorem left_any (r n : Int) (h : Two r) (hn : n < 9223372036854775808) (w : World) :
    Calls Try.prog 48 #[.agg #[.int .u64 (hi r), .int .u64 (lo r)], .int .i64 n] w fun e w' =>
      e = .returned (.agg #[.int .u64 (hi (shl r n)), .int .u64 (lo (shl r n))]) ∧ Below w.heap.size w w' := by
  obtain ⟨a1, a2⟩ := word_hi h; obtain ⟨b1, b2⟩ := word_lo h
  by_cases hneg : n < 0
  · have e : shl r n = r := by unfold shl; rw [if_pos hneg]
    rw [e]
    clear e
    go_enter Try.func48, Try.ntmps48
    go_wp2
    simp [bodyPost, results, Try.results48, go_sem]
    exact two_blocks _ _ _ _ _
  · have hn0 : ((n.toNat : Nat) : Int) = n := by omega
    by_cases hk : n < 64
    · obtain ⟨e1, e2⟩ := shl_mid r h n.toNat (by omega)
      rw [hn0] at e1 e2
      rw [← e1, ← e2]
      clear e1 e2 hn0
      have hk0 : 0 ≤ n := by omega
      clear hneg
      go_enter Try.func48, Try.ntmps48
      go_wp2
      go_region
      go_wp2
      simp [bodyPost, results, Try.results48, go_sem]
      refine ⟨?_, (two_blocks _ _ _ _ _).drew⟩
      rw [show (64 - n).toNat = 64 - n.toNat by omega]
    · obtain ⟨e1, e2⟩ := shl_big r h n.toNat (by omega)
      rw [hn0] at e1 e2
      rw [← e1, ← e2]
      clear e1 e2 hn0
      have hk0 : 64 ≤ n := by omega
      clear hneg hk
      go_enter Try.func48, Try.ntmps48
      go_wp2
      simp [bodyPost, results, Try.results48, go_sem]
      refine ⟨?_, two_blocks _ _ _ _ _⟩
      rw [show (n - 64).toNat = n.toNat - 64 by omega]

theorem right_any (r n : Int) (h : Two r) (hn : n < 9223372036854775808) (w : World) :
    Calls Try.prog 47 #[.agg #[.int .u64 (hi r), .int .u64 (lo r)], .int .i64 n] w fun e w' =>
      e = .returned (.agg #[.int .u64 (hi (shr r n)), .int .u64 (lo (shr r n))]) ∧ Below w.heap.size w w' := by
  have hw := word_hi h
  obtain ⟨a1, a2⟩ := word_hi h; obtain ⟨b1, b2⟩ := word_lo h
  by_cases hneg : n < 0
  · have e : shr r n = r := by unfold shr; rw [if_pos hneg]
    rw [e]
    clear e hw
    go_enter Try.func47, Try.ntmps47
    go_wp2
    simp [bodyPost, results, Try.results47, go_sem]
    exact two_blocks _ _ _ _ _
  · have hn0 : ((n.toNat : Nat) : Int) = n := by omega
    by_cases hk : n < 64
    · obtain ⟨e1, e2⟩ := shr_mid r h n.toNat (by omega)
      rw [hn0] at e1 e2
      rw [← e1, ← e2]
      clear e1 e2 hn0 hw
      have hk0 : 0 ≤ n := by omega
      clear hneg
      go_enter Try.func47, Try.ntmps47
      go_wp2
      go_region
      go_wp2
      simp [bodyPost, results, Try.results47, go_sem]
      refine ⟨?_, (two_blocks _ _ _ _ _).drew⟩
      rw [show (64 - n).toNat = 64 - n.toNat by omega]
    · obtain ⟨e1, e2⟩ := shr_big r h n.toNat (by omega)
      rw [hn0] at e1 e2
      rw [← e1, ← e2, ← min_div _ hw]
      clear e1 e2 hn0 hw
      have hk0 : 64 ≤ n := by omega
      clear hneg hk
      go_enter Try.func47, Try.ntmps47
      go_wp2
      simp [bodyPost, results, Try.results47, go_sem]
      refine ⟨?_, two_blocks _ _ _ _ _⟩
      rw [show (n - 64).toNat = n.toNat - 64 by omega]

end Go.Proofs.Yteljjjdejjkgfaa
