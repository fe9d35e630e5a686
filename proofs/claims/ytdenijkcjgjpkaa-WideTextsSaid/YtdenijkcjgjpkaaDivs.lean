/-
  Any number divided by any one, and what is left: the statement's function, for every input.
-/
import Derived.Test.YtdenijkcjgjpkaaRefDivW
import Derived.Test.YtdenijkcjgjpkaaRefIs
import Derived.Test.YtdenijkcjgjpkaaAlive
namespace Go.Proofs.Ytdenijkcjgjpkaa
open Go.RowKit
theorem two_rows {w0 w : World} {l : List (Nat × TypeId × Array Value)} (h : Mem w0 l w) (t : TypeId) (Z cx cy : Array Value) :
    Mem w0 ((w.heap.size + 1, t, cy) :: (w.heap.size, t, cx) :: l) ((((w.alloc (.cells Z t)).alloc (.cells Z t)).setRow w.heap.size cx).setRow (w.heap.size + 1) cy) :=
  ⟨fun p hp => by
    rcases List.mem_cons.1 hp with rfl | hp
    · exact ((Blk.new' (by simp)).setRow_other (by omega) _).setRow _
    · rcases List.mem_cons.1 hp with rfl | hp
      · exact (((Blk.new' rfl).alloc _).setRow _).setRow_other (by show w.heap.size + 1 ≠ w.heap.size; omega) _
      · have hlt := (h.blks p hp).lt
        exact ((((h.blks p hp).alloc _).alloc _).setRow_other (by omega) _).setRow_other (by omega) _,
    below_setRow (below_setRow ((h.below.alloc h.below.size _).alloc (by have := h.below.size; simp; omega) _) h.below.size _) (by have := h.below.size; omega) _⟩
theorem divs_zero (a b : Int) (ha : Word a) (hb : Word b) (w : World) :
    Calls Try.prog 6 #[.int .u64 a, .int .u64 b, .int .u64 0] w fun e w' => e = .returned (.bool true) ∧ Below w.heap.size w w' := by
  have cD := div_zero _ (two_mk ha hb)
  rw [hi_mk hb, lo_mk hb] at cD
  have m0 := (Mem.start w).new 25 #[.int .u64 a, .int .u64 b]
  go_enter Try.func6, Try.ntmps6
  go_wp2_with (first
    | (go_at_call 26; (with_reducible refine (cD _).mono ?_); rintro e w2 ⟨rfl, hb1⟩; have m1 := (m0.keep hb1).new 25 #[.int .u64 0, .int .u64 0])
    | (go_at_call 12; (with_reducible refine (alive_any _).mono ?_); rintro e w5 ⟨rfl, hb4⟩; have m4 := m1.keep hb4))
  go_ret
  exact ⟨rfl, m4.below⟩
set_option maxRecDepth 100000 in
set_option maxHeartbeats 2000000 in
theorem divs_road (a b d qh ql R : Int) (X F G : Nat → Bool) (e0 : (d == 0) = false) (w : World)
    (cD : ∀ W, Calls Try.prog 26 #[.agg #[.int .u64 a, .int .u64 b], .int .u64 d] W fun e w' => e = .returned (.tuple #[.agg #[.int .u64 qh, .int .u64 ql], .int .u64 R, .bool true]) ∧ Below W.heap.size W w')
    (cO : ∀ W, Calls Try.prog 13 #[.int .u64 a, .int .u64 b] W fun e w' => e = .returned (.agg (arr X)) ∧ Below W.heap.size W w')
    (cR : ∀ W, Calls Try.prog 27 #[.agg (arr X), .int .u64 d] W fun e w' => e = .returned (.tuple #[.agg (arr F), .agg (arr G)]) ∧ Below W.heap.size W w')
    (cH : ∀ W, Calls Try.prog 28 #[.agg (arr G)] W fun e w' => e = .returned (.tuple #[.int .u64 0, .int .u64 R]) ∧ Below W.heap.size W w')
    (cI : ∀ W, Calls Try.prog 9 #[.agg #[.int .u64 qh, .int .u64 ql], .agg (arr F)] W fun e w' => e = .returned (.bool true) ∧ Below W.heap.size W w') :
    Calls Try.prog 6 #[.int .u64 a, .int .u64 b, .int .u64 d] w fun e w' => e = .returned (.bool true) ∧ Below w.heap.size w w' := by
  have zv := zero28
  have m0 := (Mem.start w).new 25 #[.int .u64 a, .int .u64 b]
  go_enter Try.func6, Try.ntmps6
  go_wp2_with (first
    | (go_at_call 26; (with_reducible refine (cD _).mono ?_); rintro e w2 ⟨rfl, hb1⟩; have m1 := (m0.keep hb1).new 25 #[.int .u64 qh, .int .u64 ql]; clear m0 hb1)
    | (go_at_call 13; (with_reducible refine (cO _).mono ?_); rintro e w3 ⟨rfl, hb2⟩; have m2 := m1.keep hb2; clear m1 hb2)
    | (go_at_call 27; (with_reducible refine (cR _).mono ?_); rintro e w4 ⟨rfl, hb3⟩; have m3 := m2.keep hb3; clear m2 hb3)
    | (refine st28 rfl (.tmp 11) (.tmp 47) rfl w4.heap.size F (fun _ => false) rfl rfl ((Blk.new' rfl).alloc _) ?_; refine st28 rfl (.tmp 12) (.tmp 48) rfl (w4.heap.size + 1) G (fun _ => false) rfl rfl ((Blk.new' (by simp)).setRow_other (by omega) _) ?_; have m4 := two_rows m3 28 (arr fun _ => false) (arr F) (arr G); generalize (((w4.alloc (.cells (arr fun _ => false) 28)).alloc (.cells (arr fun _ => false) 28)).setRow w4.heap.size (arr F)).setRow (w4.heap.size + 1) (arr G) = W4 at *; generalize w4.heap.size = g1 at *; generalize w2.heap.size = g2 at *; clear m3)
    | (refine ld28 rfl (.tmp 12) rfl (g1 + 1) rfl G (m4.blk _ _ _ (by simp)) ?_)
    | (go_at_call 28; (with_reducible refine (cH _).mono ?_); rintro e w5 ⟨rfl, hb5⟩; have m5 := m4.keep hb5; clear m4 hb5; have k := m5.blk g2 25 #[.int .u64 qh, .int .u64 ql] (by simp); have c0 := k.cell_eq 0 (.int .u64 qh) rfl; have c1 := k.cell_eq 1 (.int .u64 ql) rfl; clear k)
    | (refine ld28 rfl (.tmp 11) rfl g1 rfl F (m5.blk _ _ _ (by simp)) ?_)
    | (go_at_call 9; (with_reducible refine (cI _).mono ?_); rintro e w6 ⟨rfl, hb6⟩; have m6 := m5.keep hb6; clear m5 hb6 c0 c1)
    | (go_at_call 12; (with_reducible refine (alive_any _).mono ?_); rintro e w7 ⟨rfl, hb7⟩; have m7 := m6.keep hb7; clear m6 hb7))
  go_ret
  exact ⟨rfl, m7.below⟩
theorem divs_any (a b d : Int) (ha : Word a) (hb : Word b) (hd : Word d) (w : World) :
    Calls Try.prog 6 #[.int .u64 a, .int .u64 b, .int .u64 d] w fun e w' => e = .returned (.bool true) ∧ Below w.heap.size w w' := by
  by_cases h0 : d = 0
  · subst h0; exact divs_zero a b ha hb w
  · obtain ⟨d0, d1⟩ := hd
    have hr := two_mk ha hb
    have cD := div_pos _ d hr (by omega) d1
    rw [hi_mk hb, lo_mk hb] at cD
    obtain ⟨D, rfl⟩ := Int.eq_ofNat_of_zero_le d0
    have hD : 0 < D := by omega
    have hD1 : D < 18446744073709551616 := by omega
    have o1 := of_any a b ha hb
    obtain ⟨V, hV⟩ : ∃ V : Nat, a * 18446744073709551616 + b = V := ⟨(a * 18446744073709551616 + b).toNat, by have := hr.1; omega⟩
    have hVlt : V < 340282366920938463463374607431768211456 := by have := hr.2; omega
    rw [hV] at cD o1
    have e1 : BitVec.ofInt 128 (V : Int) = BitVec.ofNat 128 V := BitVec.ofInt_natCast _ _
    rw [e1] at o1
    have hq : (V : Int) / D = ((BitVec.ofNat 128 (V / D)).toNat : Int) := by
      rw [BitVec.toNat_ofNat, Nat.mod_eq_of_lt (Nat.lt_of_le_of_lt (Nat.div_le_self _ _) hVlt)]; simp
    have hm := Nat.mod_lt V hD
    have hR := rdiv_any V D hVlt hD hD1
    have e3 : ((V % D : Nat) : Int) = (V : Int) % D := by simp
    rw [← e3] at cD
    generalize V % D = r at *
    have hH := halves_any (BitVec.ofNat 128 r)
    have e2 : (BitVec.ofNat 128 r).toNat = r := by rw [BitVec.toNat_ofNat]; exact Nat.mod_eq_of_lt (by omega)
    rw [e2, Nat.div_eq_of_lt (show r < 18446744073709551616 by omega), Nat.mod_eq_of_lt (show r < 18446744073709551616 by omega)] at hH
    exact divs_road a b D _ _ _ _ _ _ (by simp; omega) w cD o1 hR hH (is_any _ (BitVec.ofNat 128 (V / D)) hq)
end Go.Proofs.Ytdenijkcjgjpkaa
