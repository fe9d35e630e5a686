/-
  The walk of the statement on division and multiplication: whatever the three numbers are, it returns true.
-/
import Derived.Test.YtdenijkcjgjpkaaAlive
import Derived.Deep.DeepCutAuto
namespace Go.Proofs.Ytdenijkcjgjpkaa
open Go.RowKit Go.Shelf
theorem mul_two (a b : Int) (ha : Word a) (hb : Word b) (w : World) : Calls Try.prog 10 #[.int .u64 a, .int .u64 b] w fun e w' =>
    e = .returned (.agg #[.int .u64 (hi (a * b)), .int .u64 (lo (a * b))]) ∧ Below w.heap.size w w' := mul_any a b ha hb w
theorem add_two (r s : Int) (h : Two r) (h' : Two s) (hs : r + s < 340282366920938463463374607431768211456) (w : World) :
    Calls Try.prog 14 #[.agg #[.int .u64 (hi r), .int .u64 (lo r)], .agg #[.int .u64 (hi s), .int .u64 (lo s)]] w fun e w' =>
      e = .returned (.tuple #[.agg #[.int .u64 (hi (r + s)), .int .u64 (lo (r + s))], .bool true]) ∧ Below w.heap.size w w' := by
  have e1 : (hi r + hi s + (lo r + lo s) / 18446744073709551616) % 18446744073709551616 = hi (r + s) := by obtain ⟨a, b⟩ := h; obtain ⟨c, d⟩ := h'; unfold hi lo; omega
  have e2 : (lo r + lo s) % 18446744073709551616 = lo (r + s) := by unfold lo; omega
  have e3 : ((hi r + hi s + (lo r + lo s) / 18446744073709551616) / 18446744073709551616 == 0) = true := by obtain ⟨a, b⟩ := h; obtain ⟨c, d⟩ := h'; unfold hi lo; simp; omega
  have := add_any (hi r) (lo r) (hi s) (lo s) (word_hi h) (word_lo h) (word_hi h') (word_lo h') w
  rw [e1, e2, e3] at this
  exact this
theorem two_mul (a b : Int) (ha : Word a) (hb : Word b) : Two (a * b) := by
  obtain ⟨a0, a1⟩ := ha; obtain ⟨b0, b1⟩ := hb
  refine ⟨Int.mul_nonneg a0 b0, ?_⟩
  have h1 : a * b ≤ 18446744073709551615 * b := Int.mul_le_mul_of_nonneg_right (by omega) b0
  omega
theorem hi_small (x : Int) (h : Word x) : hi x = 0 ∧ lo x = x := by obtain ⟨a, b⟩ := h; unfold hi lo; omega

/-- What is kept of the world while the last sum is made: the cells that are read, the block of the number that came in, and all that was there before. -/
structure Kept (w0 : World) (g : Nat) (u v : Value) (w : World) : Prop where
  below : Below w0.heap.size w0 w
  blk : Blk w g 25 #[u, v]
theorem keep3 {w0 w w' : World} {a b g : Nat} {x y z u v : Value} (hb : Below w.heap.size w w') (ha : a < w.heap.size) (hb2 : b < w.heap.size)
    (h : w.cell? ⟨a, 0, none⟩ = some x ∧ w.cell? ⟨a, 1, none⟩ = some y ∧ w.cell? ⟨b, 0, none⟩ = some z ∧ Kept w0 g u v w) : w'.cell? ⟨a, 0, none⟩ = some x ∧ w'.cell? ⟨a, 1, none⟩ = some y ∧ w'.cell? ⟨b, 0, none⟩ = some z ∧ Kept w0 g u v w' := by
  obtain ⟨c, -⟩ := bcell hb
  exact ⟨(c _ _ ha).trans h.1, (c _ _ ha).trans h.2.1, (c _ _ hb2).trans h.2.2.1, h.2.2.2.below.trans (hb.mono h.2.2.2.below.size), h.2.2.2.blk.below hb h.2.2.2.blk.lt⟩
theorem keep3s {w0 w : World} {a b g p o : Nat} {x y z u v t : Value} (ha : a < p) (hb : b < p) (hg : g < p) (hp : w0.heap.size ≤ p)
    (h : w.cell? ⟨a, 0, none⟩ = some x ∧ w.cell? ⟨a, 1, none⟩ = some y ∧ w.cell? ⟨b, 0, none⟩ = some z ∧ Kept w0 g u v w) :
    (w.setCell ⟨p, o, none⟩ t).cell? ⟨a, 0, none⟩ = some x ∧ (w.setCell ⟨p, o, none⟩ t).cell? ⟨a, 1, none⟩ = some y ∧ (w.setCell ⟨p, o, none⟩ t).cell? ⟨b, 0, none⟩ = some z ∧ Kept w0 g u v (w.setCell ⟨p, o, none⟩ t) :=
  ⟨(World.cell?_setCell_other _ _ _ _ (ne_block (by omega))).trans h.1, (World.cell?_setCell_other _ _ _ _ (ne_block (by omega))).trans h.2.1, (World.cell?_setCell_other _ _ _ _ (ne_block (by omega))).trans h.2.2.1,
    h.2.2.2.below.setCell hp _, h.2.2.2.blk.other (by show p ≠ g; omega) _⟩

set_option maxRecDepth 100000 in
set_option maxHeartbeats 4000000 in
/-- The walk, its callees by what they answer. -/
theorem back_road (a b c h1 l1 qh ql R m1h m1l sh sl m2h m2l m3h m3l : Int) (hb0 : (b == 0) = false) (hR : R < b)
    (c1 : ∀ W, Calls Try.prog 10 #[.int .u64 a, .int .u64 b] W fun e w' => e = .returned (.agg #[.int .u64 h1, .int .u64 l1]) ∧ Below W.heap.size W w')
    (c2 : ∀ W, Calls Try.prog 26 #[.agg #[.int .u64 h1, .int .u64 l1], .int .u64 b] W fun e w' => e = .returned (.tuple #[.agg #[.int .u64 0, .int .u64 a], .int .u64 0, .bool true]) ∧ Below W.heap.size W w')
    (c3 : ∀ W, Calls Try.prog 26 #[.agg #[.int .u64 a, .int .u64 c], .int .u64 b] W fun e w' => e = .returned (.tuple #[.agg #[.int .u64 qh, .int .u64 ql], .int .u64 R, .bool true]) ∧ Below W.heap.size W w')
    (c4 : ∀ W, Calls Try.prog 10 #[.int .u64 ql, .int .u64 b] W fun e w' => e = .returned (.agg #[.int .u64 m1h, .int .u64 m1l]) ∧ Below W.heap.size W w')
    (c5 : ∀ W, Calls Try.prog 14 #[.agg #[.int .u64 m1h, .int .u64 m1l], .agg #[.int .u64 0, .int .u64 R]] W fun e w' => e = .returned (.tuple #[.agg #[.int .u64 sh, .int .u64 sl], .bool true]) ∧ Below W.heap.size W w')
    (c6 : ∀ W, Calls Try.prog 10 #[.int .u64 qh, .int .u64 b] W fun e w' => e = .returned (.agg #[.int .u64 m2h, .int .u64 m2l]) ∧ Below W.heap.size W w')
    (c7 : ∀ W, Calls Try.prog 20 #[.agg #[.int .u64 m2h, .int .u64 m2l], .int .i64 64] W fun e w' => e = .returned (.agg #[.int .u64 m3h, .int .u64 m3l]) ∧ Below W.heap.size W w')
    (c8 : ∀ W, Calls Try.prog 14 #[.agg #[.int .u64 sh, .int .u64 sl], .agg #[.int .u64 m3h, .int .u64 m3l]] W fun e w' => e = .returned (.tuple #[.agg #[.int .u64 a, .int .u64 c], .bool true]) ∧ Below W.heap.size W w')
    (w : World) : Calls Try.prog 8 #[.int .u64 a, .int .u64 b, .int .u64 c] w fun e w' => e = .returned (.bool true) ∧ Below w.heap.size w w' := by
  go_enter Try.func8, Try.ntmps8
  go_wp2_with (first
    | (go_at_call 10; (with_reducible refine (c1 _).mono ?_); rintro e w2 ⟨rfl, hb1⟩)
    | (go_at_call 26; (with_reducible refine (c2 _).mono ?_); rintro e w3 ⟨rfl, hb2⟩))
  have hz := hb1.size
  have hz2 := hb2.size
  have hbl := hb1.trans (hb2.mono hz)
  have k7 : Blk ((w3.alloc (.cells #[.int .u64 0, .int .u64 a] 25)).alloc (.cells #[.int .u64 a, .int .u64 c] 25)) w3.heap.size 25 #[.int .u64 0, .int .u64 a] := (Blk.new _ _ _).alloc _
  have k10 : Blk ((w3.alloc (.cells #[.int .u64 0, .int .u64 a] 25)).alloc (.cells #[.int .u64 a, .int .u64 c] 25)) (w3.heap.size + 1) 25 #[.int .u64 a, .int .u64 c] := Blk.new' (by simp)
  have hbl2 : Below w.heap.size w ((w3.alloc (.cells #[.int .u64 0, .int .u64 a] 25)).alloc (.cells #[.int .u64 a, .int .u64 c] 25)) := (hbl.alloc (by omega) _).alloc (by simp; omega) _
  generalize hW : ((w3.alloc (.cells #[.int .u64 0, .int .u64 a] 25)).alloc (.cells #[.int .u64 a, .int .u64 c] 25)) = W at *
  have hWs : w3.heap.size + 1 < W.heap.size := k10.lt
  generalize hB : w3.heap.size = B at *
  have hwB : w.heap.size ≤ B := by omega
  clear hW hB hz hz2 hbl hb1 hb2 c1 c2
  refine (c3 _).mono ?_
  rintro e w4 ⟨rfl, hb3⟩
  have j7 := k7.below hb3 (by omega)
  have j10 := k10.below hb3 (by omega)
  have hbl3 := hbl2.trans (hb3.mono (by omega))
  have hW4 := j10.lt
  have x0 := j7.cell_eq 0 (.int .u64 0) rfl
  have x1 := j7.cell_eq 1 (.int .u64 a) rfl
  have x2 := j7.free 0
  have x3 := j7.free 1
  clear k7 k10 hbl2 hWs hb3 c3
  go_wp2_with (go_at_call 10; (with_reducible refine (c4 _).mono ?_); rintro e w5 ⟨rfl, hb4⟩)
  have i7 := (j7.set2 (.int .u64 qh) (.int .u64 ql)).below hb4 (by simp [World.setCell]; omega)
  have i10 := ((j10.other (a := ⟨B, 0, none⟩) (by simp) (.int .u64 qh)).other (a := ⟨B, 1, none⟩) (by simp) (.int .u64 ql)).below hb4 (by simp [World.setCell]; omega)
  have hbl4 := (((hbl3.setCell (p := ⟨B, 0, none⟩) hwB (.int .u64 qh)).setCell (p := ⟨B, 1, none⟩) hwB (.int .u64 ql)).trans (hb4.mono (by simp [World.setCell]; omega)))
  clear j7 j10 hbl3 hW4 x0 x1 x2 x3 hb4 c4
  refine (c5 _).mono ?_
  rintro e w6 ⟨rfl, hb5⟩
  have h10 := i10.lt
  have j7 := i7.below hb5 (by omega)
  have j10 := i10.below hb5 (by omega)
  have hbl5 := hbl4.trans (hb5.mono (by omega))
  clear i7 i10 hbl4 hb5 h10 c5
  have h10 := j10.lt
  go_upto_region 9 with fail
  have k7 := j7.alloc (.cells #[.int .u64 sh, .int .u64 sl] 25)
  have k10 := j10.alloc (.cells #[.int .u64 sh, .int .u64 sl] 25)
  have k11 := Blk.new w6 25 #[.int .u64 sh, .int .u64 sl]
  have hbl6 := hbl5.alloc (by omega) (.cells #[.int .u64 sh, .int .u64 sl] 25)
  generalize (w6.alloc (.cells #[.int .u64 sh, .int .u64 sl] 25)) = W6 at *
  generalize w6.heap.size = B2 at *
  have h12 := k11.lt
  clear j7 j10 hbl5
  have y0 := k11.cell_eq 0 (.int .u64 sh) rfl
  have y1 := k11.cell_eq 1 (.int .u64 sl) rfl
  have y2 := k7.cell_eq 0 (.int .u64 qh) rfl
  have hB2 : B < W6.heap.size := k7.lt
  have K6 : Kept w (B + 1) (.int .u64 a) (.int .u64 c) W6 := ⟨hbl6, k10⟩
  have K6d : Kept w (B + 1) (.int .u64 a) (.int .u64 c) W6.drew := ⟨hbl6.drew, k10.drew⟩
  have S6p := And.intro y0 (And.intro y1 (And.intro y2 K6))
  have S6 := And.intro (show W6.drew.cell? ⟨B2, 0, none⟩ = some (.int .u64 sh) from y0) (And.intro (show W6.drew.cell? ⟨B2, 1, none⟩ = some (.int .u64 sl) from y1) (And.intro (show W6.drew.cell? ⟨B, 0, none⟩ = some (.int .u64 qh) from y2) K6d))
  have h10' := k10.lt
  have hw6 : w.heap.size ≤ W6.heap.size := hbl6.size
  have hd6 : W6.heap.size ≤ W6.drew.heap.size := Nat.le_refl _
  go_cut [13, 14] (fun s13 s14 wx => ∃ g : Nat, s13 = .pointer (some ⟨g, 0, none⟩) ∧ s14 = .bool true ∧ Blk wx g 25 #[.int .u64 a, .int .u64 c] ∧ Kept w (B + 1) (.int .u64 a) (.int .u64 c) wx)
  case first =>
    go_region_held3 (fun w' => w'.cell? ⟨B2, 0, none⟩ = some (.int .u64 sh) ∧ w'.cell? ⟨B2, 1, none⟩ = some (.int .u64 sl) ∧ w'.cell? ⟨B, 0, none⟩ = some (.int .u64 qh) ∧ Kept w (B + 1) (.int .u64 a) (.int .u64 c) w')
      (first | exact S6 | exact S7 | exact S8 | exact S9 | exact keep3s (by omega) (by omega) (by omega) (by omega) (keep3s (by omega) (by omega) (by omega) (by omega) S9) | exact keep3 ((Below.refl _ _).alloc (Nat.le_refl _) _).drew (by omega) (by omega) S6p | exact keep3 ((Below.refl _ _).alloc (Nat.le_refl _) _) (by omega) (by omega) (by assumption) | exact keep3 (((Below.refl _ _).alloc (Nat.le_refl _) _).setCell (by first | omega | (simp; omega)) _) (by omega) (by omega) (by assumption) | exact keep3 ((((Below.refl _ _).alloc (Nat.le_refl _) _).setCell (by first | omega | (simp; omega)) _).setCell (by first | omega | (simp; omega)) _) (by omega) (by omega) (by assumption))
      (first
        | (go_at_call 10; (with_reducible refine (c6 _).mono ?_); rintro e w7 ⟨rfl, hb6⟩; have S7 := keep3 (a := B2) (b := B) hb6 (by first | omega | (simp; omega)) (by first | omega | (simp; omega)) (by first | assumption | exact keep3 ((Below.refl _ _).alloc (Nat.le_refl _) _).drew (by omega) (by omega) S6p | exact keep3 ((Below.refl _ _).alloc (Nat.le_refl _) _) (by omega) (by omega) (by assumption)); have hs7 := hb6.size; (try simp at hs7); (try (have N7 := (Blk.new W6 25 #[.int .u64 0, .int .u64 0]).drew.below hb6 (by simp))))
        | (go_at_call 20; (with_reducible refine (c7 _).mono ?_); rintro e w8 ⟨rfl, hb7⟩; have S8 := keep3 (a := B2) (b := B) hb7 (by first | omega | (simp; omega)) (by first | omega | (simp; omega)) (by first | assumption | exact keep3 ((Below.refl _ _).alloc (Nat.le_refl _) _).drew (by omega) (by omega) S6p | exact keep3 ((Below.refl _ _).alloc (Nat.le_refl _) _) (by omega) (by omega) (by assumption)); have hs8 := hb7.size; (try simp at hs8); (try (first | (have N8 := (Blk.new w7 25 #[.int .u64 0, .int .u64 0]).below hb7 (by simp); skip) | (have N8 := N7.below hb7 N7.lt; skip))))
        | (go_at_call 14; go_must ((with_reducible refine (c8 _).mono ?_); rintro e w9 ⟨rfl, hb8⟩; have S9 := keep3 (a := B2) (b := B) hb8 (by first | omega | (simp; omega)) (by first | omega | (simp; omega)) (by first | assumption | exact keep3 ((Below.refl _ _).alloc (Nat.le_refl _) _).drew (by omega) (by omega) S6p | exact keep3 ((Below.refl _ _).alloc (Nat.le_refl _) _) (by omega) (by omega) (by assumption)); have hs9 := hb8.size; (try simp at hs9); (try (first | (have N9 := (Blk.new w8 25 #[.int .u64 0, .int .u64 0]).below hb8 (by simp); have m0 := N9.cell_eq 0 (.int .u64 0) rfl; have m1 := N9.cell_eq 1 (.int .u64 0) rfl; have m2 := N9.free 0; have m3 := N9.free 1) | (have N9 := N8.below hb8 N8.lt; have m0 := N9.cell_eq 0 (.int .u64 0) rfl; have m1 := N9.cell_eq 1 (.int .u64 0) rfl; have m2 := N9.free 0; have m3 := N9.free 1))))))
    all_goals (go_wp2_with fail; go_meet)
    all_goals first
      | exact ⟨_, rfl, rfl, Blk.new _ _ _, (keep3 ((Below.refl _ _).alloc (Nat.le_refl _) _) (by omega) (by omega) S9).2.2.2⟩
      | exact ⟨_, rfl, rfl, N9.set2 _ _, (keep3s (by omega) (by omega) (by omega) (by omega) (keep3s (by omega) (by omega) (by omega) (by omega) S9)).2.2.2⟩
  case rest =>
    obtain ⟨g, rfl, rfl, hg, hk⟩ := hcut
    have u0 := hg.cell_eq 0 (.int .u64 a) rfl
    have u1 := hg.cell_eq 1 (.int .u64 c) rfl
    have v0 := hk.blk.cell_eq 0 (.int .u64 a) rfl
    have v1 := hk.blk.cell_eq 1 (.int .u64 c) rfl
    clear hg c6 c7 c8 K6 K6d S6 S6p y0 y1 y2 h12 hB2 hw6 hd6 k7 k10 k11 h10 h10' hbl6
    go_wp2_with (go_at_call 12; refine (alive_any _).mono ?_; rintro e wl ⟨rfl, hb9⟩)
    go_ret
    exact ⟨rfl, hk.below.trans (hb9.mono hk.below.size)⟩
end Go.Proofs.Ytdenijkcjgjpkaa
