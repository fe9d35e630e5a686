/-
  The contracts of Find, Best, Fits.
-/
import Derived.Test.YthlpnlmjpdcbiaaLpc
namespace Go.Proofs.Ythlpnlmjpdcbiaa
open Go.RowKit
section
variable {w w' W : World} {g : Nat} {S T : Nat → Prop} {ko : Option Nat} {ao : Option Addr} {cap : Nat} {buy : Bool} {P : List Lvl} {F : List Nat}
set_option maxRecDepth 8000 in
set_option maxHeartbeats 1000000 in
theorem pfind_yes (p : Int) (h : PmB W g S ko ao cap buy P F) (hS : Std buy P) {x : Lvl} (hx : P[plc buy P p]? = some x) (hp : x.price = p) :
    Calls Try.prog 20 #[.pointer (some ⟨g, 0, none⟩), .int .i64 p] W fun e w' => e = .returned (.tuple #[vLvl x, .bool true]) ∧ Below W.heap.size W w' := by
  obtain ⟨W1, hW1⟩ : ∃ W1, W1 = W.alloc (.cells (cLvl Lvl.zero) 40) := ⟨_, rfl⟩
  have hBx : Blk W1 W.heap.size 40 (cLvl Lvl.zero) := by rw [hW1]; exact Blk.new _ _ _
  have hF1 : Below W.heap.size W W1 := by rw [hW1]; exact (Below.refl _ _).alloc (Nat.le_refl _) _
  have h1 := h.below hF1
  have cH := pplace_any p h1 hS
  have ha : ath buy P p = true := by unfold ath; rw [hx]; simp [hp]
  rw [ha] at cH
  have hi := (List.getElem?_eq_some_iff.1 hx).1
  have hl := h.len
  have hgl : g ≠ W.heap.size := by have := h.lt g h.sg; omega
  generalize hn : plc buy P p = n at *
  have hi2 : (n : Int) < (P.length : Int) := by omega
  obtain ⟨v0, v1, v2, v3⟩ := x
  have hend : ∀ w1, Below W1.heap.size W1 w1 → Blk w1 W.heap.size 40 (cLvl Lvl.zero) ∧ Below W.heap.size W w1 ∧ w1.cell? ⟨g, 1, none⟩ = some (.slice ao P.length cap) ∧ ∃ k, ao = some ⟨k, 0, none⟩ ∧ w1.cell? ⟨k, n * 4, none⟩ = some (.int .i64 v0) ∧ w1.cell? ⟨k, n * 4 + 1, none⟩ = some (.int .i64 v1) ∧ w1.cell? ⟨k, n * 4 + 2, none⟩ = some (.int .i64 v2) ∧ w1.cell? ⟨k, n * 4 + 3, none⟩ = some (.int .i64 v3) := by
    intro w1 hw1
    have h2 := h1.below hw1
    obtain ⟨k, -, e2, hc⟩ := h2.row hx
    exact ⟨hBx.below hw1 hBx.lt, hF1.trans (hw1.mono hF1.size), h2.c1, k, e2, (hc _ _ (lcs_get hx 0 _ rfl)).1, (hc _ _ (lcs_get hx 1 _ rfl)).1, (hc _ _ (lcs_get hx 2 _ rfl)).1, (hc _ _ (lcs_get hx 3 _ rfl)).1⟩
  replace hend := Lib.hid hend
  simp only [Lvl.zero, cLvl] at hW1
  clear hBx hF1 h1 h hS hx hi hn ha hp
  go_enter Try.func20, Try.ntmps20
  go_wp2_with (go_at_call 30; rw [← hW1]; (with_reducible refine cH.mono ?_); rintro e w1 ⟨rfl, hb1⟩; obtain ⟨hBx, hF, d1, k, rfl, y0, y1, y2, y3⟩ := hend.out _ hb1; clear hb1 hW1 hend cH; obtain ⟨b0, b1, b2, b3⟩ := Lvl.cells hBx; have hfr := hBx.free; obtain ⟨c0, c1, c2, c3⟩ := Lvl.cells (Lvl.lay hBx v0 v1 v2 v3); have hbel := Lvl.below hF (Nat.le_refl _) (.int .i64 v0) (.int .i64 v1) (.int .i64 v2) (.int .i64 v3); simp only [Lvl.zero] at b0 b1 b2 b3; simp only at c0 c1 c2 c3; clear hBx)
  refine bodyPost_ret (v := .tuple #[.agg #[.int .i64 v0, .int .i64 v1, .int .i64 v2, .int .i64 v3], .bool true]) ?_ rfl ⟨rfl, hbel⟩
  simp [results, Try.results20, go_sem, c0, c1, c2, c3]
set_option maxRecDepth 8000 in
set_option maxHeartbeats 1000000 in
theorem pfind_no (p : Int) (h : PmB W g S ko ao cap buy P F) (hS : Std buy P) (ha : ath buy P p = false) :
    Calls Try.prog 20 #[.pointer (some ⟨g, 0, none⟩), .int .i64 p] W fun e w' => e = .returned (.tuple #[vLvl Lvl.zero, .bool false]) ∧ Below W.heap.size W w' := by
  obtain ⟨W1, hW1⟩ : ∃ W1, W1 = W.alloc (.cells (cLvl Lvl.zero) 40) := ⟨_, rfl⟩
  have hBx : Blk W1 W.heap.size 40 (cLvl Lvl.zero) := by rw [hW1]; exact Blk.new _ _ _
  have hF1 : Below W.heap.size W W1 := by rw [hW1]; exact (Below.refl _ _).alloc (Nat.le_refl _) _
  have h1 := h.below hF1
  have cH := pplace_any p h1 hS
  rw [ha] at cH
  generalize hn : plc buy P p = n at *
  have hend : ∀ w1, Below W1.heap.size W1 w1 → Blk w1 W.heap.size 40 (cLvl Lvl.zero) ∧ Below W.heap.size W w1 := by
    intro w1 hw1
    exact ⟨hBx.below hw1 hBx.lt, hF1.trans (hw1.mono hF1.size)⟩
  replace hend := Lib.hid hend
  simp only [Lvl.zero, cLvl] at hW1
  clear hBx hF1 h1 h hS hn ha
  go_enter Try.func20, Try.ntmps20
  go_wp2_with (go_at_call 30; rw [← hW1]; (with_reducible refine cH.mono ?_); rintro e w1 ⟨rfl, hb1⟩; obtain ⟨hBx, hF⟩ := hend.out _ hb1; clear hb1 hW1 hend cH; obtain ⟨b0, b1, b2, b3⟩ := Lvl.cells hBx; have hfr := hBx.free; obtain ⟨c0, c1, c2, c3⟩ := Lvl.cells (Lvl.lay hBx 0 0 0 0); have hbel := Lvl.below hF (Nat.le_refl _) (.int .i64 0) (.int .i64 0) (.int .i64 0) (.int .i64 0); simp only [Lvl.zero] at b0 b1 b2 b3; simp only at c0 c1 c2 c3; clear hBx)
  refine bodyPost_ret (v := .tuple #[.agg #[.int .i64 0, .int .i64 0, .int .i64 0, .int .i64 0], .bool false]) ?_ rfl ⟨rfl, hbel⟩
  simp [results, Try.results20, go_sem, c0, c1, c2, c3]
set_option maxRecDepth 8000 in
set_option maxHeartbeats 1000000 in
theorem pbest_yes (h : PmB W g S ko ao cap buy P F) {x : Lvl} (hx : P[0]? = some x) :
    Calls Try.prog 13 #[.pointer (some ⟨g, 0, none⟩)] W fun e w' => e = .returned (.tuple #[vLvl x, .bool true]) ∧ Below W.heap.size W w' := by
  obtain ⟨W1, hW1⟩ : ∃ W1, W1 = W.alloc (.cells (cLvl Lvl.zero) 40) := ⟨_, rfl⟩
  have hBx : Blk W1 W.heap.size 40 (cLvl Lvl.zero) := by rw [hW1]; exact Blk.new _ _ _
  have hF : Below W.heap.size W W1 := by rw [hW1]; exact (Below.refl _ _).alloc (Nat.le_refl _) _
  have h1 := h.below hF
  have cH := plen_any h1
  have hi := (List.getElem?_eq_some_iff.1 hx).1
  have hl := h.len
  have hgl : g ≠ W.heap.size := by have := h.lt g h.sg; omega
  have hi2 : (0 : Int) < (P.length : Int) := by omega
  have hi3 : ((P.length : Int) == 0) = false := by simp; intro e; rw [e] at hi; simp at hi
  have hi4 : ¬ ((P.length : Int) = 0) := by omega
  obtain ⟨v0, v1, v2, v3⟩ := x
  obtain ⟨k, -, rfl, hc⟩ := h1.row hx
  have d1 := h1.c1
  have y0 := (hc _ _ (lcs_get hx 0 (.int .i64 v0) rfl)).1
  have y1 := (hc _ _ (lcs_get hx 1 (.int .i64 v1) rfl)).1
  have y2 := (hc _ _ (lcs_get hx 2 (.int .i64 v2) rfl)).1
  have y3 := (hc _ _ (lcs_get hx 3 (.int .i64 v3) rfl)).1
  simp only [Nat.zero_mul, Nat.zero_add] at y0 y1 y2 y3
  obtain ⟨b0, b1, b2, b3⟩ := Lvl.cells hBx
  have hfr := hBx.free
  obtain ⟨c0, c1, c2, c3⟩ := Lvl.cells (Lvl.lay hBx v0 v1 v2 v3)
  have hbel := Lvl.below hF (Nat.le_refl _) (.int .i64 v0) (.int .i64 v1) (.int .i64 v2) (.int .i64 v3)
  simp only [Lvl.zero] at b0 b1 b2 b3
  simp only at c0 c1 c2 c3
  simp only [Lvl.zero, cLvl] at hW1
  clear hBx hF h1 h hx hi hc hl
  go_enter Try.func13, Try.ntmps13
  go_wp2_with (go_at_call 12; rw [← hW1]; (with_reducible refine cH.mono ?_); rintro e w1 ⟨rfl, hw1⟩; subst w1; clear hW1 cH)
  refine bodyPost_ret (v := .tuple #[.agg #[.int .i64 v0, .int .i64 v1, .int .i64 v2, .int .i64 v3], .bool true]) ?_ rfl ⟨rfl, hbel⟩
  simp [results, Try.results13, go_sem, c0, c1, c2, c3]
set_option maxRecDepth 8000 in
set_option maxHeartbeats 1000000 in
theorem pbest_no (h : PmB W g S ko ao cap buy [] F) :
    Calls Try.prog 13 #[.pointer (some ⟨g, 0, none⟩)] W fun e w' => e = .returned (.tuple #[vLvl Lvl.zero, .bool false]) ∧ Below W.heap.size W w' := by
  obtain ⟨W1, hW1⟩ : ∃ W1, W1 = W.alloc (.cells (cLvl Lvl.zero) 40) := ⟨_, rfl⟩
  have hBx : Blk W1 W.heap.size 40 (cLvl Lvl.zero) := by rw [hW1]; exact Blk.new _ _ _
  have hF : Below W.heap.size W W1 := by rw [hW1]; exact (Below.refl _ _).alloc (Nat.le_refl _) _
  have cH : Calls Try.prog 12 #[.pointer (some ⟨g, 0, none⟩)] W1 fun e w' => e = .returned (.int .i64 0) ∧ w' = W1 := plen_any (h.below hF)
  obtain ⟨b0, b1, b2, b3⟩ := Lvl.cells hBx
  have hfr := hBx.free
  obtain ⟨c0, c1, c2, c3⟩ := Lvl.cells (Lvl.lay hBx 0 0 0 0)
  have hbel := Lvl.below hF (Nat.le_refl _) (.int .i64 0) (.int .i64 0) (.int .i64 0) (.int .i64 0)
  simp only [Lvl.zero] at b0 b1 b2 b3
  simp only at c0 c1 c2 c3
  simp only [Lvl.zero, cLvl] at hW1
  clear hBx hF h
  go_enter Try.func13, Try.ntmps13
  go_wp2_with (go_at_call 12; rw [← hW1]; (with_reducible refine cH.mono ?_); rintro e w1 ⟨rfl, hw1⟩; subst w1; clear hW1 cH)
  refine bodyPost_ret (v := .tuple #[.agg #[.int .i64 0, .int .i64 0, .int .i64 0, .int .i64 0], .bool false]) ?_ rfl ⟨rfl, hbel⟩
  simp [results, Try.results13, go_sem, c0, c1, c2, c3]
set_option maxRecDepth 8000 in
set_option maxHeartbeats 1000000 in
theorem pfits_any (p : Int) (h : PmB W g S ko ao cap buy P F) (hS : Std buy P) {q : Int} {room : Bool}
    (cU : ∀ w, PmB w g S ko ao cap buy P F → Calls Try.prog 34 #[.pointer (some ⟨g, 0, none⟩)] w fun e w' => e = .returned (.tuple #[.int .i64 q, .bool room]) ∧ w' = w) :
    Calls Try.prog 21 #[.pointer (some ⟨g, 0, none⟩), .int .i64 p] W fun e w' => e = .returned (.bool (ath buy P p || room)) ∧ Below W.heap.size W w' := by
  have cH := pplace_any p h hS
  generalize plc buy P p = n at *
  have cU' := fun w1 (hw : Below W.heap.size W w1) => cU w1 (h.below hw)
  clear h hS cU
  generalize ath buy P p = A at *
  cases A <;> cases room
  all_goals
    go_enter Try.func21, Try.ntmps21
    go_wp2_with (first
      | (go_at_call 30; (with_reducible refine cH.mono ?_); rintro e w1 ⟨rfl, hb1⟩; clear cH)
      | (go_at_call 34; (with_reducible refine (cU' _ hb1).mono ?_); rintro e w2 ⟨rfl, hw2⟩; subst w2; clear cU')
      | fail)
    all_goals go_ret
    all_goals exact ⟨rfl, hb1⟩
end
end Go.Proofs.Ythlpnlmjpdcbiaa
