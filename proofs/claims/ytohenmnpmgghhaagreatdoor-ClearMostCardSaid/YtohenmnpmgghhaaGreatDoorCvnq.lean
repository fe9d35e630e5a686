/-
  Volume and Odds of the program's curve, and of the document's; own of stage 16's law; Same of prices.
-/
import Derived.Test.YtohenmnpmgghhaaGreatDoorGCb
import Derived.Test.YtohenmnpmgghhaaGreatDoorGB
import Derived.Deep.LoopGhost
import Derived.IntWalk
import Derived.WalkMore
import Derived.Shelf.RegionOpen
namespace Go.Proofs.YtohenmnpmgghhaaGreatDoor
open Go.RowKit
set_option linter.unusedSimpArgs false
section
variable {w W : World}
theorem Pnt.three {w : World} {b : Nat} {T : TypeId} {m : Pnt} (h : Blk w b T (cPnt m)) : w.cell? ⟨b, 0, none⟩ = some (.int .i64 m.price) ∧ w.cell? ⟨b, 1, none⟩ = some (.int .i64 m.demand) ∧ w.cell? ⟨b, 2, none⟩ = some (.int .i64 m.supply) := Pnt.cells h
theorem vmax_fact (a c m : Int) (h : m = if a < c then c else a) : ∀ ts t w, (Builtin.max_ ts t #[.int .i64 a, .int .i64 c]).run Tryz.prog w = .ok (.int .i64 m) w := by
  intro ts t w
  rw [run_max_int2, h]
theorem vmin_fact (a c m : Int) (h : m = if c < a then c else a) : ∀ ts t w, (Builtin.min_ ts t #[.int .i64 a, .int .i64 c]).run Tryz.prog w = .ok (.int .i64 m) w := by
  intro ts t w
  rw [run_min_int2, h]
set_option maxRecDepth 8000 in
theorem cvol_any (m : Pnt) (W : World) : Calls Tryz.prog 53 #[vPnt m] W fun e w' => e = .returned (.int .i64 (volP m)) ∧ Below W.heap.size W w' := by
  obtain ⟨W1, hW1⟩ : ∃ W1, W1 = W.alloc (.cells (cPnt m) 106) := ⟨_, rfl⟩
  have hb1 : Below W.heap.size W W1 := by rw [hW1]; exact (Below.refl _ _).alloc (Nat.le_refl _) _
  obtain ⟨c0, c1, c2⟩ := Pnt.three (show Blk W1 W.heap.size 106 (cPnt m) by rw [hW1]; exact Blk.new _ _ _)
  have x1 := vmin_fact m.demand m.supply (volP m) rfl
  generalize volP m = v at *
  obtain ⟨x, d, s⟩ := m
  simp only at c0 c1 c2 x1
  simp only [vPnt, cPnt] at hW1 ⊢
  go_enter Tryz.func53, Tryz.ntmps53
  go_wp2_with (first | (rw [← hW1]; clear hW1) | fail)
  go_ret
  exact ⟨rfl, hb1⟩
set_option maxRecDepth 8000 in
theorem rvol_any (m : Pnt) (W : World) : Calls Tryz.prog 36 #[vPnt m] W fun e w' => e = .returned (.int .i64 (volP m)) ∧ Below W.heap.size W w' := by
  obtain ⟨W1, hW1⟩ : ∃ W1, W1 = W.alloc (.cells (cPnt m) 71) := ⟨_, rfl⟩
  have hb1 : Below W.heap.size W W1 := by rw [hW1]; exact (Below.refl _ _).alloc (Nat.le_refl _) _
  obtain ⟨c0, c1, c2⟩ := Pnt.three (show Blk W1 W.heap.size 71 (cPnt m) by rw [hW1]; exact Blk.new _ _ _)
  have x1 := vmin_fact m.demand m.supply (volP m) rfl
  generalize volP m = v at *
  obtain ⟨x, d, s⟩ := m
  simp only at c0 c1 c2 x1
  simp only [vPnt, cPnt] at hW1 ⊢
  go_enter Tryz.func36, Tryz.ntmps36
  go_wp2_with (first | (rw [← hW1]; clear hW1) | fail)
  go_ret
  exact ⟨rfl, hb1⟩
theorem csub_any (a b : Int) (h0 : 0 ≤ b) (h1 : b ≤ a) (h2 : a < 9223372036854775808) (w : World) : Calls Tryz.prog 80 #[.int .i64 a, .int .i64 b] w fun e w' => e = .returned (.tuple #[.int .i64 (a - b), .bool true]) ∧ Below w.heap.size w w' := by
  go_enter Tryz.func80, Tryz.ntmps80
  go_wp2
  all_goals first | (exfalso; omega) | go_ret2
  all_goals exact ⟨rfl, Below.refl _ _⟩
set_option maxRecDepth 8000 in
theorem codd_any (m : Pnt) (h1 : 0 ≤ m.demand ∧ m.demand < 9223372036854775808) (h2 : 0 ≤ m.supply ∧ m.supply < 9223372036854775808) (W : World) : Calls Tryz.prog 54 #[vPnt m] W fun e w' => e = .returned (.int .i64 (oddP m)) ∧ Below W.heap.size W w' := by
  obtain ⟨W1, hW1⟩ : ∃ W1, W1 = W.alloc (.cells (cPnt m) 106) := ⟨_, rfl⟩
  have hb1 : Below W.heap.size W W1 := by rw [hW1]; exact (Below.refl _ _).alloc (Nat.le_refl _) _
  obtain ⟨c0, c1, c2⟩ := Pnt.three (show Blk W1 W.heap.size 106 (cPnt m) by rw [hW1]; exact Blk.new _ _ _)
  unfold oddP
  obtain ⟨x, d, s⟩ := m
  simp only at c0 c1 c2 h1 h2 ⊢
  simp only [vPnt, cPnt] at hW1 ⊢
  by_cases h : s < d
  · rw [if_pos h]
    have x1 := vmax_fact d s d (by split <;> omega)
    have x2 := vmin_fact d s s (by split <;> omega)
    have cS := csub_any d s h2.1 (by omega) h1.2 W1
    clear h1 h2 h
    go_enter Tryz.func54, Tryz.ntmps54
    go_wp2_with (first | (rw [← hW1]; clear hW1) | (go_at_call 80; (with_reducible refine cS.mono ?_); rintro e w2 ⟨rfl, hb2⟩; have hb3 := hb1.trans (hb2.mono hb1.size)) | fail)
    go_ret
    exact ⟨rfl, hb3⟩
  · rw [if_neg h]
    have x1 := vmax_fact d s s (by split <;> omega)
    have x2 := vmin_fact d s d (by split <;> omega)
    have cS := csub_any s d h1.1 (by omega) h2.2 W1
    clear h1 h2 h
    go_enter Tryz.func54, Tryz.ntmps54
    go_wp2_with (first | (rw [← hW1]; clear hW1) | (go_at_call 80; (with_reducible refine cS.mono ?_); rintro e w2 ⟨rfl, hb2⟩; have hb3 := hb1.trans (hb2.mono hb1.size)) | fail)
    go_ret
    exact ⟨rfl, hb3⟩
set_option maxRecDepth 8000 in
theorem rodd_any (m : Pnt) (h1 : 0 ≤ m.demand ∧ m.demand < 9223372036854775808) (h2 : 0 ≤ m.supply ∧ m.supply < 9223372036854775808) (W : World) : Calls Tryz.prog 37 #[vPnt m] W fun e w' => e = .returned (.int .i64 (oddP m)) ∧ Below W.heap.size W w' := by
  obtain ⟨W1, hW1⟩ : ∃ W1, W1 = W.alloc (.cells (cPnt m) 71) := ⟨_, rfl⟩
  have hb1 : Below W.heap.size W W1 := by rw [hW1]; exact (Below.refl _ _).alloc (Nat.le_refl _) _
  obtain ⟨c0, c1, c2⟩ := Pnt.three (show Blk W1 W.heap.size 71 (cPnt m) by rw [hW1]; exact Blk.new _ _ _)
  unfold oddP
  obtain ⟨x, d, s⟩ := m
  simp only at c0 c1 c2 h1 h2 ⊢
  simp only [vPnt, cPnt] at hW1 ⊢
  by_cases h : s < d
  · rw [if_pos h]
    have x1 := vmax_fact d s d (by split <;> omega)
    have x2 := vmin_fact d s s (by split <;> omega)
    go_enter Tryz.func37, Tryz.ntmps37
    go_wp2_with (first | (rw [← hW1]; clear hW1) | fail)
    all_goals first | (exfalso; omega) | (go_ret; exact ⟨rfl, hb1⟩)
  · rw [if_neg h]
    have x1 := vmax_fact d s s (by split <;> omega)
    have x2 := vmin_fact d s d (by split <;> omega)
    go_enter Tryz.func37, Tryz.ntmps37
    go_wp2_with (first | (rw [← hW1]; clear hW1) | fail)
    all_goals first | (exfalso; omega) | (go_ret; exact ⟨rfl, hb1⟩)
set_option maxRecDepth 8000 in
/-- Same of prices, of a list against itself. -/
theorem same16_any {ao ao' : Option Addr} {cap cap' : Nat} (l : List Int) (W : World) (h1 : It .i64 W ao cap l) (h2 : It .i64 W ao' cap' l) : Calls Tryz.prog 15 #[.slice ao l.length cap, .slice ao' l.length cap'] W fun e w' => e = .returned (.bool true) ∧ Below W.heap.size W w' := by
  have hl1 := h1.len
  have hl2 := h1.top
  unfold maxLen at hl2
  have hlm : l.length ≤ 9223372036854775807 := by omega
  clear hl1 hl2
  go_enter Tryz.func15, Tryz.ntmps15
  go_wp2_with fail
  go_loopg [5] l.length (fun j p5 wr => Below W.heap.size W wr ∧ ∃ q : Nat, q + j = l.length ∧ p5 = .int .i64 (q : Int))
  case atStart => exact ⟨Below.refl _ _, 0, by omega, rfl⟩
  case round =>
    obtain ⟨hb, q, hqj, rfl⟩ := hrel
    by_cases hqn : q < l.length
    · obtain ⟨x, hx⟩ : ∃ x, l[q]? = some x := ⟨_, List.getElem?_eq_getElem hqn⟩
      obtain ⟨b1, o1, rfl, y1⟩ := h1.get hx
      obtain ⟨b2, o2, rfl, y2⟩ := h2.get hx
      have z1 := fun w (h : Below W.heap.size W w) => y1 w h
      have z2 := fun w (h : Below W.heap.size W w) => y2 w h
      have hql : (q : Int) < (l.length : Int) := by omega
      have hbd := hb.drew
      have c1 := z1 _ hb
      have c2 := z2 _ hb
      have d0 : (x != x) = false := by simp
      clear h1 h2 hx y1 y2 z1 z2
      go_wp2_with fail
      go_quiet (fail)
      go_wp2_with fail
      go_roundg (l.length - (q + 1))
      case measure => omega
      case rel => exact ⟨by first | exact hb | exact hbd | exact belowK hb _, q + 1, by omega, by go_num⟩
    · have e : q = l.length := by omega
      subst e
      go_wp2_with fail
      go_ret
      exact ⟨rfl, hb⟩
end
end Go.Proofs.YtohenmnpmgghhaaGreatDoor
