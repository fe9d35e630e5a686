/-
  Volume and Odds of the program's curve, and of the document's; own of stage 16's law; Same of prices.
-/
import Derived.Test.YtdmjcjheanedgaaDoorGCb
import Derived.Test.YtdmjcjheanedgaaDoorGB
import Derived.Deep.LoopGhost
import Derived.IntWalk
import Derived.WalkMore
import Derived.Shelf.RegionOpen
namespace Go.Proofs.YtdmjcjheanedgaaDoor
open Go.RowKit
set_option linter.unusedSimpArgs false
section
variable {w W : World}
theorem Pnt.three {w : World} {b : Nat} {T : TypeId} {m : Pnt} (h : Blk w b T (cPnt m)) : w.cell? ⟨b, 0, none⟩ = some (.int .i64 m.price) ∧ w.cell? ⟨b, 1, none⟩ = some (.int .i64 m.demand) ∧ w.cell? ⟨b, 2, none⟩ = some (.int .i64 m.supply) := Pnt.cells h
theorem vmin_fact (a c m : Int) (h : m = if c < a then c else a) : ∀ ts t w, (Builtin.min_ ts t #[.int .i64 a, .int .i64 c]).run Tryd.prog w = .ok (.int .i64 m) w := by
  intro ts t w
  rw [run_min_int2, h]
set_option maxRecDepth 8000 in
theorem rvol_any (m : Pnt) (W : World) : Calls Tryd.prog 14 #[vPnt m] W fun e w' => e = .returned (.int .i64 (volP m)) ∧ Below W.heap.size W w' := by
  obtain ⟨W1, hW1⟩ : ∃ W1, W1 = W.alloc (.cells (cPnt m) 39) := ⟨_, rfl⟩
  have hb1 : Below W.heap.size W W1 := by rw [hW1]; exact (Below.refl _ _).alloc (Nat.le_refl _) _
  obtain ⟨c0, c1, c2⟩ := Pnt.three (show Blk W1 W.heap.size 39 (cPnt m) by rw [hW1]; exact Blk.new _ _ _)
  have x1 := vmin_fact m.demand m.supply (volP m) rfl
  generalize volP m = v at *
  obtain ⟨x, d, s⟩ := m
  simp only at c0 c1 c2 x1
  simp only [vPnt, cPnt] at hW1 ⊢
  go_enter Tryd.func14, Tryd.ntmps14
  go_wp2_with (first | (rw [← hW1]; clear hW1) | fail)
  go_ret
  exact ⟨rfl, hb1⟩
end
end Go.Proofs.YtdmjcjheanedgaaDoor
