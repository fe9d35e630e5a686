/-
  What the row's listed variables give: loose and empty hold -1 in each cell.
-/
import Derived.Test.YtdmjcjheanedgaaDoorRows
import Derived.Test.YtdmjcjheanedgaaDoorGE
import Derived.ProofKit
import Derived.LaidMore
import Derived.OpenShut
import Derived.Stop.Joined
namespace Go.Proofs.YtdmjcjheanedgaaDoor
open Go.ChangeShapes Go.WideShapes Go.ChangeAt Go.RowKit
abbrev laidF : List (String × DataW Unit) := [("damper/fifo.loose", Rows.laid_damper_fifo_loose), ("damper/fifo.empty", Rows.laid_damper_fifo_empty)]
theorem gLoose : Tryd.prog.globalNamed "damper/fifo.loose" = some 0 := by kernel_rfl
theorem gEmpty : Tryd.prog.globalNamed "damper/fifo.empty" = some 1 := by kernel_rfl
theorem tLoose : (Tryd.prog.globals[0]?).map (·.type) = some 119 := by kernel_rfl
theorem tEmpty : (Tryd.prog.globals[1]?).map (·.type) = some 121 := by kernel_rfl
theorem cells_Lk : Tryd.prog.cellsOf 119 = 3 := by kernel_rfl
theorem cells_En : Tryd.prog.cellsOf 121 = 2 := by kernel_rfl
theorem cells_In : Tryd.prog.cellsOf 3 = 1 := by kernel_rfl
section
variable {H : Type} {enc' : TypeId × Value → H} {w : World} {base : Nat} {spare : Nat → Bool} {held : Bool}
theorem lit_neg {a : Int} {m : List MemPlace} {y : DataW H × List MemPlace} (e : y = (.lit (.int .i64 a), m)) (h : y.1 = .lit (.int .i64 (-1))) : a = -1 := by
  rw [e] at h
  simpa using h
set_option maxRecDepth 8000 in
theorem open_loose {fuel : Nat} {cs : List Value} {m : List MemPlace} (h : DataW.trod enc' Tryd.prog w base spare held fuel 119 cs = some (.agg [.lit (.int .i64 (-1)), .lit (.int .i64 (-1)), .lit (.int .i64 (-1))], m)) : cs = [.int .i64 (-1), .int .i64 (-1), .int .i64 (-1)] := by
  obtain ⟨xs, n, _, hx, hl, hlen, hf⟩ := DataW.trod_struct Tryd.underlying119 h
  rw [cells_Lk] at hl
  simp only [Prod.mk.injEq, DataW.agg.injEq] at hx
  match cs, hl, xs, hlen, hx with
  | [v0, v1, v2], _, [y0, y1, y2], _, hx =>
    have f0 : DataW.trod enc' Tryd.prog w base spare held n 3 [v0] = some y0 := by
      have h0 : DataW.trod enc' Tryd.prog w base spare held n 3 (([v0, v1, v2].drop 0).take (Tryd.prog.cellsOf 3)) = some y0 := hf 0 _ rfl
      rw [cells_In] at h0
      exact h0
    have f1 : DataW.trod enc' Tryd.prog w base spare held n 3 [v1] = some y1 := by
      have h0 : DataW.trod enc' Tryd.prog w base spare held n 3 (([v0, v1, v2].drop 1).take (Tryd.prog.cellsOf 3)) = some y1 := hf 1 _ rfl
      rw [cells_In] at h0
      exact h0
    have f2 : DataW.trod enc' Tryd.prog w base spare held n 3 [v2] = some y2 := by
      have h0 : DataW.trod enc' Tryd.prog w base spare held n 3 (([v0, v1, v2].drop 2).take (Tryd.prog.cellsOf 3)) = some y2 := hf 2 _ rfl
      rw [cells_In] at h0
      exact h0
    obtain ⟨a0, e0, d0, _⟩ := DataW.trod_int Tryd.underlying3 f0
    obtain ⟨a1, e1, d1, _⟩ := DataW.trod_int Tryd.underlying3 f1
    obtain ⟨a2, e2, d2, _⟩ := DataW.trod_int Tryd.underlying3 f2
    simp only [List.map_cons, List.map_nil, List.cons.injEq, and_true] at hx e0 e1 e2
    rw [e0, e1, e2, lit_neg d0 hx.1.1.symm, lit_neg d1 hx.1.2.1.symm, lit_neg d2 hx.1.2.2.symm]
set_option maxRecDepth 8000 in
theorem open_empty {fuel : Nat} {cs : List Value} {m : List MemPlace} (h : DataW.trod enc' Tryd.prog w base spare held fuel 121 cs = some (.agg [.lit (.int .i64 (-1)), .lit (.int .i64 (-1))], m)) : cs = [.int .i64 (-1), .int .i64 (-1)] := by
  obtain ⟨xs, n, _, hx, hl, hlen, hf⟩ := DataW.trod_struct Tryd.underlying121 h
  rw [cells_En] at hl
  simp only [Prod.mk.injEq, DataW.agg.injEq] at hx
  match cs, hl, xs, hlen, hx with
  | [v0, v1], _, [y0, y1], _, hx =>
    have f0 : DataW.trod enc' Tryd.prog w base spare held n 3 [v0] = some y0 := by
      have h0 : DataW.trod enc' Tryd.prog w base spare held n 3 (([v0, v1].drop 0).take (Tryd.prog.cellsOf 3)) = some y0 := hf 0 _ rfl
      rw [cells_In] at h0
      exact h0
    have f1 : DataW.trod enc' Tryd.prog w base spare held n 3 [v1] = some y1 := by
      have h0 : DataW.trod enc' Tryd.prog w base spare held n 3 (([v0, v1].drop 1).take (Tryd.prog.cellsOf 3)) = some y1 := hf 1 _ rfl
      rw [cells_In] at h0
      exact h0
    obtain ⟨a0, e0, d0, _⟩ := DataW.trod_int Tryd.underlying3 f0
    obtain ⟨a1, e1, d1, _⟩ := DataW.trod_int Tryd.underlying3 f1
    simp only [List.map_cons, List.map_nil, List.cons.injEq, and_true] at hx e0 e1
    rw [e0, e1, lit_neg d0 hx.1.1.symm, lit_neg d1 hx.1.2.symm]
end
/-- The door's own heap meets the condition: three closed facts. -/
theorem door_met (os : Os) (args : Array Value) : laidMetH Tryd.prog laidF ((World.doorLaid Tryd.prog 400 os).forCall (fun _ _ => 0) ⟨#[], args, []⟩).memory :=
  laidMetH_of_parts3 (fuel := 8) (laidMet_of_run' 8 (by kernel_rfl) (by kernel_rfl)) (by kernel_rfl) (by kernel_rfl)
/-- What the condition gives the walks. -/
theorem of_laid {W : World} (h : laidMetH Tryd.prog laidF W) : Gl W := by
  rw [MakeChecks.laidMetH_plain _ _ _ (by kernel_rfl)] at h
  obtain ⟨ps, ⟨g0, t0, cs0, f0, p0, q0, hg0, ht0, hv0, hd0, ⟨g1, t1, cs1, f1, p1, q1, hg1, ht1, hv1, hd1, _, _⟩, _⟩, _, _⟩ := h
  obtain rfl := Option.some.inj (gLoose.symm.trans hg0)
  obtain rfl := Option.some.inj (gEmpty.symm.trans hg1)
  obtain rfl := Option.some.inj (tLoose.symm.trans ht0)
  obtain rfl := Option.some.inj (tEmpty.symm.trans ht1)
  have h0 := open_loose hd0
  have h1 := open_empty hd1
  have e0 : cs0 = #[.int .i64 (-1), .int .i64 (-1), .int .i64 (-1)] := Array.ext' h0
  have e1 : cs1 = #[.int .i64 (-1), .int .i64 (-1)] := Array.ext' h1
  subst e0
  subst e1
  exact ⟨World.var?_cell hg0 hv0 0, World.var?_cell hg0 hv0 1, World.var?_cell hg0 hv0 2, World.var?_cell hg1 hv1 0, World.var?_cell hg1 hv1 1⟩
end Go.Proofs.YtdmjcjheanedgaaDoor
