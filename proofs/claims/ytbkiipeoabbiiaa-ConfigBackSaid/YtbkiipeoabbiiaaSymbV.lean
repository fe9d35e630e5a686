/-
  api.Symbol: a struct of 16 ints as Go's values: laid, read whole, compared, as an argument, in slices. (Written by gen/struct.py.)
-/
import Derived.Test.YtbkiipeoabbiiaaCfg
import Derived.Test.YtbkiipeoabbiiaaPart
import Derived.Test.YtbkiipeoabbiiaaApp
import Derived.Laws.StructEq
import Derived.Lib.Hide
import Derived.ProofKit
import Derived.OpenShut
import Derived.Deep.Slices
namespace Go.Proofs.Ytbkiipeoabbiiaa
open Go.RowKit
abbrev cSymb (m : Symb) : Array Value := #[.int .i64 m.grid, .int .i64 m.refp, .int .i64 m.stat, .int .i64 m.dyn, .int .i64 m.win, .int .i64 m.move, .int .i64 m.lim, .int .i64 m.pau, .int .i64 m.ext, .int .i64 m.mext, .int .i64 m.col, .int .i64 m.wid, .int .i64 m.self, .int .i64 m.slots, .int .i64 m.levels, .int .i64 m.short]
abbrev vSymb (m : Symb) : Value := .agg (cSymb m)
/-- Whether two are the same. -/
def eqSymb (a b : Symb) : Bool := a.grid == b.grid && a.refp == b.refp && a.stat == b.stat && a.dyn == b.dyn && a.win == b.win && a.move == b.move && a.lim == b.lim && a.pau == b.pau && a.ext == b.ext && a.mext == b.mext && a.col == b.col && a.wid == b.wid && a.self == b.self && a.slots == b.slots && a.levels == b.levels && a.short == b.short
theorem eqSymb_true {a b : Symb} : eqSymb a b = true ↔ a = b := by
  cases a; cases b; simp [eqSymb, and_assoc]
theorem eqSymb_self (a : Symb) : eqSymb a a = true := eqSymb_true.2 rfl
theorem eqSymb_step (p : Prop) [Decidable p] (q : Bool) (w : World) {X : Result Bool} (h : X = Result.ok q w) : (if p then X else Result.ok false w) = Result.ok (decide p && q) w := by
  subst h
  by_cases hp : p <;> simp [hp]
theorem eqSymb_last (p : Prop) [Decidable p] (w : World) : (if p then Result.ok true w else Result.ok false w) = Result.ok (decide p) w := by
  by_cases hp : p <;> simp [hp]
theorem eqIn_Symb (a b : Symb) (w : World) : (Op.equalIn 10000 35 (vSymb a) (vSymb b)).run Try.prog w = .ok (eqSymb a b) w := by
  have hu := Try.underlying35
  have hf : Try.prog.underlying 35 = some (.struct (Try.prog.fieldsOf 35)) := by rw [Program.fieldsOf, hu]
  have uint := Try.underlying3
  have uint64 := Try.underlying2
  rw [show (10000 : Nat) = 9999 + 1 from rfl, run_equalIn_agg w 9999 _ _ _ hf (by kernel_rfl), Program.fieldsOf, hu]
  simp only [Op.eqFields]
  unfold eqSymb
  simp [go_sem, part]
  clear hu hf uint uint64
  simp only [Bool.and_assoc]
  exact eqSymb_step _ _ w (eqSymb_step _ _ w (eqSymb_step _ _ w (eqSymb_step _ _ w (eqSymb_step _ _ w (eqSymb_step _ _ w (eqSymb_step _ _ w (eqSymb_step _ _ w (eqSymb_step _ _ w (eqSymb_step _ _ w (eqSymb_step _ _ w (eqSymb_step _ _ w (eqSymb_step _ _ w (eqSymb_step _ _ w (eqSymb_step _ _ w (eqSymb_last _ w)))))))))))))))
theorem eql_Symb (a b : Symb) (w : World) : (binOp .eql 35 (vSymb a) (vSymb b)).run Try.prog w = .ok (.bool (eqSymb a b)) w := by
  rw [run_eql_struct, eqIn_Symb]; rfl
theorem neq_Symb (a b : Symb) (w : World) : (binOp .neq 35 (vSymb a) (vSymb b)).run Try.prog w = .ok (.bool (!eqSymb a b)) w := by
  rw [run_neq_struct, eqIn_Symb]; rfl
theorem Symb.no8 (m : Symb) : ∀ (i : Nat) (x : Int), (cSymb m)[i]? ≠ some (.int .u8 x) := by
  intro i x h
  match i, h with
  | 0, h => simp at h
  | 1, h => simp at h
  | 2, h => simp at h
  | 3, h => simp at h
  | 4, h => simp at h
  | 5, h => simp at h
  | 6, h => simp at h
  | 7, h => simp at h
  | 8, h => simp at h
  | 9, h => simp at h
  | 10, h => simp at h
  | 11, h => simp at h
  | 12, h => simp at h
  | 13, h => simp at h
  | 14, h => simp at h
  | 15, h => simp at h
  | i + 16, h => simp at h
theorem Symb.cells {w : World} {b : Nat} {T : TypeId} {m : Symb} (h : Blk w b T (cSymb m)) : w.cell? ⟨b, 0, none⟩ = some (.int .i64 m.grid) ∧ w.cell? ⟨b, 1, none⟩ = some (.int .i64 m.refp) ∧ w.cell? ⟨b, 2, none⟩ = some (.int .i64 m.stat) ∧ w.cell? ⟨b, 3, none⟩ = some (.int .i64 m.dyn) ∧ w.cell? ⟨b, 4, none⟩ = some (.int .i64 m.win) ∧ w.cell? ⟨b, 5, none⟩ = some (.int .i64 m.move) ∧ w.cell? ⟨b, 6, none⟩ = some (.int .i64 m.lim) ∧ w.cell? ⟨b, 7, none⟩ = some (.int .i64 m.pau) ∧ w.cell? ⟨b, 8, none⟩ = some (.int .i64 m.ext) ∧ w.cell? ⟨b, 9, none⟩ = some (.int .i64 m.mext) ∧ w.cell? ⟨b, 10, none⟩ = some (.int .i64 m.col) ∧ w.cell? ⟨b, 11, none⟩ = some (.int .i64 m.wid) ∧ w.cell? ⟨b, 12, none⟩ = some (.int .i64 m.self) ∧ w.cell? ⟨b, 13, none⟩ = some (.int .i64 m.slots) ∧ w.cell? ⟨b, 14, none⟩ = some (.int .i64 m.levels) ∧ w.cell? ⟨b, 15, none⟩ = some (.int .i64 m.short) :=
  ⟨h.cell_eq 0 _ rfl, h.cell_eq 1 _ rfl, h.cell_eq 2 _ rfl, h.cell_eq 3 _ rfl, h.cell_eq 4 _ rfl, h.cell_eq 5 _ rfl, h.cell_eq 6 _ rfl, h.cell_eq 7 _ rfl, h.cell_eq 8 _ rfl, h.cell_eq 9 _ rfl, h.cell_eq 10 _ rfl, h.cell_eq 11 _ rfl, h.cell_eq 12 _ rfl, h.cell_eq 13 _ rfl, h.cell_eq 14 _ rfl, h.cell_eq 15 _ rfl⟩
theorem Symb.below {B : Nat} {W w : World} {b : Nat} (h : Below B W w) (hb : B ≤ b) (v0 v1 v2 v3 v4 v5 v6 v7 v8 v9 v10 v11 v12 v13 v14 v15 : Value) : Below B W ((((((((((((((((w.setCell ⟨b, 0, none⟩ v0).setCell ⟨b, 1, none⟩ v1).setCell ⟨b, 2, none⟩ v2).setCell ⟨b, 3, none⟩ v3).setCell ⟨b, 4, none⟩ v4).setCell ⟨b, 5, none⟩ v5).setCell ⟨b, 6, none⟩ v6).setCell ⟨b, 7, none⟩ v7).setCell ⟨b, 8, none⟩ v8).setCell ⟨b, 9, none⟩ v9).setCell ⟨b, 10, none⟩ v10).setCell ⟨b, 11, none⟩ v11).setCell ⟨b, 12, none⟩ v12).setCell ⟨b, 13, none⟩ v13).setCell ⟨b, 14, none⟩ v14).setCell ⟨b, 15, none⟩ v15) := by
  have h0 := h.setCell (p := ⟨b, 0, none⟩) hb v0
  have h1 := h0.setCell (p := ⟨b, 1, none⟩) hb v1
  have h2 := h1.setCell (p := ⟨b, 2, none⟩) hb v2
  have h3 := h2.setCell (p := ⟨b, 3, none⟩) hb v3
  have h4 := h3.setCell (p := ⟨b, 4, none⟩) hb v4
  have h5 := h4.setCell (p := ⟨b, 5, none⟩) hb v5
  have h6 := h5.setCell (p := ⟨b, 6, none⟩) hb v6
  have h7 := h6.setCell (p := ⟨b, 7, none⟩) hb v7
  have h8 := h7.setCell (p := ⟨b, 8, none⟩) hb v8
  have h9 := h8.setCell (p := ⟨b, 9, none⟩) hb v9
  have h10 := h9.setCell (p := ⟨b, 10, none⟩) hb v10
  have h11 := h10.setCell (p := ⟨b, 11, none⟩) hb v11
  have h12 := h11.setCell (p := ⟨b, 12, none⟩) hb v12
  have h13 := h12.setCell (p := ⟨b, 13, none⟩) hb v13
  have h14 := h13.setCell (p := ⟨b, 14, none⟩) hb v14
  have h15 := h14.setCell (p := ⟨b, 15, none⟩) hb v15
  exact h15
theorem Symb.frm {S : Nat → Prop} {W w : World} {b : Nat} (h : Frm S W w) (hb : S b ∨ W.heap.size ≤ b) (v0 v1 v2 v3 v4 v5 v6 v7 v8 v9 v10 v11 v12 v13 v14 v15 : Value) : Frm S W ((((((((((((((((w.setCell ⟨b, 0, none⟩ v0).setCell ⟨b, 1, none⟩ v1).setCell ⟨b, 2, none⟩ v2).setCell ⟨b, 3, none⟩ v3).setCell ⟨b, 4, none⟩ v4).setCell ⟨b, 5, none⟩ v5).setCell ⟨b, 6, none⟩ v6).setCell ⟨b, 7, none⟩ v7).setCell ⟨b, 8, none⟩ v8).setCell ⟨b, 9, none⟩ v9).setCell ⟨b, 10, none⟩ v10).setCell ⟨b, 11, none⟩ v11).setCell ⟨b, 12, none⟩ v12).setCell ⟨b, 13, none⟩ v13).setCell ⟨b, 14, none⟩ v14).setCell ⟨b, 15, none⟩ v15) := by
  have h0 := h.setCell ⟨b, 0, none⟩ v0 hb
  have h1 := h0.setCell ⟨b, 1, none⟩ v1 hb
  have h2 := h1.setCell ⟨b, 2, none⟩ v2 hb
  have h3 := h2.setCell ⟨b, 3, none⟩ v3 hb
  have h4 := h3.setCell ⟨b, 4, none⟩ v4 hb
  have h5 := h4.setCell ⟨b, 5, none⟩ v5 hb
  have h6 := h5.setCell ⟨b, 6, none⟩ v6 hb
  have h7 := h6.setCell ⟨b, 7, none⟩ v7 hb
  have h8 := h7.setCell ⟨b, 8, none⟩ v8 hb
  have h9 := h8.setCell ⟨b, 9, none⟩ v9 hb
  have h10 := h9.setCell ⟨b, 10, none⟩ v10 hb
  have h11 := h10.setCell ⟨b, 11, none⟩ v11 hb
  have h12 := h11.setCell ⟨b, 12, none⟩ v12 hb
  have h13 := h12.setCell ⟨b, 13, none⟩ v13 hb
  have h14 := h13.setCell ⟨b, 14, none⟩ v14 hb
  have h15 := h14.setCell ⟨b, 15, none⟩ v15 hb
  exact h15
theorem Symb.lay {w : World} {b : Nat} {T : TypeId} {m : Symb} (h : Blk w b T (cSymb m)) (v0 v1 v2 v3 v4 v5 v6 v7 v8 v9 v10 v11 v12 v13 v14 v15 : Int) : Blk ((((((((((((((((w.setCell ⟨b, 0, none⟩ (.int .i64 v0)).setCell ⟨b, 1, none⟩ (.int .i64 v1)).setCell ⟨b, 2, none⟩ (.int .i64 v2)).setCell ⟨b, 3, none⟩ (.int .i64 v3)).setCell ⟨b, 4, none⟩ (.int .i64 v4)).setCell ⟨b, 5, none⟩ (.int .i64 v5)).setCell ⟨b, 6, none⟩ (.int .i64 v6)).setCell ⟨b, 7, none⟩ (.int .i64 v7)).setCell ⟨b, 8, none⟩ (.int .i64 v8)).setCell ⟨b, 9, none⟩ (.int .i64 v9)).setCell ⟨b, 10, none⟩ (.int .i64 v10)).setCell ⟨b, 11, none⟩ (.int .i64 v11)).setCell ⟨b, 12, none⟩ (.int .i64 v12)).setCell ⟨b, 13, none⟩ (.int .i64 v13)).setCell ⟨b, 14, none⟩ (.int .i64 v14)).setCell ⟨b, 15, none⟩ (.int .i64 v15)) b T (cSymb ⟨v0, v1, v2, v3, v4, v5, v6, v7, v8, v9, v10, v11, v12, v13, v14, v15⟩) := by
  have h0 : Blk _ b T (cSymb ⟨v0, m.refp, m.stat, m.dyn, m.win, m.move, m.lim, m.pau, m.ext, m.mext, m.col, m.wid, m.self, m.slots, m.levels, m.short⟩) := h.set 0 (.int .i64 v0)
  have h1 : Blk _ b T (cSymb ⟨v0, v1, m.stat, m.dyn, m.win, m.move, m.lim, m.pau, m.ext, m.mext, m.col, m.wid, m.self, m.slots, m.levels, m.short⟩) := h0.set 1 (.int .i64 v1)
  have h2 : Blk _ b T (cSymb ⟨v0, v1, v2, m.dyn, m.win, m.move, m.lim, m.pau, m.ext, m.mext, m.col, m.wid, m.self, m.slots, m.levels, m.short⟩) := h1.set 2 (.int .i64 v2)
  have h3 : Blk _ b T (cSymb ⟨v0, v1, v2, v3, m.win, m.move, m.lim, m.pau, m.ext, m.mext, m.col, m.wid, m.self, m.slots, m.levels, m.short⟩) := h2.set 3 (.int .i64 v3)
  have h4 : Blk _ b T (cSymb ⟨v0, v1, v2, v3, v4, m.move, m.lim, m.pau, m.ext, m.mext, m.col, m.wid, m.self, m.slots, m.levels, m.short⟩) := h3.set 4 (.int .i64 v4)
  have h5 : Blk _ b T (cSymb ⟨v0, v1, v2, v3, v4, v5, m.lim, m.pau, m.ext, m.mext, m.col, m.wid, m.self, m.slots, m.levels, m.short⟩) := h4.set 5 (.int .i64 v5)
  have h6 : Blk _ b T (cSymb ⟨v0, v1, v2, v3, v4, v5, v6, m.pau, m.ext, m.mext, m.col, m.wid, m.self, m.slots, m.levels, m.short⟩) := h5.set 6 (.int .i64 v6)
  have h7 : Blk _ b T (cSymb ⟨v0, v1, v2, v3, v4, v5, v6, v7, m.ext, m.mext, m.col, m.wid, m.self, m.slots, m.levels, m.short⟩) := h6.set 7 (.int .i64 v7)
  have h8 : Blk _ b T (cSymb ⟨v0, v1, v2, v3, v4, v5, v6, v7, v8, m.mext, m.col, m.wid, m.self, m.slots, m.levels, m.short⟩) := h7.set 8 (.int .i64 v8)
  have h9 : Blk _ b T (cSymb ⟨v0, v1, v2, v3, v4, v5, v6, v7, v8, v9, m.col, m.wid, m.self, m.slots, m.levels, m.short⟩) := h8.set 9 (.int .i64 v9)
  have h10 : Blk _ b T (cSymb ⟨v0, v1, v2, v3, v4, v5, v6, v7, v8, v9, v10, m.wid, m.self, m.slots, m.levels, m.short⟩) := h9.set 10 (.int .i64 v10)
  have h11 : Blk _ b T (cSymb ⟨v0, v1, v2, v3, v4, v5, v6, v7, v8, v9, v10, v11, m.self, m.slots, m.levels, m.short⟩) := h10.set 11 (.int .i64 v11)
  have h12 : Blk _ b T (cSymb ⟨v0, v1, v2, v3, v4, v5, v6, v7, v8, v9, v10, v11, v12, m.slots, m.levels, m.short⟩) := h11.set 12 (.int .i64 v12)
  have h13 : Blk _ b T (cSymb ⟨v0, v1, v2, v3, v4, v5, v6, v7, v8, v9, v10, v11, v12, v13, m.levels, m.short⟩) := h12.set 13 (.int .i64 v13)
  have h14 : Blk _ b T (cSymb ⟨v0, v1, v2, v3, v4, v5, v6, v7, v8, v9, v10, v11, v12, v13, v14, m.short⟩) := h13.set 14 (.int .i64 v14)
  have h15 : Blk _ b T (cSymb ⟨v0, v1, v2, v3, v4, v5, v6, v7, v8, v9, v10, v11, v12, v13, v14, v15⟩) := h14.set 15 (.int .i64 v15)
  exact h15
theorem cells_Symb : Try.prog.cellsOf 35 = 16 := by kernel_rfl
theorem cells_Symb_int : Try.prog.cellsOf 3 = 1 := by kernel_rfl
theorem cells_Symb_int64 : Try.prog.cellsOf 2 = 1 := by kernel_rfl
section
open Go.ChangeShapes Go.WideShapes Go.ChangeAt Go.Deep
variable {H : Type} {enc' : TypeId × Value → H} {w : World} {base : Nat} {spare : Nat → Bool} {held : Bool}
set_option maxRecDepth 8000 in
/-- One that came in. -/
theorem open_Symb {fuel : Nat} {cs : List Value} {x : DataW H × List MemPlace} (h : DataW.trod enc' Try.prog w base spare held fuel 35 cs = some x) : ∃ m : Symb, m.Fit ∧ cs = (cSymb m).toList := by
  obtain ⟨xs, n, _, _, hl, hlen, hf⟩ := DataW.trod_struct Try.underlying35 h
  rw [cells_Symb] at hl
  match cs, hl, xs, hlen with
  | [v0, v1, v2, v3, v4, v5, v6, v7, v8, v9, v10, v11, v12, v13, v14, v15], _, [y0, y1, y2, y3, y4, y5, y6, y7, y8, y9, y10, y11, y12, y13, y14, y15], _ =>
    have f0 : DataW.trod enc' Try.prog w base spare held n 2 [v0] = some y0 := by
      have h0 : DataW.trod enc' Try.prog w base spare held n 2 (([v0, v1, v2, v3, v4, v5, v6, v7, v8, v9, v10, v11, v12, v13, v14, v15].drop 0).take (Try.prog.cellsOf 2)) = some y0 := hf 0 _ rfl
      rw [cells_Symb_int64] at h0
      exact h0
    have f1 : DataW.trod enc' Try.prog w base spare held n 2 [v1] = some y1 := by
      have h0 : DataW.trod enc' Try.prog w base spare held n 2 (([v0, v1, v2, v3, v4, v5, v6, v7, v8, v9, v10, v11, v12, v13, v14, v15].drop 1).take (Try.prog.cellsOf 2)) = some y1 := hf 1 _ rfl
      rw [cells_Symb_int64] at h0
      exact h0
    have f2 : DataW.trod enc' Try.prog w base spare held n 3 [v2] = some y2 := by
      have h0 : DataW.trod enc' Try.prog w base spare held n 3 (([v0, v1, v2, v3, v4, v5, v6, v7, v8, v9, v10, v11, v12, v13, v14, v15].drop 2).take (Try.prog.cellsOf 3)) = some y2 := hf 2 _ rfl
      rw [cells_Symb_int] at h0
      exact h0
    have f3 : DataW.trod enc' Try.prog w base spare held n 3 [v3] = some y3 := by
      have h0 : DataW.trod enc' Try.prog w base spare held n 3 (([v0, v1, v2, v3, v4, v5, v6, v7, v8, v9, v10, v11, v12, v13, v14, v15].drop 3).take (Try.prog.cellsOf 3)) = some y3 := hf 3 _ rfl
      rw [cells_Symb_int] at h0
      exact h0
    have f4 : DataW.trod enc' Try.prog w base spare held n 2 [v4] = some y4 := by
      have h0 : DataW.trod enc' Try.prog w base spare held n 2 (([v0, v1, v2, v3, v4, v5, v6, v7, v8, v9, v10, v11, v12, v13, v14, v15].drop 4).take (Try.prog.cellsOf 2)) = some y4 := hf 4 _ rfl
      rw [cells_Symb_int64] at h0
      exact h0
    have f5 : DataW.trod enc' Try.prog w base spare held n 3 [v5] = some y5 := by
      have h0 : DataW.trod enc' Try.prog w base spare held n 3 (([v0, v1, v2, v3, v4, v5, v6, v7, v8, v9, v10, v11, v12, v13, v14, v15].drop 5).take (Try.prog.cellsOf 3)) = some y5 := hf 5 _ rfl
      rw [cells_Symb_int] at h0
      exact h0
    have f6 : DataW.trod enc' Try.prog w base spare held n 2 [v6] = some y6 := by
      have h0 : DataW.trod enc' Try.prog w base spare held n 2 (([v0, v1, v2, v3, v4, v5, v6, v7, v8, v9, v10, v11, v12, v13, v14, v15].drop 6).take (Try.prog.cellsOf 2)) = some y6 := hf 6 _ rfl
      rw [cells_Symb_int64] at h0
      exact h0
    have f7 : DataW.trod enc' Try.prog w base spare held n 2 [v7] = some y7 := by
      have h0 : DataW.trod enc' Try.prog w base spare held n 2 (([v0, v1, v2, v3, v4, v5, v6, v7, v8, v9, v10, v11, v12, v13, v14, v15].drop 7).take (Try.prog.cellsOf 2)) = some y7 := hf 7 _ rfl
      rw [cells_Symb_int64] at h0
      exact h0
    have f8 : DataW.trod enc' Try.prog w base spare held n 2 [v8] = some y8 := by
      have h0 : DataW.trod enc' Try.prog w base spare held n 2 (([v0, v1, v2, v3, v4, v5, v6, v7, v8, v9, v10, v11, v12, v13, v14, v15].drop 8).take (Try.prog.cellsOf 2)) = some y8 := hf 8 _ rfl
      rw [cells_Symb_int64] at h0
      exact h0
    have f9 : DataW.trod enc' Try.prog w base spare held n 3 [v9] = some y9 := by
      have h0 : DataW.trod enc' Try.prog w base spare held n 3 (([v0, v1, v2, v3, v4, v5, v6, v7, v8, v9, v10, v11, v12, v13, v14, v15].drop 9).take (Try.prog.cellsOf 3)) = some y9 := hf 9 _ rfl
      rw [cells_Symb_int] at h0
      exact h0
    have f10 : DataW.trod enc' Try.prog w base spare held n 3 [v10] = some y10 := by
      have h0 : DataW.trod enc' Try.prog w base spare held n 3 (([v0, v1, v2, v3, v4, v5, v6, v7, v8, v9, v10, v11, v12, v13, v14, v15].drop 10).take (Try.prog.cellsOf 3)) = some y10 := hf 10 _ rfl
      rw [cells_Symb_int] at h0
      exact h0
    have f11 : DataW.trod enc' Try.prog w base spare held n 3 [v11] = some y11 := by
      have h0 : DataW.trod enc' Try.prog w base spare held n 3 (([v0, v1, v2, v3, v4, v5, v6, v7, v8, v9, v10, v11, v12, v13, v14, v15].drop 11).take (Try.prog.cellsOf 3)) = some y11 := hf 11 _ rfl
      rw [cells_Symb_int] at h0
      exact h0
    have f12 : DataW.trod enc' Try.prog w base spare held n 3 [v12] = some y12 := by
      have h0 : DataW.trod enc' Try.prog w base spare held n 3 (([v0, v1, v2, v3, v4, v5, v6, v7, v8, v9, v10, v11, v12, v13, v14, v15].drop 12).take (Try.prog.cellsOf 3)) = some y12 := hf 12 _ rfl
      rw [cells_Symb_int] at h0
      exact h0
    have f13 : DataW.trod enc' Try.prog w base spare held n 3 [v13] = some y13 := by
      have h0 : DataW.trod enc' Try.prog w base spare held n 3 (([v0, v1, v2, v3, v4, v5, v6, v7, v8, v9, v10, v11, v12, v13, v14, v15].drop 13).take (Try.prog.cellsOf 3)) = some y13 := hf 13 _ rfl
      rw [cells_Symb_int] at h0
      exact h0
    have f14 : DataW.trod enc' Try.prog w base spare held n 3 [v14] = some y14 := by
      have h0 : DataW.trod enc' Try.prog w base spare held n 3 (([v0, v1, v2, v3, v4, v5, v6, v7, v8, v9, v10, v11, v12, v13, v14, v15].drop 14).take (Try.prog.cellsOf 3)) = some y14 := hf 14 _ rfl
      rw [cells_Symb_int] at h0
      exact h0
    have f15 : DataW.trod enc' Try.prog w base spare held n 3 [v15] = some y15 := by
      have h0 : DataW.trod enc' Try.prog w base spare held n 3 (([v0, v1, v2, v3, v4, v5, v6, v7, v8, v9, v10, v11, v12, v13, v14, v15].drop 15).take (Try.prog.cellsOf 3)) = some y15 := hf 15 _ rfl
      rw [cells_Symb_int] at h0
      exact h0
    obtain ⟨a0, e0, _, w0⟩ := DataW.trod_int Try.underlying2 f0
    obtain ⟨a1, e1, _, w1⟩ := DataW.trod_int Try.underlying2 f1
    obtain ⟨a2, e2, _, w2⟩ := DataW.trod_int Try.underlying3 f2
    obtain ⟨a3, e3, _, w3⟩ := DataW.trod_int Try.underlying3 f3
    obtain ⟨a4, e4, _, w4⟩ := DataW.trod_int Try.underlying2 f4
    obtain ⟨a5, e5, _, w5⟩ := DataW.trod_int Try.underlying3 f5
    obtain ⟨a6, e6, _, w6⟩ := DataW.trod_int Try.underlying2 f6
    obtain ⟨a7, e7, _, w7⟩ := DataW.trod_int Try.underlying2 f7
    obtain ⟨a8, e8, _, w8⟩ := DataW.trod_int Try.underlying2 f8
    obtain ⟨a9, e9, _, w9⟩ := DataW.trod_int Try.underlying3 f9
    obtain ⟨a10, e10, _, w10⟩ := DataW.trod_int Try.underlying3 f10
    obtain ⟨a11, e11, _, w11⟩ := DataW.trod_int Try.underlying3 f11
    obtain ⟨a12, e12, _, w12⟩ := DataW.trod_int Try.underlying3 f12
    obtain ⟨a13, e13, _, w13⟩ := DataW.trod_int Try.underlying3 f13
    obtain ⟨a14, e14, _, w14⟩ := DataW.trod_int Try.underlying3 f14
    obtain ⟨a15, e15, _, w15⟩ := DataW.trod_int Try.underlying3 f15
    simp only [List.cons.injEq, and_true] at e0 e1 e2 e3 e4 e5 e6 e7 e8 e9 e10 e11 e12 e13 e14 e15
    subst e0 e1 e2 e3 e4 e5 e6 e7 e8 e9 e10 e11 e12 e13 e14 e15
    exact ⟨⟨a0, a1, a2, a3, a4, a5, a6, a7, a8, a9, a10, a11, a12, a13, a14, a15⟩, ⟨in64_of_wf w0, in64_of_wf w1, in64_of_wf w2, in64_of_wf w3, in64_of_wf w4, in64_of_wf w5, in64_of_wf w6, in64_of_wf w7, in64_of_wf w8, in64_of_wf w9, in64_of_wf w10, in64_of_wf w11, in64_of_wf w12, in64_of_wf w13, in64_of_wf w14, in64_of_wf w15⟩, rfl⟩
end
/-- A slice of them, to be read. -/
structure Symbs (w : World) (ao : Option Addr) (cap : Nat) (l : List Symb) : Prop where
  len : l.length ≤ cap
  top : cap ≤ maxLen
  at' : l = [] ∨ ∃ b off, ao = some ⟨b, off, none⟩ ∧ ∀ (i : Nat) (m : Symb), l[i]? = some m → ∀ (j : Nat) (v : Value), (cSymb m)[j]? = some v → w.cell? ⟨b, off + i * 16 + j, none⟩ = some v
theorem Symbs.nil (w : World) : Symbs w none 0 [] := ⟨Nat.le_refl _, Nat.zero_le _, .inl rfl⟩
theorem Symbs.below {w w' : World} {ao : Option Addr} {cap : Nat} {l : List Symb} (h : Symbs w ao cap l) (hb : Below w.heap.size w w') : Symbs w' ao cap l := by
  refine ⟨h.len, h.top, ?_⟩
  rcases h.at' with h0 | ⟨b, off, ha, hl⟩
  · exact .inl h0
  · refine .inr ⟨b, off, ha, fun i m hi j v hj => ?_⟩
    have hc := hl i m hi j v hj
    have hlt : b < w.heap.size := World.block_lt_of_cell? w ⟨b, off + i * 16 + j, none⟩ hc
    exact (World.cell?_of_block (a := ⟨b, off + i * 16 + j, none⟩) (hb.block b hlt)).trans hc
/-- One of them. -/
theorem Symbs.get {w : World} {ao : Option Addr} {cap : Nat} {l : List Symb} (h : Symbs w ao cap l) {i : Nat} {m : Symb} (hi : l[i]? = some m) :
    ∃ b off, ao = some ⟨b, off, none⟩ ∧ w.cell? ⟨b, off + i * 16 + 0, none⟩ = some (.int .i64 m.grid) ∧ w.cell? ⟨b, off + i * 16 + 1, none⟩ = some (.int .i64 m.refp) ∧ w.cell? ⟨b, off + i * 16 + 2, none⟩ = some (.int .i64 m.stat) ∧ w.cell? ⟨b, off + i * 16 + 3, none⟩ = some (.int .i64 m.dyn) ∧ w.cell? ⟨b, off + i * 16 + 4, none⟩ = some (.int .i64 m.win) ∧ w.cell? ⟨b, off + i * 16 + 5, none⟩ = some (.int .i64 m.move) ∧ w.cell? ⟨b, off + i * 16 + 6, none⟩ = some (.int .i64 m.lim) ∧ w.cell? ⟨b, off + i * 16 + 7, none⟩ = some (.int .i64 m.pau) ∧ w.cell? ⟨b, off + i * 16 + 8, none⟩ = some (.int .i64 m.ext) ∧ w.cell? ⟨b, off + i * 16 + 9, none⟩ = some (.int .i64 m.mext) ∧ w.cell? ⟨b, off + i * 16 + 10, none⟩ = some (.int .i64 m.col) ∧ w.cell? ⟨b, off + i * 16 + 11, none⟩ = some (.int .i64 m.wid) ∧ w.cell? ⟨b, off + i * 16 + 12, none⟩ = some (.int .i64 m.self) ∧ w.cell? ⟨b, off + i * 16 + 13, none⟩ = some (.int .i64 m.slots) ∧ w.cell? ⟨b, off + i * 16 + 14, none⟩ = some (.int .i64 m.levels) ∧ w.cell? ⟨b, off + i * 16 + 15, none⟩ = some (.int .i64 m.short) := by
  rcases h.at' with h0 | ⟨b, off, ha, hl⟩
  · subst h0; simp at hi
  · exact ⟨b, off, ha, hl i m hi 0 _ rfl, hl i m hi 1 _ rfl, hl i m hi 2 _ rfl, hl i m hi 3 _ rfl, hl i m hi 4 _ rfl, hl i m hi 5 _ rfl, hl i m hi 6 _ rfl, hl i m hi 7 _ rfl, hl i m hi 8 _ rfl, hl i m hi 9 _ rfl, hl i m hi 10 _ rfl, hl i m hi 11 _ rfl, hl i m hi 12 _ rfl, hl i m hi 13 _ rfl, hl i m hi 14 _ rfl, hl i m hi 15 _ rfl⟩
/-- What is owned is read. -/
theorem Symbs.of_own {E : TypeId} {w : World} {ko : Option Nat} {ao : Option Addr} {cap : Nat} {l : List Symb} (h : OwG E 16 w ko ao cap l.length (l.flatMap fun m => (cSymb m).toList)) : Symbs w ao cap l := by
  refine ⟨h.len, h.top, ?_⟩
  by_cases h0 : l = []
  · exact .inl h0
  · have hcell := fun j v hj => h.cell j v hj
    have at1 : ∀ (l : List Symb) (i : Nat) (m : Symb), l[i]? = some m → ∀ (j : Nat) (v : Value), (cSymb m)[j]? = some v → (l.flatMap fun m => (cSymb m).toList)[i * 16 + j]? = some v := by
      intro l
      induction l with
      | nil => intro i m hi; simp at hi
      | cons x t ih =>
        intro i m hi j v hj
        have hx : ((cSymb x).toList).length = 16 := rfl
        rw [List.flatMap_cons]
        cases i with
        | zero =>
          obtain rfl : x = m := by simpa using hi
          have hlt : j < 16 := by
            have := (Array.getElem?_eq_some_iff.1 hj).1
            simpa using this
          rw [List.getElem?_append_left (by rw [hx]; omega), Nat.zero_mul, Nat.zero_add]
          simpa using hj
        | succ i =>
          rw [List.getElem?_append_right (by rw [hx]; omega), hx, show (i + 1) * 16 + j - 16 = i * 16 + j by omega]
          exact ih i m (by simpa using hi) j v hj
    cases l with
    | nil => exact absurd rfl h0
    | cons x t =>
      obtain ⟨k, _, hao, _, _⟩ := hcell 0 (.int .i64 x.grid) rfl
      refine .inr ⟨k, 0, hao, fun i m hi j v hj => ?_⟩
      obtain ⟨k2, _, hao2, hc, _⟩ := hcell _ _ (at1 _ i m hi j v hj)
      rw [hao] at hao2
      cases hao2
      rw [Nat.zero_add]
      exact hc
section
open Go.ChangeShapes Go.WideShapes Go.ChangeAt Go.Deep
variable {H : Type} {enc' : TypeId × Value → H} {w : World} {base : Nat} {spare : Nat → Bool} {held : Bool}
/-- A slice of them that came in. -/
theorem open_Symbs {T : TypeId} (hT : Try.prog.underlying T = some (.slice 35)) {fuel : Nat} {cs : List Value} {x : DataW H × List MemPlace} (h : DataW.trod enc' Try.prog w base spare held fuel T cs = some x) :
    ∃ (ao : Option Addr) (cap : Nat) (l : List Symb), cs = [.slice ao l.length cap] ∧ Symbs w ao cap l ∧ ∀ m ∈ l, m.Fit := by
  rcases open_slice hT h with ⟨rfl, _⟩ | ⟨a, len, cap, m, n, D, Pl', rfl, _, hl, hm, hmm, _, hx⟩
  · exact ⟨none, 0, [], rfl, Symbs.nil w, by simp⟩
  · have hlm : len ≤ m := by rw [hmm]; split <;> omega
    have each : ∀ i, i < len → ∃ p : Symb, p.Fit ∧ w.cells? base (a.add (i * 16)) 16 = some (cSymb p).toList := by
      intro i hi
      obtain ⟨cs', h1, h2⟩ := hx i (by omega)
      rw [cells_Symb] at h1
      obtain ⟨p, hp, rfl⟩ := open_Symb h2
      exact ⟨p, hp, h1⟩
    by_cases h0 : len = 0
    · subst h0
      exact ⟨some a, cap, [], rfl, ⟨Nat.zero_le _, hm, .inl rfl⟩, by simp⟩
    · have : Inhabited Symb := ⟨Symb.zero⟩
      obtain ⟨f, hfam⟩ := choose_lt each
      obtain ⟨b, off, rfl⟩ : ∃ b off, a = ⟨b, off, none⟩ := by
        obtain ⟨_, hc⟩ := hfam 0 (by omega)
        obtain ⟨_, _, hcell⟩ := World.cells?_some hc
        have h1 := hcell 0 (by omega)
        obtain ⟨b, off, spot⟩ := a
        have hspot : spot = none := by simpa [Addr.add] using World.cell?_spot h1
        subst hspot
        exact ⟨b, off, rfl⟩
      have hget : ∀ i m, ((List.range len).map f)[i]? = some m → i < len ∧ f i = m := by
        intro i m hp
        rw [List.getElem?_map, Option.map_eq_some_iff] at hp
        obtain ⟨i', hi', rfl⟩ := hp
        obtain ⟨h1, h2⟩ := List.getElem?_eq_some_iff.1 hi'
        rw [List.length_range] at h1
        rw [List.getElem_range] at h2
        subst h2
        exact ⟨h1, rfl⟩
      refine ⟨some ⟨b, off, none⟩, cap, (List.range len).map f, by simp, ⟨by simpa using hl, hm, .inr ⟨b, off, rfl, fun i p hp j v hj => ?_⟩⟩, ?_⟩
      · obtain ⟨h1, rfl⟩ := hget i p hp
        obtain ⟨_, hc⟩ := hfam i h1
        obtain ⟨_, _, hcell⟩ := World.cells?_some hc
        rw [Addr.add_mid] at hcell
        have hj2 : j < 16 := by
          have := (Array.getElem?_eq_some_iff.1 hj).1
          simpa using this
        have h2 := hcell j hj2
        rw [Addr.add_mid] at h2
        rw [h2]
        simpa using hj
      · intro m hm
        obtain ⟨i, hi⟩ := List.mem_iff_getElem?.1 hm
        obtain ⟨h1, rfl⟩ := hget i m hi
        exact (hfam i h1).1
end
end Go.Proofs.Ytbkiipeoabbiiaa
