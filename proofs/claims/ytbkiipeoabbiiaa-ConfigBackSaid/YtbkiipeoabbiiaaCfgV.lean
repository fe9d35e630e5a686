/-
  api.Config as Go's values: its cells, as an argument, its arrays compared.
-/
import Derived.Test.YtbkiipeoabbiiaaSymbV
import Derived.Test.YtbkiipeoabbiiaaRowpV
namespace Go.Proofs.Ytbkiipeoabbiiaa
open Go.RowKit
abbrev cCfg (sa : Option Addr) (sc : Nat) (ra : Option Addr) (rc : Nat) (c : Cfg) : Array Value := #[.slice sa c.syms.length sc, .slice ra c.rows.length rc, .int .i64 c.index, .int .i64 c.f0, .int .i64 c.f1, .int .i64 c.f2, .int .i64 c.h0, .int .i64 c.h1]
abbrev vCfg (sa : Option Addr) (sc : Nat) (ra : Option Addr) (rc : Nat) (c : Cfg) : Value := .agg (cCfg sa sc ra rc c)
/-- What a configuration's slices hold. -/
structure Holds (w : World) (sa : Option Addr) (sc : Nat) (ra : Option Addr) (rc : Nat) (c : Cfg) : Prop where
  syms : Symbs w sa sc c.syms
  rows : Rowps w ra rc c.rows
theorem Holds.below {w w' : World} {sa : Option Addr} {sc : Nat} {ra : Option Addr} {rc : Nat} {c : Cfg} (h : Holds w sa sc ra rc c) (hb : Below w.heap.size w w') : Holds w' sa sc ra rc c := ⟨h.syms.below hb, h.rows.below hb⟩
theorem Holds.zero (w : World) : Holds w none 0 none 0 Cfg.zero := ⟨Symbs.nil w, Rowps.nil w⟩
theorem Cfg.cells {w : World} {b : Nat} {T : TypeId} {sa : Option Addr} {sc : Nat} {ra : Option Addr} {rc : Nat} {c : Cfg} (h : Blk w b T (cCfg sa sc ra rc c)) :
    w.cell? ⟨b, 0, none⟩ = some (.slice sa c.syms.length sc) ∧ w.cell? ⟨b, 1, none⟩ = some (.slice ra c.rows.length rc) ∧ w.cell? ⟨b, 2, none⟩ = some (.int .i64 c.index) ∧ w.cell? ⟨b, 3, none⟩ = some (.int .i64 c.f0) ∧ w.cell? ⟨b, 4, none⟩ = some (.int .i64 c.f1) ∧ w.cell? ⟨b, 5, none⟩ = some (.int .i64 c.f2) ∧ w.cell? ⟨b, 6, none⟩ = some (.int .i64 c.h0) ∧ w.cell? ⟨b, 7, none⟩ = some (.int .i64 c.h1) :=
  ⟨h.cell_eq 0 _ rfl, h.cell_eq 1 _ rfl, h.cell_eq 2 _ rfl, h.cell_eq 3 _ rfl, h.cell_eq 4 _ rfl, h.cell_eq 5 _ rfl, h.cell_eq 6 _ rfl, h.cell_eq 7 _ rfl⟩
theorem cells_Cfg : Try.prog.cellsOf 27 = 8 := by kernel_rfl
theorem cells_Falls : Try.prog.cellsOf 24 = 3 := by kernel_rfl
theorem cells_Halts : Try.prog.cellsOf 25 = 2 := by kernel_rfl
theorem cells_Syms : Try.prog.cellsOf 22 = 1 := by kernel_rfl
theorem cells_Rows : Try.prog.cellsOf 23 = 1 := by kernel_rfl
section
open Go.ChangeShapes Go.WideShapes Go.ChangeAt Go.Deep
variable {H : Type} {enc' : TypeId × Value → H} {w : World} {base : Nat} {spare : Nat → Bool} {held : Bool}
theorem trod_arr {t e : TypeId} {n fuel : Nat} {cs : List Value} {x : DataW H × List MemPlace} (ht : Try.prog.underlying t = some (.array n e)) (he : Try.prog.cellsOf e = 1) (h : DataW.trod enc' Try.prog w base spare held fuel t cs = some x) :
    ∃ m, cs.length = Try.prog.cellsOf t ∧ ∀ i, i < n → ∃ y, DataW.trod enc' Try.prog w base spare held m e ((cs.drop i).take 1) = some y := by
  cases fuel with
  | zero => simp [DataW.trod] at h
  | succ m =>
    rw [DataW.trod_step] at h
    have e0 : DataW.trodStep enc' Try.prog w base spare held (DataW.trod enc' Try.prog w base spare held m) t cs = if cs.length = Try.prog.cellsOf t then ((List.range n).mapM fun i => DataW.trod enc' Try.prog w base spare held m e ((cs.drop (i * Try.prog.cellsOf e)).take (Try.prog.cellsOf e))).map fun xs => (.agg (xs.map (·.1)), xs.flatMap (·.2)) else none := by
      unfold DataW.trodStep
      rw [ht]
    rw [e0] at h
    split at h
    · rename_i hl
      rw [Option.map_eq_some_iff] at h
      obtain ⟨xs, hp, -⟩ := h
      refine ⟨m, hl, fun i hi => ?_⟩
      have h1 := mapM_some_get hp i i (by simp [hi])
      rw [he, Nat.mul_one] at h1
      have h2 := mapM_some_length hp
      rw [List.length_range] at h2
      have h3 : xs[i]? = some (xs[i]'(by omega)) := List.getElem?_eq_getElem (by omega)
      rw [h3] at h1
      exact ⟨_, h1⟩
    · cases h
theorem open_Falls {fuel : Nat} {cs : List Value} {x : DataW H × List MemPlace} (h : DataW.trod enc' Try.prog w base spare held fuel 24 cs = some x) : ∃ a b c : Int, In64 a ∧ In64 b ∧ In64 c ∧ cs = [.int .i64 a, .int .i64 b, .int .i64 c] := by
  obtain ⟨m, hl, hi⟩ := trod_arr Try.underlying24 cells_Symb_int h
  rw [cells_Falls] at hl
  match cs, hl with
  | [v0, v1, v2], _ =>
    obtain ⟨y0, h0⟩ := hi 0 (by decide)
    obtain ⟨y1, h1⟩ := hi 1 (by decide)
    obtain ⟨y2, h2⟩ := hi 2 (by decide)
    obtain ⟨a0, e0, -, w0⟩ := DataW.trod_int Try.underlying3 h0
    obtain ⟨a1, e1, -, w1⟩ := DataW.trod_int Try.underlying3 h1
    obtain ⟨a2, e2, -, w2⟩ := DataW.trod_int Try.underlying3 h2
    simp at e0 e1 e2
    subst e0 e1 e2
    exact ⟨a0, a1, a2, in64_of_wf w0, in64_of_wf w1, in64_of_wf w2, rfl⟩
theorem open_Halts {fuel : Nat} {cs : List Value} {x : DataW H × List MemPlace} (h : DataW.trod enc' Try.prog w base spare held fuel 25 cs = some x) : ∃ a b : Int, In64 a ∧ In64 b ∧ cs = [.int .i64 a, .int .i64 b] := by
  obtain ⟨m, hl, hi⟩ := trod_arr Try.underlying25 cells_Symb_int64 h
  rw [cells_Halts] at hl
  match cs, hl with
  | [v0, v1], _ =>
    obtain ⟨y0, h0⟩ := hi 0 (by decide)
    obtain ⟨y1, h1⟩ := hi 1 (by decide)
    obtain ⟨a0, e0, -, w0⟩ := DataW.trod_int Try.underlying2 h0
    obtain ⟨a1, e1, -, w1⟩ := DataW.trod_int Try.underlying2 h1
    simp at e0 e1
    subst e0 e1
    exact ⟨a0, a1, in64_of_wf w0, in64_of_wf w1, rfl⟩
set_option maxRecDepth 8000 in
/-- A configuration that came in. -/
theorem open_Config {fuel : Nat} {cs : List Value} {x : DataW H × List MemPlace} (h : DataW.trod enc' Try.prog w base spare held fuel 27 cs = some x) :
    ∃ (c : Cfg) (sa : Option Addr) (sc : Nat) (ra : Option Addr) (rc : Nat), c.Fit ∧ Holds w sa sc ra rc c ∧ cs = (cCfg sa sc ra rc c).toList := by
  obtain ⟨xs, n, _, _, hl, hlen, hf⟩ := DataW.trod_struct Try.underlying27 h
  rw [cells_Cfg] at hl
  match cs, hl, xs, hlen with
  | [v0, v1, v2, v3, v4, v5, v6, v7], _, [y0, y1, y2, y3, y4], _ =>
    have f0 : DataW.trod enc' Try.prog w base spare held n 22 [v0] = some y0 := by
      have h0 : DataW.trod enc' Try.prog w base spare held n 22 (([v0, v1, v2, v3, v4, v5, v6, v7].drop 0).take (Try.prog.cellsOf 22)) = some y0 := hf 0 _ rfl
      rw [cells_Syms] at h0
      exact h0
    have f1 : DataW.trod enc' Try.prog w base spare held n 23 [v1] = some y1 := by
      have h0 : DataW.trod enc' Try.prog w base spare held n 23 (([v0, v1, v2, v3, v4, v5, v6, v7].drop 1).take (Try.prog.cellsOf 23)) = some y1 := hf 1 _ rfl
      rw [cells_Rows] at h0
      exact h0
    have f2 : DataW.trod enc' Try.prog w base spare held n 2 [v2] = some y2 := by
      have h0 : DataW.trod enc' Try.prog w base spare held n 2 (([v0, v1, v2, v3, v4, v5, v6, v7].drop 2).take (Try.prog.cellsOf 2)) = some y2 := hf 2 _ rfl
      rw [cells_Symb_int64] at h0
      exact h0
    have f3 : DataW.trod enc' Try.prog w base spare held n 24 [v3, v4, v5] = some y3 := by
      have h0 : DataW.trod enc' Try.prog w base spare held n 24 (([v0, v1, v2, v3, v4, v5, v6, v7].drop 3).take (Try.prog.cellsOf 24)) = some y3 := hf 3 _ rfl
      rw [cells_Falls] at h0
      exact h0
    have f4 : DataW.trod enc' Try.prog w base spare held n 25 [v6, v7] = some y4 := by
      have h0 : DataW.trod enc' Try.prog w base spare held n 25 (([v0, v1, v2, v3, v4, v5, v6, v7].drop 6).take (Try.prog.cellsOf 25)) = some y4 := hf 4 _ rfl
      rw [cells_Halts] at h0
      exact h0
    obtain ⟨sa, sc, ss, e0, hS, hSF⟩ := open_Symbs Try.underlying22 f0
    obtain ⟨ra, rc, rs, e1, hR, hRF⟩ := open_Rowps Try.underlying23 f1
    obtain ⟨i, e2, _, w2⟩ := DataW.trod_int Try.underlying2 f2
    obtain ⟨a, b, c, wa, wb, wc, e3⟩ := open_Falls f3
    obtain ⟨p, q, wp', wq, e4⟩ := open_Halts f4
    simp only [List.cons.injEq, and_true] at e0 e1 e2 e3 e4
    obtain ⟨rfl, rfl, rfl⟩ := e3
    obtain ⟨rfl, rfl⟩ := e4
    subst e0 e1 e2
    exact ⟨⟨ss, rs, i, a, b, c, p, q⟩, sa, sc, ra, rc, ⟨hSF, hRF, in64_of_wf w2, wa, wb, wc, wp', wq⟩, ⟨hS, hR⟩, rfl⟩
end
end Go.Proofs.Ytbkiipeoabbiiaa
