/-
  A band of prices. (No Go text.)
  api.Band: a struct of 2 ints as Go's values: laid, read whole, compared, as an argument, in slices. (Written by gen/struct.py.)
-/
import Derived.Test.YtohenmnpmgghhaaGreatDoorGA
import Derived.Test.YtohenmnpmgghhaaGreatDoorGOa
import Derived.Test.YtohenmnpmgghhaaGreatDoorGB
import Derived.Laws.StructEq
import Derived.Lib.Hide
import Derived.ProofKit
import Derived.OpenShut
import Derived.Deep.Slices
namespace Go.Proofs.YtohenmnpmgghhaaGreatDoor
structure Bnd where
  lo : Int
  hi : Int
def Bnd.zero : Bnd := ⟨0, 0⟩
structure Bnd.Fit (m : Bnd) : Prop where
  lo : In64 m.lo
  hi : In64 m.hi
end Go.Proofs.YtohenmnpmgghhaaGreatDoor
namespace Go.Proofs.YtohenmnpmgghhaaGreatDoor
open Go.RowKit
abbrev cBnd (m : Bnd) : Array Value := #[.int .i64 m.lo, .int .i64 m.hi]
abbrev vBnd (m : Bnd) : Value := .agg (cBnd m)
/-- Whether two are the same. -/
def eqBnd (a b : Bnd) : Bool := a.lo == b.lo && a.hi == b.hi
theorem Bnd.cells {w : World} {b : Nat} {T : TypeId} {m : Bnd} (h : Blk w b T (cBnd m)) : w.cell? ⟨b, 0, none⟩ = some (.int .i64 m.lo) ∧ w.cell? ⟨b, 1, none⟩ = some (.int .i64 m.hi) :=
  ⟨h.cell_eq 0 _ rfl, h.cell_eq 1 _ rfl⟩
theorem Bnd.below {B : Nat} {W w : World} {b : Nat} (h : Below B W w) (hb : B ≤ b) (v0 v1 : Value) : Below B W ((w.setCell ⟨b, 0, none⟩ v0).setCell ⟨b, 1, none⟩ v1) := by
  have h0 := h.setCell (p := ⟨b, 0, none⟩) hb v0
  have h1 := h0.setCell (p := ⟨b, 1, none⟩) hb v1
  exact h1
theorem Bnd.frm {S : Nat → Prop} {W w : World} {b : Nat} (h : Frm S W w) (hb : S b ∨ W.heap.size ≤ b) (v0 v1 : Value) : Frm S W ((w.setCell ⟨b, 0, none⟩ v0).setCell ⟨b, 1, none⟩ v1) := by
  have h0 := h.setCell ⟨b, 0, none⟩ v0 hb
  have h1 := h0.setCell ⟨b, 1, none⟩ v1 hb
  exact h1
theorem Bnd.lay {w : World} {b : Nat} {T : TypeId} {m : Bnd} (h : Blk w b T (cBnd m)) (v0 v1 : Int) : Blk ((w.setCell ⟨b, 0, none⟩ (.int .i64 v0)).setCell ⟨b, 1, none⟩ (.int .i64 v1)) b T (cBnd ⟨v0, v1⟩) := by
  have h0 : Blk _ b T (cBnd ⟨v0, m.hi⟩) := h.set 0 (.int .i64 v0)
  have h1 : Blk _ b T (cBnd ⟨v0, v1⟩) := h0.set 1 (.int .i64 v1)
  exact h1
theorem cells_Bnd : Tryz.prog.cellsOf 24 = 2 := by kernel_rfl
theorem cells_Bnd_int64 : Tryz.prog.cellsOf 2 = 1 := by kernel_rfl
section
open Go.ChangeShapes Go.WideShapes Go.ChangeAt Go.Deep
variable {H : Type} {enc' : TypeId × Value → H} {w : World} {base : Nat} {spare : Nat → Bool} {held : Bool}
set_option maxRecDepth 8000 in
/-- One that came in. -/
theorem open_Bnd {fuel : Nat} {cs : List Value} {x : DataW H × List MemPlace} (h : DataW.trod enc' Tryz.prog w base spare held fuel 24 cs = some x) : ∃ m : Bnd, m.Fit ∧ cs = (cBnd m).toList := by
  obtain ⟨xs, n, _, _, hl, hlen, hf⟩ := DataW.trod_struct Tryz.underlying24 h
  rw [cells_Bnd] at hl
  match cs, hl, xs, hlen with
  | [v0, v1], _, [y0, y1], _ =>
    have f0 : DataW.trod enc' Tryz.prog w base spare held n 2 [v0] = some y0 := by
      have h0 : DataW.trod enc' Tryz.prog w base spare held n 2 (([v0, v1].drop 0).take (Tryz.prog.cellsOf 2)) = some y0 := hf 0 _ rfl
      rw [cells_Bnd_int64] at h0
      exact h0
    have f1 : DataW.trod enc' Tryz.prog w base spare held n 2 [v1] = some y1 := by
      have h0 : DataW.trod enc' Tryz.prog w base spare held n 2 (([v0, v1].drop 1).take (Tryz.prog.cellsOf 2)) = some y1 := hf 1 _ rfl
      rw [cells_Bnd_int64] at h0
      exact h0
    obtain ⟨a0, e0, _, w0⟩ := DataW.trod_int Tryz.underlying2 f0
    obtain ⟨a1, e1, _, w1⟩ := DataW.trod_int Tryz.underlying2 f1
    simp only [List.cons.injEq, and_true] at e0 e1
    subst e0 e1
    exact ⟨⟨a0, a1⟩, ⟨in64_of_wf w0, in64_of_wf w1⟩, rfl⟩
end
/-- A slice of them, to be read. -/
structure Bnds (w : World) (ao : Option Addr) (cap : Nat) (l : List Bnd) : Prop where
  len : l.length ≤ cap
  top : cap ≤ maxLen
  at' : l = [] ∨ ∃ b off, ao = some ⟨b, off, none⟩ ∧ ∀ (i : Nat) (m : Bnd), l[i]? = some m → ∀ (j : Nat) (v : Value), (cBnd m)[j]? = some v → w.cell? ⟨b, off + i * 2 + j, none⟩ = some v
theorem Bnds.nil (w : World) : Bnds w none 0 [] := ⟨Nat.le_refl _, Nat.zero_le _, .inl rfl⟩
theorem Bnds.below {w w' : World} {ao : Option Addr} {cap : Nat} {l : List Bnd} (h : Bnds w ao cap l) (hb : Below w.heap.size w w') : Bnds w' ao cap l := by
  refine ⟨h.len, h.top, ?_⟩
  rcases h.at' with h0 | ⟨b, off, ha, hl⟩
  · exact .inl h0
  · refine .inr ⟨b, off, ha, fun i m hi j v hj => ?_⟩
    have hc := hl i m hi j v hj
    have hlt : b < w.heap.size := World.block_lt_of_cell? w ⟨b, off + i * 2 + j, none⟩ hc
    exact (World.cell?_of_block (a := ⟨b, off + i * 2 + j, none⟩) (hb.block b hlt)).trans hc
/-- One of them. -/
theorem Bnds.get {w : World} {ao : Option Addr} {cap : Nat} {l : List Bnd} (h : Bnds w ao cap l) {i : Nat} {m : Bnd} (hi : l[i]? = some m) :
    ∃ b off, ao = some ⟨b, off, none⟩ ∧ w.cell? ⟨b, off + i * 2 + 0, none⟩ = some (.int .i64 m.lo) ∧ w.cell? ⟨b, off + i * 2 + 1, none⟩ = some (.int .i64 m.hi) := by
  rcases h.at' with h0 | ⟨b, off, ha, hl⟩
  · subst h0; simp at hi
  · exact ⟨b, off, ha, hl i m hi 0 _ rfl, hl i m hi 1 _ rfl⟩
/-- What is owned is read. -/
theorem Bnds.of_own {E : TypeId} {w : World} {ko : Option Nat} {ao : Option Addr} {cap : Nat} {l : List Bnd} (h : OwG E 2 w ko ao cap l.length (l.flatMap fun m => (cBnd m).toList)) : Bnds w ao cap l := by
  refine ⟨h.len, h.top, ?_⟩
  by_cases h0 : l = []
  · exact .inl h0
  · have hcell := fun j v hj => h.cell j v hj
    have at1 : ∀ (l : List Bnd) (i : Nat) (m : Bnd), l[i]? = some m → ∀ (j : Nat) (v : Value), (cBnd m)[j]? = some v → (l.flatMap fun m => (cBnd m).toList)[i * 2 + j]? = some v := by
      intro l
      induction l with
      | nil => intro i m hi; simp at hi
      | cons x t ih =>
        intro i m hi j v hj
        have hx : ((cBnd x).toList).length = 2 := rfl
        rw [List.flatMap_cons]
        cases i with
        | zero =>
          obtain rfl : x = m := by simpa using hi
          have hlt : j < 2 := by
            have := (Array.getElem?_eq_some_iff.1 hj).1
            simpa using this
          rw [List.getElem?_append_left (by rw [hx]; omega), Nat.zero_mul, Nat.zero_add]
          simpa using hj
        | succ i =>
          rw [List.getElem?_append_right (by rw [hx]; omega), hx, show (i + 1) * 2 + j - 2 = i * 2 + j by omega]
          exact ih i m (by simpa using hi) j v hj
    cases l with
    | nil => exact absurd rfl h0
    | cons x t =>
      obtain ⟨k, _, hao, _, _⟩ := hcell 0 (.int .i64 x.lo) rfl
      refine .inr ⟨k, 0, hao, fun i m hi j v hj => ?_⟩
      obtain ⟨k2, _, hao2, hc, _⟩ := hcell _ _ (at1 _ i m hi j v hj)
      rw [hao] at hao2
      cases hao2
      rw [Nat.zero_add]
      exact hc
section
open Go.ChangeShapes Go.WideShapes Go.ChangeAt Go.Deep
variable {H : Type} {enc' : TypeId × Value → H} {w : World} {base : Nat} {spare : Nat → Bool} {held : Bool}
end
end Go.Proofs.YtohenmnpmgghhaaGreatDoor
