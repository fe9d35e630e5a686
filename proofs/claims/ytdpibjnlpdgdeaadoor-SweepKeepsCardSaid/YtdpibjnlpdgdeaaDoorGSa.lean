/-
  api.Band: a struct as Go's values: its cells, an argument, slices of it. (Written by gen/struct2.py.)
  damper/damperref14.Taker: a struct as Go's values: its cells, an argument, slices of it. (Written by gen/struct2.py.)
  damper/sweep.Fill: a struct as Go's values: its cells, an argument, slices of it. (Written by gen/struct2.py.)
  Execution plans: a taker, fills, what a taker would trade with a side's orders, and what becomes of a book when a plan is applied. (No Go text.)
  How far a plan has come, order by order. (No Go text.)
  What SweepKeeps asks of a plan. (No Go text.)
-/
import Derived.Test.YtdpibjnlpdgdeaaDoorGB
import Derived.Lib.Hide
import Derived.ProofKit
import Derived.OpenShut
import Derived.Deep.Slices
import Derived.Test.YtdpibjnlpdgdeaaDoorGP
namespace Go.Proofs.YtdpibjnlpdgdeaaDoor
open Go.RowKit
structure Bnd where
  lo : Int
  hi : Int
def Bnd.zero : Bnd := ⟨0, 0⟩
structure Bnd.Fit (m : Bnd) : Prop where
  lo : In64 m.lo
  hi : In64 m.hi
abbrev cBnd (m : Bnd) : Array Value := #[.int .i64 m.lo, .int .i64 m.hi]
abbrev vBnd (m : Bnd) : Value := .agg (cBnd m)
theorem cells_Bnd : Tryd.prog.cellsOf 32 = 2 := by kernel_rfl
theorem cells_Bnd_0 : Tryd.prog.cellsOf 2 = 1 := by kernel_rfl
section
open Go.ChangeShapes Go.WideShapes Go.ChangeAt Go.Deep
variable {H : Type} {enc' : TypeId × Value → H} {w : World} {base : Nat} {spare : Nat → Bool} {held : Bool}
set_option maxRecDepth 8000 in
/-- One that came in. -/
theorem open_Bnd {fuel : Nat} {cs : List Value} {x : DataW H × List MemPlace} (h : DataW.trod enc' Tryd.prog w base spare held fuel 32 cs = some x) : ∃ m : Bnd, m.Fit ∧ cs = (cBnd m).toList := by
  obtain ⟨xs, n, _, _, hl, hlen, hf⟩ := DataW.trod_struct Tryd.underlying32 h
  rw [cells_Bnd] at hl
  match cs, hl, xs, hlen with
  | [v0, v1], _, [y0, y1], _ =>
    have f0 : DataW.trod enc' Tryd.prog w base spare held n 2 [v0] = some y0 := by
      have h0 : DataW.trod enc' Tryd.prog w base spare held n 2 (([v0, v1].drop 0).take (Tryd.prog.cellsOf 2)) = some y0 := hf 0 _ rfl
      rw [cells_Bnd_0] at h0
      exact h0
    have f1 : DataW.trod enc' Tryd.prog w base spare held n 2 [v1] = some y1 := by
      have h0 : DataW.trod enc' Tryd.prog w base spare held n 2 (([v0, v1].drop 1).take (Tryd.prog.cellsOf 2)) = some y1 := hf 1 _ rfl
      rw [cells_Bnd_0] at h0
      exact h0
    obtain ⟨a0, e0, _, w0⟩ := DataW.trod_int Tryd.underlying2 f0
    obtain ⟨a1, e1, _, w1⟩ := DataW.trod_int Tryd.underlying2 f1
    simp only [List.cons.injEq, and_true] at e0 e1
    subst e0
    subst e1
    exact ⟨⟨a0, a1⟩, ⟨in64_of_wf w0, in64_of_wf w1⟩, rfl⟩
end
/-- A slice of them, to be read. -/
structure Bnds (w : World) (ao : Option Addr) (cap : Nat) (l : List Bnd) : Prop where
  len : l.length ≤ cap
  top : cap ≤ maxLen
  at' : l = [] ∨ ∃ b off, ao = some ⟨b, off, none⟩ ∧ ∀ (i : Nat) (m : Bnd), l[i]? = some m → ∀ (j : Nat) (v : Value), (cBnd m)[j]? = some v → w.cell? ⟨b, off + i * 2 + j, none⟩ = some v
theorem Bnds.nil (w : World) : Bnds w none 0 [] := ⟨Nat.le_refl _, Nat.zero_le _, .inl rfl⟩
theorem Bnds.below {w w' : World} {ao : Option Addr} {cap : Nat} {l : List Bnd} (h : Bnds w ao cap l) (hb : Below w.heap.size w w') : Bnds w' ao cap l := by
  refine ⟨h.len, h.top, ?_⟩
  rcases h.at' with h0 | ⟨b, off, ha, hl⟩
  · exact .inl h0
  · refine .inr ⟨b, off, ha, fun i m hi j v hj => ?_⟩
    have hc := hl i m hi j v hj
    have hlt : b < w.heap.size := World.block_lt_of_cell? w ⟨b, off + i * 2 + j, none⟩ hc
    exact (World.cell?_of_block (a := ⟨b, off + i * 2 + j, none⟩) (hb.block b hlt)).trans hc
/-- One of them. -/
theorem Bnds.get {w : World} {ao : Option Addr} {cap : Nat} {l : List Bnd} (h : Bnds w ao cap l) {i : Nat} {m : Bnd} (hi : l[i]? = some m) :
    ∃ b off, ao = some ⟨b, off, none⟩ ∧ w.cell? ⟨b, off + i * 2 + 0, none⟩ = some (.int .i64 m.lo) ∧ w.cell? ⟨b, off + i * 2 + 1, none⟩ = some (.int .i64 m.hi) := by
  rcases h.at' with h0 | ⟨b, off, ha, hl⟩
  · subst h0; simp at hi
  · exact ⟨b, off, ha, hl i m hi 0 _ rfl, hl i m hi 1 _ rfl⟩
section
open Go.ChangeShapes Go.WideShapes Go.ChangeAt Go.Deep
variable {H : Type} {enc' : TypeId × Value → H} {w : World} {base : Nat} {spare : Nat → Bool} {held : Bool}
/-- A slice of them that came in. -/
theorem open_Bnds {T : TypeId} (hT : Tryd.prog.underlying T = some (.slice 32)) {fuel : Nat} {cs : List Value} {x : DataW H × List MemPlace} (h : DataW.trod enc' Tryd.prog w base spare held fuel T cs = some x) :
    ∃ (ao : Option Addr) (cap : Nat) (l : List Bnd), cs = [.slice ao l.length cap] ∧ Bnds w ao cap l ∧ ∀ m ∈ l, m.Fit := by
  rcases open_slice hT h with ⟨rfl, _⟩ | ⟨a, len, cap, m, n, D, Pl', rfl, _, hl, hm, hmm, _, hx⟩
  · exact ⟨none, 0, [], rfl, Bnds.nil w, by simp⟩
  · have hlm : len ≤ m := by rw [hmm]; split <;> omega
    have each : ∀ i, i < len → ∃ p : Bnd, p.Fit ∧ w.cells? base (a.add (i * 2)) 2 = some (cBnd p).toList := by
      intro i hi
      obtain ⟨cs', h1, h2⟩ := hx i (by omega)
      rw [cells_Bnd] at h1
      obtain ⟨p, hp, rfl⟩ := open_Bnd h2
      exact ⟨p, hp, h1⟩
    by_cases h0 : len = 0
    · subst h0
      exact ⟨some a, cap, [], rfl, ⟨Nat.zero_le _, hm, .inl rfl⟩, by simp⟩
    · have : Inhabited Bnd := ⟨Bnd.zero⟩
      obtain ⟨f, hfam⟩ := choose_lt each
      obtain ⟨b, off, rfl⟩ : ∃ b off, a = ⟨b, off, none⟩ := by
        obtain ⟨_, hc⟩ := hfam 0 (by omega)
        obtain ⟨_, _, hcell⟩ := World.cells?_some hc
        have h1 := hcell 0 (by omega)
        obtain ⟨b, off, spot⟩ := a
        have hspot : spot = none := by simpa [Addr.add] using World.cell?_spot h1
        subst hspot
        exact ⟨b, off, rfl⟩
      have hget : ∀ i m, ((List.range len).map f)[i]? = some m → i < len ∧ f i = m := by
        intro i m hp
        rw [List.getElem?_map, Option.map_eq_some_iff] at hp
        obtain ⟨i', hi', rfl⟩ := hp
        obtain ⟨h1, h2⟩ := List.getElem?_eq_some_iff.1 hi'
        rw [List.length_range] at h1
        rw [List.getElem_range] at h2
        subst h2
        exact ⟨h1, rfl⟩
      refine ⟨some ⟨b, off, none⟩, cap, (List.range len).map f, by simp, ⟨by simpa using hl, hm, .inr ⟨b, off, rfl, fun i p hp j v hj => ?_⟩⟩, ?_⟩
      · obtain ⟨h1, rfl⟩ := hget i p hp
        obtain ⟨_, hc⟩ := hfam i h1
        obtain ⟨_, _, hcell⟩ := World.cells?_some hc
        rw [Addr.add_mid] at hcell
        have hj2 : j < 2 := by
          have := (Array.getElem?_eq_some_iff.1 hj).1
          simpa using this
        have h2 := hcell j hj2
        rw [Addr.add_mid] at h2
        rw [h2]
        simpa using hj
      · intro m hm
        obtain ⟨i, hi⟩ := List.mem_iff_getElem?.1 hm
        obtain ⟨h1, rfl⟩ := hget i m hi
        exact (hfam i h1).1
end
end Go.Proofs.YtdpibjnlpdgdeaaDoor
namespace Go.Proofs.YtdpibjnlpdgdeaaDoor
open Go.RowKit
structure Tkr where
  side : Int
  owner : Int
  limit : Int
  qty : Int
  band : Bnd
  self : Int
def Tkr.zero : Tkr := ⟨0, 0, 0, 0, Bnd.zero, 0⟩
structure Tkr.Fit (m : Tkr) : Prop where
  side : In64 m.side
  owner : In64 m.owner
  limit : In64 m.limit
  qty : In64 m.qty
  band : m.band.Fit
  self : In64 m.self
abbrev cTkr (m : Tkr) : Array Value := #[.int .i64 m.side, .int .i64 m.owner, .int .i64 m.limit, .int .i64 m.qty, .int .i64 m.band.lo, .int .i64 m.band.hi, .int .i64 m.self]
abbrev vTkr (m : Tkr) : Value := .agg (cTkr m)
theorem cells_Tkr : Tryd.prog.cellsOf 34 = 7 := by kernel_rfl
theorem cells_Tkr_0 : Tryd.prog.cellsOf 32 = 2 := by kernel_rfl
theorem cells_Tkr_1 : Tryd.prog.cellsOf 3 = 1 := by kernel_rfl
theorem cells_Tkr_2 : Tryd.prog.cellsOf 2 = 1 := by kernel_rfl
section
open Go.ChangeShapes Go.WideShapes Go.ChangeAt Go.Deep
variable {H : Type} {enc' : TypeId × Value → H} {w : World} {base : Nat} {spare : Nat → Bool} {held : Bool}
set_option maxRecDepth 8000 in
/-- One that came in. -/
theorem open_Tkr {fuel : Nat} {cs : List Value} {x : DataW H × List MemPlace} (h : DataW.trod enc' Tryd.prog w base spare held fuel 34 cs = some x) : ∃ m : Tkr, m.Fit ∧ cs = (cTkr m).toList := by
  obtain ⟨xs, n, _, _, hl, hlen, hf⟩ := DataW.trod_struct Tryd.underlying34 h
  rw [cells_Tkr] at hl
  match cs, hl, xs, hlen with
  | [v0, v1, v2, v3, v4, v5, v6], _, [y0, y1, y2, y3, y4, y5], _ =>
    have f0 : DataW.trod enc' Tryd.prog w base spare held n 3 [v0] = some y0 := by
      have h0 : DataW.trod enc' Tryd.prog w base spare held n 3 (([v0, v1, v2, v3, v4, v5, v6].drop 0).take (Tryd.prog.cellsOf 3)) = some y0 := hf 0 _ rfl
      rw [cells_Tkr_1] at h0
      exact h0
    have f1 : DataW.trod enc' Tryd.prog w base spare held n 3 [v1] = some y1 := by
      have h0 : DataW.trod enc' Tryd.prog w base spare held n 3 (([v0, v1, v2, v3, v4, v5, v6].drop 1).take (Tryd.prog.cellsOf 3)) = some y1 := hf 1 _ rfl
      rw [cells_Tkr_1] at h0
      exact h0
    have f2 : DataW.trod enc' Tryd.prog w base spare held n 2 [v2] = some y2 := by
      have h0 : DataW.trod enc' Tryd.prog w base spare held n 2 (([v0, v1, v2, v3, v4, v5, v6].drop 2).take (Tryd.prog.cellsOf 2)) = some y2 := hf 2 _ rfl
      rw [cells_Tkr_2] at h0
      exact h0
    have f3 : DataW.trod enc' Tryd.prog w base spare held n 2 [v3] = some y3 := by
      have h0 : DataW.trod enc' Tryd.prog w base spare held n 2 (([v0, v1, v2, v3, v4, v5, v6].drop 3).take (Tryd.prog.cellsOf 2)) = some y3 := hf 3 _ rfl
      rw [cells_Tkr_2] at h0
      exact h0
    have f4 : DataW.trod enc' Tryd.prog w base spare held n 32 [v4, v5] = some y4 := by
      have h0 : DataW.trod enc' Tryd.prog w base spare held n 32 (([v0, v1, v2, v3, v4, v5, v6].drop 4).take (Tryd.prog.cellsOf 32)) = some y4 := hf 4 _ rfl
      rw [cells_Tkr_0] at h0
      exact h0
    have f5 : DataW.trod enc' Tryd.prog w base spare held n 3 [v6] = some y5 := by
      have h0 : DataW.trod enc' Tryd.prog w base spare held n 3 (([v0, v1, v2, v3, v4, v5, v6].drop 6).take (Tryd.prog.cellsOf 3)) = some y5 := hf 5 _ rfl
      rw [cells_Tkr_1] at h0
      exact h0
    obtain ⟨a0, e0, _, w0⟩ := DataW.trod_int Tryd.underlying3 f0
    obtain ⟨a1, e1, _, w1⟩ := DataW.trod_int Tryd.underlying3 f1
    obtain ⟨a2, e2, _, w2⟩ := DataW.trod_int Tryd.underlying2 f2
    obtain ⟨a3, e3, _, w3⟩ := DataW.trod_int Tryd.underlying2 f3
    obtain ⟨a4, w4, e4⟩ := open_Bnd f4
    obtain ⟨a5, e5, _, w5⟩ := DataW.trod_int Tryd.underlying3 f5
    simp only [List.cons.injEq, and_true] at e0 e1 e2 e3 e4 e5
    subst e0
    subst e1
    subst e2
    subst e3
    obtain ⟨rfl, rfl⟩ := e4
    subst e5
    exact ⟨⟨a0, a1, a2, a3, a4, a5⟩, ⟨in64_of_wf w0, in64_of_wf w1, in64_of_wf w2, in64_of_wf w3, w4, in64_of_wf w5⟩, rfl⟩
end
/-- A slice of them, to be read. -/
structure Tkrs (w : World) (ao : Option Addr) (cap : Nat) (l : List Tkr) : Prop where
  len : l.length ≤ cap
  top : cap ≤ maxLen
  at' : l = [] ∨ ∃ b off, ao = some ⟨b, off, none⟩ ∧ ∀ (i : Nat) (m : Tkr), l[i]? = some m → ∀ (j : Nat) (v : Value), (cTkr m)[j]? = some v → w.cell? ⟨b, off + i * 7 + j, none⟩ = some v
theorem Tkrs.nil (w : World) : Tkrs w none 0 [] := ⟨Nat.le_refl _, Nat.zero_le _, .inl rfl⟩
theorem Tkrs.below {w w' : World} {ao : Option Addr} {cap : Nat} {l : List Tkr} (h : Tkrs w ao cap l) (hb : Below w.heap.size w w') : Tkrs w' ao cap l := by
  refine ⟨h.len, h.top, ?_⟩
  rcases h.at' with h0 | ⟨b, off, ha, hl⟩
  · exact .inl h0
  · refine .inr ⟨b, off, ha, fun i m hi j v hj => ?_⟩
    have hc := hl i m hi j v hj
    have hlt : b < w.heap.size := World.block_lt_of_cell? w ⟨b, off + i * 7 + j, none⟩ hc
    exact (World.cell?_of_block (a := ⟨b, off + i * 7 + j, none⟩) (hb.block b hlt)).trans hc
/-- One of them. -/
theorem Tkrs.get {w : World} {ao : Option Addr} {cap : Nat} {l : List Tkr} (h : Tkrs w ao cap l) {i : Nat} {m : Tkr} (hi : l[i]? = some m) :
    ∃ b off, ao = some ⟨b, off, none⟩ ∧ w.cell? ⟨b, off + i * 7 + 0, none⟩ = some (.int .i64 m.side) ∧ w.cell? ⟨b, off + i * 7 + 1, none⟩ = some (.int .i64 m.owner) ∧ w.cell? ⟨b, off + i * 7 + 2, none⟩ = some (.int .i64 m.limit) ∧ w.cell? ⟨b, off + i * 7 + 3, none⟩ = some (.int .i64 m.qty) ∧ w.cell? ⟨b, off + i * 7 + 4, none⟩ = some (.int .i64 m.band.lo) ∧ w.cell? ⟨b, off + i * 7 + 5, none⟩ = some (.int .i64 m.band.hi) ∧ w.cell? ⟨b, off + i * 7 + 6, none⟩ = some (.int .i64 m.self) := by
  rcases h.at' with h0 | ⟨b, off, ha, hl⟩
  · subst h0; simp at hi
  · exact ⟨b, off, ha, hl i m hi 0 _ rfl, hl i m hi 1 _ rfl, hl i m hi 2 _ rfl, hl i m hi 3 _ rfl, hl i m hi 4 _ rfl, hl i m hi 5 _ rfl, hl i m hi 6 _ rfl⟩
section
open Go.ChangeShapes Go.WideShapes Go.ChangeAt Go.Deep
variable {H : Type} {enc' : TypeId × Value → H} {w : World} {base : Nat} {spare : Nat → Bool} {held : Bool}
/-- A slice of them that came in. -/
theorem open_Tkrs {T : TypeId} (hT : Tryd.prog.underlying T = some (.slice 34)) {fuel : Nat} {cs : List Value} {x : DataW H × List MemPlace} (h : DataW.trod enc' Tryd.prog w base spare held fuel T cs = some x) :
    ∃ (ao : Option Addr) (cap : Nat) (l : List Tkr), cs = [.slice ao l.length cap] ∧ Tkrs w ao cap l ∧ ∀ m ∈ l, m.Fit := by
  rcases open_slice hT h with ⟨rfl, _⟩ | ⟨a, len, cap, m, n, D, Pl', rfl, _, hl, hm, hmm, _, hx⟩
  · exact ⟨none, 0, [], rfl, Tkrs.nil w, by simp⟩
  · have hlm : len ≤ m := by rw [hmm]; split <;> omega
    have each : ∀ i, i < len → ∃ p : Tkr, p.Fit ∧ w.cells? base (a.add (i * 7)) 7 = some (cTkr p).toList := by
      intro i hi
      obtain ⟨cs', h1, h2⟩ := hx i (by omega)
      rw [cells_Tkr] at h1
      obtain ⟨p, hp, rfl⟩ := open_Tkr h2
      exact ⟨p, hp, h1⟩
    by_cases h0 : len = 0
    · subst h0
      exact ⟨some a, cap, [], rfl, ⟨Nat.zero_le _, hm, .inl rfl⟩, by simp⟩
    · have : Inhabited Tkr := ⟨Tkr.zero⟩
      obtain ⟨f, hfam⟩ := choose_lt each
      obtain ⟨b, off, rfl⟩ : ∃ b off, a = ⟨b, off, none⟩ := by
        obtain ⟨_, hc⟩ := hfam 0 (by omega)
        obtain ⟨_, _, hcell⟩ := World.cells?_some hc
        have h1 := hcell 0 (by omega)
        obtain ⟨b, off, spot⟩ := a
        have hspot : spot = none := by simpa [Addr.add] using World.cell?_spot h1
        subst hspot
        exact ⟨b, off, rfl⟩
      have hget : ∀ i m, ((List.range len).map f)[i]? = some m → i < len ∧ f i = m := by
        intro i m hp
        rw [List.getElem?_map, Option.map_eq_some_iff] at hp
        obtain ⟨i', hi', rfl⟩ := hp
        obtain ⟨h1, h2⟩ := List.getElem?_eq_some_iff.1 hi'
        rw [List.length_range] at h1
        rw [List.getElem_range] at h2
        subst h2
        exact ⟨h1, rfl⟩
      refine ⟨some ⟨b, off, none⟩, cap, (List.range len).map f, by simp, ⟨by simpa using hl, hm, .inr ⟨b, off, rfl, fun i p hp j v hj => ?_⟩⟩, ?_⟩
      · obtain ⟨h1, rfl⟩ := hget i p hp
        obtain ⟨_, hc⟩ := hfam i h1
        obtain ⟨_, _, hcell⟩ := World.cells?_some hc
        rw [Addr.add_mid] at hcell
        have hj2 : j < 7 := by
          have := (Array.getElem?_eq_some_iff.1 hj).1
          simpa using this
        have h2 := hcell j hj2
        rw [Addr.add_mid] at h2
        rw [h2]
        simpa using hj
      · intro m hm
        obtain ⟨i, hi⟩ := List.mem_iff_getElem?.1 hm
        obtain ⟨h1, rfl⟩ := hget i m hi
        exact (hfam i h1).1
end
end Go.Proofs.YtdpibjnlpdgdeaaDoor
namespace Go.Proofs.YtdpibjnlpdgdeaaDoor
open Go.RowKit
structure Fll where
  id : Int
  price : Int
  qty : Int
  gone : Bool
def Fll.zero : Fll := ⟨0, 0, 0, false⟩
structure Fll.Fit (m : Fll) : Prop where
  id : In64 m.id
  price : In64 m.price
  qty : In64 m.qty
  gone : True
abbrev cFll (m : Fll) : Array Value := #[.int .i64 m.id, .int .i64 m.price, .int .i64 m.qty, .bool m.gone]
abbrev vFll (m : Fll) : Value := .agg (cFll m)
theorem cells_Fll : Tryd.prog.cellsOf 43 = 4 := by kernel_rfl
theorem cells_Fll_0 : Tryd.prog.cellsOf 4 = 1 := by kernel_rfl
theorem cells_Fll_1 : Tryd.prog.cellsOf 2 = 1 := by kernel_rfl
section
open Go.ChangeShapes Go.WideShapes Go.ChangeAt Go.Deep
variable {H : Type} {enc' : TypeId × Value → H} {w : World} {base : Nat} {spare : Nat → Bool} {held : Bool}
set_option maxRecDepth 8000 in
/-- One that came in. -/
theorem open_Fll {fuel : Nat} {cs : List Value} {x : DataW H × List MemPlace} (h : DataW.trod enc' Tryd.prog w base spare held fuel 43 cs = some x) : ∃ m : Fll, m.Fit ∧ cs = (cFll m).toList := by
  obtain ⟨xs, n, _, _, hl, hlen, hf⟩ := DataW.trod_struct Tryd.underlying43 h
  rw [cells_Fll] at hl
  match cs, hl, xs, hlen with
  | [v0, v1, v2, v3], _, [y0, y1, y2, y3], _ =>
    have f0 : DataW.trod enc' Tryd.prog w base spare held n 2 [v0] = some y0 := by
      have h0 : DataW.trod enc' Tryd.prog w base spare held n 2 (([v0, v1, v2, v3].drop 0).take (Tryd.prog.cellsOf 2)) = some y0 := hf 0 _ rfl
      rw [cells_Fll_1] at h0
      exact h0
    have f1 : DataW.trod enc' Tryd.prog w base spare held n 2 [v1] = some y1 := by
      have h0 : DataW.trod enc' Tryd.prog w base spare held n 2 (([v0, v1, v2, v3].drop 1).take (Tryd.prog.cellsOf 2)) = some y1 := hf 1 _ rfl
      rw [cells_Fll_1] at h0
      exact h0
    have f2 : DataW.trod enc' Tryd.prog w base spare held n 2 [v2] = some y2 := by
      have h0 : DataW.trod enc' Tryd.prog w base spare held n 2 (([v0, v1, v2, v3].drop 2).take (Tryd.prog.cellsOf 2)) = some y2 := hf 2 _ rfl
      rw [cells_Fll_1] at h0
      exact h0
    have f3 : DataW.trod enc' Tryd.prog w base spare held n 4 [v3] = some y3 := by
      have h0 : DataW.trod enc' Tryd.prog w base spare held n 4 (([v0, v1, v2, v3].drop 3).take (Tryd.prog.cellsOf 4)) = some y3 := hf 3 _ rfl
      rw [cells_Fll_0] at h0
      exact h0
    obtain ⟨a0, e0, _, w0⟩ := DataW.trod_int Tryd.underlying2 f0
    obtain ⟨a1, e1, _, w1⟩ := DataW.trod_int Tryd.underlying2 f1
    obtain ⟨a2, e2, _, w2⟩ := DataW.trod_int Tryd.underlying2 f2
    obtain ⟨a3, e3, _⟩ := DataW.trod_bool Tryd.underlying4 f3
    simp only [List.cons.injEq, and_true] at e0 e1 e2 e3
    subst e0
    subst e1
    subst e2
    subst e3
    exact ⟨⟨a0, a1, a2, a3⟩, ⟨in64_of_wf w0, in64_of_wf w1, in64_of_wf w2, trivial⟩, rfl⟩
end
/-- A slice of them, to be read. -/
structure Flls (w : World) (ao : Option Addr) (cap : Nat) (l : List Fll) : Prop where
  len : l.length ≤ cap
  top : cap ≤ maxLen
  at' : l = [] ∨ ∃ b off, ao = some ⟨b, off, none⟩ ∧ ∀ (i : Nat) (m : Fll), l[i]? = some m → ∀ (j : Nat) (v : Value), (cFll m)[j]? = some v → w.cell? ⟨b, off + i * 4 + j, none⟩ = some v
theorem Flls.nil (w : World) : Flls w none 0 [] := ⟨Nat.le_refl _, Nat.zero_le _, .inl rfl⟩
theorem Flls.below {w w' : World} {ao : Option Addr} {cap : Nat} {l : List Fll} (h : Flls w ao cap l) (hb : Below w.heap.size w w') : Flls w' ao cap l := by
  refine ⟨h.len, h.top, ?_⟩
  rcases h.at' with h0 | ⟨b, off, ha, hl⟩
  · exact .inl h0
  · refine .inr ⟨b, off, ha, fun i m hi j v hj => ?_⟩
    have hc := hl i m hi j v hj
    have hlt : b < w.heap.size := World.block_lt_of_cell? w ⟨b, off + i * 4 + j, none⟩ hc
    exact (World.cell?_of_block (a := ⟨b, off + i * 4 + j, none⟩) (hb.block b hlt)).trans hc
/-- One of them. -/
theorem Flls.get {w : World} {ao : Option Addr} {cap : Nat} {l : List Fll} (h : Flls w ao cap l) {i : Nat} {m : Fll} (hi : l[i]? = some m) :
    ∃ b off, ao = some ⟨b, off, none⟩ ∧ w.cell? ⟨b, off + i * 4 + 0, none⟩ = some (.int .i64 m.id) ∧ w.cell? ⟨b, off + i * 4 + 1, none⟩ = some (.int .i64 m.price) ∧ w.cell? ⟨b, off + i * 4 + 2, none⟩ = some (.int .i64 m.qty) ∧ w.cell? ⟨b, off + i * 4 + 3, none⟩ = some (.bool m.gone) := by
  rcases h.at' with h0 | ⟨b, off, ha, hl⟩
  · subst h0; simp at hi
  · exact ⟨b, off, ha, hl i m hi 0 _ rfl, hl i m hi 1 _ rfl, hl i m hi 2 _ rfl, hl i m hi 3 _ rfl⟩
section
open Go.ChangeShapes Go.WideShapes Go.ChangeAt Go.Deep
variable {H : Type} {enc' : TypeId × Value → H} {w : World} {base : Nat} {spare : Nat → Bool} {held : Bool}
/-- A slice of them that came in. -/
theorem open_Flls {T : TypeId} (hT : Tryd.prog.underlying T = some (.slice 43)) {fuel : Nat} {cs : List Value} {x : DataW H × List MemPlace} (h : DataW.trod enc' Tryd.prog w base spare held fuel T cs = some x) :
    ∃ (ao : Option Addr) (cap : Nat) (l : List Fll), cs = [.slice ao l.length cap] ∧ Flls w ao cap l ∧ ∀ m ∈ l, m.Fit := by
  rcases open_slice hT h with ⟨rfl, _⟩ | ⟨a, len, cap, m, n, D, Pl', rfl, _, hl, hm, hmm, _, hx⟩
  · exact ⟨none, 0, [], rfl, Flls.nil w, by simp⟩
  · have hlm : len ≤ m := by rw [hmm]; split <;> omega
    have each : ∀ i, i < len → ∃ p : Fll, p.Fit ∧ w.cells? base (a.add (i * 4)) 4 = some (cFll p).toList := by
      intro i hi
      obtain ⟨cs', h1, h2⟩ := hx i (by omega)
      rw [cells_Fll] at h1
      obtain ⟨p, hp, rfl⟩ := open_Fll h2
      exact ⟨p, hp, h1⟩
    by_cases h0 : len = 0
    · subst h0
      exact ⟨some a, cap, [], rfl, ⟨Nat.zero_le _, hm, .inl rfl⟩, by simp⟩
    · have : Inhabited Fll := ⟨Fll.zero⟩
      obtain ⟨f, hfam⟩ := choose_lt each
      obtain ⟨b, off, rfl⟩ : ∃ b off, a = ⟨b, off, none⟩ := by
        obtain ⟨_, hc⟩ := hfam 0 (by omega)
        obtain ⟨_, _, hcell⟩ := World.cells?_some hc
        have h1 := hcell 0 (by omega)
        obtain ⟨b, off, spot⟩ := a
        have hspot : spot = none := by simpa [Addr.add] using World.cell?_spot h1
        subst hspot
        exact ⟨b, off, rfl⟩
      have hget : ∀ i m, ((List.range len).map f)[i]? = some m → i < len ∧ f i = m := by
        intro i m hp
        rw [List.getElem?_map, Option.map_eq_some_iff] at hp
        obtain ⟨i', hi', rfl⟩ := hp
        obtain ⟨h1, h2⟩ := List.getElem?_eq_some_iff.1 hi'
        rw [List.length_range] at h1
        rw [List.getElem_range] at h2
        subst h2
        exact ⟨h1, rfl⟩
      refine ⟨some ⟨b, off, none⟩, cap, (List.range len).map f, by simp, ⟨by simpa using hl, hm, .inr ⟨b, off, rfl, fun i p hp j v hj => ?_⟩⟩, ?_⟩
      · obtain ⟨h1, rfl⟩ := hget i p hp
        obtain ⟨_, hc⟩ := hfam i h1
        obtain ⟨_, _, hcell⟩ := World.cells?_some hc
        rw [Addr.add_mid] at hcell
        have hj2 : j < 4 := by
          have := (Array.getElem?_eq_some_iff.1 hj).1
          simpa using this
        have h2 := hcell j hj2
        rw [Addr.add_mid] at h2
        rw [h2]
        simpa using hj
      · intro m hm
        obtain ⟨i, hi⟩ := List.mem_iff_getElem?.1 hm
        obtain ⟨h1, rfl⟩ := hget i m hi
        exact (hfam i h1).1
end
end Go.Proofs.YtdpibjnlpdgdeaaDoor
namespace Go.Proofs.YtdpibjnlpdgdeaaDoor
structure Pln where
  fills : List Fll
  left : Int
  stop : Int
/-- A price is worse than a limit, for a taker. -/
def swo (side price limit : Int) : Bool := limit != 0 && bett side price limit
/-- Is the order the taker's own? -/
def Tkr.own (t : Tkr) (o : Ord) : Bool := t.self != 0 && o.owner == t.owner
def swp (t : Tkr) : List Ord → Int → List Fll × Int × Int
  | [], left => ([], left, if left = 0 then 0 else 1)
  | o :: q, left =>
    if left = 0 then ([], left, 0) else
    if swo t.side o.price t.limit then ([], left, 1) else
    if o.price < t.band.lo ∨ t.band.hi < o.price then ([], left, 2) else
    if t.own o then
      if t.self = 1 then ([], left, 3) else
      if t.self = 3 then ([⟨o.id, o.price, o.qty, true⟩], left, 3) else
      (⟨o.id, o.price, o.qty, true⟩ :: (swp t q left).1, (swp t q left).2)
    else (⟨o.id, o.price, min left o.qty, false⟩ :: (swp t q (left - min left o.qty)).1, (swp t q (left - min left o.qty)).2)
def swm (b : Bk) (t : Tkr) : Pln :=
  if (t.side ≠ 0 ∧ t.side ≠ 1) ∨ t.qty < 1 then ⟨[], t.qty, 1⟩ else ⟨(swp t (bkOf b.L (1 - t.side)) t.qty).1, (swp t (bkOf b.L (1 - t.side)) t.qty).2.1, (swp t (bkOf b.L (1 - t.side)) t.qty).2.2⟩
/-- What is traded. -/
def trd : List Fll → Int
  | [] => 0
  | x :: l => (if x.gone then 0 else x.qty) + trd l
def OkQ (q : List Ord) : Prop := ∀ o ∈ q, 1 ≤ o.qty ∧ o.qty ≤ 4294967296
theorem OkQ.tail {o : Ord} {q : List Ord} (h : OkQ (o :: q)) : OkQ q := fun x hx => h x (List.mem_cons_of_mem _ hx)
section
variable {t : Tkr} {q : List Ord} {left : Int}
theorem swp_zero (t : Tkr) (q : List Ord) : swp t q 0 = ([], 0, 0) := by
  cases q <;> simp [swp]
/-- What is traded and left is what there was; why it ends. -/
theorem swp_sum (h : OkQ q) (hl : 0 ≤ left) : trd (swp t q left).1 + (swp t q left).2.1 = left ∧ 0 ≤ (swp t q left).2.1 ∧ ((swp t q left).2.2 = 0 ↔ (swp t q left).2.1 = 0) := by
  induction q generalizing left with
  | nil =>
    unfold swp
    by_cases e : left = 0 <;> simp [trd, e, hl]
  | cons o q ih =>
    obtain ⟨h1, h2⟩ := h o List.mem_cons_self
    unfold swp
    by_cases e : left = 0
    · rw [if_pos e]; simp [trd, e]
    rw [if_neg e]
    split
    · simp [trd, e, hl]
    split
    · simp [trd, e, hl]
    split
    · split
      · simp [trd, e, hl]
      split
      · simp [trd, e, hl]
      · obtain ⟨g1, g2, g3⟩ := ih h.tail hl
        exact ⟨by simp only [trd, if_true]; omega, g2, g3⟩
    · obtain ⟨g1, g2, g3⟩ := ih (left := left - min left o.qty) h.tail (by omega)
      exact ⟨by simp only [trd, Bool.false_eq_true, if_false]; omega, g2, g3⟩
theorem trd_pos (h : OkQ q) (hl : 0 ≤ left) : ∀ n, 0 ≤ trd ((swp t q left).1.take n) ∧ trd ((swp t q left).1.take n) ≤ left := by
  intro n
  induction q generalizing left n with
  | nil => unfold swp; simp [trd, hl]
  | cons o q ih =>
    obtain ⟨h1, h2⟩ := h o List.mem_cons_self
    unfold swp
    by_cases e : left = 0
    · rw [if_pos e]; simp [trd, hl]
    rw [if_neg e]
    split
    · simp [trd, hl]
    split
    · simp [trd, hl]
    split
    · split
      · simp [trd, hl]
      split
      · cases n <;> simp [trd, hl]
      · cases n with
        | zero => simp [trd, hl]
        | succ n =>
          obtain ⟨g1, g2⟩ := ih h.tail hl n
          rw [List.take_succ_cons]
          simp only [trd, if_true]
          omega
    · cases n with
      | zero => simp [trd, hl]
      | succ n =>
        obtain ⟨g1, g2⟩ := ih (left := left - min left o.qty) h.tail (by omega) n
        rw [List.take_succ_cons]
        simp only [trd, Bool.false_eq_true, if_false]
        omega
theorem swp_len : (swp t q left).1.length ≤ q.length := by
  induction q generalizing left with
  | nil => unfold swp; simp
  | cons o q ih =>
    unfold swp
    split
    · simp
    split
    · simp
    split
    · simp
    split
    · split
      · simp
      split
      · simp
      · simpa using ih (left := left)
    · simpa using ih (left := left - min left o.qty)
/-- Each fill is of the order at its place. -/
theorem swp_at (h : OkQ q) (hl : 0 ≤ left) : ∀ (i : Nat) (x : Fll), (swp t q left).1[i]? = some x → ∃ o, q[i]? = some o ∧ x.id = o.id ∧ x.price = o.price ∧ 1 ≤ x.qty ∧ x.qty ≤ o.qty ∧ (x.gone = true → x.qty = o.qty) ∧ t.band.lo ≤ x.price ∧ x.price ≤ t.band.hi ∧ swo t.side x.price t.limit = false ∧ (i + 1 < (swp t q left).1.length → x.qty = o.qty) ∧ x.gone = t.own o := by
  induction q generalizing left with
  | nil => intro i x hx; unfold swp at hx; simp at hx
  | cons o q ih =>
    intro i x hx
    obtain ⟨h1, h2⟩ := h o List.mem_cons_self
    unfold swp at hx ⊢
    by_cases e : left = 0
    · rw [if_pos e] at hx; simp at hx
    rw [if_neg e] at hx ⊢
    by_cases e1 : swo t.side o.price t.limit = true
    · rw [if_pos e1] at hx; simp at hx
    rw [if_neg e1] at hx ⊢
    by_cases e2 : o.price < t.band.lo ∨ t.band.hi < o.price
    · rw [if_pos e2] at hx; simp at hx
    rw [if_neg e2] at hx ⊢
    simp only [Bool.not_eq_true] at e1
    by_cases e3 : t.own o = true
    · rw [if_pos e3] at hx ⊢
      by_cases e4 : t.self = 1
      · rw [if_pos e4] at hx; simp at hx
      rw [if_neg e4] at hx ⊢
      by_cases e5 : t.self = 3
      · rw [if_pos e5] at hx ⊢
        cases i with
        | zero =>
          simp at hx
          subst hx
          exact ⟨o, rfl, rfl, rfl, h1, by simp, by simp, by simp; omega, by simp; omega, e1, by simp, e3.symm⟩
        | succ i => simp at hx
      · rw [if_neg e5] at hx ⊢
        cases i with
        | zero =>
          simp at hx
          subst hx
          exact ⟨o, rfl, rfl, rfl, h1, by simp, by simp, by simp; omega, by simp; omega, e1, by simp, e3.symm⟩
        | succ i =>
          simp only [List.getElem?_cons_succ] at hx
          obtain ⟨o', g1, g2⟩ := ih h.tail hl i x hx
          refine ⟨o', by simpa using g1, ?_⟩
          simpa using g2
    · rw [if_neg e3] at hx ⊢
      cases i with
      | zero =>
        simp at hx
        subst hx
        refine ⟨o, rfl, rfl, rfl, by show 1 ≤ min left o.qty; omega, by show min left o.qty ≤ o.qty; omega, by simp, by simp; omega, by simp; omega, e1, ?_, by simpa using e3⟩
        intro hn
        show min left o.qty = o.qty
        by_cases hq : o.qty ≤ left
        · omega
        · have e6 : left - min left o.qty = 0 := by omega
          rw [e6, swp_zero] at hn
          simp at hn
      | succ i =>
        simp only [List.getElem?_cons_succ] at hx
        obtain ⟨o', g1, g2⟩ := ih (left := left - min left o.qty) h.tail (by omega) i x hx
        refine ⟨o', by simpa using g1, ?_⟩
        simpa using g2
end
/-- A plan applied. -/
def swa : Bk → List Fll → Int × Bk
  | b, [] => (0, b)
  | b, x :: l =>
    if x.gone then (if (b.remF x.id).2 ≠ 0 then ((b.remF x.id).2, b.rem x.id) else swa (b.rem x.id) l)
    else (if (b.redF x.id x.qty).2 ≠ 0 then ((b.redF x.id x.qty).2, b.red x.id x.qty) else swa (b.red x.id x.qty) l)
theorem swa_ok {b : Bk} (hb : b.Ok) (l : List Fll) : (swa b l).2.Ok := by
  induction l generalizing b with
  | nil => exact hb
  | cons x l ih =>
    unfold swa
    split
    · split
      · exact hb.rem _
      · exact ih (hb.rem _)
    · split
      · exact hb.red _ _
      · exact ih (hb.red _ _)
/-- A plan for a book can be applied to it. -/
theorem swa_swp {b : Bk} (hb : b.Ok) (t : Tkr) {s : Int} {q : List Ord} (hq : bkOf b.L s = q) {left : Int} (hl : 0 ≤ left) : (swa b (swp t q left).1).1 = 0 := by
  induction q generalizing b left with
  | nil => unfold swp; rfl
  | cons o q ih =>
    have hm : o ∈ b.L ∧ o.side = s := bkOf_mem.1 (by rw [hq]; exact List.mem_cons_self)
    obtain ⟨i, hi⟩ := List.mem_iff_getElem?.1 hm.1
    have hf := hb.u.at' hi
    have hok := hb.ok o hm.1
    have htl := bkOf_tail hb.u hq hi
    have hre : b.remF o.id = (o, 0) := by unfold Bk.remF; rw [hf]; simp [hi]
    have hrm : b.rem o.id = { b with L := b.L.eraseIdx i } := by unfold Bk.rem; rw [hf]
    unfold swp
    split
    · rfl
    split
    · rfl
    split
    · rfl
    split
    · split
      · rfl
      split
      · unfold swa
        simp only [if_true, hre, ne_eq, not_true_eq_false, if_false]
        rfl
      · unfold swa
        simp only [if_true, hre, ne_eq, not_true_eq_false, if_false]
        refine ih (hb.rem _) ?_ hl
        rw [hrm]
        exact htl
    · have h1 := hok.q1
      have hn : ¬ (min left o.qty < 1 ∨ o.qty < min left o.qty) := by omega
      have hrd : b.redF o.id (min left o.qty) = ({ o with qty := o.qty - min left o.qty }, 0) := by
        unfold Bk.redF
        rw [hf]
        simp only [hi, Option.getD_some]
        rw [if_neg hn]
      unfold swa
      simp only [Bool.false_eq_true, if_false, hrd, ne_eq, not_true_eq_false]
      by_cases hw : o.qty = min left o.qty
      · refine ih (hb.red _ _) ?_ (by omega)
        have : b.red o.id (min left o.qty) = { b with L := b.L.eraseIdx i } := by
          unfold Bk.red
          rw [hf]
          simp only [hi, Option.getD_some]
          rw [if_neg hn, if_pos hw]
        rw [this]
        exact htl
      · have e : left - min left o.qty = 0 := by omega
        rw [e, swp_zero]
        rfl
/-- Whether the other side has a price that is not worse than a limit. -/
def swr (b : Bk) (side limit : Int) : Bool := decide (side = 0 ∨ side = 1) && (match b.front (1 - side) with
  | some o => !swo side o.price limit
  | none => false)
end Go.Proofs.YtdpibjnlpdgdeaaDoor
namespace Go.Proofs.YtdpibjnlpdgdeaaDoor
structure SwRun (t : Tkr) (P : List Ord) (n : Nat) (fs : List Fll) (left : Int) : Prop where
  eq : swp t P t.qty = (fs ++ (swp t (P.drop n) left).1, (swp t (P.drop n) left).2)
  len : fs.length ≤ n
  pos : 0 ≤ left
  le : left ≤ t.qty
/-- The plan's end. -/
def SwFin (t : Tkr) (P : List Ord) (fs : List Fll) (left stop : Int) : Prop := swp t P t.qty = (fs, left, if left = 0 then 0 else stop)
section
variable {t : Tkr} {P : List Ord} {n : Nat} {fs : List Fll} {left : Int} {x : Ord}
theorem SwRun.start (t : Tkr) (P : List Ord) (h : 0 ≤ t.qty) : SwRun t P 0 [] t.qty := ⟨by simp, Nat.le_refl _, h, Int.le_refl _⟩
theorem drop_at (hx : P[n]? = some x) : P.drop n = x :: P.drop (n + 1) := by
  obtain ⟨h, e⟩ := List.getElem?_eq_some_iff.1 hx
  rw [List.drop_eq_getElem_cons h, e]
theorem SwRun.zero (h : SwRun t P n fs left) (e : left = 0) : SwFin t P fs left 1 := by
  unfold SwFin
  rw [h.eq, e, swp_zero]
  simp
theorem SwRun.worse (h : SwRun t P n fs left) (hx : P[n]? = some x) (e0 : left ≠ 0) (e1 : swo t.side x.price t.limit = true) : SwFin t P fs left 1 := by
  unfold SwFin
  rw [h.eq, drop_at hx]
  unfold swp
  rw [if_neg e0, if_pos e1, if_neg e0]
  simp
theorem SwRun.outside (h : SwRun t P n fs left) (hx : P[n]? = some x) (e0 : left ≠ 0) (e1 : swo t.side x.price t.limit = false) (e2 : x.price < t.band.lo ∨ t.band.hi < x.price) : SwFin t P fs left 2 := by
  unfold SwFin
  rw [h.eq, drop_at hx]
  unfold swp
  rw [if_neg e0, if_neg (by rw [e1]; simp), if_pos e2, if_neg e0]
  simp
theorem SwRun.own1 (h : SwRun t P n fs left) (hx : P[n]? = some x) (e0 : left ≠ 0) (e1 : swo t.side x.price t.limit = false) (e2 : ¬ (x.price < t.band.lo ∨ t.band.hi < x.price)) (e3 : t.own x = true) (e4 : t.self = 1) : SwFin t P fs left 3 := by
  unfold SwFin
  rw [h.eq, drop_at hx]
  unfold swp
  rw [if_neg e0, if_neg (by rw [e1]; simp), if_neg e2, if_pos e3, if_pos e4, if_neg e0]
  simp
theorem SwRun.own3 (h : SwRun t P n fs left) (hx : P[n]? = some x) (e0 : left ≠ 0) (e1 : swo t.side x.price t.limit = false) (e2 : ¬ (x.price < t.band.lo ∨ t.band.hi < x.price)) (e3 : t.own x = true) (e4 : t.self = 3) : SwFin t P (fs ++ [⟨x.id, x.price, x.qty, true⟩]) left 3 := by
  unfold SwFin
  rw [h.eq, drop_at hx]
  unfold swp
  rw [if_neg e0, if_neg (by rw [e1]; simp), if_neg e2, if_pos e3, if_neg (by omega), if_pos e4, if_neg e0]
theorem SwRun.skip (h : SwRun t P n fs left) (hx : P[n]? = some x) (e0 : left ≠ 0) (e1 : swo t.side x.price t.limit = false) (e2 : ¬ (x.price < t.band.lo ∨ t.band.hi < x.price)) (e3 : t.own x = true) (e4 : t.self ≠ 1) (e5 : t.self ≠ 3) : SwRun t P (n + 1) (fs ++ [⟨x.id, x.price, x.qty, true⟩]) left := by
  refine ⟨?_, by have := h.len; simp; omega, h.pos, h.le⟩
  rw [h.eq, drop_at hx]
  rw [swp, if_neg e0, if_neg (by rw [e1]; simp), if_neg e2, if_pos e3, if_neg e4, if_neg e5]
  simp
theorem SwRun.trade (h : SwRun t P n fs left) (hx : P[n]? = some x) (hq : 0 ≤ x.qty) (e0 : left ≠ 0) (e1 : swo t.side x.price t.limit = false) (e2 : ¬ (x.price < t.band.lo ∨ t.band.hi < x.price)) (e3 : t.own x = false) : SwRun t P (n + 1) (fs ++ [⟨x.id, x.price, min left x.qty, false⟩]) (left - min left x.qty) := by
  have h1 := h.pos
  have h2 := h.le
  refine ⟨?_, by have := h.len; simp; omega, by omega, by omega⟩
  rw [h.eq, drop_at hx]
  rw [swp, if_neg e0, if_neg (by rw [e1]; simp), if_neg e2, if_neg (by rw [e3]; simp)]
  simp
theorem SwRun.done (h : SwRun t P P.length fs left) : SwFin t P fs left 1 := by
  unfold SwFin
  rw [h.eq, List.drop_length]
  unfold swp
  by_cases e : left = 0
  · rw [if_pos e]; simp
  · rw [if_neg e]; simp
theorem SwFin.fills {stop : Int} (h : SwFin t P fs left stop) : (swp t P t.qty).1 = fs ∧ (swp t P t.qty).2.1 = left ∧ (swp t P t.qty).2.2 = if left = 0 then 0 else stop := by
  rw [h]
  exact ⟨rfl, rfl, rfl⟩
end
end Go.Proofs.YtdpibjnlpdgdeaaDoor
namespace Go.Proofs.YtdpibjnlpdgdeaaDoor
structure Kept (b : Bk) (t : Tkr) (l : List Fll) (i : Nat) (x : Fll) (o : Ord) : Prop where
  get : b.get x.id = some o
  fit : x.Fit
  side : o.side = 1 - t.side
  price : o.price = x.price
  q1 : 1 ≤ x.qty
  q2 : x.qty ≤ o.qty
  gone : x.gone = true → x.qty = o.qty
  lo : t.band.lo ≤ x.price
  hi : x.price ≤ t.band.hi
  lim : swo t.side x.price t.limit = false
  sort : ∀ y, 0 < i → l[i - 1]? = some y → bett (1 - t.side) x.price y.price = false
  more : i + 1 < l.length → x.qty = o.qty
  own : x.gone = (t.self != 0 && o.owner == t.owner)
section
variable {b : Bk} {t : Tkr}
theorem swm_eq (ht : t.side = 0 ∨ t.side = 1) (hq : 1 ≤ t.qty) : swm b t = ⟨(swp t (bkOf b.L (1 - t.side)) t.qty).1, (swp t (bkOf b.L (1 - t.side)) t.qty).2.1, (swp t (bkOf b.L (1 - t.side)) t.qty).2.2⟩ := by
  unfold swm
  rw [if_neg (by omega)]
theorem okq (hb : b.Ok) (s : Int) : OkQ (bkOf b.L s) := fun o ho => by
  have := hb.ok o (bkOf_mem.1 ho).1
  exact ⟨this.q1, this.q2⟩
theorem swm_sum (hb : b.Ok) (ht : t.side = 0 ∨ t.side = 1) (hq : 1 ≤ t.qty) : trd (swm b t).fills + (swm b t).left = t.qty ∧ 0 ≤ (swm b t).left ∧ ((swm b t).stop = 0 ↔ (swm b t).left = 0) ∧ (∀ n, 0 ≤ trd ((swm b t).fills.take n) ∧ trd ((swm b t).fills.take n) ≤ t.qty) ∧ (swm b t).fills.length ≤ b.L.length ∧ (swa b (swm b t).fills).1 = 0 := by
  rw [swm_eq ht hq]
  obtain ⟨h1, h2, h3⟩ := swp_sum (t := t) (okq hb (1 - t.side)) (by omega : 0 ≤ t.qty)
  refine ⟨h1, h2, h3, trd_pos (okq hb _) (by omega), ?_, swa_swp hb t rfl (by omega)⟩
  refine Nat.le_trans swp_len ?_
  rw [(bkOf_perm b.L _).length_eq]
  exact List.length_filter_le _ _
theorem swm_at (hb : b.Ok) (ht : t.side = 0 ∨ t.side = 1) (hq : 1 ≤ t.qty) {i : Nat} {x : Fll} (hx : (swm b t).fills[i]? = some x) : ∃ o, Kept b t (swm b t).fills i x o := by
  rw [swm_eq ht hq] at hx ⊢
  simp only at hx ⊢
  have hO := okq hb (1 - t.side)
  have hS := bkOf_srt hb.u (1 - t.side)
  obtain ⟨o, h1, h2, h3, h4, h5, h6, h7, h8, h9, h10, h11⟩ := swp_at hO (by omega : 0 ≤ t.qty) i x hx
  have hm := bkOf_mem.1 (List.mem_of_getElem? h1)
  obtain ⟨j, hj⟩ := List.mem_iff_getElem?.1 hm.1
  have hf := hb.u.at' hj
  have hg : b.get x.id = some o := by unfold Bk.get; rw [h2, hf]; simp [hj]
  have hk := hb.ok o hm.1
  have hfx : x.Fit := ⟨by rw [h2]; exact hk.fit.id, by rw [h3]; exact hk.fit.price, by have := hk.q2; unfold In64; omega, trivial⟩
  refine ⟨o, hg, hfx, hm.2, h3.symm, h4, h5, h6, h7, h8, h9, ?_, h10, h11⟩
  intro y h0 hy
  obtain ⟨p, g1, -, g3, -⟩ := swp_at hO (by omega : 0 ≤ t.qty) (i - 1) y hy
  obtain ⟨li, gi⟩ := List.getElem?_eq_some_iff.1 h1
  obtain ⟨lj, gj⟩ := List.getElem?_eq_some_iff.1 g1
  have hA := List.pairwise_iff_getElem.1 hS (i - 1) i lj li (by omega)
  rw [gi, gj] at hA
  rw [h3, g3]
  rcases hA with e | ⟨e, -⟩
  · rcases ht with s | s <;> simp only [s, Int.sub_zero, Int.sub_self, bett_buy, bett_sell, decide_eq_true_eq, decide_eq_false_iff_not] at e ⊢ <;> omega
  · exact e
end
end Go.Proofs.YtdpibjnlpdgdeaaDoor
