/-
  damper/damperlaw13.Act: a struct as Go's values: its cells, an argument, slices of it. (Written by gen/struct2.py.)
-/
import Derived.Test.YthbopaeaplejiaaDoorGB
import Derived.Lib.Hide
import Derived.ProofKit
import Derived.OpenShut
import Derived.Deep.Slices
namespace Go.Proofs.YthbopaeaplejiaaDoor
open Go.RowKit
structure Bac where
  kind : Int
  o : Ord
  amt : Int
def Bac.zero : Bac := ⟨0, Ord.zero, 0⟩
structure Bac.Fit (m : Bac) : Prop where
  kind : In64 m.kind
  o : m.o.Fit
  amt : In64 m.amt
abbrev cBac (m : Bac) : Array Value := #[.int .i64 m.kind, .int .i64 m.o.id, .int .i64 m.o.owner, .int .i64 m.o.side, .int .i64 m.o.price, .int .i64 m.o.qty, .int .i64 m.o.flags, .int .i64 m.o.seq, .int .i64 m.amt]
abbrev vBac (m : Bac) : Value := .agg (cBac m)
theorem cells_Bac : Tryd.prog.cellsOf 36 = 9 := by kernel_rfl
theorem cells_Bac_0 : Tryd.prog.cellsOf 34 = 7 := by kernel_rfl
theorem cells_Bac_1 : Tryd.prog.cellsOf 3 = 1 := by kernel_rfl
theorem cells_Bac_2 : Tryd.prog.cellsOf 2 = 1 := by kernel_rfl
section
open Go.ChangeShapes Go.WideShapes Go.ChangeAt Go.Deep
variable {H : Type} {enc' : TypeId × Value → H} {w : World} {base : Nat} {spare : Nat → Bool} {held : Bool}
set_option maxRecDepth 8000 in
/-- One that came in. -/
theorem open_Bac {fuel : Nat} {cs : List Value} {x : DataW H × List MemPlace} (h : DataW.trod enc' Tryd.prog w base spare held fuel 36 cs = some x) : ∃ m : Bac, m.Fit ∧ cs = (cBac m).toList := by
  obtain ⟨xs, n, _, _, hl, hlen, hf⟩ := DataW.trod_struct Tryd.underlying36 h
  rw [cells_Bac] at hl
  match cs, hl, xs, hlen with
  | [v0, v1, v2, v3, v4, v5, v6, v7, v8], _, [y0, y1, y2], _ =>
    have f0 : DataW.trod enc' Tryd.prog w base spare held n 3 [v0] = some y0 := by
      have h0 : DataW.trod enc' Tryd.prog w base spare held n 3 (([v0, v1, v2, v3, v4, v5, v6, v7, v8].drop 0).take (Tryd.prog.cellsOf 3)) = some y0 := hf 0 _ rfl
      rw [cells_Bac_1] at h0
      exact h0
    have f1 : DataW.trod enc' Tryd.prog w base spare held n 34 [v1, v2, v3, v4, v5, v6, v7] = some y1 := by
      have h0 : DataW.trod enc' Tryd.prog w base spare held n 34 (([v0, v1, v2, v3, v4, v5, v6, v7, v8].drop 1).take (Tryd.prog.cellsOf 34)) = some y1 := hf 1 _ rfl
      rw [cells_Bac_0] at h0
      exact h0
    have f2 : DataW.trod enc' Tryd.prog w base spare held n 2 [v8] = some y2 := by
      have h0 : DataW.trod enc' Tryd.prog w base spare held n 2 (([v0, v1, v2, v3, v4, v5, v6, v7, v8].drop 8).take (Tryd.prog.cellsOf 2)) = some y2 := hf 2 _ rfl
      rw [cells_Bac_2] at h0
      exact h0
    obtain ⟨a0, e0, _, w0⟩ := DataW.trod_int Tryd.underlying3 f0
    obtain ⟨a1, w1, e1⟩ := open_Ord f1
    obtain ⟨a2, e2, _, w2⟩ := DataW.trod_int Tryd.underlying2 f2
    simp only [List.cons.injEq, and_true] at e0 e1 e2
    subst e0
    obtain ⟨rfl, rfl, rfl, rfl, rfl, rfl, rfl⟩ := e1
    subst e2
    exact ⟨⟨a0, a1, a2⟩, ⟨in64_of_wf w0, w1, in64_of_wf w2⟩, rfl⟩
end
/-- A slice of them, to be read. -/
structure Bacs (w : World) (ao : Option Addr) (cap : Nat) (l : List Bac) : Prop where
  len : l.length ≤ cap
  top : cap ≤ maxLen
  at' : l = [] ∨ ∃ b off, ao = some ⟨b, off, none⟩ ∧ ∀ (i : Nat) (m : Bac), l[i]? = some m → ∀ (j : Nat) (v : Value), (cBac m)[j]? = some v → w.cell? ⟨b, off + i * 9 + j, none⟩ = some v
theorem Bacs.nil (w : World) : Bacs w none 0 [] := ⟨Nat.le_refl _, Nat.zero_le _, .inl rfl⟩
theorem Bacs.below {w w' : World} {ao : Option Addr} {cap : Nat} {l : List Bac} (h : Bacs w ao cap l) (hb : Below w.heap.size w w') : Bacs w' ao cap l := by
  refine ⟨h.len, h.top, ?_⟩
  rcases h.at' with h0 | ⟨b, off, ha, hl⟩
  · exact .inl h0
  · refine .inr ⟨b, off, ha, fun i m hi j v hj => ?_⟩
    have hc := hl i m hi j v hj
    have hlt : b < w.heap.size := World.block_lt_of_cell? w ⟨b, off + i * 9 + j, none⟩ hc
    exact (World.cell?_of_block (a := ⟨b, off + i * 9 + j, none⟩) (hb.block b hlt)).trans hc
/-- One of them. -/
theorem Bacs.get {w : World} {ao : Option Addr} {cap : Nat} {l : List Bac} (h : Bacs w ao cap l) {i : Nat} {m : Bac} (hi : l[i]? = some m) :
    ∃ b off, ao = some ⟨b, off, none⟩ ∧ w.cell? ⟨b, off + i * 9 + 0, none⟩ = some (.int .i64 m.kind) ∧ w.cell? ⟨b, off + i * 9 + 1, none⟩ = some (.int .i64 m.o.id) ∧ w.cell? ⟨b, off + i * 9 + 2, none⟩ = some (.int .i64 m.o.owner) ∧ w.cell? ⟨b, off + i * 9 + 3, none⟩ = some (.int .i64 m.o.side) ∧ w.cell? ⟨b, off + i * 9 + 4, none⟩ = some (.int .i64 m.o.price) ∧ w.cell? ⟨b, off + i * 9 + 5, none⟩ = some (.int .i64 m.o.qty) ∧ w.cell? ⟨b, off + i * 9 + 6, none⟩ = some (.int .i64 m.o.flags) ∧ w.cell? ⟨b, off + i * 9 + 7, none⟩ = some (.int .i64 m.o.seq) ∧ w.cell? ⟨b, off + i * 9 + 8, none⟩ = some (.int .i64 m.amt) := by
  rcases h.at' with h0 | ⟨b, off, ha, hl⟩
  · subst h0; simp at hi
  · exact ⟨b, off, ha, hl i m hi 0 _ rfl, hl i m hi 1 _ rfl, hl i m hi 2 _ rfl, hl i m hi 3 _ rfl, hl i m hi 4 _ rfl, hl i m hi 5 _ rfl, hl i m hi 6 _ rfl, hl i m hi 7 _ rfl, hl i m hi 8 _ rfl⟩
section
open Go.ChangeShapes Go.WideShapes Go.ChangeAt Go.Deep
variable {H : Type} {enc' : TypeId × Value → H} {w : World} {base : Nat} {spare : Nat → Bool} {held : Bool}
/-- A slice of them that came in. -/
theorem open_Bacs {T : TypeId} (hT : Tryd.prog.underlying T = some (.slice 36)) {fuel : Nat} {cs : List Value} {x : DataW H × List MemPlace} (h : DataW.trod enc' Tryd.prog w base spare held fuel T cs = some x) :
    ∃ (ao : Option Addr) (cap : Nat) (l : List Bac), cs = [.slice ao l.length cap] ∧ Bacs w ao cap l ∧ ∀ m ∈ l, m.Fit := by
  rcases open_slice hT h with ⟨rfl, _⟩ | ⟨a, len, cap, m, n, D, Pl', rfl, _, hl, hm, hmm, _, hx⟩
  · exact ⟨none, 0, [], rfl, Bacs.nil w, by simp⟩
  · have hlm : len ≤ m := by rw [hmm]; split <;> omega
    have each : ∀ i, i < len → ∃ p : Bac, p.Fit ∧ w.cells? base (a.add (i * 9)) 9 = some (cBac p).toList := by
      intro i hi
      obtain ⟨cs', h1, h2⟩ := hx i (by omega)
      rw [cells_Bac] at h1
      obtain ⟨p, hp, rfl⟩ := open_Bac h2
      exact ⟨p, hp, h1⟩
    by_cases h0 : len = 0
    · subst h0
      exact ⟨some a, cap, [], rfl, ⟨Nat.zero_le _, hm, .inl rfl⟩, by simp⟩
    · have : Inhabited Bac := ⟨Bac.zero⟩
      obtain ⟨f, hfam⟩ := choose_lt each
      obtain ⟨b, off, rfl⟩ : ∃ b off, a = ⟨b, off, none⟩ := by
        obtain ⟨_, hc⟩ := hfam 0 (by omega)
        obtain ⟨_, _, hcell⟩ := World.cells?_some hc
        have h1 := hcell 0 (by omega)
        obtain ⟨b, off, spot⟩ := a
        have hspot : spot = none := by simpa [Addr.add] using World.cell?_spot h1
        subst hspot
        exact ⟨b, off, rfl⟩
      have hget : ∀ i m, ((List.range len).map f)[i]? = some m → i < len ∧ f i = m := by
        intro i m hp
        rw [List.getElem?_map, Option.map_eq_some_iff] at hp
        obtain ⟨i', hi', rfl⟩ := hp
        obtain ⟨h1, h2⟩ := List.getElem?_eq_some_iff.1 hi'
        rw [List.length_range] at h1
        rw [List.getElem_range] at h2
        subst h2
        exact ⟨h1, rfl⟩
      refine ⟨some ⟨b, off, none⟩, cap, (List.range len).map f, by simp, ⟨by simpa using hl, hm, .inr ⟨b, off, rfl, fun i p hp j v hj => ?_⟩⟩, ?_⟩
      · obtain ⟨h1, rfl⟩ := hget i p hp
        obtain ⟨_, hc⟩ := hfam i h1
        obtain ⟨_, _, hcell⟩ := World.cells?_some hc
        rw [Addr.add_mid] at hcell
        have hj2 : j < 9 := by
          have := (Array.getElem?_eq_some_iff.1 hj).1
          simpa using this
        have h2 := hcell j hj2
        rw [Addr.add_mid] at h2
        rw [h2]
        simpa using hj
      · intro m hm
        obtain ⟨i, hi⟩ := List.mem_iff_getElem?.1 hm
        obtain ⟨h1, rfl⟩ := hget i m hi
        exact (hfam i h1).1
end
end Go.Proofs.YthbopaeaplejiaaDoor
