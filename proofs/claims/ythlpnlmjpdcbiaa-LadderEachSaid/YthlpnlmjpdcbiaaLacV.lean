/-
  damper/damperlaw11.Act: a struct as Go's values: its cells, an argument, slices of it. (Written by gen/struct2.py.)
-/
import Derived.Test.YthlpnlmjpdcbiaaIn64
import Derived.Test.YthlpnlmjpdcbiaaApp
import Derived.Lib.Hide
import Derived.ProofKit
import Derived.OpenShut
import Derived.Deep.Slices
namespace Go.Proofs.Ythlpnlmjpdcbiaa
open Go.RowKit
structure Lac where
  kind : Int
  price : Int
  qty : Int
  gone : Bool
def Lac.zero : Lac := ⟨0, 0, 0, false⟩
structure Lac.Fit (m : Lac) : Prop where
  kind : In64 m.kind
  price : In64 m.price
  qty : In64 m.qty
  gone : True
abbrev cLac (m : Lac) : Array Value := #[.int .i64 m.kind, .int .i64 m.price, .int .i64 m.qty, .bool m.gone]
abbrev vLac (m : Lac) : Value := .agg (cLac m)
theorem cells_Lac : Try.prog.cellsOf 34 = 4 := by kernel_rfl
theorem cells_Lac_0 : Try.prog.cellsOf 4 = 1 := by kernel_rfl
theorem cells_Lac_1 : Try.prog.cellsOf 3 = 1 := by kernel_rfl
theorem cells_Lac_2 : Try.prog.cellsOf 2 = 1 := by kernel_rfl
section
open Go.ChangeShapes Go.WideShapes Go.ChangeAt Go.Deep
variable {H : Type} {enc' : TypeId × Value → H} {w : World} {base : Nat} {spare : Nat → Bool} {held : Bool}
set_option maxRecDepth 8000 in
/-- One that came in. -/
theorem open_Lac {fuel : Nat} {cs : List Value} {x : DataW H × List MemPlace} (h : DataW.trod enc' Try.prog w base spare held fuel 34 cs = some x) : ∃ m : Lac, m.Fit ∧ cs = (cLac m).toList := by
  obtain ⟨xs, n, _, _, hl, hlen, hf⟩ := DataW.trod_struct Try.underlying34 h
  rw [cells_Lac] at hl
  match cs, hl, xs, hlen with
  | [v0, v1, v2, v3], _, [y0, y1, y2, y3], _ =>
    have f0 : DataW.trod enc' Try.prog w base spare held n 3 [v0] = some y0 := by
      have h0 : DataW.trod enc' Try.prog w base spare held n 3 (([v0, v1, v2, v3].drop 0).take (Try.prog.cellsOf 3)) = some y0 := hf 0 _ rfl
      rw [cells_Lac_1] at h0
      exact h0
    have f1 : DataW.trod enc' Try.prog w base spare held n 2 [v1] = some y1 := by
      have h0 : DataW.trod enc' Try.prog w base spare held n 2 (([v0, v1, v2, v3].drop 1).take (Try.prog.cellsOf 2)) = some y1 := hf 1 _ rfl
      rw [cells_Lac_2] at h0
      exact h0
    have f2 : DataW.trod enc' Try.prog w base spare held n 2 [v2] = some y2 := by
      have h0 : DataW.trod enc' Try.prog w base spare held n 2 (([v0, v1, v2, v3].drop 2).take (Try.prog.cellsOf 2)) = some y2 := hf 2 _ rfl
      rw [cells_Lac_2] at h0
      exact h0
    have f3 : DataW.trod enc' Try.prog w base spare held n 4 [v3] = some y3 := by
      have h0 : DataW.trod enc' Try.prog w base spare held n 4 (([v0, v1, v2, v3].drop 3).take (Try.prog.cellsOf 4)) = some y3 := hf 3 _ rfl
      rw [cells_Lac_0] at h0
      exact h0
    obtain ⟨a0, e0, _, w0⟩ := DataW.trod_int Try.underlying3 f0
    obtain ⟨a1, e1, _, w1⟩ := DataW.trod_int Try.underlying2 f1
    obtain ⟨a2, e2, _, w2⟩ := DataW.trod_int Try.underlying2 f2
    obtain ⟨a3, e3, _⟩ := DataW.trod_bool Try.underlying4 f3
    simp only [List.cons.injEq, and_true] at e0 e1 e2 e3
    subst e0
    subst e1
    subst e2
    subst e3
    exact ⟨⟨a0, a1, a2, a3⟩, ⟨in64_of_wf w0, in64_of_wf w1, in64_of_wf w2, trivial⟩, rfl⟩
end
/-- A slice of them, to be read. -/
structure Lacs (w : World) (ao : Option Addr) (cap : Nat) (l : List Lac) : Prop where
  len : l.length ≤ cap
  top : cap ≤ maxLen
  at' : l = [] ∨ ∃ b off, ao = some ⟨b, off, none⟩ ∧ ∀ (i : Nat) (m : Lac), l[i]? = some m → ∀ (j : Nat) (v : Value), (cLac m)[j]? = some v → w.cell? ⟨b, off + i * 4 + j, none⟩ = some v
theorem Lacs.nil (w : World) : Lacs w none 0 [] := ⟨Nat.le_refl _, Nat.zero_le _, .inl rfl⟩
theorem Lacs.below {w w' : World} {ao : Option Addr} {cap : Nat} {l : List Lac} (h : Lacs w ao cap l) (hb : Below w.heap.size w w') : Lacs w' ao cap l := by
  refine ⟨h.len, h.top, ?_⟩
  rcases h.at' with h0 | ⟨b, off, ha, hl⟩
  · exact .inl h0
  · refine .inr ⟨b, off, ha, fun i m hi j v hj => ?_⟩
    have hc := hl i m hi j v hj
    have hlt : b < w.heap.size := World.block_lt_of_cell? w ⟨b, off + i * 4 + j, none⟩ hc
    exact (World.cell?_of_block (a := ⟨b, off + i * 4 + j, none⟩) (hb.block b hlt)).trans hc
/-- One of them. -/
theorem Lacs.get {w : World} {ao : Option Addr} {cap : Nat} {l : List Lac} (h : Lacs w ao cap l) {i : Nat} {m : Lac} (hi : l[i]? = some m) :
    ∃ b off, ao = some ⟨b, off, none⟩ ∧ w.cell? ⟨b, off + i * 4 + 0, none⟩ = some (.int .i64 m.kind) ∧ w.cell? ⟨b, off + i * 4 + 1, none⟩ = some (.int .i64 m.price) ∧ w.cell? ⟨b, off + i * 4 + 2, none⟩ = some (.int .i64 m.qty) ∧ w.cell? ⟨b, off + i * 4 + 3, none⟩ = some (.bool m.gone) := by
  rcases h.at' with h0 | ⟨b, off, ha, hl⟩
  · subst h0; simp at hi
  · exact ⟨b, off, ha, hl i m hi 0 _ rfl, hl i m hi 1 _ rfl, hl i m hi 2 _ rfl, hl i m hi 3 _ rfl⟩
section
open Go.ChangeShapes Go.WideShapes Go.ChangeAt Go.Deep
variable {H : Type} {enc' : TypeId × Value → H} {w : World} {base : Nat} {spare : Nat → Bool} {held : Bool}
/-- A slice of them that came in. -/
theorem open_Lacs {T : TypeId} (hT : Try.prog.underlying T = some (.slice 34)) {fuel : Nat} {cs : List Value} {x : DataW H × List MemPlace} (h : DataW.trod enc' Try.prog w base spare held fuel T cs = some x) :
    ∃ (ao : Option Addr) (cap : Nat) (l : List Lac), cs = [.slice ao l.length cap] ∧ Lacs w ao cap l ∧ ∀ m ∈ l, m.Fit := by
  rcases open_slice hT h with ⟨rfl, _⟩ | ⟨a, len, cap, m, n, D, Pl', rfl, _, hl, hm, hmm, _, hx⟩
  · exact ⟨none, 0, [], rfl, Lacs.nil w, by simp⟩
  · have hlm : len ≤ m := by rw [hmm]; split <;> omega
    have each : ∀ i, i < len → ∃ p : Lac, p.Fit ∧ w.cells? base (a.add (i * 4)) 4 = some (cLac p).toList := by
      intro i hi
      obtain ⟨cs', h1, h2⟩ := hx i (by omega)
      rw [cells_Lac] at h1
      obtain ⟨p, hp, rfl⟩ := open_Lac h2
      exact ⟨p, hp, h1⟩
    by_cases h0 : len = 0
    · subst h0
      exact ⟨some a, cap, [], rfl, ⟨Nat.zero_le _, hm, .inl rfl⟩, by simp⟩
    · have : Inhabited Lac := ⟨Lac.zero⟩
      obtain ⟨f, hfam⟩ := choose_lt each
      obtain ⟨b, off, rfl⟩ : ∃ b off, a = ⟨b, off, none⟩ := by
        obtain ⟨_, hc⟩ := hfam 0 (by omega)
        obtain ⟨_, _, hcell⟩ := World.cells?_some hc
        have h1 := hcell 0 (by omega)
        obtain ⟨b, off, spot⟩ := a
        have hspot : spot = none := by simpa [Addr.add] using World.cell?_spot h1
        subst hspot
        exact ⟨b, off, rfl⟩
      have hget : ∀ i m, ((List.range len).map f)[i]? = some m → i < len ∧ f i = m := by
        intro i m hp
        rw [List.getElem?_map, Option.map_eq_some_iff] at hp
        obtain ⟨i', hi', rfl⟩ := hp
        obtain ⟨h1, h2⟩ := List.getElem?_eq_some_iff.1 hi'
        rw [List.length_range] at h1
        rw [List.getElem_range] at h2
        subst h2
        exact ⟨h1, rfl⟩
      refine ⟨some ⟨b, off, none⟩, cap, (List.range len).map f, by simp, ⟨by simpa using hl, hm, .inr ⟨b, off, rfl, fun i p hp j v hj => ?_⟩⟩, ?_⟩
      · obtain ⟨h1, rfl⟩ := hget i p hp
        obtain ⟨_, hc⟩ := hfam i h1
        obtain ⟨_, _, hcell⟩ := World.cells?_some hc
        rw [Addr.add_mid] at hcell
        have hj2 : j < 4 := by
          have := (Array.getElem?_eq_some_iff.1 hj).1
          simpa using this
        have h2 := hcell j hj2
        rw [Addr.add_mid] at h2
        rw [h2]
        simpa using hj
      · intro m hm
        obtain ⟨i, hi⟩ := List.mem_iff_getElem?.1 hm
        obtain ⟨h1, rfl⟩ := hget i m hi
        exact (hfam i h1).1
end
end Go.Proofs.Ythlpnlmjpdcbiaa
