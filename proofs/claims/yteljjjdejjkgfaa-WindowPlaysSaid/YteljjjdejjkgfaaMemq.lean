/-
  Blocks of memory that are known whole, and what keeps them so. No Go text is looked at here.
-/
import Derived.Below
import Derived.Laws.OwnMore
import Derived.Laws.Rows
import Derived.Laws.Tables
import Derived.Deep.WholeRow
namespace Go.Proofs.Yteljjjdejjkgfaa
open Go.RowKit
/-- Block g holds just these cells, of element type t; none is frozen. -/
def Blk (w : World) (g : Nat) (t : TypeId) (cs : Array Value) : Prop := w.heap[g]? = some (.cells cs t (0, 0))
theorem bcell {W w1 : World} {B : Nat} (hb : Below B W w1) : (∀ b o, b < B → w1.cell? ⟨b, o, none⟩ = W.cell? ⟨b, o, none⟩) ∧ (∀ b o, b < B → w1.frozen? ⟨b, o, none⟩ = W.frozen? ⟨b, o, none⟩) :=
  ⟨fun b o h => hb.cell (p := ⟨b, o, none⟩) h, fun b o h => hb.frozen (p := ⟨b, o, none⟩) h⟩
section
variable {w w' : World} {g : Nat} {t : TypeId} {cs : Array Value}
theorem Blk.lt (h : Blk w g t cs) : g < w.heap.size := by
  rcases Nat.lt_or_ge g w.heap.size with hlt | hge
  · exact hlt
  · unfold Blk at h; rw [Array.getElem?_eq_none hge] at h; cases h
theorem Blk.cell (h : Blk w g t cs) (i : Nat) : w.cell? ⟨g, i, none⟩ = cs[i]? := by unfold Blk at h; simp [World.cell?, h]
theorem Blk.cell_eq (h : Blk w g t cs) (i : Nat) (v : Value) (hv : cs[i]? = some v) : w.cell? ⟨g, i, none⟩ = some v := (h.cell i).trans hv
theorem Blk.free (h : Blk w g t cs) (i : Nat) : w.frozen? ⟨g, i, none⟩ = false := by unfold Blk at h; simp [World.frozen?, h]
theorem Blk.below {B : Nat} (h : Blk w g t cs) (hb : Below B w w') (hg : g < B) : Blk w' g t cs := (hb.block g hg).trans h
theorem Blk.new (w : World) (t : TypeId) (cs : Array Value) : Blk (w.alloc (.cells cs t)) w.heap.size t cs := heap_alloc_last w _
theorem Blk.new' {n : Nat} (hn : n = w.heap.size) : Blk (w.alloc (.cells cs t)) n t cs := by subst hn; exact Blk.new w t cs
theorem Blk.alloc (h : Blk w g t cs) (o : Obj) : Blk (w.alloc o) g t cs := (Below.heap_alloc w o g h.lt).trans h
theorem Blk.drew (h : Blk w g t cs) : Blk w.drew g t cs := h
theorem Blk.other (h : Blk w g t cs) {a : Addr} (ha : a.block ≠ g) (v : Value) : Blk (w.setCell a v) g t cs := (Below.heap_setCell w a v g (fun e => ha e.symm)).trans h
theorem Blk.set (h : Blk w g t cs) (i : Nat) (v : Value) : Blk (w.setCell ⟨g, i, none⟩ v) g t (cs.setIfInBounds i v) := by
  have hlt := h.lt
  unfold Blk at *
  simp only [World.setCell, Array.getElem?_modify, if_pos, h, Option.map_some, Option.isSome_none, Bool.false_eq_true, if_false]
theorem Blk.setRow (h : Blk w g t cs) (c' : Array Value) : Blk (w.setRow g c') g t c' := by
  unfold Blk at *
  simp only [World.setRow, Array.getElem?_modify, if_pos, h, Option.map_some]
theorem Blk.setRow_other (h : Blk w g t cs) {b : Nat} (hb : b ≠ g) (c' : Array Value) : Blk (w.setRow b c') g t cs := by
  unfold Blk at *
  simp only [World.setRow, Array.getElem?_modify, if_neg hb, h]
end
theorem Blk.set2 {w : World} {g : Nat} {t : TypeId} {x y : Value} (h : Blk w g t #[x, y]) (u v : Value) : Blk ((w.setCell ⟨g, 0, none⟩ u).setCell ⟨g, 1, none⟩ v) g t #[u, v] := (h.set 0 u).set 1 v
/-- Some blocks, each known whole, and all that was there at the beginning. -/
structure Mem (w0 : World) (l : List (Nat × TypeId × Array Value)) (w : World) : Prop where
  blks : ∀ p ∈ l, Blk w p.1 p.2.1 p.2.2
  below : Below w0.heap.size w0 w
section
variable {w0 w w' : World} {l : List (Nat × TypeId × Array Value)}
theorem Mem.start (w : World) : Mem w [] w := ⟨fun _ h => (by cases h), Below.refl _ _⟩
theorem Mem.blk (h : Mem w0 l w) (g : Nat) (t : TypeId) (cs : Array Value) (hp : (g, t, cs) ∈ l) : Blk w g t cs := h.blks _ hp
theorem Mem.keep (h : Mem w0 l w) (hb : Below w.heap.size w w') : Mem w0 l w' := ⟨fun p hp => (h.blks p hp).below hb (h.blks p hp).lt, h.below.trans (hb.mono h.below.size)⟩
theorem Mem.drew (h : Mem w0 l w) : Mem w0 l w.drew := ⟨fun p hp => (h.blks p hp).drew, h.below.drew⟩
theorem Mem.new (h : Mem w0 l w) (t : TypeId) (cs : Array Value) : Mem w0 ((w.heap.size, t, cs) :: l) (w.alloc (.cells cs t)) :=
  ⟨fun p hp => by
    rcases List.mem_cons.1 hp with rfl | hp
    · exact Blk.new _ _ _
    · exact (h.blks p hp).alloc _, h.below.alloc h.below.size _⟩
theorem Mem.row (h : Mem w0 l w) (t : TypeId) (Z cs : Array Value) : Mem w0 ((w.heap.size, t, cs) :: l) ((w.alloc (.cells Z t)).setRow w.heap.size cs) :=
  ⟨fun p hp => by
    rcases List.mem_cons.1 hp with rfl | hp
    · exact (Blk.new' rfl).setRow _
    · exact ((h.blks p hp).alloc _).setRow_other (fun e => by have := (h.blks p hp).lt; omega) _, ⟨h.below.os, h.below.tape, h.below.output, Nat.le_trans h.below.size (by simp [World.setRow]), fun k hk => by
      have hlt : k < w.heap.size := Nat.lt_of_lt_of_le hk h.below.size
      have e : ((w.alloc (.cells Z t)).setRow w.heap.size cs).heap[k]? = (w.alloc (.cells Z t)).heap[k]? := by
        simp only [World.setRow, Array.getElem?_modify]; rw [if_neg (by omega)]
      rw [e, Below.heap_alloc _ _ _ hlt]; exact h.below.block k hk⟩⟩
end
theorem below_setRow {B b : Nat} {a w : World} (h : Below B a w) (hb : B ≤ b) (c : Array Value) : Below B a (w.setRow b c) :=
  h.trans ⟨rfl, rfl, rfl, by simp [World.setRow], fun k hk => by simp only [World.setRow, Array.getElem?_modify]; rw [if_neg (by omega)]⟩
theorem Mem.new' {w0 w : World} {l : List (Nat × TypeId × Array Value)} {n : Nat} (h : Mem w0 l w) (t : TypeId) (cs : Array Value) (hn : n = w.heap.size) : Mem w0 ((n, t, cs) :: l) (w.alloc (.cells cs t)) := by subst hn; exact h.new t cs
theorem two_rows {w0 w : World} {l : List (Nat × TypeId × Array Value)} (h : Mem w0 l w) (t : TypeId) (Z cx cy : Array Value) :
    Mem w0 ((w.heap.size + 1, t, cy) :: (w.heap.size, t, cx) :: l) ((((w.alloc (.cells Z t)).alloc (.cells Z t)).setRow w.heap.size cx).setRow (w.heap.size + 1) cy) :=
  ⟨fun p hp => by
    rcases List.mem_cons.1 hp with rfl | hp
    · exact ((Blk.new' (by simp)).setRow_other (by omega) _).setRow _
    · rcases List.mem_cons.1 hp with rfl | hp
      · exact (((Blk.new' rfl).alloc _).setRow _).setRow_other (by show w.heap.size + 1 ≠ w.heap.size; omega) _
      · have hlt := (h.blks p hp).lt
        exact ((((h.blks p hp).alloc _).alloc _).setRow_other (by omega) _).setRow_other (by omega) _,
    below_setRow (below_setRow ((h.below.alloc h.below.size _).alloc (by have := h.below.size; simp; omega) _) h.below.size _) (by have := h.below.size; omega) _⟩
end Go.Proofs.Yteljjjdejjkgfaa
