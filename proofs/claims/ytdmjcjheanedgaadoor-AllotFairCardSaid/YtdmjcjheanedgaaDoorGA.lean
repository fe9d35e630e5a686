/-
  Plain arithmetic of numbers of two words of 64 bits: shifts, lengths, division bit by bit. No Go text is looked at here.
  A row's last step where of the world behind the call is known that nothing that was there before has changed.
  A number that an int64 holds. (Of XFixA, which a cut without package fix cannot fill.)
  Blocks of memory that are known whole, and what keeps them so. No Go text is looked at here.
  Slices of bytes: as a reader sees them (Bt), as their one owner does (Ow); what turns nothing but given blocks (Frm); append to what is owned.
-/
import Derived.Laws.Bits64b
import Derived.Lib.ItoaNum
import Derived.Below
import Derived.ChangeSame
import Derived.WalkKit
import Derived.Laws.OwnMore
import Derived.Laws.Rows
import Derived.Laws.Tables
import Derived.Deep.WholeRow
import Derived.Test.YtdmjcjheanedgaaDoorProg
import Derived.Laws.AppendOwn
import Derived.Laws.AppendOwnNone
import Derived.Laws.BytesString
import Derived.Deep.RegionLaw
import Derived.Deep.MidRow
namespace Go.Proofs.YtdmjcjheanedgaaDoor

def hi (r : Int) : Int := r / 18446744073709551616
def lo (r : Int) : Int := r % 18446744073709551616
def Word (x : Int) : Prop := 0 ≤ x ∧ x < 18446744073709551616
def Two (r : Int) : Prop := 0 ≤ r ∧ r < 340282366920938463463374607431768211456
def shl (r n : Int) : Int := if n < 0 then r else r * 2 ^ n.toNat % 340282366920938463463374607431768211456
def shr (r n : Int) : Int := if n < 0 then r else r / 2 ^ n.toNat
/-- How many bits a number has. -/
def len2 (r : Int) : Int := if hi r = 0 then (Lib.bitLen (lo r).toNat : Int) else 64 + (Lib.bitLen (hi r).toNat : Int)
/-! Division bit by bit: what one round does. -/
end Go.Proofs.YtdmjcjheanedgaaDoor
namespace Go.Proofs.YtdmjcjheanedgaaDoor
open Go.RowKit Go.WideShapes Go.ChangeShapes
section
variable {H : Type} {enc : TypeId × Value → H} {P : Program}
end
end Go.Proofs.YtdmjcjheanedgaaDoor
namespace Go.Proofs.YtdmjcjheanedgaaDoor
open Go.RowKit
def In64 (x : Int) : Prop := -9223372036854775808 ≤ x ∧ x < 9223372036854775808
theorem in64_of_wf {x : Int} (h : (Lit.int .i64 x).wf = true) : In64 x := by
  simp [Lit.wf, IntKind.min, IntKind.max, IntKind.signed, IntKind.bits] at h
  exact ⟨by omega, by omega⟩
end Go.Proofs.YtdmjcjheanedgaaDoor
namespace Go.Proofs.YtdmjcjheanedgaaDoor
open Go.RowKit
/-- Block g holds just these cells, of element type t; none is frozen. -/
def Blk (w : World) (g : Nat) (t : TypeId) (cs : Array Value) : Prop := w.heap[g]? = some (.cells cs t (0, 0))
theorem bcell {W w1 : World} {B : Nat} (hb : Below B W w1) : (∀ b o, b < B → w1.cell? ⟨b, o, none⟩ = W.cell? ⟨b, o, none⟩) ∧ (∀ b o, b < B → w1.frozen? ⟨b, o, none⟩ = W.frozen? ⟨b, o, none⟩) :=
  ⟨fun b o h => hb.cell (p := ⟨b, o, none⟩) h, fun b o h => hb.frozen (p := ⟨b, o, none⟩) h⟩
section
variable {w w' : World} {g : Nat} {t : TypeId} {cs : Array Value}
theorem Blk.lt (h : Blk w g t cs) : g < w.heap.size := by
  rcases Nat.lt_or_ge g w.heap.size with hlt | hge
  · exact hlt
  · unfold Blk at h; rw [Array.getElem?_eq_none hge] at h; cases h
theorem Blk.cell (h : Blk w g t cs) (i : Nat) : w.cell? ⟨g, i, none⟩ = cs[i]? := by unfold Blk at h; simp [World.cell?, h]
theorem Blk.cell_eq (h : Blk w g t cs) (i : Nat) (v : Value) (hv : cs[i]? = some v) : w.cell? ⟨g, i, none⟩ = some v := (h.cell i).trans hv
theorem Blk.free (h : Blk w g t cs) (i : Nat) : w.frozen? ⟨g, i, none⟩ = false := by unfold Blk at h; simp [World.frozen?, h]
theorem Blk.below {B : Nat} (h : Blk w g t cs) (hb : Below B w w') (hg : g < B) : Blk w' g t cs := (hb.block g hg).trans h
theorem Blk.new (w : World) (t : TypeId) (cs : Array Value) : Blk (w.alloc (.cells cs t)) w.heap.size t cs := heap_alloc_last w _
theorem Blk.new' {n : Nat} (hn : n = w.heap.size) : Blk (w.alloc (.cells cs t)) n t cs := by subst hn; exact Blk.new w t cs
theorem Blk.alloc (h : Blk w g t cs) (o : Obj) : Blk (w.alloc o) g t cs := (Below.heap_alloc w o g h.lt).trans h
theorem Blk.drew (h : Blk w g t cs) : Blk w.drew g t cs := h
theorem Blk.other (h : Blk w g t cs) {a : Addr} (ha : a.block ≠ g) (v : Value) : Blk (w.setCell a v) g t cs := (Below.heap_setCell w a v g (fun e => ha e.symm)).trans h
theorem Blk.set (h : Blk w g t cs) (i : Nat) (v : Value) : Blk (w.setCell ⟨g, i, none⟩ v) g t (cs.setIfInBounds i v) := by
  have hlt := h.lt
  unfold Blk at *
  simp only [World.setCell, Array.getElem?_modify, if_pos, h, Option.map_some, Option.isSome_none, Bool.false_eq_true, if_false]
theorem Blk.setRow (h : Blk w g t cs) (c' : Array Value) : Blk (w.setRow g c') g t c' := by
  unfold Blk at *
  simp only [World.setRow, Array.getElem?_modify, if_pos, h, Option.map_some]
theorem Blk.setRow_other (h : Blk w g t cs) {b : Nat} (hb : b ≠ g) (c' : Array Value) : Blk (w.setRow b c') g t cs := by
  unfold Blk at *
  simp only [World.setRow, Array.getElem?_modify, if_neg hb, h]
end
theorem Blk.set2 {w : World} {g : Nat} {t : TypeId} {x y : Value} (h : Blk w g t #[x, y]) (u v : Value) : Blk ((w.setCell ⟨g, 0, none⟩ u).setCell ⟨g, 1, none⟩ v) g t #[u, v] := (h.set 0 u).set 1 v
/-- Some blocks, each known whole, and all that was there at the beginning. -/
structure Mem (w0 : World) (l : List (Nat × TypeId × Array Value)) (w : World) : Prop where
  blks : ∀ p ∈ l, Blk w p.1 p.2.1 p.2.2
  below : Below w0.heap.size w0 w
section
variable {w0 w w' : World} {l : List (Nat × TypeId × Array Value)}
theorem Mem.start (w : World) : Mem w [] w := ⟨fun _ h => (by cases h), Below.refl _ _⟩
theorem Mem.blk (h : Mem w0 l w) (g : Nat) (t : TypeId) (cs : Array Value) (hp : (g, t, cs) ∈ l) : Blk w g t cs := h.blks _ hp
theorem Mem.keep (h : Mem w0 l w) (hb : Below w.heap.size w w') : Mem w0 l w' := ⟨fun p hp => (h.blks p hp).below hb (h.blks p hp).lt, h.below.trans (hb.mono h.below.size)⟩
theorem Mem.drew (h : Mem w0 l w) : Mem w0 l w.drew := ⟨fun p hp => (h.blks p hp).drew, h.below.drew⟩
theorem Mem.new (h : Mem w0 l w) (t : TypeId) (cs : Array Value) : Mem w0 ((w.heap.size, t, cs) :: l) (w.alloc (.cells cs t)) :=
  ⟨fun p hp => by
    rcases List.mem_cons.1 hp with rfl | hp
    · exact Blk.new _ _ _
    · exact (h.blks p hp).alloc _, h.below.alloc h.below.size _⟩
theorem Mem.row (h : Mem w0 l w) (t : TypeId) (Z cs : Array Value) : Mem w0 ((w.heap.size, t, cs) :: l) ((w.alloc (.cells Z t)).setRow w.heap.size cs) :=
  ⟨fun p hp => by
    rcases List.mem_cons.1 hp with rfl | hp
    · exact (Blk.new' rfl).setRow _
    · exact ((h.blks p hp).alloc _).setRow_other (fun e => by have := (h.blks p hp).lt; omega) _, ⟨h.below.os, h.below.tape, h.below.output, Nat.le_trans h.below.size (by simp [World.setRow]), fun k hk => by
      have hlt : k < w.heap.size := Nat.lt_of_lt_of_le hk h.below.size
      have e : ((w.alloc (.cells Z t)).setRow w.heap.size cs).heap[k]? = (w.alloc (.cells Z t)).heap[k]? := by
        simp only [World.setRow, Array.getElem?_modify]; rw [if_neg (by omega)]
      rw [e, Below.heap_alloc _ _ _ hlt]; exact h.below.block k hk⟩⟩
end
theorem below_setRow {B b : Nat} {a w : World} (h : Below B a w) (hb : B ≤ b) (c : Array Value) : Below B a (w.setRow b c) :=
  h.trans ⟨rfl, rfl, rfl, by simp [World.setRow], fun k hk => by simp only [World.setRow, Array.getElem?_modify]; rw [if_neg (by omega)]⟩
theorem Mem.new' {w0 w : World} {l : List (Nat × TypeId × Array Value)} {n : Nat} (h : Mem w0 l w) (t : TypeId) (cs : Array Value) (hn : n = w.heap.size) : Mem w0 ((n, t, cs) :: l) (w.alloc (.cells cs t)) := by subst hn; exact h.new t cs
end Go.Proofs.YtdmjcjheanedgaaDoor
namespace Go.Proofs.YtdmjcjheanedgaaDoor
open Go.RowKit

/-- The cells of a list of bytes. -/
def vs (xs : List Nat) : List Value := xs.map fun (x : Nat) => Value.int .u8 (x : Int)
/-- Of all that there is, only blocks of S are turned. -/
structure Frm (S : Nat → Prop) (w w' : World) : Prop where
  os : w'.os = w.os
  tape : w'.tape = w.tape
  output : w'.output = w.output
  size : w.heap.size ≤ w'.heap.size
  block : ∀ k, k < w.heap.size → ¬ S k → w'.heap[k]? = w.heap[k]?
section
variable {S T : Nat → Prop} {w w1 w2 : World}
theorem Frm.refl (S : Nat → Prop) (w : World) : Frm S w w := ⟨rfl, rfl, rfl, Nat.le_refl _, fun _ _ _ => rfl⟩
theorem Frm.trans (h : Frm S w w1) (k : Frm T w1 w2) (hT : ∀ k, T k → S k ∨ w.heap.size ≤ k) : Frm S w w2 :=
  ⟨k.os.trans h.os, k.tape.trans h.tape, k.output.trans h.output, Nat.le_trans h.size k.size, fun i hi hs =>
    (k.block i (Nat.lt_of_lt_of_le hi h.size) (fun ht => (hT i ht).elim hs (fun hge => by omega))).trans (h.block i hi hs)⟩
theorem Frm.mono (h : Frm S w w1) (hT : ∀ k, k < w.heap.size → S k → T k) : Frm T w w1 := ⟨h.os, h.tape, h.output, h.size, fun i hi hs => h.block i hi (fun s => hs (hT i hi s))⟩
theorem Frm.of_below (h : Below w.heap.size w w1) : Frm S w w1 := ⟨h.os, h.tape, h.output, h.size, fun i hi _ => h.block i hi⟩
theorem Frm.below {B : Nat} (h : Frm S w w1) (hB : B ≤ w.heap.size) (hS : ∀ k, S k → B ≤ k) : Below B w w1 :=
  ⟨h.os, h.tape, h.output, h.size, fun i hi => h.block i (by omega) (fun s => by have := hS i s; omega)⟩
theorem Frm.alloc (h : Frm S w w1) (o : Obj) : Frm S w (w1.alloc o) := h.trans (T := fun _ => False) ⟨rfl, rfl, rfl, by simp, fun k hk _ => Below.heap_alloc _ _ _ hk⟩ (fun _ f => f.elim)
theorem Frm.drew (h : Frm S w w1) : Frm S w w1.drew := ⟨h.os, h.tape, h.output, h.size, h.block⟩
theorem Frm.setCell (h : Frm S w w1) (a : Addr) (v : Value) (ha : S a.block ∨ w.heap.size ≤ a.block) : Frm S w (w1.setCell a v) :=
  h.trans (T := fun k => k = a.block) ⟨rfl, rfl, rfl, by simp [World.setCell], fun k _ hs => Below.heap_setCell _ _ _ _ hs⟩ (fun k hk => by rw [hk]; exact ha)
end

/-- A slice of bytes, to be read: its bytes are xs; where there are any, they lie in block k. -/
structure Bt (w : World) (k : Nat) (ao : Option Addr) (cap : Nat) (xs : List Nat) : Prop where
  len : xs.length ≤ cap
  top : cap ≤ maxLen
  bare : ao = none → cap = 0
  lt : ∀ x ∈ xs, x < 256
  at' : xs = [] ∨ ∃ off, ao = some ⟨k, off, none⟩ ∧ ∀ (j x : Nat), xs[j]? = some x → w.cell? ⟨k, off + j, none⟩ = some (.int .u8 (x : Int))
/-- A slice of bytes that owns its row, block k; or nil. -/
structure Ow (w : World) (k : Nat) (ao : Option Addr) (cap : Nat) (xs : List Nat) : Prop where
  len : xs.length ≤ cap
  top : cap ≤ maxLen
  lt : ∀ x ∈ xs, x < 256
  at' : (ao = none ∧ cap = 0) ∨ (ao = some ⟨k, 0, none⟩ ∧ ∃ cur, w.heap[k]? = some (.cells cur 5 (0, 0)) ∧ cur.size = cap ∧ cur.toList.take xs.length = vs xs)
section
variable {w w' : World} {k cap : Nat} {ao : Option Addr} {xs : List Nat}
theorem Bt.nil (w : World) (k : Nat) : Bt w k none 0 [] := ⟨Nat.le_refl _, Nat.zero_le _, fun _ => rfl, by simp, .inl rfl⟩
theorem Ow.nil (w : World) (k : Nat) : Ow w k none 0 [] := ⟨Nat.le_refl _, Nat.zero_le _, by simp, .inl ⟨rfl, rfl⟩⟩
theorem Bt.keep (h : Bt w k ao cap xs) (hk : xs ≠ [] → w'.heap[k]? = w.heap[k]?) : Bt w' k ao cap xs := by
  refine ⟨h.len, h.top, h.bare, h.lt, ?_⟩
  rcases h.at' with h0 | ⟨off, ha, hc⟩
  · exact .inl h0
  · by_cases hx : xs = []
    · exact .inl hx
    · exact .inr ⟨off, ha, fun j x hj => (World.cell?_of_block (a := ⟨k, off + j, none⟩) (hk hx)).trans (hc j x hj)⟩
theorem Bt.size (h : Bt w k ao cap xs) (hx : xs ≠ []) : k < w.heap.size := by
  rcases h.at' with h0 | ⟨off, ha, hc⟩
  · exact absurd h0 hx
  · match xs, hx with
    | x :: t, _ => exact World.block_lt_of_cell? w ⟨k, off + 0, none⟩ (hc 0 x rfl)
theorem Bt.frm {S : Nat → Prop} (h : Bt w k ao cap xs) (hf : Frm S w w') (hk : xs ≠ [] → ¬ S k) : Bt w' k ao cap xs := h.keep fun hx => hf.block k (h.size hx) (hk hx)
theorem Bt.below (h : Bt w k ao cap xs) (hf : Below w.heap.size w w') : Bt w' k ao cap xs := h.keep fun hx => hf.block k (h.size hx)
theorem Bt.alloc (h : Bt w k ao cap xs) (o : Obj) : Bt (w.alloc o) k ao cap xs := h.keep fun hx => Below.heap_alloc _ _ _ (h.size hx)
theorem Bt.drew (h : Bt w k ao cap xs) : Bt w.drew k ao cap xs := h.keep fun _ => rfl
theorem Ow.size (h : Ow w k ao cap xs) (hx : ao ≠ none) : k < w.heap.size := by
  rcases h.at' with ⟨h0, _⟩ | ⟨_, cur, hc, _⟩
  · exact absurd h0 hx
  · exact (Array.getElem?_eq_some_iff.1 hc).1
theorem Ow.keep (h : Ow w k ao cap xs) (hk : ao ≠ none → w'.heap[k]? = w.heap[k]?) : Ow w' k ao cap xs := by
  refine ⟨h.len, h.top, h.lt, ?_⟩
  rcases h.at' with h0 | ⟨ha, cur, hc, hr⟩
  · exact .inl h0
  · exact .inr ⟨ha, cur, (hk (by rw [ha]; simp)).trans hc, hr⟩
theorem Ow.frm {S : Nat → Prop} (h : Ow w k ao cap xs) (hf : Frm S w w') (hk : ao ≠ none → ¬ S k) : Ow w' k ao cap xs := h.keep fun hx => hf.block k (h.size hx) (hk hx)
theorem Ow.below (h : Ow w k ao cap xs) (hf : Below w.heap.size w w') : Ow w' k ao cap xs := h.keep fun hx => hf.block k (h.size hx)
theorem Ow.alloc (h : Ow w k ao cap xs) (o : Obj) : Ow (w.alloc o) k ao cap xs := h.keep fun hx => Below.heap_alloc _ _ _ (h.size hx)
theorem Ow.drew (h : Ow w k ao cap xs) : Ow w.drew k ao cap xs := h.keep fun _ => rfl
/-- A row that is laid whole. -/
theorem Ow.new (w : World) (cur : Array Value) (xs : List Nat) (hc : cur.toList.take xs.length = vs xs) (hl : xs.length ≤ cur.size) (hm : cur.size ≤ maxLen) (hx : ∀ x ∈ xs, x < 256) : Ow (w.alloc (.cells cur 5)) w.heap.size (some ⟨w.heap.size, 0, none⟩) cur.size xs :=
  ⟨hl, hm, hx, .inr ⟨rfl, cur, heap_alloc_new w _, rfl, hc⟩⟩
theorem Ow.one (w : World) (x : Nat) (hx : x < 256) : Ow (w.alloc (.cells #[.int .u8 (x : Int)] 5)) w.heap.size (some ⟨w.heap.size, 0, none⟩) 1 [x] :=
  Ow.new w #[.int .u8 (x : Int)] [x] rfl (Nat.le_refl 1) (by show 1 ≤ maxLen; unfold maxLen; omega) (by simpa using hx)
theorem Ow.zero (w : World) : Ow (w.alloc (.cells #[] 5)) w.heap.size (some ⟨w.heap.size, 0, none⟩) 0 [] :=
  Ow.new w #[] [] rfl (Nat.le_refl 0) (by simp [maxLen]) (by simp)
end
end Go.Proofs.YtdmjcjheanedgaaDoor
