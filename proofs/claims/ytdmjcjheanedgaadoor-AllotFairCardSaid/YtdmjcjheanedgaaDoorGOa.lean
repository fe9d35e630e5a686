/-
  Numbers as bytes, in plain arithmetic: the three encodings, reading them, and that what was written is read. No Go text is looked at here.
  The contracts of octets.Writer, for every input.
  The document's answers for the bytes that are put, and the statements' form and put, for every input.
  The contracts of octets.Reader, for every input.
  The contracts of octets.Reader's Uint, Int, Raw, of NewReader, and of the statements' read and got, for every input.
  What another block's cells, none of them a byte, do not turn: a slice of bytes, a reader.
-/
import Derived.Lib.ItoaNum
import Derived.Test.YtdmjcjheanedgaaDoorGA
import Derived.Deep.LoopGhost
import Derived.Deep.DeepMust
import Derived.Deep.DeepFit
import Derived.Laws.BitsAllLaws
import Derived.WalkSpells
import Derived.WalkMore
import Derived.WideShapes
import Derived.Deep.Cut
namespace Go.Proofs.YtdmjcjheanedgaaDoor

/-- The k lowest bytes of n, the most significant first. -/
def be : Nat → Nat → List Nat
  | 0, _ => []
  | k + 1, n => be k (n / 256) ++ [n % 256]
/-- The number of which these are the bytes, the most significant first. -/
def val (l : List Nat) : Nat := l.foldl (fun n b => n * 256 + b) 0
/-- Groups of seven bits, the least significant first. -/
def num (n : Nat) : List Nat := if _h : n < 128 then [n] else (n % 128 + 128) :: num (n / 128)
termination_by n
decreasing_by omega
/-- A number with a sign, as one without. -/
def zig (s : Int) : Nat := if 0 ≤ s then (2 * s).toNat else (-2 * s - 1).toNat
def unzig (u : Nat) : Int := if u % 2 = 0 then ((u / 2 : Nat) : Int) else -((u / 2 : Nat) : Int) - 1
/-- What is read as groups of seven bits: the number, how many bytes, the fault. f: how many more may come; i: how many have come; n: the number so far. -/
def rn (b : List Nat) : Nat → Nat → Nat → Nat × Nat × Nat
  | 0, _, _ => (0, 0, 4)
  | f + 1, i, n => match b[i]? with
    | none => (0, 0, 3)
    | some x => if (i = 9 ∧ 1 < x) ∨ (0 < i ∧ x = 0) then (0, 0, 4) else if x < 128 then (n + x * 128 ^ i, i + 1, 0) else rn b f (i + 1) (n + (x - 128) * 128 ^ i)
/-- One thing that is put, or read. -/
structure Prt where
  kind : Int
  size : Int
  n : Nat
  s : Int
  raw : List Nat
/-- Its bytes. -/
def enc (p : Prt) : List Nat :=
  if p.kind = 1 then (if 1 ≤ p.size ∧ p.size ≤ 8 then be p.size.toNat p.n else []) else if p.kind = 2 then be 8 (zig p.s) else if p.kind = 3 then num p.n else if p.kind = 4 then p.raw else []
/-- What is read. -/
structure Res where
  n : Nat
  s : Int
  raw : List Nat
  size : Nat
  f : Nat
def rd (kind size : Int) (b : List Nat) : Res :=
  if kind = 1 then (if 1 ≤ size ∧ size ≤ 8 then (if b.length < size.toNat then ⟨0, 0, [], 0, 3⟩ else ⟨val (b.take size.toNat), 0, [], size.toNat, 0⟩) else ⟨0, 0, [], 0, 0⟩)
  else if kind = 2 then (if b.length < 8 then ⟨0, 0, [], 0, 3⟩ else ⟨0, unzig (val (b.take 8)), [], 8, 0⟩)
  else if kind = 3 then ⟨(rn b 10 0 0).1, 0, [], (rn b 10 0 0).2.1, (rn b 10 0 0).2.2⟩
  else if kind = 4 then (if size < 0 then ⟨0, 0, [], 0, 0⟩ else if b.length < size.toNat then ⟨0, 0, [], 0, 3⟩ else ⟨0, 0, b.take size.toNat, size.toNat, 0⟩)
  else ⟨0, 0, [], 0, 0⟩
/-- A reader's step: nothing more is read behind a fault. -/
def stepR (kind size : Int) (b : List Nat) (f : Nat) : Res := if f = 0 then rd kind size b else ⟨0, 0, [], 0, f⟩
end Go.Proofs.YtdmjcjheanedgaaDoor
namespace Go.Proofs.YtdmjcjheanedgaaDoor
open Go.RowKit

/-- A slice of the bytes xs in new memory; nothing that was there has turned. -/
def Fresh (W w' : World) (v : Value) (xs : List Nat) : Prop := ∃ ao cap k', v = .slice ao xs.length cap ∧ Bt w' k' ao cap xs ∧ Below W.heap.size W w' ∧ W.heap.size ≤ k'
end Go.Proofs.YtdmjcjheanedgaaDoor
namespace Go.Proofs.YtdmjcjheanedgaaDoor
open Go.RowKit

/-- A string of these bytes. -/
def str8 (l : List Nat) : ByteArray := ⟨(l.map UInt8.ofNat).toArray⟩
/-- A slice of the bytes xs; nothing that was there has turned. -/
def Given (W w' : World) (v : Value) (xs : List Nat) : Prop := ∃ ao cap k', v = .slice ao xs.length cap ∧ Bt w' k' ao cap xs ∧ Below W.heap.size W w'
/-- A part, as Go's value. -/
def pv (p : Prt) (ro : Option Addr) (rc : Nat) : Value := .agg #[.int .i64 p.kind, .int .i64 p.size, .int .u64 (p.n : Int), .int .i64 p.s, .slice ro p.raw.length rc]
/-- Its numbers fit. -/
structure Prt.Ok (p : Prt) : Prop where
  n : p.n < 18446744073709551616
  s0 : -9223372036854775808 ≤ p.s
  s1 : p.s < 9223372036854775808
  r : p.raw.length ≤ 60
end Go.Proofs.YtdmjcjheanedgaaDoor
namespace Go.Proofs.YtdmjcjheanedgaaDoor
open Go.RowKit

section
variable {w : World} {k cap n : Nat} {ao : Option Addr} {xs : List Nat}
theorem Bt.take (h : Bt w k ao cap xs) (hn : n ≤ xs.length) : Bt w k ao cap (xs.take n) := by
  refine ⟨by have := h.len; rw [List.length_take]; omega, h.top, h.bare, fun x hx => h.lt x (List.mem_of_mem_take hx), ?_⟩
  rcases h.at' with h0 | ⟨off, ha, hc⟩
  · subst h0; exact .inl (by simp)
  · refine .inr ⟨off, ha, fun j x hj => hc j x ?_⟩
    rw [List.getElem?_take] at hj
    split at hj
    · exact hj
    · cases hj
theorem Bt.drop (h : Bt w k ao cap xs) (hx : n ≤ xs.length) : Bt w k (Option.map (fun x => x.add n) ao) (cap - n) (xs.drop n) := by
  have hl := h.len
  have ht := h.top
  refine ⟨by rw [List.length_drop]; omega, by omega, fun e => ?_, fun x hx => h.lt x (List.mem_of_mem_drop hx), ?_⟩
  · cases ao with
    | none => have := h.bare rfl; omega
    | some a => simp at e
  · rcases h.at' with h0 | ⟨off, ha, hc⟩
    · subst h0; exact .inl (by simp)
    · refine .inr ⟨off + n, by rw [ha, Option.map_some, Addr.add_mid], fun j x hj => ?_⟩
      rw [List.getElem?_drop] at hj
      rw [Nat.add_assoc]
      exact hc (n + j) x hj
end
/-- What take answers of what is left, and what it leaves. -/
def tk (n : Nat) (xs : List Nat) (f : Nat) : List Nat × List Nat × Nat := if f ≠ 0 then ([], xs, f) else if xs.length < n then ([], xs, 3) else (xs.take n, xs.drop n, 0)
end Go.Proofs.YtdmjcjheanedgaaDoor
namespace Go.Proofs.YtdmjcjheanedgaaDoor
open Go.RowKit

theorem Bt.apart {w : World} {k cap : Nat} {ao : Option Addr} {xs : List Nat} (h : Bt w k ao cap xs) (g : Nat) (hg : w.heap.size ≤ g) : ∃ k2, Bt w k2 ao cap xs ∧ g ≠ k2 := by
  by_cases hx : xs = []
  · exact ⟨g + 1, ⟨h.len, h.top, h.bare, h.lt, .inl hx⟩, by omega⟩
  · have := h.size hx
    exact ⟨k, h, by omega⟩
/-- What is read, as Go's value. -/
def rv (r : Res) (ao : Option Addr) (cap : Nat) : Value := .agg #[.int .u64 (r.n : Int), .int .i64 r.s, .slice ao r.raw.length cap, .int .i64 (r.size : Int), .int .i64 (r.f : Int)]
section
variable {w : World} {b : Nat} {t : TypeId} {a0 a1 a2 a3 a4 : Value}
end
end Go.Proofs.YtdmjcjheanedgaaDoor
namespace Go.Proofs.YtdmjcjheanedgaaDoor
open Go.RowKit
end Go.Proofs.YtdmjcjheanedgaaDoor
