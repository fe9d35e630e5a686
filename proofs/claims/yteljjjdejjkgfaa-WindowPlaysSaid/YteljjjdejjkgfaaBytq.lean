/-
  Slices of bytes: as a reader sees them (Bt), as their one owner does (Ow); what turns nothing but given blocks (Frm); append to what is owned.
-/
import Derived.Test.YteljjjdejjkgfaaProg
import Derived.Test.YteljjjdejjkgfaaMemq
import Derived.Laws.AppendOwn
import Derived.Laws.AppendOwnNone
import Derived.Laws.BytesString
import Derived.Deep.RegionLaw
import Derived.Deep.MidRow
import Derived.WalkKit
namespace Go.Proofs.Yteljjjdejjkgfaa
open Go.RowKit

/-- The cells of a list of bytes. -/
def vs (xs : List Nat) : List Value := xs.map fun (x : Nat) => Value.int .u8 (x : Int)
theorem vs_length (xs : List Nat) : (vs xs).length = xs.length := by simp [vs]
theorem vs_append (xs ys : List Nat) : vs (xs ++ ys) = vs xs ++ vs ys := by simp [vs]
theorem vs_get {xs : List Nat} {j : Nat} {v : Value} (h : (vs xs)[j]? = some v) : ∃ x, xs[j]? = some x ∧ v = .int .u8 (x : Int) := by
  simp only [vs, List.getElem?_map, Option.map_eq_some_iff] at h
  obtain ⟨x, h1, h2⟩ := h
  exact ⟨x, h1, h2.symm⟩
theorem vs_one {xs : List Nat} : ∀ u ∈ vs xs, u.oneCell' = true := by
  intro u hu
  simp only [vs, List.mem_map] at hu
  obtain ⟨x, _, rfl⟩ := hu
  rfl

/-- Of all that there is, only blocks of S are turned. -/
structure Frm (S : Nat → Prop) (w w' : World) : Prop where
  os : w'.os = w.os
  tape : w'.tape = w.tape
  output : w'.output = w.output
  size : w.heap.size ≤ w'.heap.size
  block : ∀ k, k < w.heap.size → ¬ S k → w'.heap[k]? = w.heap[k]?
section
variable {S T : Nat → Prop} {w w1 w2 : World}
theorem Frm.refl (S : Nat → Prop) (w : World) : Frm S w w := ⟨rfl, rfl, rfl, Nat.le_refl _, fun _ _ _ => rfl⟩
theorem Frm.trans (h : Frm S w w1) (k : Frm T w1 w2) (hT : ∀ k, T k → S k ∨ w.heap.size ≤ k) : Frm S w w2 :=
  ⟨k.os.trans h.os, k.tape.trans h.tape, k.output.trans h.output, Nat.le_trans h.size k.size, fun i hi hs =>
    (k.block i (Nat.lt_of_lt_of_le hi h.size) (fun ht => (hT i ht).elim hs (fun hge => by omega))).trans (h.block i hi hs)⟩
theorem Frm.mono (h : Frm S w w1) (hT : ∀ k, k < w.heap.size → S k → T k) : Frm T w w1 := ⟨h.os, h.tape, h.output, h.size, fun i hi hs => h.block i hi (fun s => hs (hT i hi s))⟩
theorem Frm.of_below (h : Below w.heap.size w w1) : Frm S w w1 := ⟨h.os, h.tape, h.output, h.size, fun i hi _ => h.block i hi⟩
theorem Frm.below {B : Nat} (h : Frm S w w1) (hB : B ≤ w.heap.size) (hS : ∀ k, S k → B ≤ k) : Below B w w1 :=
  ⟨h.os, h.tape, h.output, h.size, fun i hi => h.block i (by omega) (fun s => by have := hS i s; omega)⟩
theorem Frm.alloc (h : Frm S w w1) (o : Obj) : Frm S w (w1.alloc o) := h.trans (T := fun _ => False) ⟨rfl, rfl, rfl, by simp, fun k hk _ => Below.heap_alloc _ _ _ hk⟩ (fun _ f => f.elim)
theorem Frm.drew (h : Frm S w w1) : Frm S w w1.drew := ⟨h.os, h.tape, h.output, h.size, h.block⟩
theorem Frm.setCell (h : Frm S w w1) (a : Addr) (v : Value) (ha : S a.block ∨ w.heap.size ≤ a.block) : Frm S w (w1.setCell a v) :=
  h.trans (T := fun k => k = a.block) ⟨rfl, rfl, rfl, by simp [World.setCell], fun k _ hs => Below.heap_setCell _ _ _ _ hs⟩ (fun k hk => by rw [hk]; exact ha)
end

/-- A slice of bytes, to be read: its bytes are xs; where there are any, they lie in block k. -/
structure Bt (w : World) (k : Nat) (ao : Option Addr) (cap : Nat) (xs : List Nat) : Prop where
  len : xs.length ≤ cap
  top : cap ≤ maxLen
  bare : ao = none → cap = 0
  lt : ∀ x ∈ xs, x < 256
  at' : xs = [] ∨ ∃ off, ao = some ⟨k, off, none⟩ ∧ ∀ (j x : Nat), xs[j]? = some x → w.cell? ⟨k, off + j, none⟩ = some (.int .u8 (x : Int))
/-- A slice of bytes that owns its row, block k; or nil. -/
structure Ow (w : World) (k : Nat) (ao : Option Addr) (cap : Nat) (xs : List Nat) : Prop where
  len : xs.length ≤ cap
  top : cap ≤ maxLen
  lt : ∀ x ∈ xs, x < 256
  at' : (ao = none ∧ cap = 0) ∨ (ao = some ⟨k, 0, none⟩ ∧ ∃ cur, w.heap[k]? = some (.cells cur 5 (0, 0)) ∧ cur.size = cap ∧ cur.toList.take xs.length = vs xs)
section
variable {w w' : World} {k cap : Nat} {ao : Option Addr} {xs : List Nat}
theorem Bt.nil (w : World) (k : Nat) : Bt w k none 0 [] := ⟨Nat.le_refl _, Nat.zero_le _, fun _ => rfl, by simp, .inl rfl⟩
theorem Ow.nil (w : World) (k : Nat) : Ow w k none 0 [] := ⟨Nat.le_refl _, Nat.zero_le _, by simp, .inl ⟨rfl, rfl⟩⟩
theorem Bt.keep (h : Bt w k ao cap xs) (hk : xs ≠ [] → w'.heap[k]? = w.heap[k]?) : Bt w' k ao cap xs := by
  refine ⟨h.len, h.top, h.bare, h.lt, ?_⟩
  rcases h.at' with h0 | ⟨off, ha, hc⟩
  · exact .inl h0
  · by_cases hx : xs = []
    · exact .inl hx
    · exact .inr ⟨off, ha, fun j x hj => (World.cell?_of_block (a := ⟨k, off + j, none⟩) (hk hx)).trans (hc j x hj)⟩
theorem Bt.size (h : Bt w k ao cap xs) (hx : xs ≠ []) : k < w.heap.size := by
  rcases h.at' with h0 | ⟨off, ha, hc⟩
  · exact absurd h0 hx
  · match xs, hx with
    | x :: t, _ => exact World.block_lt_of_cell? w ⟨k, off + 0, none⟩ (hc 0 x rfl)
theorem Bt.frm {S : Nat → Prop} (h : Bt w k ao cap xs) (hf : Frm S w w') (hk : xs ≠ [] → ¬ S k) : Bt w' k ao cap xs := h.keep fun hx => hf.block k (h.size hx) (hk hx)
theorem Bt.below (h : Bt w k ao cap xs) (hf : Below w.heap.size w w') : Bt w' k ao cap xs := h.keep fun hx => hf.block k (h.size hx)
theorem Bt.alloc (h : Bt w k ao cap xs) (o : Obj) : Bt (w.alloc o) k ao cap xs := h.keep fun hx => Below.heap_alloc _ _ _ (h.size hx)
theorem Bt.drew (h : Bt w k ao cap xs) : Bt w.drew k ao cap xs := h.keep fun _ => rfl
theorem Ow.size (h : Ow w k ao cap xs) (hx : ao ≠ none) : k < w.heap.size := by
  rcases h.at' with ⟨h0, _⟩ | ⟨_, cur, hc, _⟩
  · exact absurd h0 hx
  · exact (Array.getElem?_eq_some_iff.1 hc).1
theorem Ow.keep (h : Ow w k ao cap xs) (hk : ao ≠ none → w'.heap[k]? = w.heap[k]?) : Ow w' k ao cap xs := by
  refine ⟨h.len, h.top, h.lt, ?_⟩
  rcases h.at' with h0 | ⟨ha, cur, hc, hr⟩
  · exact .inl h0
  · exact .inr ⟨ha, cur, (hk (by rw [ha]; simp)).trans hc, hr⟩
theorem Ow.frm {S : Nat → Prop} (h : Ow w k ao cap xs) (hf : Frm S w w') (hk : ao ≠ none → ¬ S k) : Ow w' k ao cap xs := h.keep fun hx => hf.block k (h.size hx) (hk hx)
theorem Ow.below (h : Ow w k ao cap xs) (hf : Below w.heap.size w w') : Ow w' k ao cap xs := h.keep fun hx => hf.block k (h.size hx)
theorem Ow.alloc (h : Ow w k ao cap xs) (o : Obj) : Ow (w.alloc o) k ao cap xs := h.keep fun hx => Below.heap_alloc _ _ _ (h.size hx)
theorem Ow.drew (h : Ow w k ao cap xs) : Ow w.drew k ao cap xs := h.keep fun _ => rfl
theorem Ow.bt (h : Ow w k ao cap xs) : Bt w k ao cap xs := by
  refine ⟨h.len, h.top, ?_, h.lt, ?_⟩
  · intro h0
    rcases h.at' with ⟨_, hc⟩ | ⟨ha, _⟩
    · exact hc
    · rw [ha] at h0; cases h0
  · rcases h.at' with ⟨_, hc⟩ | ⟨ha, cur, hc, hs, ht⟩
    · have := h.len
      exact .inl (List.eq_nil_of_length_eq_zero (by omega))
    · refine .inr ⟨0, ha, fun j x hj => ?_⟩
      rw [cell_of_row w k (0 + j) cur 5 (0, 0) hc]
      have h1 : (vs xs)[j]? = some (.int .u8 (x : Int)) := by simp [vs, hj]
      rw [← ht, List.getElem?_take] at h1
      split at h1
      · simpa using h1
      · cases h1
/-- A row that is laid whole. -/
theorem Ow.new (w : World) (cur : Array Value) (xs : List Nat) (hc : cur.toList.take xs.length = vs xs) (hl : xs.length ≤ cur.size) (hm : cur.size ≤ maxLen) (hx : ∀ x ∈ xs, x < 256) : Ow (w.alloc (.cells cur 5)) w.heap.size (some ⟨w.heap.size, 0, none⟩) cur.size xs :=
  ⟨hl, hm, hx, .inr ⟨rfl, cur, heap_alloc_new w _, rfl, hc⟩⟩
theorem Ow.one (w : World) (x : Nat) (hx : x < 256) : Ow (w.alloc (.cells #[.int .u8 (x : Int)] 5)) w.heap.size (some ⟨w.heap.size, 0, none⟩) 1 [x] :=
  Ow.new w #[.int .u8 (x : Int)] [x] rfl (Nat.le_refl 1) (by show 1 ≤ maxLen; unfold maxLen; omega) (by simpa using hx)
theorem Ow.zero (w : World) : Ow (w.alloc (.cells #[] 5)) w.heap.size (some ⟨w.heap.size, 0, none⟩) 0 [] :=
  Ow.new w #[] [] rfl (Nat.le_refl 0) (by simp [maxLen]) (by simp)
end
theorem infoU8 : (Try.prog.info? 5).map (fun i => (i.zero, i.size, i.bytes)) = some (some (Value.int .u8 0), 1, 1) := by kernel_rfl

end Go.Proofs.Yteljjjdejjkgfaa
