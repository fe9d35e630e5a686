/-
  Slices of bytes: as a reader sees them (Bt), as their one owner does (Ow); what turns nothing but given blocks (Frm); append to what is owned.
-/
import Derived.Test.YtbkiipeoabbiiaaProg
import Derived.Test.YtbkiipeoabbiiaaMem
import Derived.Laws.AppendOwn
import Derived.Laws.AppendOwnNone
import Derived.Laws.BytesString
import Derived.Deep.RegionLaw
import Derived.Deep.MidRow
import Derived.WalkKit
namespace Go.Proofs.Ytbkiipeoabbiiaa
open Go.RowKit

/-- The cells of a list of bytes. -/
def vs (xs : List Nat) : List Value := xs.map fun (x : Nat) => Value.int .u8 (x : Int)
theorem vs_length (xs : List Nat) : (vs xs).length = xs.length := by simp [vs]
theorem vs_append (xs ys : List Nat) : vs (xs ++ ys) = vs xs ++ vs ys := by simp [vs]
theorem vs_get {xs : List Nat} {j : Nat} {v : Value} (h : (vs xs)[j]? = some v) : ∃ x, xs[j]? = some x ∧ v = .int .u8 (x : Int) := by
  simp only [vs, List.getElem?_map, Option.map_eq_some_iff] at h
  obtain ⟨x, h1, h2⟩ := h
  exact ⟨x, h1, h2.symm⟩
theorem vs_one {xs : List Nat} : ∀ u ∈ vs xs, u.oneCell' = true := by
  intro u hu
  simp only [vs, List.mem_map] at hu
  obtain ⟨x, _, rfl⟩ := hu
  rfl

/-- Of all that there is, only blocks of S are turned. -/
structure Frm (S : Nat → Prop) (w w' : World) : Prop where
  os : w'.os = w.os
  tape : w'.tape = w.tape
  output : w'.output = w.output
  size : w.heap.size ≤ w'.heap.size
  block : ∀ k, k < w.heap.size → ¬ S k → w'.heap[k]? = w.heap[k]?
section
variable {S T : Nat → Prop} {w w1 w2 : World}
theorem Frm.refl (S : Nat → Prop) (w : World) : Frm S w w := ⟨rfl, rfl, rfl, Nat.le_refl _, fun _ _ _ => rfl⟩
theorem Frm.trans (h : Frm S w w1) (k : Frm T w1 w2) (hT : ∀ k, T k → S k ∨ w.heap.size ≤ k) : Frm S w w2 :=
  ⟨k.os.trans h.os, k.tape.trans h.tape, k.output.trans h.output, Nat.le_trans h.size k.size, fun i hi hs =>
    (k.block i (Nat.lt_of_lt_of_le hi h.size) (fun ht => (hT i ht).elim hs (fun hge => by omega))).trans (h.block i hi hs)⟩
theorem Frm.mono (h : Frm S w w1) (hT : ∀ k, k < w.heap.size → S k → T k) : Frm T w w1 := ⟨h.os, h.tape, h.output, h.size, fun i hi hs => h.block i hi (fun s => hs (hT i hi s))⟩
theorem Frm.of_below (h : Below w.heap.size w w1) : Frm S w w1 := ⟨h.os, h.tape, h.output, h.size, fun i hi _ => h.block i hi⟩
theorem Frm.below {B : Nat} (h : Frm S w w1) (hB : B ≤ w.heap.size) (hS : ∀ k, S k → B ≤ k) : Below B w w1 :=
  ⟨h.os, h.tape, h.output, h.size, fun i hi => h.block i (by omega) (fun s => by have := hS i s; omega)⟩
theorem Frm.alloc (h : Frm S w w1) (o : Obj) : Frm S w (w1.alloc o) := h.trans (T := fun _ => False) ⟨rfl, rfl, rfl, by simp, fun k hk _ => Below.heap_alloc _ _ _ hk⟩ (fun _ f => f.elim)
theorem Frm.drew (h : Frm S w w1) : Frm S w w1.drew := ⟨h.os, h.tape, h.output, h.size, h.block⟩
theorem Frm.setCell (h : Frm S w w1) (a : Addr) (v : Value) (ha : S a.block ∨ w.heap.size ≤ a.block) : Frm S w (w1.setCell a v) :=
  h.trans (T := fun k => k = a.block) ⟨rfl, rfl, rfl, by simp [World.setCell], fun k _ hs => Below.heap_setCell _ _ _ _ hs⟩ (fun k hk => by rw [hk]; exact ha)
end

/-- A slice of bytes, to be read: its bytes are xs; where there are any, they lie in block k. -/
structure Bt (w : World) (k : Nat) (ao : Option Addr) (cap : Nat) (xs : List Nat) : Prop where
  len : xs.length ≤ cap
  top : cap ≤ maxLen
  bare : ao = none → cap = 0
  lt : ∀ x ∈ xs, x < 256
  at' : xs = [] ∨ ∃ off, ao = some ⟨k, off, none⟩ ∧ ∀ (j x : Nat), xs[j]? = some x → w.cell? ⟨k, off + j, none⟩ = some (.int .u8 (x : Int))
/-- A slice of bytes that owns its row, block k; or nil. -/
structure Ow (w : World) (k : Nat) (ao : Option Addr) (cap : Nat) (xs : List Nat) : Prop where
  len : xs.length ≤ cap
  top : cap ≤ maxLen
  lt : ∀ x ∈ xs, x < 256
  at' : (ao = none ∧ cap = 0) ∨ (ao = some ⟨k, 0, none⟩ ∧ ∃ cur, w.heap[k]? = some (.cells cur 5 (0, 0)) ∧ cur.size = cap ∧ cur.toList.take xs.length = vs xs)
section
variable {w w' : World} {k cap : Nat} {ao : Option Addr} {xs : List Nat}
theorem Bt.nil (w : World) (k : Nat) : Bt w k none 0 [] := ⟨Nat.le_refl _, Nat.zero_le _, fun _ => rfl, by simp, .inl rfl⟩
theorem Ow.nil (w : World) (k : Nat) : Ow w k none 0 [] := ⟨Nat.le_refl _, Nat.zero_le _, by simp, .inl ⟨rfl, rfl⟩⟩
theorem Bt.keep (h : Bt w k ao cap xs) (hk : xs ≠ [] → w'.heap[k]? = w.heap[k]?) : Bt w' k ao cap xs := by
  refine ⟨h.len, h.top, h.bare, h.lt, ?_⟩
  rcases h.at' with h0 | ⟨off, ha, hc⟩
  · exact .inl h0
  · by_cases hx : xs = []
    · exact .inl hx
    · exact .inr ⟨off, ha, fun j x hj => (World.cell?_of_block (a := ⟨k, off + j, none⟩) (hk hx)).trans (hc j x hj)⟩
theorem Bt.size (h : Bt w k ao cap xs) (hx : xs ≠ []) : k < w.heap.size := by
  rcases h.at' with h0 | ⟨off, ha, hc⟩
  · exact absurd h0 hx
  · match xs, hx with
    | x :: t, _ => exact World.block_lt_of_cell? w ⟨k, off + 0, none⟩ (hc 0 x rfl)
theorem Bt.frm {S : Nat → Prop} (h : Bt w k ao cap xs) (hf : Frm S w w') (hk : xs ≠ [] → ¬ S k) : Bt w' k ao cap xs := h.keep fun hx => hf.block k (h.size hx) (hk hx)
theorem Bt.below (h : Bt w k ao cap xs) (hf : Below w.heap.size w w') : Bt w' k ao cap xs := h.keep fun hx => hf.block k (h.size hx)
theorem Bt.alloc (h : Bt w k ao cap xs) (o : Obj) : Bt (w.alloc o) k ao cap xs := h.keep fun hx => Below.heap_alloc _ _ _ (h.size hx)
theorem Bt.drew (h : Bt w k ao cap xs) : Bt w.drew k ao cap xs := h.keep fun _ => rfl
theorem Ow.size (h : Ow w k ao cap xs) (hx : ao ≠ none) : k < w.heap.size := by
  rcases h.at' with ⟨h0, _⟩ | ⟨_, cur, hc, _⟩
  · exact absurd h0 hx
  · exact (Array.getElem?_eq_some_iff.1 hc).1
theorem Ow.keep (h : Ow w k ao cap xs) (hk : ao ≠ none → w'.heap[k]? = w.heap[k]?) : Ow w' k ao cap xs := by
  refine ⟨h.len, h.top, h.lt, ?_⟩
  rcases h.at' with h0 | ⟨ha, cur, hc, hr⟩
  · exact .inl h0
  · exact .inr ⟨ha, cur, (hk (by rw [ha]; simp)).trans hc, hr⟩
theorem Ow.frm {S : Nat → Prop} (h : Ow w k ao cap xs) (hf : Frm S w w') (hk : ao ≠ none → ¬ S k) : Ow w' k ao cap xs := h.keep fun hx => hf.block k (h.size hx) (hk hx)
theorem Ow.below (h : Ow w k ao cap xs) (hf : Below w.heap.size w w') : Ow w' k ao cap xs := h.keep fun hx => hf.block k (h.size hx)
theorem Ow.alloc (h : Ow w k ao cap xs) (o : Obj) : Ow (w.alloc o) k ao cap xs := h.keep fun hx => Below.heap_alloc _ _ _ (h.size hx)
theorem Ow.drew (h : Ow w k ao cap xs) : Ow w.drew k ao cap xs := h.keep fun _ => rfl
theorem Ow.bt (h : Ow w k ao cap xs) : Bt w k ao cap xs := by
  refine ⟨h.len, h.top, ?_, h.lt, ?_⟩
  · intro h0
    rcases h.at' with ⟨_, hc⟩ | ⟨ha, _⟩
    · exact hc
    · rw [ha] at h0; cases h0
  · rcases h.at' with ⟨_, hc⟩ | ⟨ha, cur, hc, hs, ht⟩
    · have := h.len
      exact .inl (List.eq_nil_of_length_eq_zero (by omega))
    · refine .inr ⟨0, ha, fun j x hj => ?_⟩
      rw [cell_of_row w k (0 + j) cur 5 (0, 0) hc]
      have h1 : (vs xs)[j]? = some (.int .u8 (x : Int)) := by simp [vs, hj]
      rw [← ht, List.getElem?_take] at h1
      split at h1
      · simpa using h1
      · cases h1
/-- A row that is laid whole. -/
theorem Ow.new (w : World) (cur : Array Value) (xs : List Nat) (hc : cur.toList.take xs.length = vs xs) (hl : xs.length ≤ cur.size) (hm : cur.size ≤ maxLen) (hx : ∀ x ∈ xs, x < 256) : Ow (w.alloc (.cells cur 5)) w.heap.size (some ⟨w.heap.size, 0, none⟩) cur.size xs :=
  ⟨hl, hm, hx, .inr ⟨rfl, cur, heap_alloc_new w _, rfl, hc⟩⟩
theorem Ow.one (w : World) (x : Nat) (hx : x < 256) : Ow (w.alloc (.cells #[.int .u8 (x : Int)] 5)) w.heap.size (some ⟨w.heap.size, 0, none⟩) 1 [x] :=
  Ow.new w #[.int .u8 (x : Int)] [x] rfl (Nat.le_refl 1) (by show 1 ≤ maxLen; unfold maxLen; omega) (by simpa using hx)
theorem Ow.zero (w : World) : Ow (w.alloc (.cells #[] 5)) w.heap.size (some ⟨w.heap.size, 0, none⟩) 0 [] :=
  Ow.new w #[] [] rfl (Nat.le_refl 0) (by simp [maxLen]) (by simp)
end
theorem infoU8 : (Try.prog.info? 5).map (fun i => (i.zero, i.size, i.bytes)) = some (some (Value.int .u8 0), 1, 1) := by kernel_rfl

theorem run_app {w : World} {k cap j bcap : Nat} {ao bo : Option Addr} {xs ys : List Nat} (ty : TypeId) (how : Ow w k ao cap xs) (hbt : Bt w j bo bcap ys) (hsum : xs.length + ys.length ≤ 1099511627776) :
    ∃ ao' cap' k' w', (Builtin.append_ #[37, 37] ty #[.slice ao xs.length cap, .slice bo ys.length bcap]).run Try.prog w = .ok (.slice ao' (xs.length + ys.length) cap') w' ∧
      Ow w' k' ao' cap' (xs ++ ys) ∧ Frm (fun b => b = k) w w' ∧ (k' = k ∨ w.heap.size ≤ k') := by
  obtain ⟨i0, hi, hz0, hz1, hz2⟩ := info_parts infoU8
  have hT := Try.underlying37
  have hmx : (1099511627776 : Nat) ≤ maxLen := by unfold maxLen; omega
  have hall : ∀ x ∈ xs ++ ys, x < 256 := fun x hx => (List.mem_append.1 hx).elim (how.lt x) (hbt.lt x)
  have hown : w.ownsRow (if ao = none then w.heap.size else k) 5 1 (.slice ao xs.length cap) xs.length (vs xs) := by
    refine ⟨by simp [vs], ?_⟩
    rcases how.at' with ⟨rfl, rfl⟩ | ⟨rfl, cur, h1, h2, h3⟩
    · have := how.len
      have h0 : xs.length = 0 := by omega
      exact .inl ⟨by rw [h0], h0⟩
    · refine .inr ⟨k, cap, cur, rfl, by simp, h1, how.len, how.top, by omega, by simpa using h3⟩
  cases bo with
  | none =>
    have hb0 := hbt.bare rfl
    have hl0 := hbt.len
    have hy : ys = [] := List.eq_nil_of_length_eq_zero (by omega)
    subst hy
    subst hb0
    refine ⟨ao, cap, k, w, ?_, by simpa using how, Frm.refl _ _, .inl rfl⟩
    simpa using run_append_owned_none (P := Try.prog) (w := w) _ 37 ty 5 i0 1 hT hi (.slice ao xs.length cap) xs.length (vs xs) hown
  | some a =>
    have hnews : ∀ q u, (vs ys)[q]? = some u → w.cell? (a.add q) = some u := by
      intro q u hu
      obtain ⟨x, hx, rfl⟩ := vs_get hu
      rcases hbt.at' with h0 | ⟨off, ha, hc⟩
      · subst h0; simp at hx
      · cases ha
        rw [Addr.add_mid]
        exact hc q x hx
    have newOw : ∀ (c : Nat), xs.length + ys.length ≤ c → c ≤ maxLen → ∀ z : List Value, z.length = c - (xs.length + ys.length) →
        Ow (w.drew.alloc (.cells ((vs xs).toArray ++ (vs ys).toArray ++ z.toArray) 5)) w.heap.size (some ⟨w.heap.size, 0, none⟩) c (xs ++ ys) := by
      intro c h1 h2 z hz
      have e : ((vs xs).toArray ++ (vs ys).toArray ++ z.toArray).size = c := by simp [vs_length, hz]; omega
      have := Ow.new w.drew ((vs xs).toArray ++ (vs ys).toArray ++ z.toArray) (xs ++ ys) (by
        simp only [Array.toList_append, vs_append]
        rw [← vs_length (xs ++ ys), vs_append]
        exact List.take_left) (by rw [e]; simpa using h1) (by rw [e]; exact h2) hall
      rw [e] at this
      exact this
    have zlen : ∀ c, (Builtin.zeroCells (Value.int .u8 0).cells c).toList.length = c := by intro c; rw [Array.length_toList, size_zeroCells]; show c * 1 = c; omega
    rcases how.at' with ⟨rfl, rfl⟩ | ⟨rfl, cur, h1, h2, h3⟩
    · have hl0 := how.len
      have hx0 : xs = [] := List.eq_nil_of_length_eq_zero (by omega)
      subst hx0
      by_cases hm : ys = []
      · subst hm
        refine ⟨none, 0, k, w, ?_, Ow.nil _ _, Frm.refl _ _, .inl rfl⟩
        simp [Builtin.append_, run_underlying hT, sizeOf, typeInfo, hi, Builtin.lenOf, Builtin.firstCells, loadCells, loadCellsFrom]
      · have hpos : 0 < ys.length := List.length_pos_iff.2 hm
        have hr := run_append_nil (P := Try.prog) w 37 ty 5 i0 (.int .u8 0) hT hi hz0 a ys.length bcap (vs ys) (by rw [vs_length, hz1]; omega) hnews hpos (by simp at hsum; omega) (by simp at hsum; rw [hz2]; omega)
        have hge := grownCap_ge w ys.length 0 5
        have hle := grownCap_le_maxLen w ys.length 0 5 (by simp at hsum; omega)
        have hno := newOw (grownCap w ys.length 0 5) (by simpa using hge) hle _ ((zlen (grownCap w ys.length 0 5 - ys.length)).trans (by simp))
        refine ⟨_, _, _, _, by simpa using hr, by simpa [vs] using hno, ?_, .inr (Nat.le_refl _)⟩
        exact (Frm.refl _ w).drew.alloc _
    · by_cases hroom : xs.length + ys.length ≤ cap
      · have hfit : xs.length * i0.size + (vs ys).length ≤ cur.size := by rw [vs_length, hz1]; omega
        have hr := run_append_room (P := Try.prog) w 37 ty 5 i0 hT hi k xs.length cap cur h1 a ys.length bcap (vs ys) (by rw [vs_length, hz1]; omega) hnews vs_one hroom hfit
        refine ⟨_, _, _, _, hr, ⟨by simpa using hroom, how.top, hall, .inr ⟨rfl, _, setRow_heap w k cur _ 5 _ h1, ?_, ?_⟩⟩, ⟨rfl, rfl, rfl, by simp [World.setRow], fun b _ hb => setRow_other w k b _ (fun e => hb e)⟩, .inl rfl⟩
        · simp only [List.size_toArray, List.length_append, List.length_take, List.length_drop, Array.length_toList, vs_length, hz1]
          omega
        · rw [hz1, Nat.mul_one, h3, vs_append, List.append_assoc, ← List.append_assoc, ← vs_append, ← vs_length (xs ++ ys)]
          exact List.take_left
      · have hr := run_append_grow (P := Try.prog) w 37 ty 5 i0 (.int .u8 0) hT hi hz0 ⟨k, 0, none⟩ xs.length cap (vs xs) (by rw [vs_length, hz1]; omega) (hown.cells (g := k) rfl) a ys.length bcap (vs ys) (by rw [vs_length, hz1]; omega) hnews (by omega) (by omega) (growslice_fits (by omega) (by rw [hz2]; omega))
        have hge := grownCap_ge w (xs.length + ys.length) cap 5
        have hle := grownCap_le_maxLen w (xs.length + ys.length) cap 5 (by omega)
        have hno := newOw (grownCap w (xs.length + ys.length) cap 5) hge hle _ (zlen (grownCap w (xs.length + ys.length) cap 5 - (xs.length + ys.length)))
        exact ⟨_, _, _, _, hr, by simpa using hno, (Frm.refl _ w).drew.alloc _, .inr (Nat.le_refl _)⟩
section
variable {w : World} {a : Act} {ops : Array Oper} {o : Oper} {Q : Exit → Act → World → Prop} {k cap j bcap : Nat} {ao bo : Option Addr} {xs ys : List Nat}
theorem wp_app {K : Act → World → Prop} (s x : Operand) (ho : o.op = .call { callee := .builtin .append, args := #[s, x], argTypes := #[37, 37] }) (how : Ow w k ao cap xs) (hbt : Bt w j bo bcap ys)
    {n m : Nat} (hs : a.eval s = .slice ao n cap) (hx : a.eval x = .slice bo m bcap) (hn : n = xs.length) (hm : m = ys.length) (hsum : xs.length + ys.length ≤ 1099511627776)
    (h : ∀ ao' cap' k' w', Ow w' k' ao' cap' (xs ++ ys) → Frm (fun b => b = k) w w' → (k' = k ∨ w.heap.size ≤ k') → K (a.put o.dst (.slice ao' (n + m) cap')) w') : o.wp Try.prog a w K Q := by
  subst hn hm
  obtain ⟨ao', cap', k', w', hr, h2, h3, h4⟩ := run_app o.type how hbt hsum
  unfold Oper.wp execOp
  simp only [ho, resolve, invoke, builtin, Sem.run_bind, Sem.run_pure, Result.andThen_ok, List.map_toArray, List.map_cons, List.map_nil, hs, hx, hr]
  exact h _ _ _ _ h2 h3 h4
theorem wpList_app {rest : List Oper} (hgd : o.guard = none) (s x : Operand) (ho : o.op = .call { callee := .builtin .append, args := #[s, x], argTypes := #[37, 37] }) (how : Ow w k ao cap xs) (hbt : Bt w j bo bcap ys)
    {n m : Nat} (hs : a.eval s = .slice ao n cap) (hx : a.eval x = .slice bo m bcap) (hn : n = xs.length) (hm : m = ys.length) (hsum : xs.length + ys.length ≤ 1099511627776)
    (h : ∀ ao' cap' k' w', Ow w' k' ao' cap' (xs ++ ys) → Frm (fun b => b = k) w w' → (k' = k ∨ w.heap.size ≤ k') → wpList Try.prog ops Q rest (a.put o.dst (.slice ao' (n + m) cap')) w') : wpList Try.prog ops Q (o :: rest) a w :=
  wpList_plain hgd fun _ hK => wp_app s x ho how hbt hs hx hn hm hsum fun _ _ _ _ h2 h3 h4 => hK _ _ (h _ _ _ _ h2 h3 h4)
theorem step_app {K : Act → World → Prop} {E : Prop} (hg : o.guard = none) (s x : Operand) (ho : o.op = .call { callee := .builtin .append, args := #[s, x], argTypes := #[37, 37] }) (how : Ow w k ao cap xs) (hbt : Bt w j bo bcap ys)
    {n m : Nat} (hs : a.eval s = .slice ao n cap) (hx : a.eval x = .slice bo m bcap) (hn : n = xs.length) (hm : m = ys.length) (hsum : xs.length + ys.length ≤ 1099511627776)
    (h : ∀ ao' cap' k' w', Ow w' k' ao' cap' (xs ++ ys) → Frm (fun b => b = k) w w' → (k' = k ∨ w.heap.size ≤ k') → K (a.put o.dst (.slice ao' (n + m) cap')) w') :
    if Region.wanted o (yielded ops a.tmps) = true then Oper.wp Try.prog o a w K Q else E := by
  have hw : Region.wanted o (yielded ops a.tmps) = true := by simp [Region.wanted, hg]
  rw [if_pos hw]
  exact wp_app s x ho how hbt hs hx hn hm hsum h
end
end Go.Proofs.Ytbkiipeoabbiiaa
