/-
  Some cells of one block, set one behind the other. (No Go text.)
  A row of structs: its cells, and what becomes of them. (No Go text.)
  An order that rests, in plain numbers (no Go text).
  A slice of whatever elements that owns its row (OwG; the row's block as an Option: a nil slice has none), and append to it: for every element type.
  api.Order: a struct of 7 ints as Go's values: laid, read whole, compared, as an argument, in slices. (Written by gen/struct.py.)
  A slice of integers of one kind, to be read.
  A slice of structs that one grows by append: it owns its row (for any element type).
  A function value that is called as it stands.
-/
import Derived.Test.YtdmjcjheanedgaaDoorGA
import Derived.Laws.StructEq
import Derived.Lib.Hide
import Derived.ProofKit
import Derived.OpenShut
import Derived.Deep.Slices
import Derived.Test.YtdmjcjheanedgaaDoorProg
import Derived.WalkKit
import Derived.Laws.EntriesVeiled
namespace Go.Proofs.YtdmjcjheanedgaaDoor
open Go.RowKit
/-- The cells behind the stores. -/
def setN (c : Array Value) : List (Nat × Value) → Array Value
  | [] => c
  | p :: r => setN (c.setIfInBounds p.1 p.2) r
/-- The world behind the stores. -/
def setW (w : World) (g : Nat) : List (Nat × Value) → World
  | [] => w
  | p :: r => setW (w.setCell ⟨g, p.1, none⟩ p.2) g r
theorem Blk.setN {w : World} {g : Nat} {t : TypeId} {c : Array Value} (l : List (Nat × Value)) (h : Blk w g t c) : Blk (setW w g l) g t (setN c l) := by
  induction l generalizing w c with
  | nil => exact h
  | cons p r ih => exact ih (h.set p.1 p.2)
theorem Frm.setW {S : Nat → Prop} {w0 w : World} {g : Nat} (l : List (Nat × Value)) (h : Frm S w0 w) (hg : S g ∨ w0.heap.size ≤ g) : Frm S w0 (setW w g l) := by
  induction l generalizing w with
  | nil => exact h
  | cons p r ih => exact ih (h.setCell _ _ hg)
theorem setN_size (c : Array Value) (l : List (Nat × Value)) : (setN c l).size = c.size := by
  induction l generalizing c with
  | nil => rfl
  | cons p r ih => rw [setN, ih]; simp
theorem setN_not (c : Array Value) (l : List (Nat × Value)) (k : Nat) (h : ∀ p ∈ l, p.1 ≠ k) : (setN c l)[k]? = c[k]? := by
  induction l generalizing c with
  | nil => rfl
  | cons p r ih =>
    rw [setN, ih _ (fun q hq => h q (List.mem_cons_of_mem _ hq)), Array.getElem?_setIfInBounds, if_neg (h p (by simp))]
theorem setN_mem (c : Array Value) (l : List (Nat × Value)) (k : Nat) (v : Value) (hd : (l.map (·.1)).Nodup) (h : (k, v) ∈ l) (hk : k < c.size) : (setN c l)[k]? = some v := by
  induction l generalizing c with
  | nil => simp at h
  | cons p r ih =>
    rw [List.map_cons, List.nodup_cons] at hd
    rcases List.mem_cons.1 h with rfl | h
    · rw [setN, setN_not _ _ _ (fun q hq e => hd.1 (by simp only [List.mem_map]; exact ⟨q, hq, e⟩)), Array.getElem?_setIfInBounds, if_pos rfl, if_pos hk]
    · rw [setN]
      exact ih _ hd.2 h (by simpa using hk)
end Go.Proofs.YtdmjcjheanedgaaDoor
namespace Go.Proofs.YtdmjcjheanedgaaDoor
open Go.RowKit
/-- The cells of a list, sz to each. -/
structure Flt {α : Type} (enc : α → Array Value) (sz : Nat) (c : Array Value) (l : List α) : Prop where
  size : c.size = l.length * sz
  at' : ∀ i x, l[i]? = some x → ∀ (j : Nat) (v : Value), (enc x)[j]? = some v → c[i * sz + j]? = some v
section
variable {α : Type} {enc : α → Array Value} {sz : Nat} {c c' : Array Value} {l : List α}
theorem Flt.set (h : Flt enc sz c l) (he : ∀ x, (enc x).size ≤ sz) (i : Nat) (x : α) (hs : c'.size = c.size) (h1 : ∀ (j : Nat) (v : Value), (enc x)[j]? = some v → c'[i * sz + j]? = some v)
    (h2 : ∀ k, (∀ j, j < sz → k ≠ i * sz + j) → c'[k]? = c[k]?) : Flt enc sz c' (l.set i x) := by
  refine ⟨by rw [hs, List.length_set]; exact h.size, fun i' y hy j v hv => ?_⟩
  have hj : j < sz := Nat.lt_of_lt_of_le (Array.getElem?_eq_some_iff.1 hv).1 (he y)
  rw [List.getElem?_set] at hy
  by_cases hi : i = i'
  · subst hi
    rw [if_pos rfl] at hy
    split at hy
    · cases hy; exact h1 j v hv
    · cases hy
  · rw [if_neg hi] at hy
    rw [h2 _ (fun j' hj' e => hi ?_)]
    · exact h.at' i' y hy j v hv
    · have h3 : (i' * sz + j) / sz = (i * sz + j') / sz := by rw [e]
      rw [Nat.mul_comm i' sz, Nat.mul_comm i sz, Nat.mul_add_div (by omega), Nat.mul_add_div (by omega), Nat.div_eq_of_lt hj, Nat.div_eq_of_lt hj'] at h3
      omega
theorem Flt.lt (h : Flt enc sz c l) {i : Nat} (hi : i < l.length) {j : Nat} (hj : j < sz) : i * sz + j < c.size := by
  rw [h.size]
  calc i * sz + j < i * sz + sz := by omega
    _ = (i + 1) * sz := by rw [Nat.succ_mul]
    _ ≤ l.length * sz := Nat.mul_le_mul_right _ hi
theorem Flt.cell (h : Flt enc sz c l) {w : World} {b : Nat} {t : TypeId} (hB : Blk w b t c) {i : Nat} (hi : i < l.length) {j : Nat} (hj : j < sz) : ∃ v, w.cell? ⟨b, i * sz + j, none⟩ = some v :=
  ⟨_, hB.cell_eq _ _ (Array.getElem?_eq_getElem (h.lt hi hj))⟩
end
theorem Flt.of_rep {α : Type} {enc : α → Array Value} {sz : Nat} (n : Nat) (x : α) (z : Value) (h : ∀ (j : Nat) (v : Value), (enc x)[j]? = some v → j < sz ∧ v = z) : Flt enc sz (List.replicate (n * sz) z).toArray (List.replicate n x) := by
  refine ⟨by simp, fun i y hy j v hv => ?_⟩
  rw [List.getElem?_replicate] at hy
  split at hy
  · rename_i hi
    cases hy
    obtain ⟨h1, rfl⟩ := h j v hv
    have : i * sz + j < n * sz := by
      calc i * sz + j < i * sz + sz := by omega
        _ = (i + 1) * sz := by rw [Nat.succ_mul]
        _ ≤ n * sz := Nat.mul_le_mul_right _ hi
    simp [this]
  · cases hy
end Go.Proofs.YtdmjcjheanedgaaDoor
namespace Go.Proofs.YtdmjcjheanedgaaDoor
structure Ord where
  id : Int
  owner : Int
  side : Int
  price : Int
  qty : Int
  flags : Int
  seq : Int
def Ord.zero : Ord := ⟨0, 0, 0, 0, 0, 0, 0⟩
structure Ord.Fit (m : Ord) : Prop where
  id : In64 m.id
  owner : In64 m.owner
  side : In64 m.side
  price : In64 m.price
  qty : In64 m.qty
  flags : In64 m.flags
  seq : In64 m.seq
end Go.Proofs.YtdmjcjheanedgaaDoor
namespace Go.Proofs.YtdmjcjheanedgaaDoor
open Go.RowKit

/-- What a change of an owner does to its row's number. -/
def Moved (w : World) (ko ko' : Option Nat) : Prop := ko' = none ∨ ko' = ko ∨ ∃ k, ko' = some k ∧ w.heap.size ≤ k
/-- n elements of type E, sz cells each, the cells cs, in a row that the slice owns; or it is nil. -/
structure OwG (E : TypeId) (sz : Nat) (w : World) (ko : Option Nat) (ao : Option Addr) (cap n : Nat) (cs : List Value) : Prop where
  cells : cs.length = n * sz
  len : n ≤ cap
  top : cap ≤ maxLen
  at' : (ko = none ∧ ao = none ∧ cap = 0) ∨ ∃ k cur, ko = some k ∧ ao = some ⟨k, 0, none⟩ ∧ w.heap[k]? = some (.cells cur E (0, 0)) ∧ cur.size = cap * sz ∧ cur.toList.take (n * sz) = cs
/-- What is appended: m elements, the cells ns. -/
structure SrcG (sz : Nat) (w : World) (bo : Option Addr) (c m : Nat) (ns : List Value) : Prop where
  cells : ns.length = m * sz
  one : ∀ u ∈ ns, u.oneCell' = true
  at' : (bo = none ∧ c = 0 ∧ m = 0) ∨ ∃ a, bo = some a ∧ ∀ j u, ns[j]? = some u → w.cell? (a.add j) = some u
section
variable {E : TypeId} {sz : Nat} {w w' : World} {ko : Option Nat} {ao : Option Addr} {cap n : Nat} {cs : List Value}
theorem OwG.nil (E : TypeId) (sz : Nat) (w : World) : OwG E sz w none none 0 0 [] := ⟨by simp, Nat.le_refl _, Nat.zero_le _, .inl ⟨rfl, rfl, rfl⟩⟩
theorem OwG.lt {k : Nat} (h : OwG E sz w (some k) ao cap n cs) : k < w.heap.size := by
  rcases h.at' with ⟨h0, _⟩ | ⟨k', cur, hk, _, hc, _⟩
  · cases h0
  · cases hk; exact (Array.getElem?_eq_some_iff.1 hc).1
theorem OwG.keep (h : OwG E sz w ko ao cap n cs) (hk : ∀ k, ko = some k → w'.heap[k]? = w.heap[k]?) : OwG E sz w' ko ao cap n cs := by
  refine ⟨h.cells, h.len, h.top, ?_⟩
  rcases h.at' with h0 | ⟨k, cur, h1, h2, h3, h4⟩
  · exact .inl h0
  · exact .inr ⟨k, cur, h1, h2, (hk k h1).trans h3, h4⟩
theorem OwG.frm {S : Nat → Prop} (h : OwG E sz w ko ao cap n cs) (hf : Frm S w w') (hk : ∀ k, ko = some k → ¬ S k) : OwG E sz w' ko ao cap n cs := h.keep fun k e => by
  subst e
  exact hf.block k h.lt (hk k rfl)
theorem OwG.below (h : OwG E sz w ko ao cap n cs) (hf : Below w.heap.size w w') : OwG E sz w' ko ao cap n cs := h.frm (Frm.of_below (S := fun _ => False) hf) (fun _ _ f => f)
theorem OwG.alloc (h : OwG E sz w ko ao cap n cs) (o : Obj) : OwG E sz (w.alloc o) ko ao cap n cs := h.frm (S := fun _ => False) ((Frm.refl _ w).alloc o) (fun _ _ f => f)
theorem OwG.drew (h : OwG E sz w ko ao cap n cs) : OwG E sz w.drew ko ao cap n cs := h.keep fun _ _ => rfl
/-- A cell of what is owned. -/
theorem OwG.cell (h : OwG E sz w ko ao cap n cs) (j : Nat) (v : Value) (hj : cs[j]? = some v) : ∃ k, ko = some k ∧ ao = some ⟨k, 0, none⟩ ∧ w.cell? ⟨k, j, none⟩ = some v ∧ w.frozen? ⟨k, j, none⟩ = false := by
  rcases h.at' with ⟨_, _, h0⟩ | ⟨k, cur, h1, h2, h3, h4, h5⟩
  · have hl := h.len
    have hc := h.cells
    have : cs = [] := List.eq_nil_of_length_eq_zero (by rw [hc, show n = 0 by omega, Nat.zero_mul])
    rw [this] at hj; simp at hj
  · refine ⟨k, h1, h2, ?_, by simp [World.frozen?, h3]⟩
    rw [cell_of_row w k j cur E (0, 0) h3]
    rw [← h5, List.getElem?_take] at hj
    split at hj
    · simpa using hj
    · cases hj
theorem SrcG.nil (sz : Nat) (w : World) : SrcG sz w none 0 0 [] := ⟨by simp, by simp, .inl ⟨rfl, rfl, rfl⟩⟩
/-- One element that is one cell, laid in a block of its own. -/
theorem SrcG.one1 (w : World) (v : Value) (hv : v.oneCell' = true) (t : TypeId) : SrcG 1 (w.alloc (.cells #[v] t)) (some ⟨w.heap.size, 0, none⟩) 1 1 [v] :=
  ⟨rfl, by simpa using hv, .inr ⟨_, rfl, fun j u hj => by
    match j, hj with
    | 0, hj => simp at hj; subst hj; rw [Addr.add_mid]; exact (Blk.new w t #[v]).cell_eq 0 _ rfl⟩⟩
/-- What is owned, appended elsewhere. -/
theorem OwG.src (h : OwG E sz w ko ao cap n cs) (h1 : ∀ u ∈ cs, u.oneCell' = true) : SrcG sz w ao cap n cs := by
  refine ⟨h.cells, h1, ?_⟩
  rcases h.at' with ⟨_, h0, hc⟩ | ⟨k, cur, e1, e2, _⟩
  · exact .inl ⟨h0, hc, by have := h.len; omega⟩
  · refine .inr ⟨_, e2, fun j u hj => ?_⟩
    obtain ⟨k', ek, ea, hc, _⟩ := h.cell j u hj
    rw [e2] at ea
    cases ea
    rw [Addr.add_mid, Nat.zero_add]
    exact hc
end
section
variable {P : Program} {T E : TypeId} {i : TypeInfo} {z : Value} {sz by' : Nat} {w : World} {ko : Option Nat} {ao bo : Option Addr} {cap n c m : Nat} {cs ns : List Value}
theorem run_appG (hT : P.underlying T = some (.slice E)) (hi : P.info? E = some i) (hz : i.zero = some z) (hs : i.size = sz) (hby : i.bytes = by') (hzs : z.cells.size = sz) (hsz : 0 < sz) (ty : TypeId)
    (how : OwG E sz w ko ao cap n cs) (hsrc : SrcG sz w bo c m ns) (hsum : n + m ≤ 1073741824) (hbytes : (n + m) * by' ≤ 140737488355328) :
    ∃ ao' cap' ko' w', (Builtin.append_ #[T, T] ty #[.slice ao n cap, .slice bo m c]).run P w = .ok (.slice ao' (n + m) cap') w' ∧ OwG E sz w' ko' ao' cap' (n + m) (cs ++ ns) ∧ Frm (fun b => ko = some b) w w' ∧ Moved w ko ko' := by
  have hmx : (1073741824 : Nat) ≤ maxLen := by unfold maxLen; omega
  have hcl : (cs ++ ns).length = (n + m) * sz := by rw [List.length_append, how.cells, hsrc.cells, Nat.add_mul]
  subst hs
  subst hby
  rcases hsrc.at' with ⟨rfl, rfl, rfl⟩ | ⟨a, rfl, hnews⟩
  · have hn0 : ns = [] := List.eq_nil_of_length_eq_zero (by rw [hsrc.cells, Nat.zero_mul])
    subst hn0
    refine ⟨ao, cap, ko, w, ?_, by simpa using how, Frm.refl _ _, .inr (.inl rfl)⟩
    rcases how.at' with ⟨_, rfl, rfl⟩ | ⟨k, cur, _, rfl, h3, h4, h5⟩
    · have hl := how.len
      have e : n = 0 := by omega
      subst e
      simp [Builtin.append_, run_underlying hT, sizeOf, typeInfo, hi, Builtin.lenOf, Builtin.firstCells]
    · have hl := how.len
      simp [Builtin.append_, run_underlying hT, sizeOf, typeInfo, hi, Builtin.lenOf, Builtin.firstCells, hl, storeCells]
  · have newOw : ∀ (q : Nat), n + m ≤ q → q ≤ maxLen → ∀ y : List Value, y.length = (q - (n + m)) * i.size →
        OwG E i.size (w.drew.alloc (.cells (cs.toArray ++ ns.toArray ++ y.toArray) E)) (some w.heap.size) (some ⟨w.heap.size, 0, none⟩) q (n + m) (cs ++ ns) := by
      intro q h1 h2 y hy
      refine ⟨hcl, h1, h2, .inr ⟨_, _, rfl, rfl, heap_alloc_new w.drew _, ?_, ?_⟩⟩
      · have : (cs.toArray ++ ns.toArray ++ y.toArray).size = (cs ++ ns).length + y.length := by simp; omega
        rw [this, hcl, hy, ← Nat.add_mul]
        congr 1
        omega
      · rw [← hcl]
        simp only [Array.toList_append]
        exact List.take_left
    have zlen : ∀ q, (Builtin.zeroCells z.cells q).toList.length = q * i.size := by intro q; rw [Array.length_toList, size_zeroCells, hzs]
    rcases how.at' with ⟨rfl, rfl, rfl⟩ | ⟨k, cur, rfl, rfl, h3, h4, h5⟩
    · have hl := how.len
      have e : n = 0 := by omega
      subst e
      have hc0 : cs = [] := List.eq_nil_of_length_eq_zero (by rw [how.cells, Nat.zero_mul])
      subst hc0
      by_cases hm : m = 0
      · subst hm
        have hn0 : ns = [] := List.eq_nil_of_length_eq_zero (by rw [hsrc.cells, Nat.zero_mul])
        subst hn0
        refine ⟨none, 0, none, w, ?_, OwG.nil _ _ _, Frm.refl _ _, .inl rfl⟩
        simp [Builtin.append_, run_underlying hT, sizeOf, typeInfo, hi, Builtin.lenOf, Builtin.firstCells, loadCells, loadCellsFrom]
      · simp only [Nat.zero_add] at hsum hbytes newOw ⊢
        have hr := run_append_nil (P := P) w T ty E i z hT hi hz a m c ns hsrc.cells hnews (by omega) (by omega) (by omega)
        have hge := grownCap_ge w m 0 E
        have hle := grownCap_le_maxLen w m 0 E (by omega)
        have hno := newOw (grownCap w m 0 E) hge hle _ (zlen (grownCap w m 0 E - m))
        exact ⟨_, _, _, _, hr, by simpa using hno, (Frm.refl _ w).drew.alloc _, .inr (.inr ⟨_, rfl, Nat.le_refl _⟩)⟩
    · by_cases hroom : n + m ≤ cap
      · have hfit : n * i.size + ns.length ≤ cur.size := by rw [hsrc.cells, h4, ← Nat.add_mul]; exact Nat.mul_le_mul_right _ hroom
        have hr := run_append_room (P := P) w T ty E i hT hi k n cap cur h3 a m c ns hsrc.cells hnews hsrc.one hroom hfit
        refine ⟨_, _, some k, _, hr, ⟨hcl, hroom, how.top, .inr ⟨k, _, rfl, rfl, setRow_heap w k cur _ E _ h3, ?_, ?_⟩⟩, ⟨rfl, rfl, rfl, by simp [World.setRow], fun b _ hb => setRow_other w k b _ (fun e => hb (by rw [e]))⟩, .inr (.inl rfl)⟩
        · simp only [List.size_toArray, List.length_append, List.length_take, List.length_drop, Array.length_toList]
          omega
        · rw [h5, ← hcl]
          exact List.take_left
      · have hr := run_append_grow (P := P) w T ty E i z hT hi hz ⟨k, 0, none⟩ n cap cs how.cells (fun j u hj => by
            obtain ⟨k', ek, _, hc, _⟩ := how.cell j u hj
            cases ek
            rw [Addr.add_mid, Nat.zero_add]
            exact hc) a m c ns hsrc.cells hnews (by omega) (by omega) (growslice_fits (by omega) hbytes)
        have hge := grownCap_ge w (n + m) cap E
        have hle := grownCap_le_maxLen w (n + m) cap E (by omega)
        have hno := newOw (grownCap w (n + m) cap E) hge hle _ (zlen (grownCap w (n + m) cap E - (n + m)))
        exact ⟨_, _, _, _, hr, by simpa using hno, (Frm.refl _ w).drew.alloc _, .inr (.inr ⟨_, rfl, Nat.le_refl _⟩)⟩
variable {a : Act} {ops : Array Oper} {o : Oper} {Q : Exit → Act → World → Prop}
theorem wp_appG {K : Act → World → Prop} (hT : P.underlying T = some (.slice E)) (hi : P.info? E = some i) (hz : i.zero = some z) (hs : i.size = sz) (hby : i.bytes = by') (hzs : z.cells.size = sz) (hsz : 0 < sz) (s x : Operand)
    (ho : o.op = .call { callee := .builtin .append, args := #[s, x], argTypes := #[T, T] }) (how : OwG E sz w ko ao cap n cs) (hsrc : SrcG sz w bo c m ns)
    (hes : a.eval s = .slice ao n cap) (hex : a.eval x = .slice bo m c) (hsum : n + m ≤ 1073741824) (hbytes : (n + m) * by' ≤ 140737488355328)
    (h : ∀ ao' cap' ko' w', OwG E sz w' ko' ao' cap' (n + m) (cs ++ ns) → Frm (fun b => ko = some b) w w' → Moved w ko ko' → K (a.put o.dst (.slice ao' (n + m) cap')) w') : o.wp P a w K Q := by
  obtain ⟨ao', cap', ko', w', hr, h2, h3, h4⟩ := run_appG hT hi hz hs hby hzs hsz o.type how hsrc hsum hbytes
  unfold Oper.wp execOp
  simp only [ho, resolve, invoke, builtin, Sem.run_bind, Sem.run_pure, Result.andThen_ok, List.map_toArray, List.map_cons, List.map_nil, hes, hex, hr]
  exact h _ _ _ _ h2 h3 h4
theorem wpList_appG {rest : List Oper} (hgd : o.guard = none) (s x : Operand) (T E : TypeId) (i : TypeInfo) (z : Value) (sz by' : Nat) (hT : P.underlying T = some (.slice E)) (hi : P.info? E = some i) (hz : i.zero = some z) (hs : i.size = sz) (hby : i.bytes = by') (hzs : z.cells.size = sz) (hsz : 0 < sz)
    (ho : o.op = .call { callee := .builtin .append, args := #[s, x], argTypes := #[T, T] }) (how : OwG E sz w ko ao cap n cs) (hsrc : SrcG sz w bo c m ns)
    (hes : a.eval s = .slice ao n cap) (hex : a.eval x = .slice bo m c) (hsum : n + m ≤ 1073741824) (hbytes : (n + m) * by' ≤ 140737488355328)
    (h : ∀ ao' cap' ko' w', OwG E sz w' ko' ao' cap' (n + m) (cs ++ ns) → Frm (fun b => ko = some b) w w' → Moved w ko ko' → wpList P ops Q rest (a.put o.dst (.slice ao' (n + m) cap')) w') : wpList P ops Q (o :: rest) a w :=
  wpList_plain hgd fun _ hK => wp_appG hT hi hz hs hby hzs hsz s x ho how hsrc hes hex hsum hbytes fun _ _ _ _ h2 h3 h4 => hK _ _ (h _ _ _ _ h2 h3 h4)
theorem step_appG {K : Act → World → Prop} {X : Prop} (hgd : o.guard = none) (s x : Operand) (T E : TypeId) (i : TypeInfo) (z : Value) (sz by' : Nat) (hT : P.underlying T = some (.slice E)) (hi : P.info? E = some i) (hz : i.zero = some z) (hs : i.size = sz) (hby : i.bytes = by') (hzs : z.cells.size = sz) (hsz : 0 < sz)
    (ho : o.op = .call { callee := .builtin .append, args := #[s, x], argTypes := #[T, T] }) (how : OwG E sz w ko ao cap n cs) (hsrc : SrcG sz w bo c m ns)
    (hes : a.eval s = .slice ao n cap) (hex : a.eval x = .slice bo m c) (hsum : n + m ≤ 1073741824) (hbytes : (n + m) * by' ≤ 140737488355328)
    (h : ∀ ao' cap' ko' w', OwG E sz w' ko' ao' cap' (n + m) (cs ++ ns) → Frm (fun b => ko = some b) w w' → Moved w ko ko' → K (a.put o.dst (.slice ao' (n + m) cap')) w') :
    if Region.wanted o (yielded ops a.tmps) = true then Oper.wp P o a w K Q else X := by
  have hw : Region.wanted o (yielded ops a.tmps) = true := by simp [Region.wanted, hgd]
  rw [if_pos hw]
  exact wp_appG hT hi hz hs hby hzs hsz s x ho how hsrc hes hex hsum hbytes h
end
end Go.Proofs.YtdmjcjheanedgaaDoor
namespace Go.Proofs.YtdmjcjheanedgaaDoor
open Go.RowKit
abbrev cOrd (m : Ord) : Array Value := #[.int .i64 m.id, .int .i64 m.owner, .int .i64 m.side, .int .i64 m.price, .int .i64 m.qty, .int .i64 m.flags, .int .i64 m.seq]
abbrev vOrd (m : Ord) : Value := .agg (cOrd m)
/-- Whether two are the same. -/
def eqOrd (a b : Ord) : Bool := a.id == b.id && a.owner == b.owner && a.side == b.side && a.price == b.price && a.qty == b.qty && a.flags == b.flags && a.seq == b.seq
theorem eqOrd_true {a b : Ord} : eqOrd a b = true ↔ a = b := by
  cases a; cases b; simp [eqOrd, and_assoc]
theorem eqOrd_self (a : Ord) : eqOrd a a = true := eqOrd_true.2 rfl
theorem eqOrd_step (p : Prop) [Decidable p] (q : Bool) (w : World) {X : Result Bool} (h : X = Result.ok q w) : (if p then X else Result.ok false w) = Result.ok (decide p && q) w := by
  subst h
  by_cases hp : p <;> simp [hp]
theorem eqOrd_last (p : Prop) [Decidable p] (w : World) : (if p then Result.ok true w else Result.ok false w) = Result.ok (decide p) w := by
  by_cases hp : p <;> simp [hp]
theorem eqIn_Ord (a b : Ord) (w : World) : (Op.equalIn 10000 44 (vOrd a) (vOrd b)).run Tryd.prog w = .ok (eqOrd a b) w := by
  have hu := Tryd.underlying44
  have hf : Tryd.prog.underlying 44 = some (.struct (Tryd.prog.fieldsOf 44)) := by rw [Program.fieldsOf, hu]
  have uint := Tryd.underlying3
  have uint64 := Tryd.underlying2
  rw [show (10000 : Nat) = 9999 + 1 from rfl, run_equalIn_agg w 9999 _ _ _ hf (by kernel_rfl), Program.fieldsOf, hu]
  simp only [Op.eqFields]
  unfold eqOrd
  simp [go_sem, part]
  clear hu hf uint uint64
  simp only [Bool.and_assoc]
  exact eqOrd_step _ _ w (eqOrd_step _ _ w (eqOrd_step _ _ w (eqOrd_step _ _ w (eqOrd_step _ _ w (eqOrd_step _ _ w (eqOrd_last _ w))))))
theorem eql_Ord (a b : Ord) (w : World) : (binOp .eql 44 (vOrd a) (vOrd b)).run Tryd.prog w = .ok (.bool (eqOrd a b)) w := by
  rw [run_eql_struct, eqIn_Ord]; rfl
theorem neq_Ord (a b : Ord) (w : World) : (binOp .neq 44 (vOrd a) (vOrd b)).run Tryd.prog w = .ok (.bool (!eqOrd a b)) w := by
  rw [run_neq_struct, eqIn_Ord]; rfl
theorem Ord.cells {w : World} {b : Nat} {T : TypeId} {m : Ord} (h : Blk w b T (cOrd m)) : w.cell? ⟨b, 0, none⟩ = some (.int .i64 m.id) ∧ w.cell? ⟨b, 1, none⟩ = some (.int .i64 m.owner) ∧ w.cell? ⟨b, 2, none⟩ = some (.int .i64 m.side) ∧ w.cell? ⟨b, 3, none⟩ = some (.int .i64 m.price) ∧ w.cell? ⟨b, 4, none⟩ = some (.int .i64 m.qty) ∧ w.cell? ⟨b, 5, none⟩ = some (.int .i64 m.flags) ∧ w.cell? ⟨b, 6, none⟩ = some (.int .i64 m.seq) :=
  ⟨h.cell_eq 0 _ rfl, h.cell_eq 1 _ rfl, h.cell_eq 2 _ rfl, h.cell_eq 3 _ rfl, h.cell_eq 4 _ rfl, h.cell_eq 5 _ rfl, h.cell_eq 6 _ rfl⟩
theorem Ord.below {B : Nat} {W w : World} {b : Nat} (h : Below B W w) (hb : B ≤ b) (v0 v1 v2 v3 v4 v5 v6 : Value) : Below B W (((((((w.setCell ⟨b, 0, none⟩ v0).setCell ⟨b, 1, none⟩ v1).setCell ⟨b, 2, none⟩ v2).setCell ⟨b, 3, none⟩ v3).setCell ⟨b, 4, none⟩ v4).setCell ⟨b, 5, none⟩ v5).setCell ⟨b, 6, none⟩ v6) := by
  have h0 := h.setCell (p := ⟨b, 0, none⟩) hb v0
  have h1 := h0.setCell (p := ⟨b, 1, none⟩) hb v1
  have h2 := h1.setCell (p := ⟨b, 2, none⟩) hb v2
  have h3 := h2.setCell (p := ⟨b, 3, none⟩) hb v3
  have h4 := h3.setCell (p := ⟨b, 4, none⟩) hb v4
  have h5 := h4.setCell (p := ⟨b, 5, none⟩) hb v5
  have h6 := h5.setCell (p := ⟨b, 6, none⟩) hb v6
  exact h6
theorem Ord.frm {S : Nat → Prop} {W w : World} {b : Nat} (h : Frm S W w) (hb : S b ∨ W.heap.size ≤ b) (v0 v1 v2 v3 v4 v5 v6 : Value) : Frm S W (((((((w.setCell ⟨b, 0, none⟩ v0).setCell ⟨b, 1, none⟩ v1).setCell ⟨b, 2, none⟩ v2).setCell ⟨b, 3, none⟩ v3).setCell ⟨b, 4, none⟩ v4).setCell ⟨b, 5, none⟩ v5).setCell ⟨b, 6, none⟩ v6) := by
  have h0 := h.setCell ⟨b, 0, none⟩ v0 hb
  have h1 := h0.setCell ⟨b, 1, none⟩ v1 hb
  have h2 := h1.setCell ⟨b, 2, none⟩ v2 hb
  have h3 := h2.setCell ⟨b, 3, none⟩ v3 hb
  have h4 := h3.setCell ⟨b, 4, none⟩ v4 hb
  have h5 := h4.setCell ⟨b, 5, none⟩ v5 hb
  have h6 := h5.setCell ⟨b, 6, none⟩ v6 hb
  exact h6
theorem Ord.lay {w : World} {b : Nat} {T : TypeId} {m : Ord} (h : Blk w b T (cOrd m)) (v0 v1 v2 v3 v4 v5 v6 : Int) : Blk (((((((w.setCell ⟨b, 0, none⟩ (.int .i64 v0)).setCell ⟨b, 1, none⟩ (.int .i64 v1)).setCell ⟨b, 2, none⟩ (.int .i64 v2)).setCell ⟨b, 3, none⟩ (.int .i64 v3)).setCell ⟨b, 4, none⟩ (.int .i64 v4)).setCell ⟨b, 5, none⟩ (.int .i64 v5)).setCell ⟨b, 6, none⟩ (.int .i64 v6)) b T (cOrd ⟨v0, v1, v2, v3, v4, v5, v6⟩) := by
  have h0 : Blk _ b T (cOrd ⟨v0, m.owner, m.side, m.price, m.qty, m.flags, m.seq⟩) := h.set 0 (.int .i64 v0)
  have h1 : Blk _ b T (cOrd ⟨v0, v1, m.side, m.price, m.qty, m.flags, m.seq⟩) := h0.set 1 (.int .i64 v1)
  have h2 : Blk _ b T (cOrd ⟨v0, v1, v2, m.price, m.qty, m.flags, m.seq⟩) := h1.set 2 (.int .i64 v2)
  have h3 : Blk _ b T (cOrd ⟨v0, v1, v2, v3, m.qty, m.flags, m.seq⟩) := h2.set 3 (.int .i64 v3)
  have h4 : Blk _ b T (cOrd ⟨v0, v1, v2, v3, v4, m.flags, m.seq⟩) := h3.set 4 (.int .i64 v4)
  have h5 : Blk _ b T (cOrd ⟨v0, v1, v2, v3, v4, v5, m.seq⟩) := h4.set 5 (.int .i64 v5)
  have h6 : Blk _ b T (cOrd ⟨v0, v1, v2, v3, v4, v5, v6⟩) := h5.set 6 (.int .i64 v6)
  exact h6
theorem cells_Ord : Tryd.prog.cellsOf 44 = 7 := by kernel_rfl
theorem cells_Ord_int : Tryd.prog.cellsOf 3 = 1 := by kernel_rfl
theorem cells_Ord_int64 : Tryd.prog.cellsOf 2 = 1 := by kernel_rfl
section
open Go.ChangeShapes Go.WideShapes Go.ChangeAt Go.Deep
variable {H : Type} {enc' : TypeId × Value → H} {w : World} {base : Nat} {spare : Nat → Bool} {held : Bool}
set_option maxRecDepth 8000 in
/-- One that came in. -/
theorem open_Ord {fuel : Nat} {cs : List Value} {x : DataW H × List MemPlace} (h : DataW.trod enc' Tryd.prog w base spare held fuel 44 cs = some x) : ∃ m : Ord, m.Fit ∧ cs = (cOrd m).toList := by
  obtain ⟨xs, n, _, _, hl, hlen, hf⟩ := DataW.trod_struct Tryd.underlying44 h
  rw [cells_Ord] at hl
  match cs, hl, xs, hlen with
  | [v0, v1, v2, v3, v4, v5, v6], _, [y0, y1, y2, y3, y4, y5, y6], _ =>
    have f0 : DataW.trod enc' Tryd.prog w base spare held n 2 [v0] = some y0 := by
      have h0 : DataW.trod enc' Tryd.prog w base spare held n 2 (([v0, v1, v2, v3, v4, v5, v6].drop 0).take (Tryd.prog.cellsOf 2)) = some y0 := hf 0 _ rfl
      rw [cells_Ord_int64] at h0
      exact h0
    have f1 : DataW.trod enc' Tryd.prog w base spare held n 3 [v1] = some y1 := by
      have h0 : DataW.trod enc' Tryd.prog w base spare held n 3 (([v0, v1, v2, v3, v4, v5, v6].drop 1).take (Tryd.prog.cellsOf 3)) = some y1 := hf 1 _ rfl
      rw [cells_Ord_int] at h0
      exact h0
    have f2 : DataW.trod enc' Tryd.prog w base spare held n 3 [v2] = some y2 := by
      have h0 : DataW.trod enc' Tryd.prog w base spare held n 3 (([v0, v1, v2, v3, v4, v5, v6].drop 2).take (Tryd.prog.cellsOf 3)) = some y2 := hf 2 _ rfl
      rw [cells_Ord_int] at h0
      exact h0
    have f3 : DataW.trod enc' Tryd.prog w base spare held n 2 [v3] = some y3 := by
      have h0 : DataW.trod enc' Tryd.prog w base spare held n 2 (([v0, v1, v2, v3, v4, v5, v6].drop 3).take (Tryd.prog.cellsOf 2)) = some y3 := hf 3 _ rfl
      rw [cells_Ord_int64] at h0
      exact h0
    have f4 : DataW.trod enc' Tryd.prog w base spare held n 2 [v4] = some y4 := by
      have h0 : DataW.trod enc' Tryd.prog w base spare held n 2 (([v0, v1, v2, v3, v4, v5, v6].drop 4).take (Tryd.prog.cellsOf 2)) = some y4 := hf 4 _ rfl
      rw [cells_Ord_int64] at h0
      exact h0
    have f5 : DataW.trod enc' Tryd.prog w base spare held n 3 [v5] = some y5 := by
      have h0 : DataW.trod enc' Tryd.prog w base spare held n 3 (([v0, v1, v2, v3, v4, v5, v6].drop 5).take (Tryd.prog.cellsOf 3)) = some y5 := hf 5 _ rfl
      rw [cells_Ord_int] at h0
      exact h0
    have f6 : DataW.trod enc' Tryd.prog w base spare held n 2 [v6] = some y6 := by
      have h0 : DataW.trod enc' Tryd.prog w base spare held n 2 (([v0, v1, v2, v3, v4, v5, v6].drop 6).take (Tryd.prog.cellsOf 2)) = some y6 := hf 6 _ rfl
      rw [cells_Ord_int64] at h0
      exact h0
    obtain ⟨a0, e0, _, w0⟩ := DataW.trod_int Tryd.underlying2 f0
    obtain ⟨a1, e1, _, w1⟩ := DataW.trod_int Tryd.underlying3 f1
    obtain ⟨a2, e2, _, w2⟩ := DataW.trod_int Tryd.underlying3 f2
    obtain ⟨a3, e3, _, w3⟩ := DataW.trod_int Tryd.underlying2 f3
    obtain ⟨a4, e4, _, w4⟩ := DataW.trod_int Tryd.underlying2 f4
    obtain ⟨a5, e5, _, w5⟩ := DataW.trod_int Tryd.underlying3 f5
    obtain ⟨a6, e6, _, w6⟩ := DataW.trod_int Tryd.underlying2 f6
    simp only [List.cons.injEq, and_true] at e0 e1 e2 e3 e4 e5 e6
    subst e0 e1 e2 e3 e4 e5 e6
    exact ⟨⟨a0, a1, a2, a3, a4, a5, a6⟩, ⟨in64_of_wf w0, in64_of_wf w1, in64_of_wf w2, in64_of_wf w3, in64_of_wf w4, in64_of_wf w5, in64_of_wf w6⟩, rfl⟩
end
/-- A slice of them, to be read. -/
structure Ords (w : World) (ao : Option Addr) (cap : Nat) (l : List Ord) : Prop where
  len : l.length ≤ cap
  top : cap ≤ maxLen
  at' : l = [] ∨ ∃ b off, ao = some ⟨b, off, none⟩ ∧ ∀ (i : Nat) (m : Ord), l[i]? = some m → ∀ (j : Nat) (v : Value), (cOrd m)[j]? = some v → w.cell? ⟨b, off + i * 7 + j, none⟩ = some v
theorem Ords.nil (w : World) : Ords w none 0 [] := ⟨Nat.le_refl _, Nat.zero_le _, .inl rfl⟩
theorem Ords.below {w w' : World} {ao : Option Addr} {cap : Nat} {l : List Ord} (h : Ords w ao cap l) (hb : Below w.heap.size w w') : Ords w' ao cap l := by
  refine ⟨h.len, h.top, ?_⟩
  rcases h.at' with h0 | ⟨b, off, ha, hl⟩
  · exact .inl h0
  · refine .inr ⟨b, off, ha, fun i m hi j v hj => ?_⟩
    have hc := hl i m hi j v hj
    have hlt : b < w.heap.size := World.block_lt_of_cell? w ⟨b, off + i * 7 + j, none⟩ hc
    exact (World.cell?_of_block (a := ⟨b, off + i * 7 + j, none⟩) (hb.block b hlt)).trans hc
/-- One of them. -/
theorem Ords.get {w : World} {ao : Option Addr} {cap : Nat} {l : List Ord} (h : Ords w ao cap l) {i : Nat} {m : Ord} (hi : l[i]? = some m) :
    ∃ b off, ao = some ⟨b, off, none⟩ ∧ w.cell? ⟨b, off + i * 7 + 0, none⟩ = some (.int .i64 m.id) ∧ w.cell? ⟨b, off + i * 7 + 1, none⟩ = some (.int .i64 m.owner) ∧ w.cell? ⟨b, off + i * 7 + 2, none⟩ = some (.int .i64 m.side) ∧ w.cell? ⟨b, off + i * 7 + 3, none⟩ = some (.int .i64 m.price) ∧ w.cell? ⟨b, off + i * 7 + 4, none⟩ = some (.int .i64 m.qty) ∧ w.cell? ⟨b, off + i * 7 + 5, none⟩ = some (.int .i64 m.flags) ∧ w.cell? ⟨b, off + i * 7 + 6, none⟩ = some (.int .i64 m.seq) := by
  rcases h.at' with h0 | ⟨b, off, ha, hl⟩
  · subst h0; simp at hi
  · exact ⟨b, off, ha, hl i m hi 0 _ rfl, hl i m hi 1 _ rfl, hl i m hi 2 _ rfl, hl i m hi 3 _ rfl, hl i m hi 4 _ rfl, hl i m hi 5 _ rfl, hl i m hi 6 _ rfl⟩
/-- What is owned is read. -/
theorem Ords.of_own {E : TypeId} {w : World} {ko : Option Nat} {ao : Option Addr} {cap : Nat} {l : List Ord} (h : OwG E 7 w ko ao cap l.length (l.flatMap fun m => (cOrd m).toList)) : Ords w ao cap l := by
  refine ⟨h.len, h.top, ?_⟩
  by_cases h0 : l = []
  · exact .inl h0
  · have hcell := fun j v hj => h.cell j v hj
    have at1 : ∀ (l : List Ord) (i : Nat) (m : Ord), l[i]? = some m → ∀ (j : Nat) (v : Value), (cOrd m)[j]? = some v → (l.flatMap fun m => (cOrd m).toList)[i * 7 + j]? = some v := by
      intro l
      induction l with
      | nil => intro i m hi; simp at hi
      | cons x t ih =>
        intro i m hi j v hj
        have hx : ((cOrd x).toList).length = 7 := rfl
        rw [List.flatMap_cons]
        cases i with
        | zero =>
          obtain rfl : x = m := by simpa using hi
          have hlt : j < 7 := by
            have := (Array.getElem?_eq_some_iff.1 hj).1
            simpa using this
          rw [List.getElem?_append_left (by rw [hx]; omega), Nat.zero_mul, Nat.zero_add]
          simpa using hj
        | succ i =>
          rw [List.getElem?_append_right (by rw [hx]; omega), hx, show (i + 1) * 7 + j - 7 = i * 7 + j by omega]
          exact ih i m (by simpa using hi) j v hj
    cases l with
    | nil => exact absurd rfl h0
    | cons x t =>
      obtain ⟨k, _, hao, _, _⟩ := hcell 0 (.int .i64 x.id) rfl
      refine .inr ⟨k, 0, hao, fun i m hi j v hj => ?_⟩
      obtain ⟨k2, _, hao2, hc, _⟩ := hcell _ _ (at1 _ i m hi j v hj)
      rw [hao] at hao2
      cases hao2
      rw [Nat.zero_add]
      exact hc
section
open Go.ChangeShapes Go.WideShapes Go.ChangeAt Go.Deep
variable {H : Type} {enc' : TypeId × Value → H} {w : World} {base : Nat} {spare : Nat → Bool} {held : Bool}
/-- A slice of them that came in. -/
theorem open_Ords {T : TypeId} (hT : Tryd.prog.underlying T = some (.slice 44)) {fuel : Nat} {cs : List Value} {x : DataW H × List MemPlace} (h : DataW.trod enc' Tryd.prog w base spare held fuel T cs = some x) :
    ∃ (ao : Option Addr) (cap : Nat) (l : List Ord), cs = [.slice ao l.length cap] ∧ Ords w ao cap l ∧ ∀ m ∈ l, m.Fit := by
  rcases open_slice hT h with ⟨rfl, _⟩ | ⟨a, len, cap, m, n, D, Pl', rfl, _, hl, hm, hmm, _, hx⟩
  · exact ⟨none, 0, [], rfl, Ords.nil w, by simp⟩
  · have hlm : len ≤ m := by rw [hmm]; split <;> omega
    have each : ∀ i, i < len → ∃ p : Ord, p.Fit ∧ w.cells? base (a.add (i * 7)) 7 = some (cOrd p).toList := by
      intro i hi
      obtain ⟨cs', h1, h2⟩ := hx i (by omega)
      rw [cells_Ord] at h1
      obtain ⟨p, hp, rfl⟩ := open_Ord h2
      exact ⟨p, hp, h1⟩
    by_cases h0 : len = 0
    · subst h0
      exact ⟨some a, cap, [], rfl, ⟨Nat.zero_le _, hm, .inl rfl⟩, by simp⟩
    · have : Inhabited Ord := ⟨Ord.zero⟩
      obtain ⟨f, hfam⟩ := choose_lt each
      obtain ⟨b, off, rfl⟩ : ∃ b off, a = ⟨b, off, none⟩ := by
        obtain ⟨_, hc⟩ := hfam 0 (by omega)
        obtain ⟨_, _, hcell⟩ := World.cells?_some hc
        have h1 := hcell 0 (by omega)
        obtain ⟨b, off, spot⟩ := a
        have hspot : spot = none := by simpa [Addr.add] using World.cell?_spot h1
        subst hspot
        exact ⟨b, off, rfl⟩
      have hget : ∀ i m, ((List.range len).map f)[i]? = some m → i < len ∧ f i = m := by
        intro i m hp
        rw [List.getElem?_map, Option.map_eq_some_iff] at hp
        obtain ⟨i', hi', rfl⟩ := hp
        obtain ⟨h1, h2⟩ := List.getElem?_eq_some_iff.1 hi'
        rw [List.length_range] at h1
        rw [List.getElem_range] at h2
        subst h2
        exact ⟨h1, rfl⟩
      refine ⟨some ⟨b, off, none⟩, cap, (List.range len).map f, by simp, ⟨by simpa using hl, hm, .inr ⟨b, off, rfl, fun i p hp j v hj => ?_⟩⟩, ?_⟩
      · obtain ⟨h1, rfl⟩ := hget i p hp
        obtain ⟨_, hc⟩ := hfam i h1
        obtain ⟨_, _, hcell⟩ := World.cells?_some hc
        rw [Addr.add_mid] at hcell
        have hj2 : j < 7 := by
          have := (Array.getElem?_eq_some_iff.1 hj).1
          simpa using this
        have h2 := hcell j hj2
        rw [Addr.add_mid] at h2
        rw [h2]
        simpa using hj
      · intro m hm
        obtain ⟨i, hi⟩ := List.mem_iff_getElem?.1 hm
        obtain ⟨h1, rfl⟩ := hget i m hi
        exact (hfam i h1).1
end
end Go.Proofs.YtdmjcjheanedgaaDoor
namespace Go.Proofs.YtdmjcjheanedgaaDoor
open Go.RowKit Go.ChangeShapes Go.WideShapes Go.ChangeAt Go.Deep
/-- A slice of integers of one kind, to be read. -/
structure It (kd : IntKind) (w : World) (ao : Option Addr) (cap : Nat) (zs : List Int) : Prop where
  len : zs.length ≤ cap
  top : cap ≤ maxLen
  bare : ao = none → cap = 0
  wf : ∀ z ∈ zs, (Lit.int kd z).wf = true
  at' : zs = [] ∨ ∃ b off, ao = some ⟨b, off, none⟩ ∧ ∀ (i : Nat) (z : Int), zs[i]? = some z → w.cell? ⟨b, off + i, none⟩ = some (.int kd z)
theorem It.get {kd : IntKind} {w : World} {ao : Option Addr} {cap : Nat} {zs : List Int} (h : It kd w ao cap zs) {i : Nat} {z : Int} (hi : zs[i]? = some z) :
    ∃ b off, ao = some ⟨b, off, none⟩ ∧ ∀ w', Below w.heap.size w w' → w'.cell? ⟨b, off + i, none⟩ = some (.int kd z) := by
  rcases h.at' with h0 | ⟨b, off, ha, hl⟩
  · subst h0; simp at hi
  · have hc := hl i z hi
    have hlt : b < w.heap.size := World.block_lt_of_cell? w ⟨b, off + i, none⟩ hc
    exact ⟨b, off, ha, fun w' hb => (World.cell?_of_block (a := ⟨b, off + i, none⟩) (hb.block b hlt)).trans hc⟩
theorem It.nil (kd : IntKind) (w : World) : It kd w none 0 [] := ⟨Nat.le_refl _, Nat.zero_le _, fun _ => rfl, by simp, .inl rfl⟩
/-- What turns no cell of the slice's block. -/
theorem It.keep {kd : IntKind} {w w' : World} {ao : Option Addr} {cap : Nat} {zs : List Int} (h : It kd w ao cap zs) (hk : ∀ b off, ao = some ⟨b, off, none⟩ → w'.heap[b]? = w.heap[b]?) : It kd w' ao cap zs := by
  refine ⟨h.len, h.top, h.bare, h.wf, ?_⟩
  rcases h.at' with h0 | ⟨b, off, ha, hl⟩
  · exact .inl h0
  · exact .inr ⟨b, off, ha, fun i z hi => (World.cell?_of_block (a := ⟨b, off + i, none⟩) (hk b off ha)).trans (hl i z hi)⟩
theorem It.below {kd : IntKind} {w w' : World} {ao : Option Addr} {cap : Nat} {zs : List Int} (h : It kd w ao cap zs) (hb : Below w.heap.size w w') : It kd w' ao cap zs := by
  refine ⟨h.len, h.top, h.bare, h.wf, ?_⟩
  rcases h.at' with h0 | ⟨b, off, ha, hl⟩
  · exact .inl h0
  · refine .inr ⟨b, off, ha, fun i z hi => ?_⟩
    have hc := hl i z hi
    have hlt : b < w.heap.size := World.block_lt_of_cell? w ⟨b, off + i, none⟩ hc
    exact (World.cell?_of_block (a := ⟨b, off + i, none⟩) (hb.block b hlt)).trans hc
/-- All but the last ones. -/
theorem It.take {kd : IntKind} {w : World} {ao : Option Addr} {cap : Nat} {zs : List Int} (h : It kd w ao cap zs) (m : Nat) : It kd w ao cap (zs.take m) := by
  refine ⟨Nat.le_trans (List.length_take_le' _ _) h.len, h.top, h.bare, fun z hz => h.wf z (List.mem_of_mem_take hz), ?_⟩
  rcases h.at' with h0 | ⟨b, off, ha, hl⟩
  · exact .inl (by rw [h0]; simp)
  · refine .inr ⟨b, off, ha, fun i z hi => hl i z ?_⟩
    rw [List.getElem?_take] at hi
    split at hi
    · exact hi
    · cases hi
/-- What is owned is read. -/
theorem It.of_own {kd : IntKind} {E : TypeId} {w : World} {ko : Option Nat} {ao : Option Addr} {cap : Nat} {zs : List Int} (hw : ∀ z ∈ zs, (Lit.int kd z).wf = true) (h : OwG E 1 w ko ao cap zs.length (zs.map (Value.int kd))) : It kd w ao cap zs := by
  refine ⟨h.len, h.top, fun e => ?_, hw, ?_⟩
  · rcases h.at' with ⟨-, -, h0⟩ | ⟨k, cur, -, h1, -⟩
    · exact h0
    · rw [h1] at e; cases e
  · cases zs with
    | nil => exact .inl rfl
    | cons x t =>
      obtain ⟨k, _, hao, _, _⟩ := h.cell 0 (.int kd x) rfl
      refine .inr ⟨k, 0, hao, fun i z hi => ?_⟩
      obtain ⟨k2, _, hao2, hc, _⟩ := h.cell i (.int kd z) (by rw [List.getElem?_map, hi]; rfl)
      rw [hao] at hao2
      cases hao2
      rw [Nat.zero_add]
      exact hc
/-- It is appended elsewhere. -/
theorem It.src {kd : IntKind} {w : World} {ao : Option Addr} {cap : Nat} {zs : List Int} (h : It kd w ao cap zs) : SrcG 1 w ao cap zs.length (zs.map (Value.int kd)) := by
  refine ⟨by simp, fun u hu => ?_, ?_⟩
  · obtain ⟨z, -, rfl⟩ := List.mem_map.1 hu
    rfl
  · cases ao with
    | none => exact .inl ⟨rfl, h.bare rfl, by have := h.len; have := h.bare rfl; omega⟩
    | some a =>
      refine .inr ⟨a, rfl, fun j u hj => ?_⟩
      rw [List.getElem?_map, Option.map_eq_some_iff] at hj
      obtain ⟨z, hz, rfl⟩ := hj
      rcases h.at' with h0 | ⟨b, off, ha, hl⟩
      · rw [h0] at hz; simp at hz
      · cases ha
        rw [Addr.add_mid]
        exact hl j z hz
section
variable {H : Type} {enc' : TypeId × Value → H} {w : World} {base : Nat} {spare : Nat → Bool} {held : Bool}
end
end Go.Proofs.YtdmjcjheanedgaaDoor
namespace Go.Proofs.YtdmjcjheanedgaaDoor
open Go.RowKit
section
variable {α : Type} {E : TypeId} {sz : Nat} {enc : α → Array Value}
structure Gr (E : TypeId) (sz : Nat) (enc : α → Array Value) (V wr : World) (l : List α) (ko : Option Nat) (oc : Nat) (oo : Option Addr) : Prop where
  ow : OwG E sz wr ko oo oc l.length (l.flatMap fun m => (enc m).toList)
  own : ∀ k, ko = some k → V.heap.size ≤ k
  bel : Below V.heap.size V wr
theorem Gr.start (V : World) : Gr E sz enc V V [] none 0 none := ⟨OwG.nil _ _ _, fun k h => (by cases h), Below.refl _ _⟩
theorem Gr.call {V wr w2 : World} {l : List α} {ko : Option Nat} {oc : Nat} {oo : Option Addr} (h : Gr E sz enc V wr l ko oc oo) (hb : Below wr.heap.size wr w2) : Gr E sz enc V w2 l ko oc oo :=
  ⟨h.ow.below hb, h.own, h.bel.trans (hb.mono h.bel.size)⟩
theorem Gr.alloc {V wr : World} {l : List α} {ko : Option Nat} {oc : Nat} {oo : Option Addr} (h : Gr E sz enc V wr l ko oc oo) (o : Obj) : Gr E sz enc V (wr.alloc o) l ko oc oo := h.call ((Below.refl _ wr).alloc (Nat.le_refl _) o)
theorem Gr.app {V w2 w3 : World} {l : List α} {ko ko' : Option Nat} {oc oc' : Nat} {oo oo' : Option Addr} {m : α} (h : Gr E sz enc V w2 l ko oc oo)
    (ho : OwG E sz w3 ko' oo' oc' (l.length + 1) ((l.flatMap fun m => (enc m).toList) ++ (enc m).toList)) (hf : Frm (fun b => ko = some b) w2 w3) (hm : Moved w2 ko ko') : Gr E sz enc V w3 (l ++ [m]) ko' oc' oo' := by
  have hs := h.bel.size
  refine ⟨?_, ?_, h.bel.trans (hf.below hs h.own)⟩
  · rw [List.length_append, List.flatMap_append]
    simpa using ho
  · intro k hk
    rcases hm with h1 | h1 | ⟨k2, h1, h2⟩
    · rw [h1] at hk; cases hk
    · rw [h1] at hk; exact h.own k hk
    · rw [h1] at hk; cases hk; omega
/-- One struct that lies in a block of its own, as a slice of one. -/
theorem SrcG.row {w : World} {n : Nat} {T : TypeId} {cs : Array Value} (h : Blk w n T cs) (hs : cs.size = sz) (h1 : ∀ u ∈ cs.toList, u.oneCell' = true) : SrcG sz w (some ⟨n, 0, none⟩) 1 1 cs.toList := by
  refine ⟨by simp [hs], h1, .inr ⟨_, rfl, fun j u hj => ?_⟩⟩
  rw [Addr.add_mid, Nat.zero_add]
  exact h.cell_eq j u (by simpa using hj)
end
end Go.Proofs.YtdmjcjheanedgaaDoor
namespace Go.Proofs.YtdmjcjheanedgaaDoor
open Go.RowKit
def Goes (fn : Nat) : Prop := ∀ (args : Array Value) (w : World), (callFunc fn args).run Tryd.prog w = .ok (.enter fn args) w
theorem goes_of {fn : Nat} {f : Func} (h : Tryd.prog.funcs[fn]? = some f) (h1 : (f.name == "runtime.NumGoroutine") = false) (h2 : f.body.isNone = false) : Goes fn := by
  intro args w
  unfold callFunc
  simp [go_sem, h]
  rw [if_neg (fun e => by rw [e] at h1; cases h1), if_neg (fun e => by rw [e] at h2; cases h2)]
end Go.Proofs.YtdmjcjheanedgaaDoor
