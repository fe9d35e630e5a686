/-
  A slice of whatever elements that owns its row (OwG; the row's block as an Option: a nil slice has none), and append to it: for every element type.
-/
import Derived.Test.YteljjjdejjkgfaaBytq
namespace Go.Proofs.Yteljjjdejjkgfaa
open Go.RowKit

/-- What a change of an owner does to its row's number. -/
def Moved (w : World) (ko ko' : Option Nat) : Prop := ko' = none ∨ ko' = ko ∨ ∃ k, ko' = some k ∧ w.heap.size ≤ k
/-- n elements of type E, sz cells each, the cells cs, in a row that the slice owns; or it is nil. -/
structure OwG (E : TypeId) (sz : Nat) (w : World) (ko : Option Nat) (ao : Option Addr) (cap n : Nat) (cs : List Value) : Prop where
  cells : cs.length = n * sz
  len : n ≤ cap
  top : cap ≤ maxLen
  at' : (ko = none ∧ ao = none ∧ cap = 0) ∨ ∃ k cur, ko = some k ∧ ao = some ⟨k, 0, none⟩ ∧ w.heap[k]? = some (.cells cur E (0, 0)) ∧ cur.size = cap * sz ∧ cur.toList.take (n * sz) = cs
/-- What is appended: m elements, the cells ns. -/
structure SrcG (sz : Nat) (w : World) (bo : Option Addr) (c m : Nat) (ns : List Value) : Prop where
  cells : ns.length = m * sz
  one : ∀ u ∈ ns, u.oneCell' = true
  at' : (bo = none ∧ c = 0 ∧ m = 0) ∨ ∃ a, bo = some a ∧ ∀ j u, ns[j]? = some u → w.cell? (a.add j) = some u
section
variable {E : TypeId} {sz : Nat} {w w' : World} {ko : Option Nat} {ao : Option Addr} {cap n : Nat} {cs : List Value}
theorem OwG.nil (E : TypeId) (sz : Nat) (w : World) : OwG E sz w none none 0 0 [] := ⟨by simp, Nat.le_refl _, Nat.zero_le _, .inl ⟨rfl, rfl, rfl⟩⟩
theorem OwG.lt {k : Nat} (h : OwG E sz w (some k) ao cap n cs) : k < w.heap.size := by
  rcases h.at' with ⟨h0, _⟩ | ⟨k', cur, hk, _, hc, _⟩
  · cases h0
  · cases hk; exact (Array.getElem?_eq_some_iff.1 hc).1
theorem OwG.keep (h : OwG E sz w ko ao cap n cs) (hk : ∀ k, ko = some k → w'.heap[k]? = w.heap[k]?) : OwG E sz w' ko ao cap n cs := by
  refine ⟨h.cells, h.len, h.top, ?_⟩
  rcases h.at' with h0 | ⟨k, cur, h1, h2, h3, h4⟩
  · exact .inl h0
  · exact .inr ⟨k, cur, h1, h2, (hk k h1).trans h3, h4⟩
theorem OwG.frm {S : Nat → Prop} (h : OwG E sz w ko ao cap n cs) (hf : Frm S w w') (hk : ∀ k, ko = some k → ¬ S k) : OwG E sz w' ko ao cap n cs := h.keep fun k e => by
  subst e
  exact hf.block k h.lt (hk k rfl)
theorem OwG.below (h : OwG E sz w ko ao cap n cs) (hf : Below w.heap.size w w') : OwG E sz w' ko ao cap n cs := h.frm (Frm.of_below (S := fun _ => False) hf) (fun _ _ f => f)
theorem OwG.alloc (h : OwG E sz w ko ao cap n cs) (o : Obj) : OwG E sz (w.alloc o) ko ao cap n cs := h.frm (S := fun _ => False) ((Frm.refl _ w).alloc o) (fun _ _ f => f)
theorem OwG.drew (h : OwG E sz w ko ao cap n cs) : OwG E sz w.drew ko ao cap n cs := h.keep fun _ _ => rfl
/-- A cell of what is owned. -/
theorem OwG.cell (h : OwG E sz w ko ao cap n cs) (j : Nat) (v : Value) (hj : cs[j]? = some v) : ∃ k, ko = some k ∧ ao = some ⟨k, 0, none⟩ ∧ w.cell? ⟨k, j, none⟩ = some v ∧ w.frozen? ⟨k, j, none⟩ = false := by
  rcases h.at' with ⟨_, _, h0⟩ | ⟨k, cur, h1, h2, h3, h4, h5⟩
  · have hl := h.len
    have hc := h.cells
    have : cs = [] := List.eq_nil_of_length_eq_zero (by rw [hc, show n = 0 by omega, Nat.zero_mul])
    rw [this] at hj; simp at hj
  · refine ⟨k, h1, h2, ?_, by simp [World.frozen?, h3]⟩
    rw [cell_of_row w k j cur E (0, 0) h3]
    rw [← h5, List.getElem?_take] at hj
    split at hj
    · simpa using hj
    · cases hj
theorem SrcG.nil (sz : Nat) (w : World) : SrcG sz w none 0 0 [] := ⟨by simp, by simp, .inl ⟨rfl, rfl, rfl⟩⟩
/-- One element that is one cell, laid in a block of its own. -/
theorem SrcG.one1 (w : World) (v : Value) (hv : v.oneCell' = true) (t : TypeId) : SrcG 1 (w.alloc (.cells #[v] t)) (some ⟨w.heap.size, 0, none⟩) 1 1 [v] :=
  ⟨rfl, by simpa using hv, .inr ⟨_, rfl, fun j u hj => by
    match j, hj with
    | 0, hj => simp at hj; subst hj; rw [Addr.add_mid]; exact (Blk.new w t #[v]).cell_eq 0 _ rfl⟩⟩
/-- What is owned, appended elsewhere. -/
theorem OwG.src (h : OwG E sz w ko ao cap n cs) (h1 : ∀ u ∈ cs, u.oneCell' = true) : SrcG sz w ao cap n cs := by
  refine ⟨h.cells, h1, ?_⟩
  rcases h.at' with ⟨_, h0, hc⟩ | ⟨k, cur, e1, e2, _⟩
  · exact .inl ⟨h0, hc, by have := h.len; omega⟩
  · refine .inr ⟨_, e2, fun j u hj => ?_⟩
    obtain ⟨k', ek, ea, hc, _⟩ := h.cell j u hj
    rw [e2] at ea
    cases ea
    rw [Addr.add_mid, Nat.zero_add]
    exact hc
end
section
variable {P : Program} {T E : TypeId} {i : TypeInfo} {z : Value} {sz by' : Nat} {w : World} {ko : Option Nat} {ao bo : Option Addr} {cap n c m : Nat} {cs ns : List Value}
theorem run_appG (hT : P.underlying T = some (.slice E)) (hi : P.info? E = some i) (hz : i.zero = some z) (hs : i.size = sz) (hby : i.bytes = by') (hzs : z.cells.size = sz) (hsz : 0 < sz) (ty : TypeId)
    (how : OwG E sz w ko ao cap n cs) (hsrc : SrcG sz w bo c m ns) (hsum : n + m ≤ 1073741824) (hbytes : (n + m) * by' ≤ 140737488355328) :
    ∃ ao' cap' ko' w', (Builtin.append_ #[T, T] ty #[.slice ao n cap, .slice bo m c]).run P w = .ok (.slice ao' (n + m) cap') w' ∧ OwG E sz w' ko' ao' cap' (n + m) (cs ++ ns) ∧ Frm (fun b => ko = some b) w w' ∧ Moved w ko ko' := by
  have hmx : (1073741824 : Nat) ≤ maxLen := by unfold maxLen; omega
  have hcl : (cs ++ ns).length = (n + m) * sz := by rw [List.length_append, how.cells, hsrc.cells, Nat.add_mul]
  subst hs
  subst hby
  rcases hsrc.at' with ⟨rfl, rfl, rfl⟩ | ⟨a, rfl, hnews⟩
  · have hn0 : ns = [] := List.eq_nil_of_length_eq_zero (by rw [hsrc.cells, Nat.zero_mul])
    subst hn0
    refine ⟨ao, cap, ko, w, ?_, by simpa using how, Frm.refl _ _, .inr (.inl rfl)⟩
    rcases how.at' with ⟨_, rfl, rfl⟩ | ⟨k, cur, _, rfl, h3, h4, h5⟩
    · have hl := how.len
      have e : n = 0 := by omega
      subst e
      simp [Builtin.append_, run_underlying hT, sizeOf, typeInfo, hi, Builtin.lenOf, Builtin.firstCells]
    · have hl := how.len
      simp [Builtin.append_, run_underlying hT, sizeOf, typeInfo, hi, Builtin.lenOf, Builtin.firstCells, hl, storeCells]
  · have newOw : ∀ (q : Nat), n + m ≤ q → q ≤ maxLen → ∀ y : List Value, y.length = (q - (n + m)) * i.size →
        OwG E i.size (w.drew.alloc (.cells (cs.toArray ++ ns.toArray ++ y.toArray) E)) (some w.heap.size) (some ⟨w.heap.size, 0, none⟩) q (n + m) (cs ++ ns) := by
      intro q h1 h2 y hy
      refine ⟨hcl, h1, h2, .inr ⟨_, _, rfl, rfl, heap_alloc_new w.drew _, ?_, ?_⟩⟩
      · have : (cs.toArray ++ ns.toArray ++ y.toArray).size = (cs ++ ns).length + y.length := by simp; omega
        rw [this, hcl, hy, ← Nat.add_mul]
        congr 1
        omega
      · rw [← hcl]
        simp only [Array.toList_append]
        exact List.take_left
    have zlen : ∀ q, (Builtin.zeroCells z.cells q).toList.length = q * i.size := by intro q; rw [Array.length_toList, size_zeroCells, hzs]
    rcases how.at' with ⟨rfl, rfl, rfl⟩ | ⟨k, cur, rfl, rfl, h3, h4, h5⟩
    · have hl := how.len
      have e : n = 0 := by omega
      subst e
      have hc0 : cs = [] := List.eq_nil_of_length_eq_zero (by rw [how.cells, Nat.zero_mul])
      subst hc0
      by_cases hm : m = 0
      · subst hm
        have hn0 : ns = [] := List.eq_nil_of_length_eq_zero (by rw [hsrc.cells, Nat.zero_mul])
        subst hn0
        refine ⟨none, 0, none, w, ?_, OwG.nil _ _ _, Frm.refl _ _, .inl rfl⟩
        simp [Builtin.append_, run_underlying hT, sizeOf, typeInfo, hi, Builtin.lenOf, Builtin.firstCells, loadCells, loadCellsFrom]
      · simp only [Nat.zero_add] at hsum hbytes newOw ⊢
        have hr := run_append_nil (P := P) w T ty E i z hT hi hz a m c ns hsrc.cells hnews (by omega) (by omega) (by omega)
        have hge := grownCap_ge w m 0 E
        have hle := grownCap_le_maxLen w m 0 E (by omega)
        have hno := newOw (grownCap w m 0 E) hge hle _ (zlen (grownCap w m 0 E - m))
        exact ⟨_, _, _, _, hr, by simpa using hno, (Frm.refl _ w).drew.alloc _, .inr (.inr ⟨_, rfl, Nat.le_refl _⟩)⟩
    · by_cases hroom : n + m ≤ cap
      · have hfit : n * i.size + ns.length ≤ cur.size := by rw [hsrc.cells, h4, ← Nat.add_mul]; exact Nat.mul_le_mul_right _ hroom
        have hr := run_append_room (P := P) w T ty E i hT hi k n cap cur h3 a m c ns hsrc.cells hnews hsrc.one hroom hfit
        refine ⟨_, _, some k, _, hr, ⟨hcl, hroom, how.top, .inr ⟨k, _, rfl, rfl, setRow_heap w k cur _ E _ h3, ?_, ?_⟩⟩, ⟨rfl, rfl, rfl, by simp [World.setRow], fun b _ hb => setRow_other w k b _ (fun e => hb (by rw [e]))⟩, .inr (.inl rfl)⟩
        · simp only [List.size_toArray, List.length_append, List.length_take, List.length_drop, Array.length_toList]
          omega
        · rw [h5, ← hcl]
          exact List.take_left
      · have hr := run_append_grow (P := P) w T ty E i z hT hi hz ⟨k, 0, none⟩ n cap cs how.cells (fun j u hj => by
            obtain ⟨k', ek, _, hc, _⟩ := how.cell j u hj
            cases ek
            rw [Addr.add_mid, Nat.zero_add]
            exact hc) a m c ns hsrc.cells hnews (by omega) (by omega) (growslice_fits (by omega) hbytes)
        have hge := grownCap_ge w (n + m) cap E
        have hle := grownCap_le_maxLen w (n + m) cap E (by omega)
        have hno := newOw (grownCap w (n + m) cap E) hge hle _ (zlen (grownCap w (n + m) cap E - (n + m)))
        exact ⟨_, _, _, _, hr, by simpa using hno, (Frm.refl _ w).drew.alloc _, .inr (.inr ⟨_, rfl, Nat.le_refl _⟩)⟩
variable {a : Act} {ops : Array Oper} {o : Oper} {Q : Exit → Act → World → Prop}
theorem wp_appG {K : Act → World → Prop} (hT : P.underlying T = some (.slice E)) (hi : P.info? E = some i) (hz : i.zero = some z) (hs : i.size = sz) (hby : i.bytes = by') (hzs : z.cells.size = sz) (hsz : 0 < sz) (s x : Operand)
    (ho : o.op = .call { callee := .builtin .append, args := #[s, x], argTypes := #[T, T] }) (how : OwG E sz w ko ao cap n cs) (hsrc : SrcG sz w bo c m ns)
    (hes : a.eval s = .slice ao n cap) (hex : a.eval x = .slice bo m c) (hsum : n + m ≤ 1073741824) (hbytes : (n + m) * by' ≤ 140737488355328)
    (h : ∀ ao' cap' ko' w', OwG E sz w' ko' ao' cap' (n + m) (cs ++ ns) → Frm (fun b => ko = some b) w w' → Moved w ko ko' → K (a.put o.dst (.slice ao' (n + m) cap')) w') : o.wp P a w K Q := by
  obtain ⟨ao', cap', ko', w', hr, h2, h3, h4⟩ := run_appG hT hi hz hs hby hzs hsz o.type how hsrc hsum hbytes
  unfold Oper.wp execOp
  simp only [ho, resolve, invoke, builtin, Sem.run_bind, Sem.run_pure, Result.andThen_ok, List.map_toArray, List.map_cons, List.map_nil, hes, hex, hr]
  exact h _ _ _ _ h2 h3 h4
theorem wpList_appG {rest : List Oper} (hgd : o.guard = none) (s x : Operand) (T E : TypeId) (i : TypeInfo) (z : Value) (sz by' : Nat) (hT : P.underlying T = some (.slice E)) (hi : P.info? E = some i) (hz : i.zero = some z) (hs : i.size = sz) (hby : i.bytes = by') (hzs : z.cells.size = sz) (hsz : 0 < sz)
    (ho : o.op = .call { callee := .builtin .append, args := #[s, x], argTypes := #[T, T] }) (how : OwG E sz w ko ao cap n cs) (hsrc : SrcG sz w bo c m ns)
    (hes : a.eval s = .slice ao n cap) (hex : a.eval x = .slice bo m c) (hsum : n + m ≤ 1073741824) (hbytes : (n + m) * by' ≤ 140737488355328)
    (h : ∀ ao' cap' ko' w', OwG E sz w' ko' ao' cap' (n + m) (cs ++ ns) → Frm (fun b => ko = some b) w w' → Moved w ko ko' → wpList P ops Q rest (a.put o.dst (.slice ao' (n + m) cap')) w') : wpList P ops Q (o :: rest) a w :=
  wpList_plain hgd fun _ hK => wp_appG hT hi hz hs hby hzs hsz s x ho how hsrc hes hex hsum hbytes fun _ _ _ _ h2 h3 h4 => hK _ _ (h _ _ _ _ h2 h3 h4)
theorem step_appG {K : Act → World → Prop} {X : Prop} (hgd : o.guard = none) (s x : Operand) (T E : TypeId) (i : TypeInfo) (z : Value) (sz by' : Nat) (hT : P.underlying T = some (.slice E)) (hi : P.info? E = some i) (hz : i.zero = some z) (hs : i.size = sz) (hby : i.bytes = by') (hzs : z.cells.size = sz) (hsz : 0 < sz)
    (ho : o.op = .call { callee := .builtin .append, args := #[s, x], argTypes := #[T, T] }) (how : OwG E sz w ko ao cap n cs) (hsrc : SrcG sz w bo c m ns)
    (hes : a.eval s = .slice ao n cap) (hex : a.eval x = .slice bo m c) (hsum : n + m ≤ 1073741824) (hbytes : (n + m) * by' ≤ 140737488355328)
    (h : ∀ ao' cap' ko' w', OwG E sz w' ko' ao' cap' (n + m) (cs ++ ns) → Frm (fun b => ko = some b) w w' → Moved w ko ko' → K (a.put o.dst (.slice ao' (n + m) cap')) w') :
    if Region.wanted o (yielded ops a.tmps) = true then Oper.wp P o a w K Q else X := by
  have hw : Region.wanted o (yielded ops a.tmps) = true := by simp [Region.wanted, hgd]
  rw [if_pos hw]
  exact wp_appG hT hi hz hs hby hzs hsz s x ho how hsrc hes hex hsum hbytes h
end
end Go.Proofs.Yteljjjdejjkgfaa
