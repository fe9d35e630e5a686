/-
  A slice of whatever elements that owns its row from a place on (OwD: it may have been cut in front), and append to it: for every element type. (OwG is the same from the row's begin.)
-/
import Derived.Test.YteljjjdejjkgfaaAppq
namespace Go.Proofs.Yteljjjdejjkgfaa
open Go.RowKit
/-- n elements of type E, sz cells each, the cells cs, in a row that the slice owns, from some place on; or it is nil. -/
structure OwD (E : TypeId) (sz : Nat) (w : World) (ko : Option Nat) (ao : Option Addr) (cap n : Nat) (cs : List Value) : Prop where
  cells : cs.length = n * sz
  len : n ≤ cap
  top : cap ≤ maxLen
  at' : (ko = none ∧ ao = none ∧ cap = 0) ∨ ∃ k cur d, ko = some k ∧ ao = some ⟨k, d, none⟩ ∧ w.heap[k]? = some (.cells cur E (0, 0)) ∧ d + cap * sz ≤ cur.size ∧ (cur.toList.drop d).take (n * sz) = cs
section
variable {E : TypeId} {sz : Nat} {w w' : World} {ko : Option Nat} {ao : Option Addr} {cap n : Nat} {cs : List Value}
theorem OwD.of_own (h : OwG E sz w ko ao cap n cs) : OwD E sz w ko ao cap n cs := by
  refine ⟨h.cells, h.len, h.top, ?_⟩
  rcases h.at' with h0 | ⟨k, cur, h1, h2, h3, h4, h5⟩
  · exact .inl h0
  · exact .inr ⟨k, cur, 0, h1, h2, h3, by omega, by simpa using h5⟩
theorem OwD.nil (E : TypeId) (sz : Nat) (w : World) : OwD E sz w none none 0 0 [] := OwD.of_own (OwG.nil _ _ _)
theorem OwD.lt {k : Nat} (h : OwD E sz w (some k) ao cap n cs) : k < w.heap.size := by
  rcases h.at' with ⟨h0, _⟩ | ⟨k', cur, d, hk, _, hc, _⟩
  · cases h0
  · cases hk; exact (Array.getElem?_eq_some_iff.1 hc).1
theorem OwD.keep (h : OwD E sz w ko ao cap n cs) (hk : ∀ k, ko = some k → w'.heap[k]? = w.heap[k]?) : OwD E sz w' ko ao cap n cs := by
  refine ⟨h.cells, h.len, h.top, ?_⟩
  rcases h.at' with h0 | ⟨k, cur, d, h1, h2, h3, h4⟩
  · exact .inl h0
  · exact .inr ⟨k, cur, d, h1, h2, (hk k h1).trans h3, h4⟩
theorem OwD.frm {S : Nat → Prop} (h : OwD E sz w ko ao cap n cs) (hf : Frm S w w') (hk : ∀ k, ko = some k → ¬ S k) : OwD E sz w' ko ao cap n cs := h.keep fun k e => by
  subst e
  exact hf.block k h.lt (hk k rfl)
theorem OwD.below (h : OwD E sz w ko ao cap n cs) (hf : Below w.heap.size w w') : OwD E sz w' ko ao cap n cs := h.frm (Frm.of_below (S := fun _ => False) hf) (fun _ _ f => f)
/-- A cell of what is owned. -/
theorem OwD.cell (h : OwD E sz w ko ao cap n cs) (j : Nat) (v : Value) (hj : cs[j]? = some v) : ∃ k d, ko = some k ∧ ao = some ⟨k, d, none⟩ ∧ w.cell? ⟨k, d + j, none⟩ = some v ∧ w.frozen? ⟨k, d + j, none⟩ = false := by
  rcases h.at' with ⟨_, _, h0⟩ | ⟨k, cur, d, h1, h2, h3, h4, h5⟩
  · have hl := h.len
    have hc := h.cells
    have : cs = [] := List.eq_nil_of_length_eq_zero (by rw [hc, show n = 0 by omega, Nat.zero_mul])
    rw [this] at hj; simp at hj
  · refine ⟨k, d, h1, h2, ?_, by simp [World.frozen?, h3]⟩
    rw [cell_of_row w k _ cur E (0, 0) h3]
    rw [← h5, List.getElem?_take] at hj
    split at hj
    · simpa using hj
    · cases hj
/-- What is owned, appended elsewhere. -/
theorem OwD.src (h : OwD E sz w ko ao cap n cs) (h1 : ∀ u ∈ cs, u.oneCell' = true) : SrcG sz w ao cap n cs := by
  refine ⟨h.cells, h1, ?_⟩
  rcases h.at' with ⟨_, h0, hc⟩ | ⟨k, cur, d, e1, e2, _⟩
  · exact .inl ⟨h0, hc, by have := h.len; omega⟩
  · refine .inr ⟨_, e2, fun j u hj => ?_⟩
    obtain ⟨k', d', ek, ea, hc, _⟩ := h.cell j u hj
    rw [e2] at ea
    cases ea
    rw [Addr.add_mid]
    exact hc
/-- What is cut in front. -/
theorem OwD.cut (h : OwD E sz w ko ao cap n cs) {m : Nat} (hm : m ≤ n) {ao' : Option Addr} {cap' : Nat} (hc : cap' = cap - m) (ha : (ko = none ∧ ao' = none) ∨ ∃ k d, ko = some k ∧ ao = some ⟨k, d, none⟩ ∧ (ao' = some ⟨k, d + m * sz, none⟩ ∨ (cap' = 0 ∧ ao' = some ⟨k, d, none⟩))) : OwD E sz w ko ao' cap' (n - m) (cs.drop (m * sz)) := by
  have hl := h.len
  have hx := h.cells
  have ht := h.top
  refine ⟨by rw [List.length_drop, hx, ← Nat.sub_mul], by omega, by omega, ?_⟩
  rcases ha with ⟨e1, e2⟩ | ⟨k, d, e1, e2, e3⟩
  · rcases h.at' with ⟨_, _, h0⟩ | ⟨k, cur, d, h1, _⟩
    · exact .inl ⟨e1, e2, by omega⟩
    · rw [e1] at h1; cases h1
  · rcases h.at' with ⟨h0, _⟩ | ⟨k', cur, d', h1, h2, h3, h4, h5⟩
    · rw [e1] at h0; cases h0
    · rw [e1] at h1; cases h1
      rw [e2] at h2; cases h2
      have hdrop : List.take ((n - m) * sz) (List.drop (m * sz) (List.drop d cur.toList)) = List.drop (m * sz) cs := by
        rw [← h5, List.drop_take, Nat.sub_mul]
      have hsz : m * sz + cap' * sz = cap * sz := by rw [← Nat.add_mul]; congr 1; omega
      rcases e3 with e3 | ⟨e3, e4⟩
      · refine .inr ⟨k, cur, d + m * sz, e1, e3, h3, by omega, ?_⟩
        rw [← List.drop_drop]
        exact hdrop
      · have e5 : n - m = 0 := by omega
        rw [e5, Nat.zero_mul]
        refine .inr ⟨k, cur, d, e1, e4, h3, by rw [e3, Nat.zero_mul]; omega, ?_⟩
        rw [e5, Nat.zero_mul] at hdrop
        simpa using hdrop
end
section
variable {P : Program} {T E : TypeId} {i : TypeInfo} {z : Value} {sz by' : Nat} {w : World} {ko : Option Nat} {ao bo : Option Addr} {cap n c m : Nat} {cs ns : List Value}
theorem run_append_roomD (w : World) (t ty e : TypeId) (i : TypeInfo) (ht : P.underlying t = some (.slice e)) (hi : P.info? e = some i)
    (g d sLen sCap : Nat) (cur : Array Value) (hg : w.heap[g]? = some (.cells cur e (0, 0)))
    (a : Addr) (m c : Nat) (news : List Value) (hl : news.length = m * i.size) (hnews : ∀ j u, news[j]? = some u → w.cell? (a.add j) = some u) (h1 : ∀ u ∈ news, u.oneCell' = true)
    (hroom : sLen + m ≤ sCap) (hfit : d + sLen * i.size + news.length ≤ cur.size) :
    (Builtin.append_ #[t, t] ty #[.slice (some ⟨g, d, none⟩) sLen sCap, .slice (some a) m c]).run P w =
      .ok (.slice (some ⟨g, d, none⟩) (sLen + m) sCap) (w.setRow g (cur.toList.take (d + sLen * i.size) ++ news ++ cur.toList.drop (d + sLen * i.size + news.length)).toArray) := by
  have hf := run_firstCells_some (P := P) w i.size m a m c news hl hnews
  have hst := run_storeCells_at P g (d + sLen * i.size) e news 0 cur w hg (by simpa using hfit) h1
  simp only [Nat.add_zero] at hst
  simp [Builtin.append_, run_underlying ht, sizeOf, typeInfo, hi, Builtin.lenOf, hroom, hf, Addr.add_mid, hst]
theorem run_appD (hT : P.underlying T = some (.slice E)) (hi : P.info? E = some i) (hz : i.zero = some z) (hs : i.size = sz) (hby : i.bytes = by') (hzs : z.cells.size = sz) (hsz : 0 < sz) (ty : TypeId)
    (how : OwD E sz w ko ao cap n cs) (hsrc : SrcG sz w bo c m ns) (hsum : n + m ≤ 1073741824) (hbytes : (n + m) * by' ≤ 140737488355328) :
    ∃ ao' cap' ko' w', (Builtin.append_ #[T, T] ty #[.slice ao n cap, .slice bo m c]).run P w = .ok (.slice ao' (n + m) cap') w' ∧ OwD E sz w' ko' ao' cap' (n + m) (cs ++ ns) ∧ Frm (fun b => ko = some b) w w' ∧ Moved w ko ko' := by
  have hmx : (1073741824 : Nat) ≤ maxLen := by unfold maxLen; omega
  have hcl : (cs ++ ns).length = (n + m) * sz := by rw [List.length_append, how.cells, hsrc.cells, Nat.add_mul]
  rcases how.at' with h0 | ⟨k, cur, d, rfl, rfl, h3, h4, h5⟩
  · obtain ⟨ao', cap', ko', w', g1, g2, g3⟩ := run_appG hT hi hz hs hby hzs hsz ty (w := w) (ko := ko) (ao := ao) (cap := cap) (n := n) (cs := cs) ⟨how.cells, how.len, how.top, .inl h0⟩ hsrc hsum hbytes
    exact ⟨ao', cap', ko', w', g1, .of_own g2, g3⟩
  subst hs
  subst hby
  rcases hsrc.at' with ⟨rfl, rfl, rfl⟩ | ⟨a, rfl, hnews⟩
  · have hn0 : ns = [] := List.eq_nil_of_length_eq_zero (by rw [hsrc.cells, Nat.zero_mul])
    subst hn0
    refine ⟨_, cap, some k, w, ?_, by simpa using how, Frm.refl _ _, .inr (.inl rfl)⟩
    have hl := how.len
    simp [Builtin.append_, run_underlying hT, sizeOf, typeInfo, hi, Builtin.lenOf, Builtin.firstCells, hl, storeCells]
  · have newOw : ∀ (q : Nat), n + m ≤ q → q ≤ maxLen → ∀ y : List Value, y.length = (q - (n + m)) * i.size →
        OwG E i.size (w.drew.alloc (.cells (cs.toArray ++ ns.toArray ++ y.toArray) E)) (some w.heap.size) (some ⟨w.heap.size, 0, none⟩) q (n + m) (cs ++ ns) := by
      intro q h1 h2 y hy
      refine ⟨hcl, h1, h2, .inr ⟨_, _, rfl, rfl, heap_alloc_new w.drew _, ?_, ?_⟩⟩
      · have : (cs.toArray ++ ns.toArray ++ y.toArray).size = (cs ++ ns).length + y.length := by simp; omega
        rw [this, hcl, hy, ← Nat.add_mul]
        congr 1
        omega
      · rw [← hcl]
        simp only [Array.toList_append]
        exact List.take_left
    have zlen : ∀ q, (Builtin.zeroCells z.cells q).toList.length = q * i.size := by intro q; rw [Array.length_toList, size_zeroCells, hzs]
    by_cases hroom : n + m ≤ cap
    · have hfit : d + n * i.size + ns.length ≤ cur.size := by
        have : (n + m) * i.size ≤ cap * i.size := Nat.mul_le_mul_right _ hroom
        rw [hsrc.cells]
        rw [Nat.add_mul] at this
        omega
      have hr := run_append_roomD (P := P) w T ty E i hT hi k d n cap cur h3 a m c ns hsrc.cells hnews hsrc.one hroom hfit
      refine ⟨_, _, some k, _, hr, ⟨hcl, hroom, how.top, .inr ⟨k, _, d, rfl, rfl, setRow_heap w k cur _ E _ h3, ?_, ?_⟩⟩, ⟨rfl, rfl, rfl, by simp [World.setRow], fun b _ hb => setRow_other w k b _ (fun e => hb (by rw [e]))⟩, .inr (.inl rfl)⟩
      · simp only [List.size_toArray, List.length_append, List.length_take, List.length_drop, Array.length_toList]
        omega
      · have e1 : cur.toList.take (d + n * i.size) = cur.toList.take d ++ cs := by rw [List.take_add, h5]
        have e2 : (cur.toList.take d).length = d := by rw [List.length_take, Array.length_toList]; omega
        rw [e1, List.append_assoc, List.append_assoc, List.drop_left' e2, ← List.append_assoc, ← hcl]
        exact List.take_left
    · have hr := run_append_grow (P := P) w T ty E i z hT hi hz ⟨k, d, none⟩ n cap cs how.cells (fun j u hj => by
            obtain ⟨k', d', ek, ea, hc, _⟩ := how.cell j u hj
            cases ek
            cases ea
            rw [Addr.add_mid]
            exact hc) a m c ns hsrc.cells hnews (by omega) (by omega) (growslice_fits (by omega) hbytes)
      have hge := grownCap_ge w (n + m) cap E
      have hle := grownCap_le_maxLen w (n + m) cap E (by omega)
      have hno := newOw (grownCap w (n + m) cap E) hge hle _ (zlen (grownCap w (n + m) cap E - (n + m)))
      exact ⟨_, _, _, _, hr, .of_own (by simpa using hno), (Frm.refl _ w).drew.alloc _, .inr (.inr ⟨_, rfl, Nat.le_refl _⟩)⟩
variable {a : Act} {ops : Array Oper} {o : Oper} {Q : Exit → Act → World → Prop}
theorem wp_appD {K : Act → World → Prop} (hT : P.underlying T = some (.slice E)) (hi : P.info? E = some i) (hz : i.zero = some z) (hs : i.size = sz) (hby : i.bytes = by') (hzs : z.cells.size = sz) (hsz : 0 < sz) (s x : Operand)
    (ho : o.op = .call { callee := .builtin .append, args := #[s, x], argTypes := #[T, T] }) (how : OwD E sz w ko ao cap n cs) (hsrc : SrcG sz w bo c m ns)
    (hes : a.eval s = .slice ao n cap) (hex : a.eval x = .slice bo m c) (hsum : n + m ≤ 1073741824) (hbytes : (n + m) * by' ≤ 140737488355328)
    (h : ∀ ao' cap' ko' w', OwD E sz w' ko' ao' cap' (n + m) (cs ++ ns) → Frm (fun b => ko = some b) w w' → Moved w ko ko' → K (a.put o.dst (.slice ao' (n + m) cap')) w') : o.wp P a w K Q := by
  obtain ⟨ao', cap', ko', w', hr, h2, h3, h4⟩ := run_appD hT hi hz hs hby hzs hsz o.type how hsrc hsum hbytes
  unfold Oper.wp execOp
  simp only [ho, resolve, invoke, builtin, Sem.run_bind, Sem.run_pure, Result.andThen_ok, List.map_toArray, List.map_cons, List.map_nil, hes, hex, hr]
  exact h _ _ _ _ h2 h3 h4
theorem step_appD {K : Act → World → Prop} {X : Prop} (hgd : o.guard = none) (s x : Operand) (T E : TypeId) (i : TypeInfo) (z : Value) (sz by' : Nat) (hT : P.underlying T = some (.slice E)) (hi : P.info? E = some i) (hz : i.zero = some z) (hs : i.size = sz) (hby : i.bytes = by') (hzs : z.cells.size = sz) (hsz : 0 < sz)
    (ho : o.op = .call { callee := .builtin .append, args := #[s, x], argTypes := #[T, T] }) (how : OwD E sz w ko ao cap n cs) (hsrc : SrcG sz w bo c m ns)
    (hes : a.eval s = .slice ao n cap) (hex : a.eval x = .slice bo m c) (hsum : n + m ≤ 1073741824) (hbytes : (n + m) * by' ≤ 140737488355328)
    (h : ∀ ao' cap' ko' w', OwD E sz w' ko' ao' cap' (n + m) (cs ++ ns) → Frm (fun b => ko = some b) w w' → Moved w ko ko' → K (a.put o.dst (.slice ao' (n + m) cap')) w') :
    if Region.wanted o (yielded ops a.tmps) = true then Oper.wp P o a w K Q else X := by
  have hw : Region.wanted o (yielded ops a.tmps) = true := by simp [Region.wanted, hgd]
  rw [if_pos hw]
  exact wp_appD hT hi hz hs hby hzs hsz s x ho how hsrc hes hex hsum hbytes h
theorem wpList_appD {rest : List Oper} (hgd : o.guard = none) (s x : Operand) (T E : TypeId) (i : TypeInfo) (z : Value) (sz by' : Nat) (hT : P.underlying T = some (.slice E)) (hi : P.info? E = some i) (hz : i.zero = some z) (hs : i.size = sz) (hby : i.bytes = by') (hzs : z.cells.size = sz) (hsz : 0 < sz)
    (ho : o.op = .call { callee := .builtin .append, args := #[s, x], argTypes := #[T, T] }) (how : OwD E sz w ko ao cap n cs) (hsrc : SrcG sz w bo c m ns)
    (hes : a.eval s = .slice ao n cap) (hex : a.eval x = .slice bo m c) (hsum : n + m ≤ 1073741824) (hbytes : (n + m) * by' ≤ 140737488355328)
    (h : ∀ ao' cap' ko' w', OwD E sz w' ko' ao' cap' (n + m) (cs ++ ns) → Frm (fun b => ko = some b) w w' → Moved w ko ko' → wpList P ops Q rest (a.put o.dst (.slice ao' (n + m) cap')) w') : wpList P ops Q (o :: rest) a w :=
  wpList_plain hgd fun _ hK => wp_appD hT hi hz hs hby hzs hsz s x ho how hsrc hes hex hsum hbytes fun _ _ _ _ h2 h3 h4 => hK _ _ (h _ _ _ _ h2 h3 h4)
end
end Go.Proofs.Yteljjjdejjkgfaa
