/-
  What join makes of links and ends; pushing and removing by it. (No Go text.)
-/
import Derived.Test.YtipmhialflincaaDoorFil
namespace Go.Proofs.YtipmhialflincaaDoor
/-- What join makes of the links, of the ends. -/
def jK1 (K : List Lk) (p x : Int) : List Lk := if p = -1 then K else K.modify p.toNat fun k => ⟨k.q, k.p, x⟩
def jK2 (K : List Lk) (p x : Int) : List Lk := if x = -1 then K else K.modify x.toNat fun k => ⟨k.q, p, k.x⟩
def jE1 (E : List En) (i : Nat) (p x : Int) : List En := if p = -1 then E.modify i fun e => ⟨x, e.l⟩ else E
def jE2 (E : List En) (i : Nat) (p x : Int) : List En := if x = -1 then E.modify i fun e => ⟨e.f, p⟩ else E
theorem mod_set {α : Type} {l : List α} {i : Nat} {a : α} (f : α → α) (h : l[i]? = some a) : l.modify i f = l.set i (f a) := by
  apply List.ext_getElem?
  intro j
  rw [List.getElem?_modify, List.getElem?_set]
  by_cases e : i = j
  · subst e
    have hl := (List.getElem?_eq_some_iff.1 h).1
    rw [List.getElem?_eq_getElem hl] at h
    simp [hl]
    cases h
    rfl
  · simp [e]
theorem jK1_len (K : List Lk) (p x : Int) : (jK1 K p x).length = K.length := by unfold jK1; split <;> simp
theorem jK2_len (K : List Lk) (p x : Int) : (jK2 K p x).length = K.length := by unfold jK2; split <;> simp
theorem jE1_len (E : List En) (i : Nat) (p x : Int) : (jE1 E i p x).length = E.length := by unfold jE1; split <;> simp
theorem jE2_len (E : List En) (i : Nat) (p x : Int) : (jE2 E i p x).length = E.length := by unfold jE2; split <;> simp
/-- A number that is a node's, or none. -/
def Nn (n : Nat) (p : Int) : Prop := p = -1 ∨ ∃ x : Nat, p = (x : Int) ∧ x < n
theorem jK1_get (K : List Lk) (p x : Int) (hp : p = -1 ∨ 0 ≤ p) (y : Nat) : (jK1 K p x)[y]? = if (y : Int) = p then K[y]?.map (fun k => ⟨k.q, k.p, x⟩) else K[y]? := by
  unfold jK1
  split
  · rename_i h
    rw [if_neg (by omega)]
  · rename_i h
    rw [List.getElem?_modify]
    by_cases e : p.toNat = y
    · rw [if_pos (show (y : Int) = p by omega)]
      cases K[y]? <;> simp [e]
    · rw [if_neg (show ¬ (y : Int) = p by omega)]
      cases K[y]? <;> simp [e]
theorem jK2_get (K : List Lk) (p x : Int) (hp : x = -1 ∨ 0 ≤ x) (y : Nat) : (jK2 K p x)[y]? = if (y : Int) = x then K[y]?.map (fun k => ⟨k.q, p, k.x⟩) else K[y]? := by
  unfold jK2
  split
  · rename_i h
    rw [if_neg (by omega)]
  · rename_i h
    rw [List.getElem?_modify]
    by_cases e : x.toNat = y
    · rw [if_pos (show (y : Int) = x by omega)]
      cases K[y]? <;> simp [e]
    · rw [if_neg (show ¬ (y : Int) = x by omega)]
      cases K[y]? <;> simp [e]
theorem jE1_get (E : List En) (i : Nat) (p x : Int) (j : Nat) : (jE1 E i p x)[j]? = if j = i ∧ p = -1 then E[j]?.map (fun e => ⟨x, e.l⟩) else E[j]? := by
  unfold jE1
  by_cases h : p = -1
  · rw [if_pos h, List.getElem?_modify]
    by_cases e : i = j
    · rw [if_pos ⟨e.symm, h⟩]
      cases E[j]? <;> simp [e]
    · rw [if_neg (fun k => e k.1.symm)]
      cases E[j]? <;> simp [e]
  · rw [if_neg h, if_neg (fun k => h k.2)]
theorem jE2_get (E : List En) (i : Nat) (p x : Int) (j : Nat) : (jE2 E i p x)[j]? = if j = i ∧ x = -1 then E[j]?.map (fun e => ⟨e.f, p⟩) else E[j]? := by
  unfold jE2
  by_cases h : x = -1
  · rw [if_pos h, List.getElem?_modify]
    by_cases e : i = j
    · rw [if_pos ⟨e.symm, h⟩]
      cases E[j]? <;> simp [e]
    · rw [if_neg (fun k => e k.1.symm)]
      cases E[j]? <;> simp [e]
  · rw [if_neg h, if_neg (fun k => h k.2)]
theorem nt_sign (q : List Nat) (k : Nat) : nt q k = -1 ∨ 0 ≤ nt q k := by
  rcases nt_cases q k with ⟨h, -⟩ | ⟨y, h, -⟩
  · exact .inl h
  · exact .inr (by omega)
theorem pr_sign (q : List Nat) (k : Nat) : pr q k = -1 ∨ 0 ≤ pr q k := by
  cases k with
  | zero => exact .inl rfl
  | succ k => exact nt_sign q k
theorem Fqp.nn_nt {K : List Lk} {E : List En} {Z : List Int} {s : Fq} (h : Fqp K E Z s) {i : Nat} {q : List Nat} (hi : s.L[i]? = some q) (k : Nat) : Nn K.length (nt q k) := by
  rcases nt_cases q k with ⟨e, -⟩ | ⟨y, e, hy⟩
  · exact .inl e
  · exact .inr ⟨y, e, by rw [h.lk]; exact h.wf.lt y i k ⟨q, hi, hy⟩⟩
theorem Fqp.nn_pr {K : List Lk} {E : List En} {Z : List Int} {s : Fq} (h : Fqp K E Z s) {i : Nat} {q : List Nat} (hi : s.L[i]? = some q) (k : Nat) : Nn K.length (pr q k) := by
  cases k with
  | zero => exact .inl rfl
  | succ k => exact h.nn_nt hi k
theorem Fqp.pushJ {K : List Lk} {E : List En} {Z : List Int} {s : Fq} (h : Fqp K E Z s) {i x : Nat} {q : List Nat} (hi : s.L[i]? = some q) (hx : x < s.n) (hn : ∀ j m, ¬ s.At x j m) :
    Fqp (jK2 (jK1 (jK2 (jK1 (K.set x ⟨(i : Int), -1, -1⟩) (pr q q.length) (x : Int)) (pr q q.length) (x : Int)) (x : Int) (-1)) (x : Int) (-1))
      (jE2 (jE1 (jE2 (jE1 E i (pr q q.length) (x : Int)) i (pr q q.length) (x : Int)) i (x : Int) (-1)) i (x : Int) (-1)) (Z.set i ((q.length : Int) + 1)) (s.put i (q ++ [x])) := by
  have hl := (List.getElem?_eq_some_iff.1 hi).1
  have hxK : x < K.length := by rw [h.lk]; exact hx
  have hpx : ¬ (x : Int) = pr q q.length := by
    intro e
    obtain ⟨m, -, hm⟩ := pr_iff.1 e.symm
    exact hn i m ⟨q, hi, hm⟩
  have hp0 : pr q q.length = -1 ↔ q.length = 0 := by
    constructor
    · intro e
      rcases pr_cases q q.length (Nat.le_refl _) with ⟨-, h0⟩ | ⟨j, y, -, h1, -⟩
      · exact h0
      · omega
    · intro e; rw [e]; rfl
  have hps := pr_sign q q.length
  refine h.push hi hx hn (by simp [jK1_len, jK2_len]) (by simp [jE1_len, jE2_len]) (by simp) (fun y => ?_) (fun j => ?_) (fun j => ?_)
  · rw [jK2_get _ _ _ (.inl rfl), if_neg (by omega), jK1_get _ _ _ (.inr (by omega)), jK2_get _ _ _ (.inr (by omega)), jK1_get _ _ _ hps, List.getElem?_set]
    by_cases e : y = x
    · subst e
      rw [if_pos rfl, if_pos rfl, if_pos rfl, if_pos rfl, if_neg hpx, if_pos hxK]
      rfl
    · rw [if_neg (show ¬ (y : Int) = (x : Int) by omega), if_neg (show ¬ (y : Int) = (x : Int) by omega), if_neg (show ¬ x = y from fun k => e k.symm), if_neg e]
  · rw [jE2_get, jE1_get, jE2_get, jE1_get]
    by_cases e : j = i
    · subst e
      rw [if_pos ⟨rfl, rfl⟩, if_neg (by omega), if_neg (by omega), if_pos rfl, h.en j q hi]
      by_cases h0 : q.length = 0
      · rw [if_pos ⟨rfl, hp0.2 h0⟩, if_pos h0]; rfl
      · rw [if_neg (fun k => h0 (hp0.1 k.2)), if_neg h0]; rfl
    · rw [if_neg (fun k => e k.1), if_neg (fun k => e k.1), if_neg (fun k => e k.1), if_neg (fun k => e k.1), if_neg e]
  · rw [List.getElem?_set]
    by_cases e : j = i
    · subst e
      rw [if_pos rfl, if_pos (by rw [h.lz]; exact hl), if_pos rfl]
    · rw [if_neg (fun k => e k.symm), if_neg e]
theorem Fqp.remJ {K : List Lk} {E : List En} {Z : List Int} {s : Fq} (h : Fqp K E Z s) {i x k : Nat} {q : List Nat} (hi : s.L[i]? = some q) (hx : q[k]? = some x) :
    Fqp ((jK2 (jK1 K (pr q k) (nt q (k + 1))) (pr q k) (nt q (k + 1))).set x ⟨-1, -1, -1⟩) (jE2 (jE1 E i (pr q k) (nt q (k + 1))) i (pr q k) (nt q (k + 1))) (Z.set i ((q.length : Int) - 1)) (s.put i (q.eraseIdx k)) := by
  have hl := (List.getElem?_eq_some_iff.1 hi).1
  have hk := (List.getElem?_eq_some_iff.1 hx).1
  have hxK : x < K.length := by rw [h.lk]; exact h.wf.lt x i k ⟨q, hi, hx⟩
  have hp0 : pr q k = -1 ↔ k = 0 := by
    constructor
    · intro e
      rcases pr_cases q k (by omega) with ⟨-, h0⟩ | ⟨j, y, -, h1, -⟩
      · exact h0
      · omega
    · intro e; rw [e]; rfl
  have hn0 : nt q (k + 1) = -1 ↔ k + 1 = q.length := by
    rw [nt_neg]; omega
  have hne : ∀ y : Nat, (y : Int) = pr q k → (y : Int) = nt q (k + 1) → False := by
    intro y e1 e2
    obtain ⟨j, hj, hy⟩ := pr_iff.1 e1.symm
    have := (h.wf.uni y i j i (k + 1) ⟨q, hi, hy⟩ ⟨q, hi, nt_iff.1 e2.symm⟩).2
    omega
  have hps := pr_sign q k
  have hns := nt_sign q (k + 1)
  refine h.rem hi hx (by simp [jK1_len, jK2_len]) (by simp [jE1_len, jE2_len]) (by simp) (fun y => ?_) (fun j => ?_) (fun j => ?_)
  · rw [List.getElem?_set, jK2_get _ _ _ hns, jK1_get _ _ _ hps]
    by_cases e : y = x
    · subst e
      rw [if_pos rfl, if_pos (by simp [jK1_len, jK2_len]; exact hxK), if_pos rfl]
    · rw [if_neg (fun k => e k.symm), if_neg e]
      by_cases e1 : (y : Int) = pr q k
      · rw [if_neg (hne y e1), if_pos e1, if_pos e1]
      · rw [if_neg e1, if_neg e1]
  · rw [jE2_get, jE1_get]
    by_cases e : j = i
    · subst e
      rw [if_pos rfl, h.en j q hi]
      by_cases h0 : k = 0 <;> by_cases h1 : k + 1 = q.length
      · rw [if_pos ⟨rfl, hn0.2 h1⟩, if_pos ⟨rfl, hp0.2 h0⟩, if_pos h0, if_pos h1]
        simp [h0]
      · rw [if_neg (fun k => h1 (hn0.1 k.2)), if_pos ⟨rfl, hp0.2 h0⟩, if_pos h0, if_neg h1]
        simp [h0]
      · rw [if_pos ⟨rfl, hn0.2 h1⟩, if_neg (fun k => h0 (hp0.1 k.2)), if_neg h0, if_pos h1]
        rfl
      · rw [if_neg (fun k => h1 (hn0.1 k.2)), if_neg (fun k => h0 (hp0.1 k.2)), if_neg h0, if_neg h1]
    · rw [if_neg (fun k => e k.1), if_neg (fun k => e k.1), if_neg e]
  · rw [List.getElem?_set]
    by_cases e : j = i
    · subst e
      rw [if_pos rfl, if_pos (by rw [h.lz]; exact hl), if_pos rfl]
    · rw [if_neg (fun k => e k.symm), if_neg e]
end Go.Proofs.YtipmhialflincaaDoor
