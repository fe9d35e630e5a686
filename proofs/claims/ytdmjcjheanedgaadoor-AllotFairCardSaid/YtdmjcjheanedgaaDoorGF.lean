/-
  The contracts of package fifo's Of, Front, Len, next.
  What join makes of links and ends; pushing and removing by it. (No Go text.)
  The contracts of package fifo's methods that write: join, Push, Remove, Pop.
-/
import Derived.Test.YtdmjcjheanedgaaDoorGE
import Derived.Test.YtdmjcjheanedgaaDoorGC
import Derived.RegionTactic
import Derived.BigRegion
import Derived.ChangeAlike
import Derived.StillTailTactics
namespace Go.Proofs.YtdmjcjheanedgaaDoor
open Go.RowKit
section
variable {W : World} {g bl be bs : Nat} {K : List Lk} {E : List En} {Z : List Int}
set_option maxRecDepth 8000 in
set_option maxHeartbeats 1000000 in
theorem ofNo_any (x : Int) (h : PM W g bl be bs K E Z) (hx : inR K.length x = false) :
    Calls Tryd.prog 86 #[.pointer (some ⟨g, 0, none⟩), .int .i64 x] W fun e w' => e = .returned (.tuple #[.int .i64 0, .bool false]) ∧ ∃ n, w' = W.drewN n := by
  have cH := fun w (k : PM w g bl be bs K E Z) => hasNode_any x k
  rw [hx] at cH
  go_enter Tryd.func86, Tryd.ntmps86
  go_wp2_with fail
  go_quiet ((go_at_call 60; exact Calls.quiet_of_same (cH _ (h.drewN _))))
  go_wp2
  all_goals go_ret2
  all_goals exact ⟨rfl, _, rfl⟩
set_option maxRecDepth 8000 in
set_option maxHeartbeats 1000000 in
theorem ofAt_any (x : Nat) (k : Lk) (h : PM W g bl be bs K E Z) (hk : K[x]? = some k) :
    Calls Tryd.prog 86 #[.pointer (some ⟨g, 0, none⟩), .int .i64 (x : Int)] W fun e w' => e = .returned (if eqLk k ⟨-1, -1, -1⟩ = true then .tuple #[.int .i64 0, .bool false] else .tuple #[.int .i64 k.q, .bool true]) ∧ ∃ n, w' = W.drewN n := by
  have cH := fun w (k : PM w g bl be bs K E Z) => hasNode_any x k
  have hlt := (List.getElem?_eq_some_iff.1 hk).1
  have hn := h.nk
  rw [inR_nat, decide_eq_true hlt] at cH
  have c0 := h.c0
  have hxl : (x : Int) < K.length := by omega
  obtain ⟨e0, e1, e2⟩ := h.lk hk
  obtain ⟨a0, a1, a2, -, -⟩ := h.gl
  have hq := eql_Lk k ⟨-1, -1, -1⟩
  generalize eqLk k ⟨-1, -1, -1⟩ = b at *
  obtain ⟨q, p, y⟩ := k
  simp only at e0 e1 e2
  go_enter Tryd.func86, Tryd.ntmps86
  go_wp2_with fail
  go_quiet ((go_at_call 60; exact Calls.quiet_of_same (cH _ (h.drewN _))))
  go_wp2
  all_goals go_ret2
  all_goals exact ⟨rfl, _, rfl⟩
theorem of_any (x : Int) {s : Fq} (hF : Fqp K E Z s) (h : PM W g bl be bs K E Z) :
    Calls Tryd.prog 86 #[.pointer (some ⟨g, 0, none⟩), .int .i64 x] W fun e w' => e = .returned (.tuple #[.int .i64 (s.ofV x), .bool (s.ofB x)]) ∧ ∃ n, w' = W.drewN n := by
  cases hx : inR K.length x with
  | false =>
    have hf : s.findI x = none := Fq.findI_no hF.wf (by rw [hF.lk] at hx; exact hx)
    unfold Fq.ofV Fq.ofB
    rw [hf]
    exact ofNo_any x h hx
  | true =>
    obtain ⟨y, rfl, hy⟩ := Fq.hasN_pos (s := s) (x := x) (by rw [hF.lk] at hx; exact hx)
    unfold Fq.ofV Fq.ofB
    rw [s.findI_nat]
    cases hf : s.find y with
    | none =>
      refine (ofAt_any y _ h (hF.out y hy (Fq.find_none hf))).mono fun e w' he => ⟨?_, he.2⟩
      rw [he.1]
      rfl
    | some p =>
      obtain ⟨i, k⟩ := p
      obtain ⟨q, h1, h2⟩ := Fq.find_some hf
      refine (ofAt_any y _ h (hF.inn y i k q h1 h2)).mono fun e w' he => ⟨?_, he.2⟩
      rw [he.1, if_neg]
      · rfl
      · simp [eqLk]
set_option maxRecDepth 8000 in
set_option maxHeartbeats 1000000 in
theorem frontNo_any (x : Int) (h : PM W g bl be bs K E Z) (hx : inR E.length x = false) :
    Calls Tryd.prog 101 #[.pointer (some ⟨g, 0, none⟩), .int .i64 x] W fun e w' => e = .returned (.tuple #[.int .i64 0, .bool false]) ∧ ∃ n, w' = W.drewN n := by
  have cH := fun w (k : PM w g bl be bs K E Z) => hasQueue_any x k
  rw [hx] at cH
  go_enter Tryd.func101, Tryd.ntmps101
  go_wp2_with fail
  go_quiet ((go_at_call 59; exact Calls.quiet_of_same (cH _ (h.drewN _))))
  go_wp2
  all_goals go_ret2
  all_goals exact ⟨rfl, _, rfl⟩
set_option maxRecDepth 8000 in
set_option maxHeartbeats 1000000 in
theorem frontAt_any (x : Nat) (k : En) (h : PM W g bl be bs K E Z) (hk : E[x]? = some k) :
    Calls Tryd.prog 101 #[.pointer (some ⟨g, 0, none⟩), .int .i64 (x : Int)] W fun e w' => e = .returned (if eqEn k ⟨-1, -1⟩ = true then .tuple #[.int .i64 0, .bool false] else .tuple #[.int .i64 k.f, .bool true]) ∧ ∃ n, w' = W.drewN n := by
  have cH := fun w (k : PM w g bl be bs K E Z) => hasQueue_any x k
  have hlt := (List.getElem?_eq_some_iff.1 hk).1
  have hn := h.ne
  rw [inR_nat, decide_eq_true hlt] at cH
  have c1 := h.c1
  have hxl : (x : Int) < E.length := by omega
  obtain ⟨e0, e1⟩ := h.en hk
  obtain ⟨-, -, -, a0, a1⟩ := h.gl
  have hq := eql_En k ⟨-1, -1⟩
  generalize eqEn k ⟨-1, -1⟩ = b at *
  obtain ⟨q, p⟩ := k
  simp only at e0 e1
  go_enter Tryd.func101, Tryd.ntmps101
  go_wp2_with fail
  go_quiet ((go_at_call 59; exact Calls.quiet_of_same (cH _ (h.drewN _))))
  go_wp2
  all_goals go_ret2
  all_goals exact ⟨rfl, _, rfl⟩
theorem front_any (x : Int) {s : Fq} (hF : Fqp K E Z s) (h : PM W g bl be bs K E Z) :
    Calls Tryd.prog 101 #[.pointer (some ⟨g, 0, none⟩), .int .i64 x] W fun e w' => e = .returned (.tuple #[.int .i64 (s.frontV x), .bool (s.frontB x)]) ∧ ∃ n, w' = W.drewN n := by
  cases hx : inR E.length x with
  | false =>
    have hf : s.qi x = [] := Fq.qi_no (by rw [hF.le] at hx; exact hx)
    unfold Fq.frontV Fq.frontB
    rw [hf]
    exact frontNo_any x h hx
  | true =>
    obtain ⟨i, q, rfl, hi, hq, hqi⟩ := Fq.hasQ_pos (s := s) (i := x) (by rw [hF.le] at hx; exact hx)
    unfold Fq.frontV Fq.frontB
    rw [hqi]
    refine (frontAt_any i _ h (hF.en i q hq)).mono fun e w' he => ⟨?_, he.2⟩
    rw [he.1]
    cases q with
    | nil => rfl
    | cons y t =>
      have h0 : nt (y :: t) 0 = (y : Int) := rfl
      rw [h0, if_neg]
      · rfl
      · simp [eqEn]
set_option maxRecDepth 8000 in
set_option maxHeartbeats 1000000 in
theorem lenNo_any (p : Option Addr) (x : Int) (cH : Calls Tryd.prog 59 #[.pointer p, .int .i64 x] W fun e w' => e = .returned (.bool false) ∧ w' = W) :
    Calls Tryd.prog 100 #[.pointer p, .int .i64 x] W fun e w' => e = .returned (.int .i64 0) ∧ w' = W := by
  go_enter Tryd.func100, Tryd.ntmps100
  go_wp2_with (go_at_call 59; (with_reducible refine cH.mono ?_); rintro e w1 ⟨rfl, rfl⟩)
  all_goals go_ret
  all_goals trivial
set_option maxRecDepth 8000 in
set_option maxHeartbeats 1000000 in
theorem lenAt_any (x : Nat) (z : Int) (h : PM W g bl be bs K E Z) (hk : Z[x]? = some z) :
    Calls Tryd.prog 100 #[.pointer (some ⟨g, 0, none⟩), .int .i64 (x : Int)] W fun e w' => e = .returned (.int .i64 z) ∧ w' = W := by
  have cH := hasQueue_any x h
  have hlt := (List.getElem?_eq_some_iff.1 hk).1
  rw [h.lz] at hlt
  have hn := h.ne
  rw [inR_nat, decide_eq_true hlt] at cH
  have c2 := h.c2
  have hxl : (x : Int) < E.length := by omega
  have e0 := h.sz hk
  go_enter Tryd.func100, Tryd.ntmps100
  go_wp2_with (go_at_call 59; (with_reducible refine cH.mono ?_); rintro e w1 ⟨rfl, rfl⟩)
  all_goals go_ret
  all_goals trivial
theorem len_any (x : Int) {s : Fq} (hF : Fqp K E Z s) (h : PM W g bl be bs K E Z) :
    Calls Tryd.prog 100 #[.pointer (some ⟨g, 0, none⟩), .int .i64 x] W fun e w' => e = .returned (.int .i64 ((s.qi x).length : Int)) ∧ w' = W := by
  cases hx : inR E.length x with
  | false =>
    have hf : s.qi x = [] := Fq.qi_no (by rw [hF.le] at hx; exact hx)
    have cH := hasQueue_any x h
    rw [hf]
    rw [hx] at cH
    exact lenNo_any _ x cH
  | true =>
    obtain ⟨i, q, rfl, hi, hq, hqi⟩ := Fq.hasQ_pos (s := s) (i := x) (by rw [hF.le] at hx; exact hx)
    rw [hqi]
    exact lenAt_any i _ h (hF.sz i q hq)
set_option maxRecDepth 8000 in
set_option maxHeartbeats 1000000 in
theorem next_any (x : Nat) (k : Lk) (h : PM W g bl be bs K E Z) (hk : K[x]? = some k) :
    Calls Tryd.prog 99 #[.pointer (some ⟨g, 0, none⟩), .int .i64 (x : Int)] W fun e w' => e = .returned (.tuple #[.int .i64 k.x, .bool (!(k.x == -1))]) ∧ w' = W := by
  have hlt := (List.getElem?_eq_some_iff.1 hk).1
  have hn := h.nk
  have c0 := h.c0
  have hxl : (x : Int) < K.length := by omega
  obtain ⟨e0, e1, e2⟩ := h.lk hk
  obtain ⟨q, p, y⟩ := k
  simp only at e0 e1 e2
  go_enter Tryd.func99, Tryd.ntmps99
  go_wp2_with fail
  all_goals go_ret2
  all_goals exact ⟨by simp [bne], rfl⟩
end
end Go.Proofs.YtdmjcjheanedgaaDoor
namespace Go.Proofs.YtdmjcjheanedgaaDoor
/-- What join makes of the links, of the ends. -/
def jK1 (K : List Lk) (p x : Int) : List Lk := if p = -1 then K else K.modify p.toNat fun k => ⟨k.q, k.p, x⟩
def jK2 (K : List Lk) (p x : Int) : List Lk := if x = -1 then K else K.modify x.toNat fun k => ⟨k.q, p, k.x⟩
def jE1 (E : List En) (i : Nat) (p x : Int) : List En := if p = -1 then E.modify i fun e => ⟨x, e.l⟩ else E
def jE2 (E : List En) (i : Nat) (p x : Int) : List En := if x = -1 then E.modify i fun e => ⟨e.f, p⟩ else E
theorem mod_set {α : Type} {l : List α} {i : Nat} {a : α} (f : α → α) (h : l[i]? = some a) : l.modify i f = l.set i (f a) := by
  apply List.ext_getElem?
  intro j
  rw [List.getElem?_modify, List.getElem?_set]
  by_cases e : i = j
  · subst e
    have hl := (List.getElem?_eq_some_iff.1 h).1
    rw [List.getElem?_eq_getElem hl] at h
    simp [hl]
    cases h
    rfl
  · simp [e]
theorem jK1_len (K : List Lk) (p x : Int) : (jK1 K p x).length = K.length := by unfold jK1; split <;> simp
theorem jK2_len (K : List Lk) (p x : Int) : (jK2 K p x).length = K.length := by unfold jK2; split <;> simp
theorem jE1_len (E : List En) (i : Nat) (p x : Int) : (jE1 E i p x).length = E.length := by unfold jE1; split <;> simp
theorem jE2_len (E : List En) (i : Nat) (p x : Int) : (jE2 E i p x).length = E.length := by unfold jE2; split <;> simp
/-- A number that is a node's, or none. -/
def Nn (n : Nat) (p : Int) : Prop := p = -1 ∨ ∃ x : Nat, p = (x : Int) ∧ x < n
theorem jK1_get (K : List Lk) (p x : Int) (hp : p = -1 ∨ 0 ≤ p) (y : Nat) : (jK1 K p x)[y]? = if (y : Int) = p then K[y]?.map (fun k => ⟨k.q, k.p, x⟩) else K[y]? := by
  unfold jK1
  split
  · rename_i h
    rw [if_neg (by omega)]
  · rename_i h
    rw [List.getElem?_modify]
    by_cases e : p.toNat = y
    · rw [if_pos (show (y : Int) = p by omega)]
      cases K[y]? <;> simp [e]
    · rw [if_neg (show ¬ (y : Int) = p by omega)]
      cases K[y]? <;> simp [e]
theorem jK2_get (K : List Lk) (p x : Int) (hp : x = -1 ∨ 0 ≤ x) (y : Nat) : (jK2 K p x)[y]? = if (y : Int) = x then K[y]?.map (fun k => ⟨k.q, p, k.x⟩) else K[y]? := by
  unfold jK2
  split
  · rename_i h
    rw [if_neg (by omega)]
  · rename_i h
    rw [List.getElem?_modify]
    by_cases e : x.toNat = y
    · rw [if_pos (show (y : Int) = x by omega)]
      cases K[y]? <;> simp [e]
    · rw [if_neg (show ¬ (y : Int) = x by omega)]
      cases K[y]? <;> simp [e]
theorem jE1_get (E : List En) (i : Nat) (p x : Int) (j : Nat) : (jE1 E i p x)[j]? = if j = i ∧ p = -1 then E[j]?.map (fun e => ⟨x, e.l⟩) else E[j]? := by
  unfold jE1
  by_cases h : p = -1
  · rw [if_pos h, List.getElem?_modify]
    by_cases e : i = j
    · rw [if_pos ⟨e.symm, h⟩]
      cases E[j]? <;> simp [e]
    · rw [if_neg (fun k => e k.1.symm)]
      cases E[j]? <;> simp [e]
  · rw [if_neg h, if_neg (fun k => h k.2)]
theorem jE2_get (E : List En) (i : Nat) (p x : Int) (j : Nat) : (jE2 E i p x)[j]? = if j = i ∧ x = -1 then E[j]?.map (fun e => ⟨e.f, p⟩) else E[j]? := by
  unfold jE2
  by_cases h : x = -1
  · rw [if_pos h, List.getElem?_modify]
    by_cases e : i = j
    · rw [if_pos ⟨e.symm, h⟩]
      cases E[j]? <;> simp [e]
    · rw [if_neg (fun k => e k.1.symm)]
      cases E[j]? <;> simp [e]
  · rw [if_neg h, if_neg (fun k => h k.2)]
theorem nt_sign (q : List Nat) (k : Nat) : nt q k = -1 ∨ 0 ≤ nt q k := by
  rcases nt_cases q k with ⟨h, -⟩ | ⟨y, h, -⟩
  · exact .inl h
  · exact .inr (by omega)
theorem pr_sign (q : List Nat) (k : Nat) : pr q k = -1 ∨ 0 ≤ pr q k := by
  cases k with
  | zero => exact .inl rfl
  | succ k => exact nt_sign q k
theorem Fqp.nn_nt {K : List Lk} {E : List En} {Z : List Int} {s : Fq} (h : Fqp K E Z s) {i : Nat} {q : List Nat} (hi : s.L[i]? = some q) (k : Nat) : Nn K.length (nt q k) := by
  rcases nt_cases q k with ⟨e, -⟩ | ⟨y, e, hy⟩
  · exact .inl e
  · exact .inr ⟨y, e, by rw [h.lk]; exact h.wf.lt y i k ⟨q, hi, hy⟩⟩
theorem Fqp.nn_pr {K : List Lk} {E : List En} {Z : List Int} {s : Fq} (h : Fqp K E Z s) {i : Nat} {q : List Nat} (hi : s.L[i]? = some q) (k : Nat) : Nn K.length (pr q k) := by
  cases k with
  | zero => exact .inl rfl
  | succ k => exact h.nn_nt hi k
theorem Fqp.pushJ {K : List Lk} {E : List En} {Z : List Int} {s : Fq} (h : Fqp K E Z s) {i x : Nat} {q : List Nat} (hi : s.L[i]? = some q) (hx : x < s.n) (hn : ∀ j m, ¬ s.At x j m) :
    Fqp (jK2 (jK1 (jK2 (jK1 (K.set x ⟨(i : Int), -1, -1⟩) (pr q q.length) (x : Int)) (pr q q.length) (x : Int)) (x : Int) (-1)) (x : Int) (-1))
      (jE2 (jE1 (jE2 (jE1 E i (pr q q.length) (x : Int)) i (pr q q.length) (x : Int)) i (x : Int) (-1)) i (x : Int) (-1)) (Z.set i ((q.length : Int) + 1)) (s.put i (q ++ [x])) := by
  have hl := (List.getElem?_eq_some_iff.1 hi).1
  have hxK : x < K.length := by rw [h.lk]; exact hx
  have hpx : ¬ (x : Int) = pr q q.length := by
    intro e
    obtain ⟨m, -, hm⟩ := pr_iff.1 e.symm
    exact hn i m ⟨q, hi, hm⟩
  have hp0 : pr q q.length = -1 ↔ q.length = 0 := by
    constructor
    · intro e
      rcases pr_cases q q.length (Nat.le_refl _) with ⟨-, h0⟩ | ⟨j, y, -, h1, -⟩
      · exact h0
      · omega
    · intro e; rw [e]; rfl
  have hps := pr_sign q q.length
  refine h.push hi hx hn (by simp [jK1_len, jK2_len]) (by simp [jE1_len, jE2_len]) (by simp) (fun y => ?_) (fun j => ?_) (fun j => ?_)
  · rw [jK2_get _ _ _ (.inl rfl), if_neg (by omega), jK1_get _ _ _ (.inr (by omega)), jK2_get _ _ _ (.inr (by omega)), jK1_get _ _ _ hps, List.getElem?_set]
    by_cases e : y = x
    · subst e
      rw [if_pos rfl, if_pos rfl, if_pos rfl, if_pos rfl, if_neg hpx, if_pos hxK]
      rfl
    · rw [if_neg (show ¬ (y : Int) = (x : Int) by omega), if_neg (show ¬ (y : Int) = (x : Int) by omega), if_neg (show ¬ x = y from fun k => e k.symm), if_neg e]
  · rw [jE2_get, jE1_get, jE2_get, jE1_get]
    by_cases e : j = i
    · subst e
      rw [if_pos ⟨rfl, rfl⟩, if_neg (by omega), if_neg (by omega), if_pos rfl, h.en j q hi]
      by_cases h0 : q.length = 0
      · rw [if_pos ⟨rfl, hp0.2 h0⟩, if_pos h0]; rfl
      · rw [if_neg (fun k => h0 (hp0.1 k.2)), if_neg h0]; rfl
    · rw [if_neg (fun k => e k.1), if_neg (fun k => e k.1), if_neg (fun k => e k.1), if_neg (fun k => e k.1), if_neg e]
  · rw [List.getElem?_set]
    by_cases e : j = i
    · subst e
      rw [if_pos rfl, if_pos (by rw [h.lz]; exact hl), if_pos rfl]
    · rw [if_neg (fun k => e k.symm), if_neg e]
theorem Fqp.remJ {K : List Lk} {E : List En} {Z : List Int} {s : Fq} (h : Fqp K E Z s) {i x k : Nat} {q : List Nat} (hi : s.L[i]? = some q) (hx : q[k]? = some x) :
    Fqp ((jK2 (jK1 K (pr q k) (nt q (k + 1))) (pr q k) (nt q (k + 1))).set x ⟨-1, -1, -1⟩) (jE2 (jE1 E i (pr q k) (nt q (k + 1))) i (pr q k) (nt q (k + 1))) (Z.set i ((q.length : Int) - 1)) (s.put i (q.eraseIdx k)) := by
  have hl := (List.getElem?_eq_some_iff.1 hi).1
  have hk := (List.getElem?_eq_some_iff.1 hx).1
  have hxK : x < K.length := by rw [h.lk]; exact h.wf.lt x i k ⟨q, hi, hx⟩
  have hp0 : pr q k = -1 ↔ k = 0 := by
    constructor
    · intro e
      rcases pr_cases q k (by omega) with ⟨-, h0⟩ | ⟨j, y, -, h1, -⟩
      · exact h0
      · omega
    · intro e; rw [e]; rfl
  have hn0 : nt q (k + 1) = -1 ↔ k + 1 = q.length := by
    rw [nt_neg]; omega
  have hne : ∀ y : Nat, (y : Int) = pr q k → (y : Int) = nt q (k + 1) → False := by
    intro y e1 e2
    obtain ⟨j, hj, hy⟩ := pr_iff.1 e1.symm
    have := (h.wf.uni y i j i (k + 1) ⟨q, hi, hy⟩ ⟨q, hi, nt_iff.1 e2.symm⟩).2
    omega
  have hps := pr_sign q k
  have hns := nt_sign q (k + 1)
  refine h.rem hi hx (by simp [jK1_len, jK2_len]) (by simp [jE1_len, jE2_len]) (by simp) (fun y => ?_) (fun j => ?_) (fun j => ?_)
  · rw [List.getElem?_set, jK2_get _ _ _ hns, jK1_get _ _ _ hps]
    by_cases e : y = x
    · subst e
      rw [if_pos rfl, if_pos (by simp [jK1_len, jK2_len]; exact hxK), if_pos rfl]
    · rw [if_neg (fun k => e k.symm), if_neg e]
      by_cases e1 : (y : Int) = pr q k
      · rw [if_neg (hne y e1), if_pos e1, if_pos e1]
      · rw [if_neg e1, if_neg e1]
  · rw [jE2_get, jE1_get]
    by_cases e : j = i
    · subst e
      rw [if_pos rfl, h.en j q hi]
      by_cases h0 : k = 0 <;> by_cases h1 : k + 1 = q.length
      · rw [if_pos ⟨rfl, hn0.2 h1⟩, if_pos ⟨rfl, hp0.2 h0⟩, if_pos h0, if_pos h1]
        simp [h0]
      · rw [if_neg (fun k => h1 (hn0.1 k.2)), if_pos ⟨rfl, hp0.2 h0⟩, if_pos h0, if_neg h1]
        simp [h0]
      · rw [if_pos ⟨rfl, hn0.2 h1⟩, if_neg (fun k => h0 (hp0.1 k.2)), if_neg h0, if_pos h1]
        rfl
      · rw [if_neg (fun k => h1 (hn0.1 k.2)), if_neg (fun k => h0 (hp0.1 k.2)), if_neg h0, if_neg h1]
    · rw [if_neg (fun k => e k.1), if_neg (fun k => e k.1), if_neg e]
  · rw [List.getElem?_set]
    by_cases e : j = i
    · subst e
      rw [if_pos rfl, if_pos (by rw [h.lz]; exact hl), if_pos rfl]
    · rw [if_neg (fun k => e k.symm), if_neg e]
end Go.Proofs.YtdmjcjheanedgaaDoor
namespace Go.Proofs.YtdmjcjheanedgaaDoor
open Go.RowKit
theorem fbelow_drewN {B : Nat} {w w' : World} (h : Below B w w') (n : Nat) : Below B w (w'.drewN n) := ⟨h.os, h.tape, h.output, h.size, h.block⟩
section
variable {W : World} {g bl be bs : Nat} {K : List Lk} {E : List En} {Z : List Int}
set_option maxRecDepth 8000 in
set_option maxHeartbeats 1000000 in
theorem join_any (i : Nat) (p x : Int) (h : PM W g bl be bs K E Z) (hi : i < E.length) (hp : Nn K.length p) (hx : Nn K.length x) :
    Calls Tryd.prog 61 #[.pointer (some ⟨g, 0, none⟩), .int .i64 (i : Int), .int .i64 p, .int .i64 x] W fun e w' => e = .returned undef ∧ Frm (Qb g bl be bs) W w' ∧ PM w' g bl be bs (jK2 (jK1 K p x) p x) (jE2 (jE1 E i p x) i p x) Z := by
  have hn := h.ne
  have hnk := h.nk
  obtain ⟨en, hen⟩ : ∃ en, E[i]? = some en := ⟨_, List.getElem?_eq_getElem hi⟩
  have hiE : (i : Int) < E.length := by omega
  have c0 := h.c0
  have c1 := h.c1
  have d1 := h.d1
  have d2 := h.d2
  have d4 := h.d4
  have f0 := h.fl
  have f1 := h.fe
  obtain ⟨e0, e1⟩ := h.en hen
  have hb : Qb g bl be bs be := .inr (.inr (.inl rfl))
  have hb2 : Qb g bl be bs bl := .inr (.inl rfl)
  rcases hp with rfl | ⟨y, rfl, hy⟩
  · rcases hx with rfl | ⟨z, rfl, hz⟩
    · -- both none
      have k1 := h.setEf hen (-1)
      have k2 := k1.setEl (List.getElem?_set_self hi) (-1)
      have hfr := ((Frm.refl (Qb g bl be bs) W).setCell ⟨be, i * 2, none⟩ (.int .i64 (-1)) (.inl hb)).setCell ⟨be, i * 2 + 1, none⟩ (.int .i64 (-1)) (.inl hb)
      have hE : jE2 (jE1 E i (-1) (-1)) i (-1) (-1) = (E.set i ⟨-1, en.l⟩).set i ⟨-1, -1⟩ := by
        unfold jE1 jE2
        rw [if_pos rfl, if_pos rfl, mod_set _ hen, mod_set (a := ⟨-1, en.l⟩) _ (List.getElem?_set_self hi)]
      have hK : jK2 (jK1 K (-1) (-1)) (-1) (-1) = K := rfl
      rw [← hE, ← hK] at k2
      clear hE hK k1 h hen hb hb2
      generalize hKK : jK2 (jK1 K _ _) _ _ = K2 at k2 ⊢
      generalize hEE : jE2 (jE1 E i _ _) i _ _ = E2 at k2 ⊢
      clear hKK hEE
      go_enter Tryd.func61, Tryd.ntmps61
      go_wp2_with fail
      all_goals go_end0
      all_goals exact ⟨rfl, hfr, k2⟩
    · -- the first node
      obtain ⟨kz, hkz⟩ : ∃ kz, K[z]? = some kz := ⟨_, List.getElem?_eq_getElem hz⟩
      obtain ⟨m0, m1, m2⟩ := h.lk hkz
      have hzK : (z : Int) < K.length := by omega
      have k1 := h.setEf hen (z : Int)
      have k2 := k1.setLp hkz (-1)
      have hfr := ((Frm.refl (Qb g bl be bs) W).setCell ⟨be, i * 2, none⟩ (.int .i64 (z : Int)) (.inl hb)).setCell ⟨bl, z * 3 + 1, none⟩ (.int .i64 (-1)) (.inl hb2)
      have hz1 : ¬ (z : Int) = -1 := by omega
      have hE : jE2 (jE1 E i (-1) (z : Int)) i (-1) (z : Int) = E.set i ⟨(z : Int), en.l⟩ := by
        unfold jE1 jE2
        rw [if_neg hz1, if_pos rfl, mod_set _ hen]
      have hK : jK2 (jK1 K (-1) (z : Int)) (-1) (z : Int) = K.set z ⟨kz.q, -1, kz.x⟩ := by
        unfold jK1 jK2
        rw [if_neg hz1, if_pos rfl, Int.toNat_natCast, mod_set _ hkz]
      rw [← hE, ← hK] at k2
      clear hE hK k1 h hen hb hb2 hkz
      generalize hKK : jK2 (jK1 K _ _) _ _ = K2 at k2 ⊢
      generalize hEE : jE2 (jE1 E i _ _) i _ _ = E2 at k2 ⊢
      clear hKK hEE
      go_enter Tryd.func61, Tryd.ntmps61
      go_wp2_with fail
      all_goals go_end0
      all_goals exact ⟨rfl, hfr, k2⟩
  · obtain ⟨ky, hky⟩ : ∃ ky, K[y]? = some ky := ⟨_, List.getElem?_eq_getElem hy⟩
    obtain ⟨n0, n1, n2⟩ := h.lk hky
    have hyK : (y : Int) < K.length := by omega
    have hy1 : ¬ (y : Int) = -1 := by omega
    rcases hx with rfl | ⟨z, rfl, hz⟩
    · -- the last node
      have k1 := h.setLx hky (-1)
      have k2 := k1.setEl hen (y : Int)
      have hfr := ((Frm.refl (Qb g bl be bs) W).setCell ⟨bl, y * 3 + 2, none⟩ (.int .i64 (-1)) (.inl hb2)).setCell ⟨be, i * 2 + 1, none⟩ (.int .i64 (y : Int)) (.inl hb)
      have hE : jE2 (jE1 E i (y : Int) (-1)) i (y : Int) (-1) = E.set i ⟨en.f, (y : Int)⟩ := by
        unfold jE1 jE2
        rw [if_neg hy1, if_pos rfl, mod_set _ hen]
      have hK : jK2 (jK1 K (y : Int) (-1)) (y : Int) (-1) = K.set y ⟨ky.q, ky.p, -1⟩ := by
        unfold jK1 jK2
        rw [if_neg hy1, if_pos rfl, Int.toNat_natCast, mod_set _ hky]
      rw [← hE, ← hK] at k2
      clear hE hK k1 h hen hb hb2 hky
      generalize hKK : jK2 (jK1 K _ _) _ _ = K2 at k2 ⊢
      generalize hEE : jE2 (jE1 E i _ _) i _ _ = E2 at k2 ⊢
      clear hKK hEE
      go_enter Tryd.func61, Tryd.ntmps61
      go_wp2_with fail
      all_goals go_end0
      all_goals exact ⟨rfl, hfr, k2⟩
    · -- between two
      obtain ⟨kz, hkz⟩ : ∃ kz, (K.set y ⟨ky.q, ky.p, (z : Int)⟩)[z]? = some kz := ⟨_, List.getElem?_eq_getElem (by rw [List.length_set]; exact hz)⟩
      obtain ⟨kz', hkz'⟩ : ∃ kz, K[z]? = some kz := ⟨_, List.getElem?_eq_getElem hz⟩
      obtain ⟨m0, m1, m2⟩ := h.lk hkz'
      have hzK : (z : Int) < K.length := by omega
      have k1 := h.setLx hky (z : Int)
      have k2 := k1.setLp hkz (y : Int)
      have hfr := ((Frm.refl (Qb g bl be bs) W).setCell ⟨bl, y * 3 + 2, none⟩ (.int .i64 (z : Int)) (.inl hb2)).setCell ⟨bl, z * 3 + 1, none⟩ (.int .i64 (y : Int)) (.inl hb2)
      have hz1 : ¬ (z : Int) = -1 := by omega
      have hE : jE2 (jE1 E i (y : Int) (z : Int)) i (y : Int) (z : Int) = E := by
        unfold jE1 jE2
        rw [if_neg hz1, if_neg hy1]
      have hK : jK2 (jK1 K (y : Int) (z : Int)) (y : Int) (z : Int) = (K.set y ⟨ky.q, ky.p, (z : Int)⟩).set z ⟨kz.q, (y : Int), kz.x⟩ := by
        unfold jK1 jK2
        rw [if_neg hz1, if_neg hy1, Int.toNat_natCast, Int.toNat_natCast, mod_set _ hky, mod_set _ hkz]
      rw [← hE, ← hK] at k2
      clear hE hK k1 h hen hb hb2 hkz hkz' hky
      generalize hKK : jK2 (jK1 K _ _) _ _ = K2 at k2 ⊢
      generalize hEE : jE2 (jE1 E i _ _) i _ _ = E2 at k2 ⊢
      clear hKK hEE
      go_enter Tryd.func61, Tryd.ntmps61
      go_wp2_with fail
      all_goals go_end0
      all_goals exact ⟨rfl, hfr, k2⟩
theorem lset (K : List Lk) {x : Nat} (hx : x < K.length) (v : Lk) : (K.set x v)[x]? = some v := List.getElem?_set_self hx
set_option maxRecDepth 8000 in
set_option maxHeartbeats 1000000 in
theorem pushNo_any (i x : Int) {s : Fq} (hF : Fqp K E Z s) (h : PM W g bl be bs K E Z) (hn : s.pushB i x = false) :
    Calls Tryd.prog 40 #[.pointer (some ⟨g, 0, none⟩), .int .i64 i, .int .i64 x] W fun e w' => e = .returned (.bool false) ∧ ∃ n, w' = W.drewN n := by
  have cQ := fun w (k : PM w g bl be bs K E Z) => hasQueue_any i k
  have cN := fun w (k : PM w g bl be bs K E Z) => hasNode_any x k
  cases hq : inR E.length i with
  | false =>
    rw [hq] at cQ
    go_enter Tryd.func40, Tryd.ntmps40
    go_wp2_with fail
    go_quiet ((go_at_call 59; exact Calls.quiet_of_same (cQ _ (h.drewN _))))
    go_wp2
    all_goals go_ret
    all_goals exact ⟨rfl, _, rfl⟩
  | true =>
    rw [hq] at cQ
    cases hx : inR K.length x with
    | false =>
      rw [hx] at cN
      go_enter Tryd.func40, Tryd.ntmps40
      go_wp2_with fail
      go_quiet (first
        | (go_at_call 59; exact Calls.quiet_of_same (cQ _ (h.drewN _)))
        | (go_at_call 60; exact Calls.quiet_of_same (cN _ (h.drewN _))))
      go_wp2
      all_goals go_ret
      all_goals exact ⟨rfl, _, rfl⟩
    | true =>
      rw [hx] at cN
      obtain ⟨y, rfl, hy⟩ := Fq.hasN_pos (s := s) (x := x) (by rw [hF.lk] at hx; exact hx)
      have hf : ∃ p, s.find y = some p := by
        rw [hF.le] at hq
        rw [hF.lk] at hx
        have hq' : s.hasQ i = true := hq
        have hx' : s.hasN (y : Int) = true := hx
        unfold Fq.pushB at hn
        rw [hq', hx', s.findI_nat] at hn
        cases hf : s.find y with
        | none => rw [hf] at hn; simp at hn
        | some p => exact ⟨p, rfl⟩
      obtain ⟨⟨j, k⟩, hf⟩ := hf
      obtain ⟨q, h1, h2⟩ := Fq.find_some hf
      have hk := hF.inn y j k q h1 h2
      have hlt := (List.getElem?_eq_some_iff.1 hk).1
      have hn := h.nk
      have c0 := h.c0
      have hxl : (y : Int) < K.length := by omega
      obtain ⟨e0, e1, e2⟩ := h.lk hk
      obtain ⟨a0, a1, a2, -, -⟩ := h.gl
      have hE := neq_Lk ⟨(j : Int), pr q k, nt q (k + 1)⟩ ⟨-1, -1, -1⟩
      have hb : eqLk ⟨(j : Int), pr q k, nt q (k + 1)⟩ ⟨-1, -1, -1⟩ = false := by simp [eqLk]
      rw [hb] at hE
      simp only at e0 e1 e2
      generalize pr q k = pp at *
      generalize nt q (k + 1) = nn at *
      generalize (j : Int) = jj at *
      clear hF hb hk h1 h2 hf
      go_enter Tryd.func40, Tryd.ntmps40
      go_wp2_with fail
      go_quiet (first
        | (go_at_call 59; exact Calls.quiet_of_same (cQ _ (h.drewN _)))
        | (go_at_call 60; exact Calls.quiet_of_same (cN _ (h.drewN _))))
      go_wp2
      all_goals go_ret
      all_goals exact ⟨rfl, _, rfl⟩
set_option maxRecDepth 8000 in
set_option maxHeartbeats 1000000 in
theorem pushAt_any (i x : Nat) {q : List Nat} {s : Fq} (hF : Fqp K E Z s) (h : PM W g bl be bs K E Z) (hi : s.L[i]? = some q) (hx : x < s.n) (hn : ∀ j m, ¬ s.At x j m) :
    Calls Tryd.prog 40 #[.pointer (some ⟨g, 0, none⟩), .int .i64 (i : Int), .int .i64 (x : Int)] W fun e w' => e = .returned (.bool true) ∧ Frm (Qb g bl be bs) W w' ∧ ∃ K' E' Z', Fqp K' E' Z' (s.put i (q ++ [x])) ∧ PM w' g bl be bs K' E' Z' := by
  have cQ := fun w (k : PM w g bl be bs K E Z) => hasQueue_any (i : Int) k
  have cN := fun w (k : PM w g bl be bs K E Z) => hasNode_any (x : Int) k
  have hiE : i < E.length := by rw [hF.le]; exact (List.getElem?_eq_some_iff.1 hi).1
  have hxK : x < K.length := by rw [hF.lk]; exact hx
  rw [inR_nat, decide_eq_true hiE] at cQ
  rw [inR_nat, decide_eq_true hxK] at cN
  have hk := hF.out x hx hn
  have hsz := hF.sz i q hi
  have hlen := hF.wf.len hi
  have hnk := h.nk
  have hne := h.ne
  have hlk := hF.lk
  have c0 := h.c0
  have hxl : (x : Int) < K.length := by omega
  have hil : (i : Int) < E.length := by omega
  obtain ⟨e0, e1, e2⟩ := h.lk hk
  obtain ⟨a0, a1, a2, -, -⟩ := h.gl
  have hE := neq_Lk ⟨-1, -1, -1⟩ ⟨-1, -1, -1⟩
  rw [show eqLk ⟨-1, -1, -1⟩ ⟨-1, -1, -1⟩ = true from rfl] at hE
  have hfin := hF.pushJ hi hx hn
  have hpn : Nn K.length (pr q q.length) := hF.nn_pr hi _
  have hen := hF.en i q hi
  have hbl : Qb g bl be bs bl := .inr (.inl rfl)
  have hbs : Qb g bl be bs bs := .inr (.inr (.inr rfl))
  -- behind the first store
  have s1 : ∀ n, PM ((W.drewN n).setCell ⟨bl, x * 3, none⟩ (.int .i64 (i : Int))) g bl be bs (K.set x ⟨(i : Int), -1, -1⟩) E Z := fun n => (h.drewN n).setLq hk (i : Int)
  have j1 := fun w (k : PM w g bl be bs (K.set x ⟨(i : Int), -1, -1⟩) E Z) => join_any i (pr q q.length) (x : Int) k hiE (by rw [List.length_set]; exact hpn) (.inr ⟨x, rfl, by rw [List.length_set]; exact hxK⟩)
  generalize hK1 : jK2 (jK1 (K.set x ⟨(i : Int), -1, -1⟩) (pr q q.length) (x : Int)) (pr q q.length) (x : Int) = K1 at *
  generalize hE1 : jE2 (jE1 E i (pr q q.length) (x : Int)) i (pr q q.length) (x : Int) = E1 at *
  have lK1 : K1.length = K.length := by rw [← hK1]; simp [jK1_len, jK2_len]
  have lE1 : E1.length = E.length := by rw [← hE1]; simp [jE1_len, jE2_len]
  have j2 := fun w (k : PM w g bl be bs K1 E1 Z) => join_any i (x : Int) (-1) k (by rw [lE1]; exact hiE) (.inr ⟨x, rfl, by rw [lK1]; exact hxK⟩) (.inl rfl)
  generalize hK2 : jK2 (jK1 K1 (x : Int) (-1)) (x : Int) (-1) = K2 at *
  generalize hE2 : jE2 (jE1 E1 i (x : Int) (-1)) i (x : Int) (-1) = E2 at *
  have lE2 : E2.length = E.length := by rw [← hE2]; simp [jE1_len, jE2_len, lE1]
  clear hK1 hE1 hK2 hE2
  generalize pr q q.length = pp at *
  have hq500 : q.length < 501 := by omega
  generalize q.length = ql at *
  generalize nt q 0 = n0 at *
  generalize s.put i (q ++ [x]) = s' at *
  have d1 := h.d1
  have d5 := h.d5
  have f0 := h.fl (x * 3)
  clear hF hi hn hx hlk hlen
  go_enter Tryd.func40, Tryd.ntmps40
  go_wp2_with fail
  go_quiet (first
    | (go_at_call 59; exact Calls.quiet_of_same (cQ _ (h.drewN _)))
    | (go_at_call 60; exact Calls.quiet_of_same (cN _ (h.drewN _))))
  have p1 := s1 nq
  have r1 : Frm (Qb g bl be bs) W ((W.drewN nq).setCell ⟨bl, x * 3, none⟩ (.int .i64 (i : Int))) := (Frm.of_below (fbelow_drewN (Below.refl _ W) nq)).setCell _ _ (.inl hbl)
  have c1 := p1.c1
  obtain ⟨m0, m1⟩ := p1.en hen
  go_wp2_with (first
    | (go_at_call 61; (with_reducible refine (j1 _ p1).mono ?_); rintro e w2 ⟨rfl, r2, p2⟩; clear j1 p1)
    | (go_at_call 61; (with_reducible refine (j2 w2 p2).mono ?_); rintro e w3 ⟨rfl, r3, p3⟩; clear j2 p2; have c2 := p3.c2; have e3 := p3.sz hsz; have f3 := p3.fs i; rw [lE2] at c2))
  all_goals go_ret
  all_goals exact ⟨rfl, ((r1.trans r2 (fun b e => .inl e)).trans r3 (fun b e => .inl e)).setCell _ _ (.inl hbs), _, _, _, hfin, p3.setZ hsz ((ql : Int) + 1)⟩
theorem push_any (i x : Int) {s : Fq} (hF : Fqp K E Z s) (h : PM W g bl be bs K E Z) :
    Calls Tryd.prog 40 #[.pointer (some ⟨g, 0, none⟩), .int .i64 i, .int .i64 x] W fun e w' => e = .returned (.bool (s.pushB i x)) ∧ Frm (Qb g bl be bs) W w' ∧ ∃ K' E' Z', Fqp K' E' Z' (s.pushS i x) ∧ PM w' g bl be bs K' E' Z' := by
  unfold Fq.pushS
  cases hb : s.pushB i x with
  | false =>
    rw [if_neg (by simp)]
    exact (pushNo_any i x hF h hb).mono fun e w' ⟨he, n, hw⟩ => ⟨he, by rw [hw]; exact Frm.of_below (fbelow_drewN (Below.refl _ W) n), K, E, Z, hF, by rw [hw]; exact h.drewN n⟩
  | true =>
    rw [if_pos rfl]
    have hb' := hb
    simp only [Fq.pushB, Bool.and_eq_true] at hb
    obtain ⟨k, q, rfl, hk, hq, hqi⟩ := Fq.hasQ_pos hb.1.1
    obtain ⟨y, rfl, hy⟩ := Fq.hasN_pos hb.1.2
    rw [hqi, Int.toNat_natCast, Int.toNat_natCast]
    refine pushAt_any k y hF h hq hy (Fq.find_none ?_)
    have := hb.2
    rw [s.findI_nat] at this
    simpa using this
set_option maxRecDepth 8000 in
set_option maxHeartbeats 1000000 in
theorem removeNo_any (p : Option Addr) (x v : Int) (W : World) (cO : Calls Tryd.prog 86 #[.pointer p, .int .i64 x] W fun e w' => e = .returned (.tuple #[.int .i64 v, .bool false]) ∧ ∃ n, w' = W.drewN n) :
    Calls Tryd.prog 69 #[.pointer p, .int .i64 x] W fun e w' => e = .returned (.tuple #[.int .i64 0, .bool false]) ∧ ∃ n, w' = W.drewN n := by
  go_enter Tryd.func69, Tryd.ntmps69
  go_wp2_with (go_at_call 86; (with_reducible refine cO.mono ?_); rintro e w1 ⟨rfl, n1, rfl⟩)
  all_goals go_ret2
  all_goals exact ⟨rfl, _, rfl⟩
set_option maxRecDepth 8000 in
set_option maxHeartbeats 1000000 in
theorem removeAt_any (i x k : Nat) {q : List Nat} {s : Fq} (hF : Fqp K E Z s) (h : PM W g bl be bs K E Z) (hi : s.L[i]? = some q) (hx : q[k]? = some x) :
    Calls Tryd.prog 69 #[.pointer (some ⟨g, 0, none⟩), .int .i64 (x : Int)] W fun e w' => e = .returned (.tuple #[.int .i64 (i : Int), .bool true]) ∧ Frm (Qb g bl be bs) W w' ∧ ∃ K' E' Z', Fqp K' E' Z' (s.put i (q.eraseIdx k)) ∧ PM w' g bl be bs K' E' Z' := by
  have hat : s.At x i k := ⟨q, hi, hx⟩
  have cO := of_any (x : Int) hF h
  have hfe := Fq.findI_eq hF.wf hat
  rw [show s.ofV (x : Int) = (i : Int) by unfold Fq.ofV; rw [hfe]; rfl, show s.ofB (x : Int) = true by unfold Fq.ofB; rw [hfe]; rfl] at cO
  have hiE : i < E.length := by rw [hF.le]; exact (List.getElem?_eq_some_iff.1 hi).1
  have hxK : x < K.length := by rw [hF.lk]; exact hF.wf.lt x i k hat
  have hk := hF.inn x i k q hi hx
  have hsz := hF.sz i q hi
  have hlen := hF.wf.len hi
  have hkl := (List.getElem?_eq_some_iff.1 hx).1
  have hnk := h.nk
  have hne := h.ne
  have hlk := hF.lk
  have c0 := h.c0
  have hxl : (x : Int) < K.length := by omega
  have hil : (i : Int) < E.length := by omega
  obtain ⟨e0, e1, e2⟩ := h.lk hk
  obtain ⟨a0, a1, a2, -, -⟩ := h.gl
  have hfin := hF.remJ hi hx
  have hpn : Nn K.length (pr q k) := hF.nn_pr hi _
  have hnn : Nn K.length (nt q (k + 1)) := hF.nn_nt hi _
  have hbl : Qb g bl be bs bl := .inr (.inl rfl)
  have hbs : Qb g bl be bs bs := .inr (.inr (.inr rfl))
  have j1 := fun w (k' : PM w g bl be bs K E Z) => join_any i (pr q k) (nt q (k + 1)) k' hiE hpn hnn
  generalize hK1 : jK2 (jK1 K (pr q k) (nt q (k + 1))) (pr q k) (nt q (k + 1)) = K1 at *
  generalize hE1 : jE2 (jE1 E i (pr q k) (nt q (k + 1))) i (pr q k) (nt q (k + 1)) = E1 at *
  have lK1 : K1.length = K.length := by rw [← hK1]; simp [jK1_len, jK2_len]
  have lE1 : E1.length = E.length := by rw [← hE1]; simp [jE1_len, jE2_len]
  obtain ⟨kx, hkx⟩ : ∃ kx, K1[x]? = some kx := ⟨_, List.getElem?_eq_getElem (by rw [lK1]; exact hxK)⟩
  clear hK1 hE1
  generalize pr q k = pp at *
  generalize nt q (k + 1) = nn at *
  have hq500 : 0 < q.length ∧ q.length < 501 := by omega
  generalize q.length = ql at *
  generalize s.put i (q.eraseIdx k) = s' at *
  have d1 := h.d1
  have d5 := h.d5
  simp only at e0 e1 e2
  clear hF hi hx hlk hlen hkl hfe hat
  go_enter Tryd.func69, Tryd.ntmps69
  go_wp2_with (go_at_call 86; (with_reducible refine cO.mono ?_); rintro e w1 ⟨rfl, n1, rfl⟩)
  have h1 := h.drewN n1
  have r1 : Frm (Qb g bl be bs) W (W.drewN n1) := Frm.of_below (fbelow_drewN (Below.refl _ W) n1)
  replace e1 := (h1.lk hk).2.1
  replace e2 := (h1.lk hk).2.2
  replace c0 := h1.c0
  simp only at e1 e2
  generalize W.drewN n1 = W1 at *
  clear cO e0 h
  go_still_tail 18, (by kernel_rfl)
  change wpList _ _ _ _ _ (World.drew _)
  replace h1 := h1.drew
  replace r1 := r1.drew
  clear e1 e2 c0
  generalize W1.drew = W2 at *
  go_wp2_with (go_at_call 61; (with_reducible refine (j1 _ h1).mono ?_); rintro e w2 ⟨rfl, r2, p2⟩; clear j1 h1)
  have c0 := p2.c0
  rw [lK1] at c0
  obtain ⟨m0, m1, m2⟩ := p2.lk hkx
  have f0 := p2.fl
  clear a0 a1 a2
  obtain ⟨a0, a1, a2, -, -⟩ := p2.gl
  have q1 := p2.drew.setLq hkx (-1)
  have q2 := q1.setLp (lset K1 (by rw [lK1]; exact hxK) _) (-1)
  have q3 := q2.setLx (List.getElem?_set_self (by rw [List.length_set, lK1]; exact hxK)) (-1)
  rw [List.set_set, List.set_set] at q3
  go_still_tail 7, (by kernel_rfl)
  change wpList _ _ _ _ _ (World.drew _)
  have r3 := (r1.trans r2 (fun b e => .inl e)).drew
  replace f0 : ∀ i, w2.drew.frozen? ⟨bl, i, none⟩ = false := f0
  replace m0 : w2.drew.cell? ⟨bl, x * 3, none⟩ = _ := m0
  replace m1 : w2.drew.cell? ⟨bl, x * 3 + 1, none⟩ = _ := m1
  replace m2 : w2.drew.cell? ⟨bl, x * 3 + 2, none⟩ = _ := m2
  have r4 := (((r3.setCell ⟨bl, x * 3, none⟩ (.int .i64 (-1)) (.inl hbl)).setCell ⟨bl, x * 3 + 1, none⟩ (.int .i64 (-1)) (.inl hbl)).setCell ⟨bl, x * 3 + 2, none⟩ (.int .i64 (-1)) (.inl hbl))
  clear c0 a0 a1 a2 p2 r1 r2 r3 q1 q2 hkx
  generalize w2.drew = W3 at *
  have c2 := q3.c2
  have z0 := q3.sz hsz
  have fz := q3.fs i
  rw [lE1] at c2
  have q4 := q3.setZ hsz ((ql : Int) - 1)
  have r5 := r4.setCell ⟨bs, i, none⟩ (.int .i64 ((ql : Int) - 1)) (.inl hbs)
  go_wp2_with fail
  all_goals go_ret2
  all_goals exact ⟨rfl, r5, _, _, _, hfin, q4⟩
theorem remove_any (x : Int) {s : Fq} (hF : Fqp K E Z s) (h : PM W g bl be bs K E Z) :
    Calls Tryd.prog 69 #[.pointer (some ⟨g, 0, none⟩), .int .i64 x] W fun e w' => e = .returned (.tuple #[.int .i64 (s.ofV x), .bool (s.ofB x)]) ∧ Frm (Qb g bl be bs) W w' ∧ ∃ K' E' Z', Fqp K' E' Z' (s.remS x) ∧ PM w' g bl be bs K' E' Z' := by
  unfold Fq.remS
  cases hf : s.findI x with
  | none =>
    have cO := of_any x hF h
    have hB : s.ofB x = false := by unfold Fq.ofB; rw [hf]; rfl
    have hV : s.ofV x = 0 := by unfold Fq.ofV; rw [hf]; rfl
    rw [hB, hV] at cO ⊢
    exact (removeNo_any _ x 0 W cO).mono fun e w' ⟨he, n, hw⟩ => ⟨he, by rw [hw]; exact Frm.of_below (fbelow_drewN (Below.refl _ W) n), K, E, Z, hF, by rw [hw]; exact h.drewN n⟩
  | some p =>
    obtain ⟨i, k⟩ := p
    obtain ⟨y, rfl, q, h1, h2⟩ := Fq.findI_some hf
    have hB : s.ofB (y : Int) = true := by unfold Fq.ofB; rw [hf]; rfl
    have hV : s.ofV (y : Int) = (i : Int) := by unfold Fq.ofV; rw [hf]; rfl
    rw [hB, hV]
    simp only
    rw [h1]
    exact removeAt_any i y k hF h h1 h2
end
end Go.Proofs.YtdmjcjheanedgaaDoor
