/-
  The contracts of package fifo's Of, Front, Len, next.
-/
import Derived.Test.YtipmhialflincaaDoorFip
namespace Go.Proofs.YtipmhialflincaaDoor
open Go.RowKit
section
variable {W : World} {g bl be bs : Nat} {K : List Lk} {E : List En} {Z : List Int}
theorem drewN_zero (w : World) : w.drewN 0 = w := rfl
set_option maxRecDepth 8000 in
set_option maxHeartbeats 1000000 in
theorem ofNo_any (x : Int) (h : PM W g bl be bs K E Z) (hx : inR K.length x = false) :
    Calls Tryd.prog 18 #[.pointer (some ⟨g, 0, none⟩), .int .i64 x] W fun e w' => e = .returned (.tuple #[.int .i64 0, .bool false]) ∧ ∃ n, w' = W.drewN n := by
  have cH := fun w (k : PM w g bl be bs K E Z) => hasNode_any x k
  rw [hx] at cH
  go_enter Tryd.func18, Tryd.ntmps18
  go_wp2_with fail
  go_quiet ((go_at_call 27; exact Calls.quiet_of_same (cH _ (h.drewN _))))
  go_wp2
  all_goals go_ret2
  all_goals exact ⟨rfl, _, rfl⟩
set_option maxRecDepth 8000 in
set_option maxHeartbeats 1000000 in
theorem ofAt_any (x : Nat) (k : Lk) (h : PM W g bl be bs K E Z) (hk : K[x]? = some k) :
    Calls Tryd.prog 18 #[.pointer (some ⟨g, 0, none⟩), .int .i64 (x : Int)] W fun e w' => e = .returned (if eqLk k ⟨-1, -1, -1⟩ = true then .tuple #[.int .i64 0, .bool false] else .tuple #[.int .i64 k.q, .bool true]) ∧ ∃ n, w' = W.drewN n := by
  have cH := fun w (k : PM w g bl be bs K E Z) => hasNode_any x k
  have hlt := (List.getElem?_eq_some_iff.1 hk).1
  have hn := h.nk
  rw [inR_nat, decide_eq_true hlt] at cH
  have c0 := h.c0
  have hxl : (x : Int) < K.length := by omega
  obtain ⟨e0, e1, e2⟩ := h.lk hk
  obtain ⟨a0, a1, a2, -, -⟩ := h.gl
  have hq := eql_Lk k ⟨-1, -1, -1⟩
  generalize eqLk k ⟨-1, -1, -1⟩ = b at *
  obtain ⟨q, p, y⟩ := k
  simp only at e0 e1 e2
  go_enter Tryd.func18, Tryd.ntmps18
  go_wp2_with fail
  go_quiet ((go_at_call 27; exact Calls.quiet_of_same (cH _ (h.drewN _))))
  go_wp2
  all_goals go_ret2
  all_goals exact ⟨rfl, _, rfl⟩
theorem of_any (x : Int) {s : Fq} (hF : Fqp K E Z s) (h : PM W g bl be bs K E Z) :
    Calls Tryd.prog 18 #[.pointer (some ⟨g, 0, none⟩), .int .i64 x] W fun e w' => e = .returned (.tuple #[.int .i64 (s.ofV x), .bool (s.ofB x)]) ∧ ∃ n, w' = W.drewN n := by
  cases hx : inR K.length x with
  | false =>
    have hf : s.findI x = none := Fq.findI_no hF.wf (by rw [hF.lk] at hx; exact hx)
    unfold Fq.ofV Fq.ofB
    rw [hf]
    exact ofNo_any x h hx
  | true =>
    obtain ⟨y, rfl, hy⟩ := Fq.hasN_pos (s := s) (x := x) (by rw [hF.lk] at hx; exact hx)
    unfold Fq.ofV Fq.ofB
    rw [s.findI_nat]
    cases hf : s.find y with
    | none =>
      refine (ofAt_any y _ h (hF.out y hy (Fq.find_none hf))).mono fun e w' he => ⟨?_, he.2⟩
      rw [he.1]
      rfl
    | some p =>
      obtain ⟨i, k⟩ := p
      obtain ⟨q, h1, h2⟩ := Fq.find_some hf
      refine (ofAt_any y _ h (hF.inn y i k q h1 h2)).mono fun e w' he => ⟨?_, he.2⟩
      rw [he.1, if_neg]
      · rfl
      · simp [eqLk]
set_option maxRecDepth 8000 in
set_option maxHeartbeats 1000000 in
theorem frontNo_any (x : Int) (h : PM W g bl be bs K E Z) (hx : inR E.length x = false) :
    Calls Tryd.prog 17 #[.pointer (some ⟨g, 0, none⟩), .int .i64 x] W fun e w' => e = .returned (.tuple #[.int .i64 0, .bool false]) ∧ ∃ n, w' = W.drewN n := by
  have cH := fun w (k : PM w g bl be bs K E Z) => hasQueue_any x k
  rw [hx] at cH
  go_enter Tryd.func17, Tryd.ntmps17
  go_wp2_with fail
  go_quiet ((go_at_call 24; exact Calls.quiet_of_same (cH _ (h.drewN _))))
  go_wp2
  all_goals go_ret2
  all_goals exact ⟨rfl, _, rfl⟩
set_option maxRecDepth 8000 in
set_option maxHeartbeats 1000000 in
theorem frontAt_any (x : Nat) (k : En) (h : PM W g bl be bs K E Z) (hk : E[x]? = some k) :
    Calls Tryd.prog 17 #[.pointer (some ⟨g, 0, none⟩), .int .i64 (x : Int)] W fun e w' => e = .returned (if eqEn k ⟨-1, -1⟩ = true then .tuple #[.int .i64 0, .bool false] else .tuple #[.int .i64 k.f, .bool true]) ∧ ∃ n, w' = W.drewN n := by
  have cH := fun w (k : PM w g bl be bs K E Z) => hasQueue_any x k
  have hlt := (List.getElem?_eq_some_iff.1 hk).1
  have hn := h.ne
  rw [inR_nat, decide_eq_true hlt] at cH
  have c1 := h.c1
  have hxl : (x : Int) < E.length := by omega
  obtain ⟨e0, e1⟩ := h.en hk
  obtain ⟨-, -, -, a0, a1⟩ := h.gl
  have hq := eql_En k ⟨-1, -1⟩
  generalize eqEn k ⟨-1, -1⟩ = b at *
  obtain ⟨q, p⟩ := k
  simp only at e0 e1
  go_enter Tryd.func17, Tryd.ntmps17
  go_wp2_with fail
  go_quiet ((go_at_call 24; exact Calls.quiet_of_same (cH _ (h.drewN _))))
  go_wp2
  all_goals go_ret2
  all_goals exact ⟨rfl, _, rfl⟩
theorem front_any (x : Int) {s : Fq} (hF : Fqp K E Z s) (h : PM W g bl be bs K E Z) :
    Calls Tryd.prog 17 #[.pointer (some ⟨g, 0, none⟩), .int .i64 x] W fun e w' => e = .returned (.tuple #[.int .i64 (s.frontV x), .bool (s.frontB x)]) ∧ ∃ n, w' = W.drewN n := by
  cases hx : inR E.length x with
  | false =>
    have hf : s.qi x = [] := Fq.qi_no (by rw [hF.le] at hx; exact hx)
    unfold Fq.frontV Fq.frontB
    rw [hf]
    exact frontNo_any x h hx
  | true =>
    obtain ⟨i, q, rfl, hi, hq, hqi⟩ := Fq.hasQ_pos (s := s) (i := x) (by rw [hF.le] at hx; exact hx)
    unfold Fq.frontV Fq.frontB
    rw [hqi]
    refine (frontAt_any i _ h (hF.en i q hq)).mono fun e w' he => ⟨?_, he.2⟩
    rw [he.1]
    cases q with
    | nil => rfl
    | cons y t =>
      have h0 : nt (y :: t) 0 = (y : Int) := rfl
      rw [h0, if_neg]
      · rfl
      · simp [eqEn]
set_option maxRecDepth 8000 in
set_option maxHeartbeats 1000000 in
theorem lenNo_any (p : Option Addr) (x : Int) (cH : Calls Tryd.prog 24 #[.pointer p, .int .i64 x] W fun e w' => e = .returned (.bool false) ∧ w' = W) :
    Calls Tryd.prog 12 #[.pointer p, .int .i64 x] W fun e w' => e = .returned (.int .i64 0) ∧ w' = W := by
  go_enter Tryd.func12, Tryd.ntmps12
  go_wp2_with (go_at_call 24; (with_reducible refine cH.mono ?_); rintro e w1 ⟨rfl, rfl⟩)
  all_goals go_ret
  all_goals trivial
set_option maxRecDepth 8000 in
set_option maxHeartbeats 1000000 in
theorem lenAt_any (x : Nat) (z : Int) (h : PM W g bl be bs K E Z) (hk : Z[x]? = some z) :
    Calls Tryd.prog 12 #[.pointer (some ⟨g, 0, none⟩), .int .i64 (x : Int)] W fun e w' => e = .returned (.int .i64 z) ∧ w' = W := by
  have cH := hasQueue_any x h
  have hlt := (List.getElem?_eq_some_iff.1 hk).1
  rw [h.lz] at hlt
  have hn := h.ne
  rw [inR_nat, decide_eq_true hlt] at cH
  have c2 := h.c2
  have hxl : (x : Int) < E.length := by omega
  have e0 := h.sz hk
  go_enter Tryd.func12, Tryd.ntmps12
  go_wp2_with (go_at_call 24; (with_reducible refine cH.mono ?_); rintro e w1 ⟨rfl, rfl⟩)
  all_goals go_ret
  all_goals trivial
theorem len_any (x : Int) {s : Fq} (hF : Fqp K E Z s) (h : PM W g bl be bs K E Z) :
    Calls Tryd.prog 12 #[.pointer (some ⟨g, 0, none⟩), .int .i64 x] W fun e w' => e = .returned (.int .i64 ((s.qi x).length : Int)) ∧ w' = W := by
  cases hx : inR E.length x with
  | false =>
    have hf : s.qi x = [] := Fq.qi_no (by rw [hF.le] at hx; exact hx)
    have cH := hasQueue_any x h
    rw [hf]
    rw [hx] at cH
    exact lenNo_any _ x cH
  | true =>
    obtain ⟨i, q, rfl, hi, hq, hqi⟩ := Fq.hasQ_pos (s := s) (i := x) (by rw [hF.le] at hx; exact hx)
    rw [hqi]
    exact lenAt_any i _ h (hF.sz i q hq)
set_option maxRecDepth 8000 in
set_option maxHeartbeats 1000000 in
theorem next_any (x : Nat) (k : Lk) (h : PM W g bl be bs K E Z) (hk : K[x]? = some k) :
    Calls Tryd.prog 29 #[.pointer (some ⟨g, 0, none⟩), .int .i64 (x : Int)] W fun e w' => e = .returned (.tuple #[.int .i64 k.x, .bool (!(k.x == -1))]) ∧ w' = W := by
  have hlt := (List.getElem?_eq_some_iff.1 hk).1
  have hn := h.nk
  have c0 := h.c0
  have hxl : (x : Int) < K.length := by omega
  obtain ⟨e0, e1, e2⟩ := h.lk hk
  obtain ⟨q, p, y⟩ := k
  simp only at e0 e1 e2
  go_enter Tryd.func29, Tryd.ntmps29
  go_wp2_with fail
  all_goals go_ret2
  all_goals exact ⟨by simp [bne], rfl⟩
end
end Go.Proofs.YtipmhialflincaaDoor
