/-
  The contracts of package fifo's methods that write: join, Push, Remove, Pop.
-/
import Derived.Test.YtipmhialflincaaDoorFiq
import Derived.Test.YtipmhialflincaaDoorFis
import Derived.Test.YtipmhialflincaaDoorDuo
import Derived.RegionTactic
import Derived.BigRegion
import Derived.ChangeAlike
import Derived.StillTailTactics
namespace Go.Proofs.YtipmhialflincaaDoor
open Go.RowKit
theorem below_drewN {B : Nat} {w w' : World} (h : Below B w w') (n : Nat) : Below B w (w'.drewN n) := ⟨h.os, h.tape, h.output, h.size, h.block⟩
section
variable {W : World} {g bl be bs : Nat} {K : List Lk} {E : List En} {Z : List Int}
set_option maxRecDepth 8000 in
set_option maxHeartbeats 1000000 in
theorem join_any (i : Nat) (p x : Int) (h : PM W g bl be bs K E Z) (hi : i < E.length) (hp : Nn K.length p) (hx : Nn K.length x) :
    Calls Tryd.prog 28 #[.pointer (some ⟨g, 0, none⟩), .int .i64 (i : Int), .int .i64 p, .int .i64 x] W fun e w' => e = .returned undef ∧ Frm (Qb g bl be bs) W w' ∧ PM w' g bl be bs (jK2 (jK1 K p x) p x) (jE2 (jE1 E i p x) i p x) Z := by
  have hn := h.ne
  have hnk := h.nk
  obtain ⟨en, hen⟩ : ∃ en, E[i]? = some en := ⟨_, List.getElem?_eq_getElem hi⟩
  have hiE : (i : Int) < E.length := by omega
  have c0 := h.c0
  have c1 := h.c1
  have d1 := h.d1
  have d2 := h.d2
  have d4 := h.d4
  have f0 := h.fl
  have f1 := h.fe
  obtain ⟨e0, e1⟩ := h.en hen
  have hb : Qb g bl be bs be := .inr (.inr (.inl rfl))
  have hb2 : Qb g bl be bs bl := .inr (.inl rfl)
  rcases hp with rfl | ⟨y, rfl, hy⟩
  · rcases hx with rfl | ⟨z, rfl, hz⟩
    · -- both none
      have k1 := h.setEf hen (-1)
      have k2 := k1.setEl (List.getElem?_set_self hi) (-1)
      have hfr := ((Frm.refl (Qb g bl be bs) W).setCell ⟨be, i * 2, none⟩ (.int .i64 (-1)) (.inl hb)).setCell ⟨be, i * 2 + 1, none⟩ (.int .i64 (-1)) (.inl hb)
      have hE : jE2 (jE1 E i (-1) (-1)) i (-1) (-1) = (E.set i ⟨-1, en.l⟩).set i ⟨-1, -1⟩ := by
        unfold jE1 jE2
        rw [if_pos rfl, if_pos rfl, mod_set _ hen, mod_set (a := ⟨-1, en.l⟩) _ (List.getElem?_set_self hi)]
      have hK : jK2 (jK1 K (-1) (-1)) (-1) (-1) = K := rfl
      rw [← hE, ← hK] at k2
      clear hE hK k1 h hen hb hb2
      generalize hKK : jK2 (jK1 K _ _) _ _ = K2 at k2 ⊢
      generalize hEE : jE2 (jE1 E i _ _) i _ _ = E2 at k2 ⊢
      clear hKK hEE
      go_enter Tryd.func28, Tryd.ntmps28
      go_wp2_with fail
      all_goals go_end0
      all_goals exact ⟨rfl, hfr, k2⟩
    · -- the first node
      obtain ⟨kz, hkz⟩ : ∃ kz, K[z]? = some kz := ⟨_, List.getElem?_eq_getElem hz⟩
      obtain ⟨m0, m1, m2⟩ := h.lk hkz
      have hzK : (z : Int) < K.length := by omega
      have k1 := h.setEf hen (z : Int)
      have k2 := k1.setLp hkz (-1)
      have hfr := ((Frm.refl (Qb g bl be bs) W).setCell ⟨be, i * 2, none⟩ (.int .i64 (z : Int)) (.inl hb)).setCell ⟨bl, z * 3 + 1, none⟩ (.int .i64 (-1)) (.inl hb2)
      have hz1 : ¬ (z : Int) = -1 := by omega
      have hE : jE2 (jE1 E i (-1) (z : Int)) i (-1) (z : Int) = E.set i ⟨(z : Int), en.l⟩ := by
        unfold jE1 jE2
        rw [if_neg hz1, if_pos rfl, mod_set _ hen]
      have hK : jK2 (jK1 K (-1) (z : Int)) (-1) (z : Int) = K.set z ⟨kz.q, -1, kz.x⟩ := by
        unfold jK1 jK2
        rw [if_neg hz1, if_pos rfl, Int.toNat_natCast, mod_set _ hkz]
      rw [← hE, ← hK] at k2
      clear hE hK k1 h hen hb hb2 hkz
      generalize hKK : jK2 (jK1 K _ _) _ _ = K2 at k2 ⊢
      generalize hEE : jE2 (jE1 E i _ _) i _ _ = E2 at k2 ⊢
      clear hKK hEE
      go_enter Tryd.func28, Tryd.ntmps28
      go_wp2_with fail
      all_goals go_end0
      all_goals exact ⟨rfl, hfr, k2⟩
  · obtain ⟨ky, hky⟩ : ∃ ky, K[y]? = some ky := ⟨_, List.getElem?_eq_getElem hy⟩
    obtain ⟨n0, n1, n2⟩ := h.lk hky
    have hyK : (y : Int) < K.length := by omega
    have hy1 : ¬ (y : Int) = -1 := by omega
    rcases hx with rfl | ⟨z, rfl, hz⟩
    · -- the last node
      have k1 := h.setLx hky (-1)
      have k2 := k1.setEl hen (y : Int)
      have hfr := ((Frm.refl (Qb g bl be bs) W).setCell ⟨bl, y * 3 + 2, none⟩ (.int .i64 (-1)) (.inl hb2)).setCell ⟨be, i * 2 + 1, none⟩ (.int .i64 (y : Int)) (.inl hb)
      have hE : jE2 (jE1 E i (y : Int) (-1)) i (y : Int) (-1) = E.set i ⟨en.f, (y : Int)⟩ := by
        unfold jE1 jE2
        rw [if_neg hy1, if_pos rfl, mod_set _ hen]
      have hK : jK2 (jK1 K (y : Int) (-1)) (y : Int) (-1) = K.set y ⟨ky.q, ky.p, -1⟩ := by
        unfold jK1 jK2
        rw [if_neg hy1, if_pos rfl, Int.toNat_natCast, mod_set _ hky]
      rw [← hE, ← hK] at k2
      clear hE hK k1 h hen hb hb2 hky
      generalize hKK : jK2 (jK1 K _ _) _ _ = K2 at k2 ⊢
      generalize hEE : jE2 (jE1 E i _ _) i _ _ = E2 at k2 ⊢
      clear hKK hEE
      go_enter Tryd.func28, Tryd.ntmps28
      go_wp2_with fail
      all_goals go_end0
      all_goals exact ⟨rfl, hfr, k2⟩
    · -- between two
      obtain ⟨kz, hkz⟩ : ∃ kz, (K.set y ⟨ky.q, ky.p, (z : Int)⟩)[z]? = some kz := ⟨_, List.getElem?_eq_getElem (by rw [List.length_set]; exact hz)⟩
      obtain ⟨kz', hkz'⟩ : ∃ kz, K[z]? = some kz := ⟨_, List.getElem?_eq_getElem hz⟩
      obtain ⟨m0, m1, m2⟩ := h.lk hkz'
      have hzK : (z : Int) < K.length := by omega
      have k1 := h.setLx hky (z : Int)
      have k2 := k1.setLp hkz (y : Int)
      have hfr := ((Frm.refl (Qb g bl be bs) W).setCell ⟨bl, y * 3 + 2, none⟩ (.int .i64 (z : Int)) (.inl hb2)).setCell ⟨bl, z * 3 + 1, none⟩ (.int .i64 (y : Int)) (.inl hb2)
      have hz1 : ¬ (z : Int) = -1 := by omega
      have hE : jE2 (jE1 E i (y : Int) (z : Int)) i (y : Int) (z : Int) = E := by
        unfold jE1 jE2
        rw [if_neg hz1, if_neg hy1]
      have hK : jK2 (jK1 K (y : Int) (z : Int)) (y : Int) (z : Int) = (K.set y ⟨ky.q, ky.p, (z : Int)⟩).set z ⟨kz.q, (y : Int), kz.x⟩ := by
        unfold jK1 jK2
        rw [if_neg hz1, if_neg hy1, Int.toNat_natCast, Int.toNat_natCast, mod_set _ hky, mod_set _ hkz]
      rw [← hE, ← hK] at k2
      clear hE hK k1 h hen hb hb2 hkz hkz' hky
      generalize hKK : jK2 (jK1 K _ _) _ _ = K2 at k2 ⊢
      generalize hEE : jE2 (jE1 E i _ _) i _ _ = E2 at k2 ⊢
      clear hKK hEE
      go_enter Tryd.func28, Tryd.ntmps28
      go_wp2_with fail
      all_goals go_end0
      all_goals exact ⟨rfl, hfr, k2⟩
theorem lset (K : List Lk) {x : Nat} (hx : x < K.length) (v : Lk) : (K.set x v)[x]? = some v := List.getElem?_set_self hx
set_option maxRecDepth 8000 in
set_option maxHeartbeats 1000000 in
theorem pushNo_any (i x : Int) {s : Fq} (hF : Fqp K E Z s) (h : PM W g bl be bs K E Z) (hn : s.pushB i x = false) :
    Calls Tryd.prog 14 #[.pointer (some ⟨g, 0, none⟩), .int .i64 i, .int .i64 x] W fun e w' => e = .returned (.bool false) ∧ ∃ n, w' = W.drewN n := by
  have cQ := fun w (k : PM w g bl be bs K E Z) => hasQueue_any i k
  have cN := fun w (k : PM w g bl be bs K E Z) => hasNode_any x k
  cases hq : inR E.length i with
  | false =>
    rw [hq] at cQ
    go_enter Tryd.func14, Tryd.ntmps14
    go_wp2_with fail
    go_quiet ((go_at_call 24; exact Calls.quiet_of_same (cQ _ (h.drewN _))))
    go_wp2
    all_goals go_ret
    all_goals exact ⟨rfl, _, rfl⟩
  | true =>
    rw [hq] at cQ
    cases hx : inR K.length x with
    | false =>
      rw [hx] at cN
      go_enter Tryd.func14, Tryd.ntmps14
      go_wp2_with fail
      go_quiet (first
        | (go_at_call 24; exact Calls.quiet_of_same (cQ _ (h.drewN _)))
        | (go_at_call 27; exact Calls.quiet_of_same (cN _ (h.drewN _))))
      go_wp2
      all_goals go_ret
      all_goals exact ⟨rfl, _, rfl⟩
    | true =>
      rw [hx] at cN
      obtain ⟨y, rfl, hy⟩ := Fq.hasN_pos (s := s) (x := x) (by rw [hF.lk] at hx; exact hx)
      have hf : ∃ p, s.find y = some p := by
        rw [hF.le] at hq
        rw [hF.lk] at hx
        have hq' : s.hasQ i = true := hq
        have hx' : s.hasN (y : Int) = true := hx
        unfold Fq.pushB at hn
        rw [hq', hx', s.findI_nat] at hn
        cases hf : s.find y with
        | none => rw [hf] at hn; simp at hn
        | some p => exact ⟨p, rfl⟩
      obtain ⟨⟨j, k⟩, hf⟩ := hf
      obtain ⟨q, h1, h2⟩ := Fq.find_some hf
      have hk := hF.inn y j k q h1 h2
      have hlt := (List.getElem?_eq_some_iff.1 hk).1
      have hn := h.nk
      have c0 := h.c0
      have hxl : (y : Int) < K.length := by omega
      obtain ⟨e0, e1, e2⟩ := h.lk hk
      obtain ⟨a0, a1, a2, -, -⟩ := h.gl
      have hE := neq_Lk ⟨(j : Int), pr q k, nt q (k + 1)⟩ ⟨-1, -1, -1⟩
      have hb : eqLk ⟨(j : Int), pr q k, nt q (k + 1)⟩ ⟨-1, -1, -1⟩ = false := by simp [eqLk]
      rw [hb] at hE
      simp only at e0 e1 e2
      generalize pr q k = pp at *
      generalize nt q (k + 1) = nn at *
      generalize (j : Int) = jj at *
      clear hF hb hk h1 h2 hf
      go_enter Tryd.func14, Tryd.ntmps14
      go_wp2_with fail
      go_quiet (first
        | (go_at_call 24; exact Calls.quiet_of_same (cQ _ (h.drewN _)))
        | (go_at_call 27; exact Calls.quiet_of_same (cN _ (h.drewN _))))
      go_wp2
      all_goals go_ret
      all_goals exact ⟨rfl, _, rfl⟩
set_option maxRecDepth 8000 in
set_option maxHeartbeats 1000000 in
theorem pushAt_any (i x : Nat) {q : List Nat} {s : Fq} (hF : Fqp K E Z s) (h : PM W g bl be bs K E Z) (hi : s.L[i]? = some q) (hx : x < s.n) (hn : ∀ j m, ¬ s.At x j m) :
    Calls Tryd.prog 14 #[.pointer (some ⟨g, 0, none⟩), .int .i64 (i : Int), .int .i64 (x : Int)] W fun e w' => e = .returned (.bool true) ∧ Frm (Qb g bl be bs) W w' ∧ ∃ K' E' Z', Fqp K' E' Z' (s.put i (q ++ [x])) ∧ PM w' g bl be bs K' E' Z' := by
  have cQ := fun w (k : PM w g bl be bs K E Z) => hasQueue_any (i : Int) k
  have cN := fun w (k : PM w g bl be bs K E Z) => hasNode_any (x : Int) k
  have hiE : i < E.length := by rw [hF.le]; exact (List.getElem?_eq_some_iff.1 hi).1
  have hxK : x < K.length := by rw [hF.lk]; exact hx
  rw [inR_nat, decide_eq_true hiE] at cQ
  rw [inR_nat, decide_eq_true hxK] at cN
  have hk := hF.out x hx hn
  have hsz := hF.sz i q hi
  have hlen := hF.wf.len hi
  have hnk := h.nk
  have hne := h.ne
  have hlk := hF.lk
  have c0 := h.c0
  have hxl : (x : Int) < K.length := by omega
  have hil : (i : Int) < E.length := by omega
  obtain ⟨e0, e1, e2⟩ := h.lk hk
  obtain ⟨a0, a1, a2, -, -⟩ := h.gl
  have hE := neq_Lk ⟨-1, -1, -1⟩ ⟨-1, -1, -1⟩
  rw [show eqLk ⟨-1, -1, -1⟩ ⟨-1, -1, -1⟩ = true from rfl] at hE
  have hfin := hF.pushJ hi hx hn
  have hpn : Nn K.length (pr q q.length) := hF.nn_pr hi _
  have hen := hF.en i q hi
  have hbl : Qb g bl be bs bl := .inr (.inl rfl)
  have hbs : Qb g bl be bs bs := .inr (.inr (.inr rfl))
  -- behind the first store
  have s1 : ∀ n, PM ((W.drewN n).setCell ⟨bl, x * 3, none⟩ (.int .i64 (i : Int))) g bl be bs (K.set x ⟨(i : Int), -1, -1⟩) E Z := fun n => (h.drewN n).setLq hk (i : Int)
  have j1 := fun w (k : PM w g bl be bs (K.set x ⟨(i : Int), -1, -1⟩) E Z) => join_any i (pr q q.length) (x : Int) k hiE (by rw [List.length_set]; exact hpn) (.inr ⟨x, rfl, by rw [List.length_set]; exact hxK⟩)
  generalize hK1 : jK2 (jK1 (K.set x ⟨(i : Int), -1, -1⟩) (pr q q.length) (x : Int)) (pr q q.length) (x : Int) = K1 at *
  generalize hE1 : jE2 (jE1 E i (pr q q.length) (x : Int)) i (pr q q.length) (x : Int) = E1 at *
  have lK1 : K1.length = K.length := by rw [← hK1]; simp [jK1_len, jK2_len]
  have lE1 : E1.length = E.length := by rw [← hE1]; simp [jE1_len, jE2_len]
  have j2 := fun w (k : PM w g bl be bs K1 E1 Z) => join_any i (x : Int) (-1) k (by rw [lE1]; exact hiE) (.inr ⟨x, rfl, by rw [lK1]; exact hxK⟩) (.inl rfl)
  generalize hK2 : jK2 (jK1 K1 (x : Int) (-1)) (x : Int) (-1) = K2 at *
  generalize hE2 : jE2 (jE1 E1 i (x : Int) (-1)) i (x : Int) (-1) = E2 at *
  have lE2 : E2.length = E.length := by rw [← hE2]; simp [jE1_len, jE2_len, lE1]
  clear hK1 hE1 hK2 hE2
  generalize pr q q.length = pp at *
  have hq500 : q.length < 501 := by omega
  generalize q.length = ql at *
  generalize nt q 0 = n0 at *
  generalize s.put i (q ++ [x]) = s' at *
  have d1 := h.d1
  have d5 := h.d5
  have f0 := h.fl (x * 3)
  clear hF hi hn hx hlk hlen
  go_enter Tryd.func14, Tryd.ntmps14
  go_wp2_with fail
  go_quiet (first
    | (go_at_call 24; exact Calls.quiet_of_same (cQ _ (h.drewN _)))
    | (go_at_call 27; exact Calls.quiet_of_same (cN _ (h.drewN _))))
  have p1 := s1 nq
  have r1 : Frm (Qb g bl be bs) W ((W.drewN nq).setCell ⟨bl, x * 3, none⟩ (.int .i64 (i : Int))) := (Frm.of_below (below_drewN (Below.refl _ W) nq)).setCell _ _ (.inl hbl)
  have c1 := p1.c1
  obtain ⟨m0, m1⟩ := p1.en hen
  go_wp2_with (first
    | (go_at_call 28; (with_reducible refine (j1 _ p1).mono ?_); rintro e w2 ⟨rfl, r2, p2⟩; clear j1 p1)
    | (go_at_call 28; (with_reducible refine (j2 w2 p2).mono ?_); rintro e w3 ⟨rfl, r3, p3⟩; clear j2 p2; have c2 := p3.c2; have e3 := p3.sz hsz; have f3 := p3.fs i; rw [lE2] at c2))
  all_goals go_ret
  all_goals exact ⟨rfl, ((r1.trans r2 (fun b e => .inl e)).trans r3 (fun b e => .inl e)).setCell _ _ (.inl hbs), _, _, _, hfin, p3.setZ hsz ((ql : Int) + 1)⟩
theorem push_any (i x : Int) {s : Fq} (hF : Fqp K E Z s) (h : PM W g bl be bs K E Z) :
    Calls Tryd.prog 14 #[.pointer (some ⟨g, 0, none⟩), .int .i64 i, .int .i64 x] W fun e w' => e = .returned (.bool (s.pushB i x)) ∧ Frm (Qb g bl be bs) W w' ∧ ∃ K' E' Z', Fqp K' E' Z' (s.pushS i x) ∧ PM w' g bl be bs K' E' Z' := by
  unfold Fq.pushS
  cases hb : s.pushB i x with
  | false =>
    rw [if_neg (by simp)]
    exact (pushNo_any i x hF h hb).mono fun e w' ⟨he, n, hw⟩ => ⟨he, by rw [hw]; exact Frm.of_below (below_drewN (Below.refl _ W) n), K, E, Z, hF, by rw [hw]; exact h.drewN n⟩
  | true =>
    rw [if_pos rfl]
    have hb' := hb
    simp only [Fq.pushB, Bool.and_eq_true] at hb
    obtain ⟨k, q, rfl, hk, hq, hqi⟩ := Fq.hasQ_pos hb.1.1
    obtain ⟨y, rfl, hy⟩ := Fq.hasN_pos hb.1.2
    rw [hqi, Int.toNat_natCast, Int.toNat_natCast]
    refine pushAt_any k y hF h hq hy (Fq.find_none ?_)
    have := hb.2
    rw [s.findI_nat] at this
    simpa using this
set_option maxRecDepth 8000 in
set_option maxHeartbeats 1000000 in
theorem removeNo_any (p : Option Addr) (x v : Int) (W : World) (cO : Calls Tryd.prog 18 #[.pointer p, .int .i64 x] W fun e w' => e = .returned (.tuple #[.int .i64 v, .bool false]) ∧ ∃ n, w' = W.drewN n) :
    Calls Tryd.prog 15 #[.pointer p, .int .i64 x] W fun e w' => e = .returned (.tuple #[.int .i64 0, .bool false]) ∧ ∃ n, w' = W.drewN n := by
  go_enter Tryd.func15, Tryd.ntmps15
  go_wp2_with (go_at_call 18; (with_reducible refine cO.mono ?_); rintro e w1 ⟨rfl, n1, rfl⟩)
  all_goals go_ret2
  all_goals exact ⟨rfl, _, rfl⟩
set_option maxRecDepth 8000 in
set_option maxHeartbeats 1000000 in
theorem removeAt_any (i x k : Nat) {q : List Nat} {s : Fq} (hF : Fqp K E Z s) (h : PM W g bl be bs K E Z) (hi : s.L[i]? = some q) (hx : q[k]? = some x) :
    Calls Tryd.prog 15 #[.pointer (some ⟨g, 0, none⟩), .int .i64 (x : Int)] W fun e w' => e = .returned (.tuple #[.int .i64 (i : Int), .bool true]) ∧ Frm (Qb g bl be bs) W w' ∧ ∃ K' E' Z', Fqp K' E' Z' (s.put i (q.eraseIdx k)) ∧ PM w' g bl be bs K' E' Z' := by
  have hat : s.At x i k := ⟨q, hi, hx⟩
  have cO := of_any (x : Int) hF h
  have hfe := Fq.findI_eq hF.wf hat
  rw [show s.ofV (x : Int) = (i : Int) by unfold Fq.ofV; rw [hfe]; rfl, show s.ofB (x : Int) = true by unfold Fq.ofB; rw [hfe]; rfl] at cO
  have hiE : i < E.length := by rw [hF.le]; exact (List.getElem?_eq_some_iff.1 hi).1
  have hxK : x < K.length := by rw [hF.lk]; exact hF.wf.lt x i k hat
  have hk := hF.inn x i k q hi hx
  have hsz := hF.sz i q hi
  have hlen := hF.wf.len hi
  have hkl := (List.getElem?_eq_some_iff.1 hx).1
  have hnk := h.nk
  have hne := h.ne
  have hlk := hF.lk
  have c0 := h.c0
  have hxl : (x : Int) < K.length := by omega
  have hil : (i : Int) < E.length := by omega
  obtain ⟨e0, e1, e2⟩ := h.lk hk
  obtain ⟨a0, a1, a2, -, -⟩ := h.gl
  have hfin := hF.remJ hi hx
  have hpn : Nn K.length (pr q k) := hF.nn_pr hi _
  have hnn : Nn K.length (nt q (k + 1)) := hF.nn_nt hi _
  have hbl : Qb g bl be bs bl := .inr (.inl rfl)
  have hbs : Qb g bl be bs bs := .inr (.inr (.inr rfl))
  have j1 := fun w (k' : PM w g bl be bs K E Z) => join_any i (pr q k) (nt q (k + 1)) k' hiE hpn hnn
  generalize hK1 : jK2 (jK1 K (pr q k) (nt q (k + 1))) (pr q k) (nt q (k + 1)) = K1 at *
  generalize hE1 : jE2 (jE1 E i (pr q k) (nt q (k + 1))) i (pr q k) (nt q (k + 1)) = E1 at *
  have lK1 : K1.length = K.length := by rw [← hK1]; simp [jK1_len, jK2_len]
  have lE1 : E1.length = E.length := by rw [← hE1]; simp [jE1_len, jE2_len]
  obtain ⟨kx, hkx⟩ : ∃ kx, K1[x]? = some kx := ⟨_, List.getElem?_eq_getElem (by rw [lK1]; exact hxK)⟩
  clear hK1 hE1
  generalize pr q k = pp at *
  generalize nt q (k + 1) = nn at *
  have hq500 : 0 < q.length ∧ q.length < 501 := by omega
  generalize q.length = ql at *
  generalize s.put i (q.eraseIdx k) = s' at *
  have d1 := h.d1
  have d5 := h.d5
  simp only at e0 e1 e2
  clear hF hi hx hlk hlen hkl hfe hat
  go_enter Tryd.func15, Tryd.ntmps15
  go_wp2_with (go_at_call 18; (with_reducible refine cO.mono ?_); rintro e w1 ⟨rfl, n1, rfl⟩)
  have h1 := h.drewN n1
  have r1 : Frm (Qb g bl be bs) W (W.drewN n1) := Frm.of_below (below_drewN (Below.refl _ W) n1)
  replace e1 := (h1.lk hk).2.1
  replace e2 := (h1.lk hk).2.2
  replace c0 := h1.c0
  simp only at e1 e2
  generalize W.drewN n1 = W1 at *
  clear cO e0 h
  go_still_tail 18, (by kernel_rfl)
  change wpList _ _ _ _ _ (World.drew _)
  replace h1 := h1.drew
  replace r1 := r1.drew
  clear e1 e2 c0
  generalize W1.drew = W2 at *
  go_wp2_with (go_at_call 28; (with_reducible refine (j1 _ h1).mono ?_); rintro e w2 ⟨rfl, r2, p2⟩; clear j1 h1)
  have c0 := p2.c0
  rw [lK1] at c0
  obtain ⟨m0, m1, m2⟩ := p2.lk hkx
  have f0 := p2.fl
  clear a0 a1 a2
  obtain ⟨a0, a1, a2, -, -⟩ := p2.gl
  have q1 := p2.drew.setLq hkx (-1)
  have q2 := q1.setLp (lset K1 (by rw [lK1]; exact hxK) _) (-1)
  have q3 := q2.setLx (List.getElem?_set_self (by rw [List.length_set, lK1]; exact hxK)) (-1)
  rw [List.set_set, List.set_set] at q3
  go_still_tail 7, (by kernel_rfl)
  change wpList _ _ _ _ _ (World.drew _)
  have r3 := (r1.trans r2 (fun b e => .inl e)).drew
  replace f0 : ∀ i, w2.drew.frozen? ⟨bl, i, none⟩ = false := f0
  replace m0 : w2.drew.cell? ⟨bl, x * 3, none⟩ = _ := m0
  replace m1 : w2.drew.cell? ⟨bl, x * 3 + 1, none⟩ = _ := m1
  replace m2 : w2.drew.cell? ⟨bl, x * 3 + 2, none⟩ = _ := m2
  have r4 := (((r3.setCell ⟨bl, x * 3, none⟩ (.int .i64 (-1)) (.inl hbl)).setCell ⟨bl, x * 3 + 1, none⟩ (.int .i64 (-1)) (.inl hbl)).setCell ⟨bl, x * 3 + 2, none⟩ (.int .i64 (-1)) (.inl hbl))
  clear c0 a0 a1 a2 p2 r1 r2 r3 q1 q2 hkx
  generalize w2.drew = W3 at *
  have c2 := q3.c2
  have z0 := q3.sz hsz
  have fz := q3.fs i
  rw [lE1] at c2
  have q4 := q3.setZ hsz ((ql : Int) - 1)
  have r5 := r4.setCell ⟨bs, i, none⟩ (.int .i64 ((ql : Int) - 1)) (.inl hbs)
  go_wp2_with fail
  all_goals go_ret2
  all_goals exact ⟨rfl, r5, _, _, _, hfin, q4⟩
theorem remove_any (x : Int) {s : Fq} (hF : Fqp K E Z s) (h : PM W g bl be bs K E Z) :
    Calls Tryd.prog 15 #[.pointer (some ⟨g, 0, none⟩), .int .i64 x] W fun e w' => e = .returned (.tuple #[.int .i64 (s.ofV x), .bool (s.ofB x)]) ∧ Frm (Qb g bl be bs) W w' ∧ ∃ K' E' Z', Fqp K' E' Z' (s.remS x) ∧ PM w' g bl be bs K' E' Z' := by
  unfold Fq.remS
  cases hf : s.findI x with
  | none =>
    have cO := of_any x hF h
    have hB : s.ofB x = false := by unfold Fq.ofB; rw [hf]; rfl
    have hV : s.ofV x = 0 := by unfold Fq.ofV; rw [hf]; rfl
    rw [hB, hV] at cO ⊢
    exact (removeNo_any _ x 0 W cO).mono fun e w' ⟨he, n, hw⟩ => ⟨he, by rw [hw]; exact Frm.of_below (below_drewN (Below.refl _ W) n), K, E, Z, hF, by rw [hw]; exact h.drewN n⟩
  | some p =>
    obtain ⟨i, k⟩ := p
    obtain ⟨y, rfl, q, h1, h2⟩ := Fq.findI_some hf
    have hB : s.ofB (y : Int) = true := by unfold Fq.ofB; rw [hf]; rfl
    have hV : s.ofV (y : Int) = (i : Int) := by unfold Fq.ofV; rw [hf]; rfl
    rw [hB, hV]
    simp only
    rw [h1]
    exact removeAt_any i y k hF h h1 h2
set_option maxRecDepth 8000 in
set_option maxHeartbeats 1000000 in
theorem pop_any (i : Int) {s : Fq} (hF : Fqp K E Z s) (h : PM W g bl be bs K E Z) :
    Calls Tryd.prog 16 #[.pointer (some ⟨g, 0, none⟩), .int .i64 i] W fun e w' => e = .returned (.tuple #[.int .i64 (s.frontV i), .bool (s.frontB i)]) ∧ Frm (Qb g bl be bs) W w' ∧ ∃ K' E' Z', Fqp K' E' Z' (s.popS i) ∧ PM w' g bl be bs K' E' Z' := by
  have cF := front_any i hF h
  have cR := fun w (k : PM w g bl be bs K E Z) => remove_any (s.frontV i) hF k
  unfold Fq.popS
  generalize s.remS (s.frontV i) = s2 at *
  generalize s.ofV (s.frontV i) = v2 at *
  generalize s.ofB (s.frontV i) = b2 at *
  generalize s.frontV i = v at *
  have hdr := fun n => h.drewN n
  cases hb : s.frontB i with
  | false =>
    rw [hb] at cF
    rw [if_neg (by simp)]
    clear hb
    go_enter Tryd.func16, Tryd.ntmps16
    go_wp2_with (go_at_call 17; (with_reducible refine cF.mono ?_); rintro e w1 ⟨rfl, n1, rfl⟩)
    go_ret2
    exact ⟨rfl, Frm.of_below (below_drewN (Below.refl _ W) n1), K, E, Z, hF, h.drewN n1⟩
  | true =>
    rw [hb] at cF
    rw [if_pos rfl]
    clear hb
    go_enter Tryd.func16, Tryd.ntmps16
    go_wp2_with (first
      | (go_at_call 17; (with_reducible refine cF.mono ?_); rintro e w1 ⟨rfl, n1, rfl⟩)
      | (go_at_call 15; (with_reducible refine (cR _ (hdr n1)).mono ?_); rintro e w2 ⟨rfl, hf2, h2⟩))
    go_ret2
    exact ⟨rfl, (Frm.of_below (S := Qb g bl be bs) (below_drewN (Below.refl _ W) n1)).trans hf2 (fun b e => .inl e), h2⟩
end
end Go.Proofs.YtipmhialflincaaDoor
