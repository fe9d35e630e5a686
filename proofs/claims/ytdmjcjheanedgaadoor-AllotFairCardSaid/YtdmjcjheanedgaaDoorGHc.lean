/-
  Pairs of the program's allot: two lists that are cut, till one is empty. (Written by gen/p_alv.py.)
  sum, Total, Of of the program's allot.
  Apply of the program's allot.
  What the program's allot answers.
-/
import Derived.Test.YtdmjcjheanedgaaDoorGHb
import Derived.Test.YtdmjcjheanedgaaDoorGHa
import Derived.Test.YtdmjcjheanedgaaDoorGB
import Derived.Test.YtdmjcjheanedgaaDoorGC
import Derived.Test.YtdmjcjheanedgaaDoorGZ
import Derived.Test.YtdmjcjheanedgaaDoorGK
namespace Go.Proofs.YtdmjcjheanedgaaDoor
open Go.RowKit
set_option linter.unusedSimpArgs false
theorem infoAPr : (Tryd.prog.info? 50).map (fun i => (i.zero, i.size, i.bytes)) = some (some (vPr Pr.zero), 3, 24) := by kernel_rfl
theorem aPr_one (x : Pr) : ∀ u ∈ (cPr x).toList, u.oneCell' = true := by
  intro u hu
  simp at hu
  rcases hu with rfl | rfl | rfl <;> rfl
def QtyOk (X : List Ord) : Prop := ∀ x ∈ X, 1 ≤ x.qty ∧ x.qty ≤ 4294967296
theorem QtyOk.cut {x : Ord} {X : List Ord} (h : QtyOk (x :: X)) {m : Int} (h0 : 0 ≤ m) (hm : m ≤ x.qty) : QtyOk (cutO m x X) := by
  intro z hz
  have hx := h x List.mem_cons_self
  unfold cutO at hz
  split at hz
  · exact h z (List.mem_cons_of_mem _ hz)
  · rename_i hne
    rcases List.mem_cons.1 hz with rfl | hz
    · show 1 ≤ x.qty - m ∧ x.qty - m ≤ 4294967296
      omega
    · exact h z (List.mem_cons_of_mem _ hz)
theorem cut_lens (x y : Ord) (X Y : List Ord) : (cutO (min x.qty y.qty) x X).length + (cutO (min x.qty y.qty) y Y).length ≤ X.length + Y.length + 1 := by
  unfold cutO
  by_cases h1 : x.qty = min x.qty y.qty
  · rw [if_pos h1]
    split <;> simp <;> omega
  · have h2 : y.qty = min x.qty y.qty := by omega
    rw [if_neg h1, if_pos h2]
    simp
    omega
theorem prs_step {x y : Ord} {X Y : List Ord} (hX : QtyOk (x :: X)) (hY : QtyOk (y :: Y)) : prsF (y :: Y) 0 (x :: X) = ⟨x.id, y.id, min x.qty y.qty⟩ :: prsF (cutO (min x.qty y.qty) y Y) 0 (cutO (min x.qty y.qty) x X) := by
  have hx := hX x List.mem_cons_self
  have hy := hY y List.mem_cons_self
  have h1 := mtP_eq (X.length + Y.length + 1 + 1) (x :: X) (y :: Y) (fun z hz => (hX z hz).1) (fun z hz => (hY z hz).1) (by simp; omega)
  have h2 := mtP_eq (X.length + Y.length + 1) (cutO (min x.qty y.qty) x X) (cutO (min x.qty y.qty) y Y) (fun z hz => (hX.cut (by omega) (by omega) z hz).1) (fun z hz => (hY.cut (by omega) (by omega) z hz).1) (cut_lens x y X Y)
  rw [← h1, ← h2]
  rfl
/-- How far the loop has come. -/
structure Alz (W : World) (N : Nat) (ka kb kp : Option Nat) (X Y : List Ord) (D : List Pr) (a1 : Option Addr) (c1 : Nat) (a2 : Option Addr) (c2 : Nat) (a3 : Option Addr) (c3 : Nat) (w : World) : Prop where
  x : LX w ka a1 c1 X
  y : LX w kb a2 c2 Y
  g : Gr 50 3 cPr W w D kp c3 a3
  oa : ∀ k, ka = some k → W.heap.size ≤ k ∧ k < N
  ob : ∀ k, kb = some k → W.heap.size ≤ k ∧ k < N
  ne : ∀ k, ka = some k → kb ≠ some k
  op : ∀ k, kp = some k → N ≤ k
  nw : N ≤ w.heap.size
section
variable {W w w' : World} {N : Nat} {ka kb kp : Option Nat} {X Y : List Ord} {D : List Pr} {a1 a2 a3 : Option Addr} {c1 c2 c3 : Nat}
theorem Alz.below (h : Alz W N ka kb kp X Y D a1 c1 a2 c2 a3 c3 w) (hb : Below w.heap.size w w') : Alz W N ka kb kp X Y D a1 c1 a2 c2 a3 c3 w' := ⟨h.x.below hb, h.y.below hb, h.g.call hb, h.oa, h.ob, h.ne, h.op, Nat.le_trans h.nw hb.size⟩
theorem Alz.cutX (h : Alz W N ka kb kp X Y D a1 c1 a2 c2 a3 c3 w) {X' : List Ord} {a1' : Option Addr} {c1' : Nat} (hx : LX w' ka a1' c1' X') (hf : Frm (fun c => ka = some c) w w') : Alz W N ka kb kp X' Y D a1' c1' a2 c2 a3 c3 w' :=
  ⟨hx, h.y.frm hf (fun k e e' => h.ne k e' e), ⟨h.g.ow.frm hf (fun k e e' => by have := (h.oa k e').2; have := h.op k e; omega), h.g.own, h.g.bel.trans (hf.below h.g.bel.size (fun c e => (h.oa c e).1))⟩, h.oa, h.ob, h.ne, h.op, Nat.le_trans h.nw hf.size⟩
theorem Alz.cutY (h : Alz W N ka kb kp X Y D a1 c1 a2 c2 a3 c3 w) {Y' : List Ord} {a2' : Option Addr} {c2' : Nat} (hy : LX w' kb a2' c2' Y') (hf : Frm (fun c => kb = some c) w w') : Alz W N ka kb kp X Y' D a1 c1 a2' c2' a3 c3 w' :=
  ⟨h.x.frm hf (fun k e e' => h.ne k e e'), hy, ⟨h.g.ow.frm hf (fun k e e' => by have := (h.ob k e').2; have := h.op k e; omega), h.g.own, h.g.bel.trans (hf.below h.g.bel.size (fun c e => (h.ob c e).1))⟩, h.oa, h.ob, h.ne, h.op, Nat.le_trans h.nw hf.size⟩
theorem Alz.app (h : Alz W N ka kb kp X Y D a1 c1 a2 c2 a3 c3 w) {z : Pr} {kp' : Option Nat} {a3' : Option Addr} {c3' : Nat} (hf : Frm (fun c => kp = some c) w w') (hg : Gr 50 3 cPr W w' (D ++ [z]) kp' c3' a3') (hk : kp' = none ∨ kp' = kp ∨ ∃ k, kp' = some k ∧ w.heap.size ≤ k) : Alz W N ka kb kp' X Y (D ++ [z]) a1 c1 a2 c2 a3' c3' w' :=
  ⟨h.x.frm hf (fun k e e' => by have := (h.oa k e).2; have := h.op k e'; omega), h.y.frm hf (fun k e e' => by have := (h.ob k e).2; have := h.op k e'; omega), hg, h.oa, h.ob, h.ne, fun k e => by
    rcases hk with e' | e' | ⟨k2, e', h2⟩
    · rw [e'] at e; cases e
    · rw [e'] at e; exact h.op k e
    · rw [e'] at e; cases e; exact Nat.le_trans h.nw h2, Nat.le_trans h.nw hf.size⟩
/-- The first of both, as they lie. -/
theorem LX.one {x : Ord} (h : LX w ka a1 c1 (x :: X)) : ∃ k off, ka = some k ∧ a1 = some ⟨k, off, none⟩ ∧ Cut w k off (x :: X) := by
  rcases h.at' with h0 | h1
  · cases h0
  · exact h1
set_option maxRecDepth 8000 in
set_option maxHeartbeats 8000000 in
theorem pairs_any {p : Option Addr} (price : Int) (hX : QtyOk X) (hY : QtyOk Y) (hXl : X.length ≤ 500) (hYl : Y.length ≤ 500)
    (cX : ∀ w, Below W.heap.size W w → Calls Tryd.prog 23 #[.pointer p, .int .i64 0, .int .i64 price] w fun e w' => ∃ ko ao cap, e = .returned (.slice ao X.length cap) ∧ OwG 44 7 w' ko ao cap X.length (ocs X) ∧ (∀ k, ko = some k → w.heap.size ≤ k) ∧ Below w.heap.size w w')
    (cY : ∀ w, Below W.heap.size W w → Calls Tryd.prog 23 #[.pointer p, .int .i64 1, .int .i64 price] w fun e w' => ∃ ko ao cap, e = .returned (.slice ao Y.length cap) ∧ OwG 44 7 w' ko ao cap Y.length (ocs Y) ∧ (∀ k, ko = some k → w.heap.size ≤ k) ∧ Below w.heap.size w w') :
    Calls Tryd.prog 10 #[.pointer p, .int .i64 price] W fun e w' => ∃ ao cap, e = .returned (.slice ao (prsF Y 0 X).length cap) ∧ Prs w' ao cap (prsF Y 0 X) ∧ (∀ c off s, ao = some ⟨c, off, s⟩ → W.heap.size ≤ c) ∧ Below W.heap.size W w' := by
  obtain ⟨i1, hi1, e1⟩ := Option.map_eq_some_iff.1 infoAPr
  simp only [Prod.mk.injEq] at e1
  obtain ⟨hz1, hs1, hb1⟩ := e1
  obtain ⟨R, hR⟩ : ∃ R, R = prsF Y 0 X := ⟨_, rfl⟩
  rw [← hR]
  have hst : ∀ (ko1 ko2 : Option Nat) (ao1 ao2 : Option Addr) (cap1 cap2 : Nat) (w1 w2 : World), Below W.heap.size W w1 → OwG 44 7 w1 ko1 ao1 cap1 X.length (ocs X) → (∀ k, ko1 = some k → W.heap.size ≤ k) → Below w1.heap.size w1 w2 → OwG 44 7 w2 ko2 ao2 cap2 Y.length (ocs Y) → (∀ k, ko2 = some k → w1.heap.size ≤ k) → Alz W w2.heap.size ko1 ko2 none X Y [] ao1 cap1 ao2 cap2 none 0 w2 := by
    intro ko1 ko2 ao1 ao2 cap1 cap2 w1 w2 hb1 ho1 hk1 hb2 ho2 hk2
    have hs1 := hb1.size
    have hs2 := hb2.size
    refine ⟨LX.of_own (ho1.below hb2), LX.of_own ho2, ⟨OwG.nil _ _ _, fun k e => (by cases e), hb1.trans (hb2.mono hb1.size)⟩, fun k e => ?_, fun k e => ?_, fun k e e' => ?_, fun k e => (by cases e), Nat.le_refl _⟩
    · subst e; exact ⟨hk1 k rfl, Nat.lt_of_lt_of_le ho1.lt hs2⟩
    · subst e; exact ⟨Nat.le_trans hs1 (hk2 k rfl), ho2.lt⟩
    · subst e; subst e'
      have := ho1.lt
      have := hk2 k rfl
      omega
  have cX0 := cX W (Below.refl _ _)
  clear cX
  replace hst := Lib.hid hst
  obtain ⟨n1, hn1⟩ : ∃ n, n = X.length := ⟨_, rfl⟩
  obtain ⟨n2, hn2⟩ : ∃ n, n = Y.length := ⟨_, rfl⟩
  have hsum : n1 + n2 ≤ 1000 := by omega
  replace hR := Lib.hid hR
  replace hX := Lib.hid hX
  replace hY := Lib.hid hY
  clear hXl hYl
  rw [← hn1] at cX0
  simp only [← hn2] at cY
  replace hn1 := Lib.hid hn1
  replace hn2 := Lib.hid hn2
  go_enter Tryd.func10, Tryd.ntmps10
  go_wp2_with (first
    | ((with_reducible refine cX0.mono ?_); rintro e w1 ⟨ko1, ao1, cap1, rfl, hO1, hk1, hb1'⟩; clear cX0; have cY1 := cY w1 hb1'; clear cY)
    | ((with_reducible refine cY1.mono ?_); rintro e w2 ⟨ko2, ao2, cap2, rfl, hO2, hk2, hb2⟩; clear cY1; rw [hn1.out] at hO1; rw [hn2.out] at hO2; have hZ := hst.out ko1 ko2 ao1 ao2 cap1 cap2 w1 w2 hb1' hO1 hk1 hb2 hO2 hk2; clear hst hO1 hk1 hb1' hO2 hk2 hb2)
    | fail)
  generalize w2.heap.size = N at hZ
  go_loopg [5, 6, 7] (n1 + n2) (fun j p5 p6 p7 wr => ∃ (X' Y' : List Ord) (D : List Pr) (a1 : Option Addr) (c1 : Nat) (a2 : Option Addr) (c2 : Nat) (a3 : Option Addr) (c3 : Nat) (ka kb kp : Option Nat) (m1 m2 m3 : Nat), p5 = .slice a1 m1 c1 ∧ p6 = .slice a2 m2 c2 ∧ p7 = .slice a3 m3 c3 ∧ Hid (m1 = X'.length ∧ m2 = Y'.length ∧ m3 = D.length) ∧ m1 + m2 ≤ j ∧ m3 + j ≤ 1000 ∧ Hid (D ++ prsF Y' 0 X' = R) ∧ Hid (QtyOk X' ∧ QtyOk Y') ∧ Alz W N ka kb kp X' Y' D a1 c1 a2 c2 a3 c3 wr)
  case atStart => exact ⟨X, Y, [], ao1, cap1, ao2, cap2, none, 0, ko1, ko2, none, n1, n2, 0, rfl, rfl, rfl, Lib.hid ⟨hn1.out, hn2.out, rfl⟩, Nat.le_refl _, by omega, Lib.hid (by rw [hR.out]; rfl), Lib.hid ⟨hX.out, hY.out⟩, hZ⟩
  case round =>
    clear hZ hX hY hR hn1 hn2 hsum
    obtain ⟨X', Y', D, a1, c1, a2, c2, a3, c3, ka, kb, kp, m1, m2, m3, rfl, rfl, rfl, hm, hmj, hmd, hD, hQ, hA⟩ := hrel
    have hfin : (X' = [] ∨ Y' = []) → Hid (∃ ao cap, (Ending.returned (.slice a3 m3 c3)) = .returned (.slice ao R.length cap) ∧ Prs wr ao cap R ∧ (∀ c off s, ao = some ⟨c, off, s⟩ → W.heap.size ≤ c) ∧ Below W.heap.size W wr) := fun h => by
      have e : D = R := by
        rw [← hD.out]
        rcases h with h | h
        · rw [h]; exact (List.append_nil D).symm
        · rw [h, prs_none]; exact (List.append_nil D).symm
      refine Lib.hid ⟨a3, c3, by rw [hm.out.2.2, e], ?_, fun c off s e2 => ?_, hA.g.bel⟩
      · rw [← e]
        exact Prs.of_own hA.g.ow
      · rcases hA.g.ow.at' with ⟨_, h0, _⟩ | ⟨k, cur, e1, h0, _⟩
        · rw [h0] at e2; cases e2
        · rw [h0] at e2; cases e2
          exact hA.g.own _ e1
    cases hX0 : X' with
    | nil =>
      have hf := hfin (.inl hX0)
      have e : m1 = 0 := by rw [hm.out.1, hX0]; rfl
      subst e
      clear hfin hm hD hQ hA hX0
      go_wp2_with fail
      go_ret
      exact hf.out
    | cons x X'' =>
      have p1 : (0 : Int) < (m1 : Int) := by rw [hm.out.1, hX0, List.length_cons]; omega
      cases hY0 : Y' with
      | nil =>
        have hf := hfin (.inr hY0)
        have e : m2 = 0 := by rw [hm.out.2.1, hY0]; rfl
        subst e
        clear hfin hm hD hQ hA hX0 hY0
        go_wp2_with fail
        go_ret
        exact hf.out
      | cons y Y'' =>
        have p2 : (0 : Int) < (m2 : Int) := by rw [hm.out.2.1, hY0, List.length_cons]; omega
        clear hfin
        subst hX0 hY0
        obtain ⟨k1, off1, rfl, rfl, hC1⟩ := hA.x.one
        obtain ⟨k2, off2, rfl, rfl, hC2⟩ := hA.y.one
        have hqx := hQ.out.1 x List.mem_cons_self
        have hqy := hQ.out.2 y List.mem_cons_self
        obtain ⟨m, hm0⟩ : ∃ m, m = min x.qty y.qty := ⟨_, rfl⟩
        have hmx : 0 ≤ m ∧ m ≤ x.qty ∧ m ≤ y.qty := by omega
        have hstep := prs_step hQ.out.1 hQ.out.2
        have hlens := cut_lens x y X'' Y''
        rw [← hm0] at hstep hlens
        have hQ1 := hQ.out.1.cut hmx.1 hmx.2.1
        have hQ2 := hQ.out.2.cut hmx.1 hmx.2.2
        have hDn : Hid ((D ++ [⟨x.id, y.id, m⟩]) ++ prsF (cutO m y Y'') 0 (cutO m x X'') = R) := Lib.hid (by rw [← hD.out, hstep, List.append_assoc]; rfl)
        have hQn := Lib.hid (And.intro hQ1 hQ2)
        have hlt1 : k1 < wr.heap.size := by have := (hA.oa k1 rfl).2; have := hA.nw; omega
        have hlt2 : k2 < wr.heap.size := by have := (hA.ob k2 rfl).2; have := hA.nw; omega
        have hfac : Hid (∀ w, Below wr.heap.size wr w → w.cell? ⟨k1, off1 + 4, none⟩ = some (.int .i64 x.qty) ∧ w.cell? ⟨k2, off2 + 4, none⟩ = some (.int .i64 y.qty)) := Lib.hid fun w hb => ⟨(hC1.frm (Frm.of_below (S := fun _ => False) hb) (fun f => f)).cell 4 _ rfl, (hC2.frm (Frm.of_below (S := fun _ => False) hb) (fun f => f)).cell 4 _ rfl⟩
        have hlm : Hid (m1 = X''.length + 1 ∧ m2 = Y''.length + 1 ∧ m3 = D.length ∧ (cutO m x X'').length + (cutO m y Y'').length + 1 ≤ m1 + m2) := Lib.hid ⟨by rw [hm.out.1]; rfl, by rw [hm.out.2.1]; rfl, hm.out.2.2, by rw [hm.out.1, hm.out.2.1, List.length_cons, List.length_cons]; omega⟩
        have hcx := fun ao cap w h => cut_any (W := w) (ka := some k1) (ao := ao) (cap := cap) m x X'' hmx.1 hmx.2.1 hqx.2 h
        have hcy := fun ao cap w h => cut_any (W := w) (ka := some k2) (ao := ao) (cap := cap) m y Y'' hmx.1 hmx.2.2 hqy.2 h
        rw [← hlm.out.1] at hcx
        rw [← hlm.out.2.1] at hcy
        clear hm hQ hD hC1 hC2 hqx hqy hmx hstep hlens hQ1 hQ2
        replace hm := Lib.hid hm0
        clear hm0
        replace hcx := Lib.hid hcx
        replace hcy := Lib.hid hcy
        have hids : Hid (∀ w, LX w (some k1) (some ⟨k1, off1, none⟩) c1 (x :: X'') → LX w (some k2) (some ⟨k2, off2, none⟩) c2 (y :: Y'') → w.cell? ⟨k1, off1, none⟩ = some (.int .i64 x.id) ∧ w.cell? ⟨k2, off2, none⟩ = some (.int .i64 y.id)) := Lib.hid fun w h1 h2 => by
          obtain ⟨_, _, e1, e2, e3⟩ := h1.one
          cases e1; cases e2
          obtain ⟨_, _, e4, e5, e6⟩ := h2.one
          cases e4; cases e5
          exact ⟨e3.cell 0 _ rfl, e6.cell 0 _ rfl⟩
        generalize x.qty = xq at hfac hm
        generalize y.qty = yq at hfac hm
        generalize hxi : x.id = xi at hids hDn
        generalize hyi : y.id = yi at hids hDn
        replace hA := Lib.hid hA
        go_wp2_with fail
        refine wp_region_S (S := (fun _ w => Below wr.heap.size wr w)) (by kernel_rfl) (Below.refl _ _).drew ?_
        refine AllS.next (v := ?_) rfl rfl rfl (by kernel_rfl) ?_ ?_
        rotate_left
        · refine yieldsS_run (fun _ _ h => h) (by rfl) ?_
          intro L wx hS
          go_simp
          try with_reducible rfl
        try simp only [Act.put, List.setIfInBounds_toArray, List.set_cons_zero, List.set_cons_succ, List.getElem_toArray, List.getElem_cons_zero, List.getElem_cons_succ]
        refine AllS.next (v := ?_) rfl rfl rfl (by kernel_rfl) ?_ ?_
        rotate_left
        · refine yieldsS_run (fun _ _ h => h) (by rfl) ?_
          intro L wx hS
          obtain ⟨f0, f1⟩ := hfac.out wx hS
          go_simp
          try with_reducible rfl
        try simp only [Act.put, List.setIfInBounds_toArray, List.set_cons_zero, List.set_cons_succ, List.getElem_toArray, List.getElem_cons_zero, List.getElem_cons_succ]
        refine AllS.next (v := ?_) rfl rfl rfl (by kernel_rfl) ?_ ?_
        rotate_left
        · refine yieldsS_run (fun _ _ h => h) (by rfl) ?_
          intro L wx hS
          obtain ⟨f0, f1⟩ := hfac.out wx hS
          go_simp
          try with_reducible rfl
        try simp only [Act.put, List.setIfInBounds_toArray, List.set_cons_zero, List.set_cons_succ, List.getElem_toArray, List.getElem_cons_zero, List.getElem_cons_succ]
        refine AllS.next (v := ?_) rfl rfl rfl (by kernel_rfl) ?_ ?_
        rotate_left
        · refine yieldsS_run (fun _ _ h => h) (by rfl) ?_
          intro L wx hS
          obtain ⟨f0, f1⟩ := hfac.out wx hS
          go_simp
          try with_reducible rfl
        try simp only [Act.put, List.setIfInBounds_toArray, List.set_cons_zero, List.set_cons_succ, List.getElem_toArray, List.getElem_cons_zero, List.getElem_cons_succ]
        refine AllS.next (v := ?_) rfl rfl rfl (by kernel_rfl) ?_ ?_
        rotate_left
        · refine yieldsS_run (fun _ _ h => h) (by rfl) ?_
          intro L wx hS
          go_simp
          try with_reducible rfl
        try simp only [Act.put, List.setIfInBounds_toArray, List.set_cons_zero, List.set_cons_succ, List.getElem_toArray, List.getElem_cons_zero, List.getElem_cons_succ]
        refine AllS.next (v := ?_) rfl rfl rfl (by kernel_rfl) ?_ ?_
        rotate_left
        · refine yieldsS_run (fun _ _ h => h) (by rfl) ?_
          intro L wx hS
          obtain ⟨f0, f1⟩ := hfac.out wx hS
          go_simp
          try with_reducible rfl
        try simp only [Act.put, List.setIfInBounds_toArray, List.set_cons_zero, List.set_cons_succ, List.getElem_toArray, List.getElem_cons_zero, List.getElem_cons_succ]
        refine AllS.next (v := ?_) rfl rfl rfl (by kernel_rfl) ?_ ?_
        rotate_left
        · refine yieldsS_run (fun _ _ h => h) (by rfl) ?_
          intro L wx hS
          obtain ⟨f0, f1⟩ := hfac.out wx hS
          go_simp
          try with_reducible rfl
        try simp only [Act.put, List.setIfInBounds_toArray, List.set_cons_zero, List.set_cons_succ, List.getElem_toArray, List.getElem_cons_zero, List.getElem_cons_succ]
        refine AllS.next (v := ?_) rfl rfl rfl (by kernel_rfl) ?_ ?_
        rotate_left
        · refine yieldsS_run (fun _ _ h => h) (by rfl) ?_
          intro L wx hS
          obtain ⟨f0, f1⟩ := hfac.out wx hS
          go_simp
          try with_reducible rfl
        try simp only [Act.put, List.setIfInBounds_toArray, List.set_cons_zero, List.set_cons_succ, List.getElem_toArray, List.getElem_cons_zero, List.getElem_cons_succ]
        refine AllS.next (v := .int .i64 m) rfl rfl rfl (by kernel_rfl) ?_ ?_
        · refine yieldsS_run (fun _ _ h => h) (by rfl) ?_
          intro L wx hS
          have hm := hm.out
          go_simp
          all_goals first
            | done
            | with_reducible rfl
            | omega
            | (split <;> simp_all <;> omega)
            | trace_state
        try simp only [Act.put, List.setIfInBounds_toArray, List.set_cons_zero, List.set_cons_succ, List.getElem_toArray, List.getElem_cons_zero, List.getElem_cons_succ]
        refine AllS.next (v := ?_) rfl rfl rfl (by kernel_rfl) ?_ ?_
        rotate_left
        · refine yieldsS_run (fun _ _ h => h) (by rfl) ?_
          intro L wx hS
          go_simp
          try with_reducible rfl
        try simp only [Act.put, List.setIfInBounds_toArray, List.set_cons_zero, List.set_cons_succ, List.getElem_toArray, List.getElem_cons_zero, List.getElem_cons_succ]
        refine AllS.done (by kernel_rfl) ?_
        intro W4 b4
        go_wp2_with fail
        have hAd := (hA.out.below b4).below (Below.refl W4.heap.size W4).drew
        refine GoL.start (S := fun _ w => Frm (fun c => kp = some c) W4.drew w) (by kernel_rfl) (Frm.refl _ _) ?_
        generalize W4.drew = U at hAd ⊢
        have hGd := hAd.g
        obtain ⟨z, hz⟩ : ∃ z : Pr, z = ⟨xi, yi, m⟩ := ⟨_, rfl⟩
        rw [← hz] at hDn
        have hone := aPr_one z
        have hnew := Lib.hid (fun ao cap ko w ho hf hm => (hGd.alloc (.cells (cPr z) 50)).app (m := z) (w3 := w) (oc' := cap) (oo' := ao) (ko' := ko) ho hf hm)
        have hfad : Hid (∀ w, Frm (fun c => kp = some c) U w → w.cell? ⟨k1, off1, none⟩ = some (.int .i64 xi) ∧ w.cell? ⟨k2, off2, none⟩ = some (.int .i64 yi)) := Lib.hid fun w hf => hids.out w (hAd.x.frm hf (fun k e e' => by have := (hAd.oa k e).2; have := hAd.op k e'; omega)) (hAd.y.frm hf (fun k e e' => by have := (hAd.ob k e).2; have := hAd.op k e'; omega))
        have hm3 : m3 ≤ 1000 := by omega
        obtain rfl : m3 = D.length := hlm.out.2.2.1
        clear hfac hA hids hm
        refine GoL.take (i := 0) (v := ?_) rfl rfl (by kernel_rfl) (fun _ _ _ h => h) (fun _ _ => Iff.rfl) (by rfl) ?_ ?_
        rotate_left
        · intro wx hwx
          have hwx := Wi.at' hwx
          go_simp
          all_goals first
            | done
            | with_reducible rfl
            | assumption
            | (simp_all; done)
        try simp only [Act.put, List.setIfInBounds_toArray, List.set_cons_zero, List.set_cons_succ, List.getElem_toArray, List.getElem_cons_zero, List.getElem_cons_succ]
        refine GoL.take (i := 1) (v := ?_) rfl rfl (by kernel_rfl) (fun _ _ _ h => h) (fun _ _ => Iff.rfl) (by rfl) ?_ ?_
        rotate_left
        · intro wx hwx
          have hwx := Wi.at' hwx
          go_simp
          all_goals first
            | done
            | with_reducible rfl
            | assumption
            | (simp_all; done)
        try simp only [Act.put, List.setIfInBounds_toArray, List.set_cons_zero, List.set_cons_succ, List.getElem_toArray, List.getElem_cons_zero, List.getElem_cons_succ]
        refine GoL.take (i := 2) (v := ?_) rfl rfl (by kernel_rfl) (fun _ _ _ h => h) (fun _ _ => Iff.rfl) (by rfl) ?_ ?_
        rotate_left
        · intro wx hwx
          have hwx := Wi.at' hwx
          obtain ⟨g0, g1⟩ := hfad.out wx hwx
          go_simp
          all_goals first
            | done
            | with_reducible rfl
            | assumption
            | (simp_all; done)
        try simp only [Act.put, List.setIfInBounds_toArray, List.set_cons_zero, List.set_cons_succ, List.getElem_toArray, List.getElem_cons_zero, List.getElem_cons_succ]
        refine GoL.take (i := 3) (v := ?_) rfl rfl (by kernel_rfl) (fun _ _ _ h => h) (fun _ _ => Iff.rfl) (by rfl) ?_ ?_
        rotate_left
        · intro wx hwx
          have hwx := Wi.at' hwx
          obtain ⟨g0, g1⟩ := hfad.out wx hwx
          go_simp
          all_goals first
            | done
            | with_reducible rfl
            | assumption
            | (simp_all; done)
        try simp only [Act.put, List.setIfInBounds_toArray, List.set_cons_zero, List.set_cons_succ, List.getElem_toArray, List.getElem_cons_zero, List.getElem_cons_succ]
        refine GoL.take (i := 4) (v := ?_) rfl rfl (by kernel_rfl) (fun _ _ _ h => h) (fun _ _ => Iff.rfl) (by rfl) ?_ ?_
        rotate_left
        · intro wx hwx
          have hwx := Wi.at' hwx
          obtain ⟨g0, g1⟩ := hfad.out wx hwx
          go_simp
          all_goals first
            | done
            | with_reducible rfl
            | assumption
            | (simp_all; done)
        try simp only [Act.put, List.setIfInBounds_toArray, List.set_cons_zero, List.set_cons_succ, List.getElem_toArray, List.getElem_cons_zero, List.getElem_cons_succ]
        refine GoL.take (i := 5) (v := ?_) rfl rfl (by kernel_rfl) (fun _ _ _ h => h) (fun _ _ => Iff.rfl) (by rfl) ?_ ?_
        rotate_left
        · intro wx hwx
          have hwx := Wi.at' hwx
          go_simp
          all_goals first
            | done
            | with_reducible rfl
            | assumption
            | (simp_all; done)
        try simp only [Act.put, List.setIfInBounds_toArray, List.set_cons_zero, List.set_cons_succ, List.getElem_toArray, List.getElem_cons_zero, List.getElem_cons_succ]
        refine GoL.take (i := 6) (v := ?_) rfl rfl (by kernel_rfl) (fun _ _ _ h => h) (fun _ _ => Iff.rfl) (by rfl) ?_ ?_
        rotate_left
        · intro wx hwx
          have hwx := Wi.at' hwx
          obtain ⟨g0, g1⟩ := hfad.out wx hwx
          go_simp
          all_goals first
            | done
            | with_reducible rfl
            | assumption
            | (simp_all; done)
        try simp only [Act.put, List.setIfInBounds_toArray, List.set_cons_zero, List.set_cons_succ, List.getElem_toArray, List.getElem_cons_zero, List.getElem_cons_succ]
        refine GoL.take (i := 7) (v := ?_) rfl rfl (by kernel_rfl) (fun _ _ _ h => h) (fun _ _ => Iff.rfl) (by rfl) ?_ ?_
        rotate_left
        · intro wx hwx
          have hwx := Wi.at' hwx
          obtain ⟨g0, g1⟩ := hfad.out wx hwx
          go_simp
          all_goals first
            | done
            | with_reducible rfl
            | assumption
            | (simp_all; done)
        try simp only [Act.put, List.setIfInBounds_toArray, List.set_cons_zero, List.set_cons_succ, List.getElem_toArray, List.getElem_cons_zero, List.getElem_cons_succ]
        refine GoL.take (i := 8) (v := ?_) rfl rfl (by kernel_rfl) (fun _ _ _ h => h) (fun _ _ => Iff.rfl) (by rfl) ?_ ?_
        rotate_left
        · intro wx hwx
          have hwx := Wi.at' hwx
          obtain ⟨g0, g1⟩ := hfad.out wx hwx
          go_simp
          all_goals first
            | done
            | with_reducible rfl
            | assumption
            | (simp_all; done)
        try simp only [Act.put, List.setIfInBounds_toArray, List.set_cons_zero, List.set_cons_succ, List.getElem_toArray, List.getElem_cons_zero, List.getElem_cons_succ]
        refine GoL.take (i := 9) (v := ?_) rfl rfl (by kernel_rfl) (fun _ _ _ h => h) (fun _ _ => Iff.rfl) (by rfl) ?_ ?_
        rotate_left
        · intro wx hwx
          have hwx := Wi.at' hwx
          go_simp
          all_goals first
            | done
            | with_reducible rfl
            | assumption
            | (simp_all; done)
        try simp only [Act.put, List.setIfInBounds_toArray, List.set_cons_zero, List.set_cons_succ, List.getElem_toArray, List.getElem_cons_zero, List.getElem_cons_succ]
        refine GoL.take (i := 10) (v := ?_) rfl rfl (by kernel_rfl) (fun _ _ _ h => h) (fun _ _ => Iff.rfl) (by rfl) ?_ ?_
        rotate_left
        · intro wx hwx
          have hwx := Wi.at' hwx
          go_simp
          all_goals first
            | done
            | with_reducible rfl
            | assumption
            | (simp_all; done)
        try simp only [Act.put, List.setIfInBounds_toArray, List.set_cons_zero, List.set_cons_succ, List.getElem_toArray, List.getElem_cons_zero, List.getElem_cons_succ]
        refine GoL.on (rs := [11]) (by kernel_rfl) (by decide) ?_
        refine OnL.cons rfl ?_ OnL.nil
        intro K hK
        replace hK := Lib.hid hK
        go_simp
        have b2 : Frm (fun c => kp = some c) U (U.alloc (.cells (cPr z) 50)) := (Frm.refl _ U).alloc _
        rw [hz] at b2
        refine hK.out _ _ b2 ?_
        clear hK
        try simp only [Act.put, List.setIfInBounds_toArray, List.set_cons_zero, List.set_cons_succ, List.getElem_toArray, List.getElem_cons_zero, List.getElem_cons_succ]
        refine GoL.on (rs := [12]) (by kernel_rfl) (by decide) ?_
        refine OnL.cons rfl ?_ OnL.nil
        intro K hK
        replace hK := Lib.hid hK
        refine step_appG rfl (.tmp 32) (.tmp 43) 31 50 i1 _ 3 24 Tryd.underlying31 hi1 hz1 hs1 hb1 rfl (by decide) rfl (hGd.ow.alloc _) (SrcG.row (cs := cPr z) (by rw [hz]; exact Blk.new _ _ _) rfl hone) rfl rfl (by omega) (by omega) ?_
        intro ao1 cap1 ko1 w2 ho1 hf1 hm1
        have b3 := b2.trans hf1 (fun c e => .inl e)
        have hG2 := hnew.out _ _ _ _ ho1 (by rw [hz]; exact hf1) (by rw [hz]; exact hm1)
        have hmv : ko1 = none ∨ ko1 = kp ∨ ∃ k, ko1 = some k ∧ U.heap.size ≤ k := hm1.imp id (Or.imp id fun ⟨k, e, h⟩ => ⟨k, e, by rw [World.size_alloc] at h; omega⟩)
        refine hK.out _ _ b3 ?_
        clear hK ho1 hf1 hm1 hnew
        try simp only [Act.put, List.setIfInBounds_toArray, List.set_cons_zero, List.set_cons_succ, List.getElem_toArray, List.getElem_cons_zero, List.getElem_cons_succ]
        refine GoL.take (i := 13) (v := ?_) rfl rfl (by kernel_rfl) (fun _ _ _ h => h) (fun _ _ => Iff.rfl) (by rfl) ?_ ?_
        rotate_left
        · intro wx hwx
          have hwx := Wi.at' hwx
          go_simp
          all_goals first
            | done
            | with_reducible rfl
            | assumption
            | (simp_all; done)
        try simp only [Act.put, List.setIfInBounds_toArray, List.set_cons_zero, List.set_cons_succ, List.getElem_toArray, List.getElem_cons_zero, List.getElem_cons_succ]
        refine GoL.done (by kernel_rfl) ?_
        refine NoPanic.normal ?_
        have hA5 := hAd.app b3 hG2 hmv
        have c5 := hcx.out _ _ w2 hA5.x
        replace hA5 := Lib.hid hA5
        have hj := hlm.out.2.2.2
        replace hj := Lib.hid hj
        clear hcx hlm hAd hGd hG2 hmv hfad b2 b3 b4 hone hm3 hz
        go_wp2_with (first
          | ((with_reducible refine c5.mono ?_); rintro e w6 ⟨ao6, cap6, rfl, hx6, hf6⟩; clear c5; have hA6 := hA5.out.cutX hx6 hf6; have c6 := hcy.out _ _ w6 hA6.y; replace hA6 := Lib.hid hA6; clear hx6 hf6 hcy hA5)
          | ((with_reducible refine c6.mono ?_); rintro e w7 ⟨ao7, cap7, rfl, hy7, hf7⟩; clear c6; have hA7 := Lib.hid (hA6.out.cutY hy7 hf7); clear hy7 hf7 hA6)
          | fail)
        go_roundg ((cutO m x X'').length + (cutO m y Y'').length)
        case measure => have := hj.out; omega
        case rel => exact ⟨cutO m x X'', cutO m y Y'', D ++ [z], _, _, _, _, ao1, cap1, some k1, some k2, ko1, _, _, _, rfl, rfl, rfl, Lib.hid ⟨rfl, rfl, by simp⟩, Nat.le_refl _, by have := hj.out; omega, hDn, hQn, hA7.out⟩
end
end Go.Proofs.YtdmjcjheanedgaaDoor
namespace Go.Proofs.YtdmjcjheanedgaaDoor
open Go.RowKit
set_option linter.unusedSimpArgs false
theorem fsum_at {l : List Pr} {q : Nat} {x : Pr} (f : Pr → Bool) (h : l[q]? = some x) : totP ((l.take (q + 1)).filter f) = totP ((l.take q).filter f) + (if f x then x.qty else 0) := by
  rw [List.take_add_one, h, List.filter_append, totP_append]
  cases hf : f x <;> simp [hf, totP]
theorem fsum_le (f : Pr → Bool) : ∀ (l : List Pr), (∀ p ∈ l, 0 ≤ p.qty) → ∀ n, 0 ≤ totP ((l.take n).filter f) ∧ totP ((l.take n).filter f) ≤ totP l
  | [], _, n => by simp [totP]
  | p :: l, h, n => by
    have h1 := h p List.mem_cons_self
    have ih := fsum_le f l fun q hq => h q (List.mem_cons_of_mem _ hq)
    have hz := ih 0
    cases n with
    | zero => simp only [List.take_zero, List.filter_nil, totP] at hz ⊢; omega
    | succ n =>
      have hn := ih n
      rw [List.take_succ_cons, List.filter_cons]
      split
      · simp only [totP]; omega
      · simp only [totP]; omega
theorem pr_cells {w : World} {b : Nat} {T : TypeId} {x y q : Int} (h : Blk w b T #[.int .i64 x, .int .i64 y, .int .i64 q]) : w.cell? ⟨b, 0, none⟩ = some (.int .i64 x) ∧ w.cell? ⟨b, 1, none⟩ = some (.int .i64 y) ∧ w.cell? ⟨b, 2, none⟩ = some (.int .i64 q) := ⟨h.cell_eq 0 _ rfl, h.cell_eq 1 _ rfl, h.cell_eq 2 _ rfl⟩
section
variable {w w' W : World}
set_option maxRecDepth 8000 in
set_option maxHeartbeats 4000000 in
theorem sum_any {ao : Option Addr} {cap : Nat} {l : List Pr} (gn : Nat) (gc : Array Value) (hG : Goes gn) (f : Pr → Bool) (hL : Prs W ao cap l) (hb : ∀ n, 0 ≤ totP ((l.take n).filter f) ∧ totP ((l.take n).filter f) ≤ 9223372036854775807)
    (hC : ∀ w, Below W.heap.size W w → ∀ m, m ∈ l → Calls Tryd.prog gn (#[vPr m] ++ gc) w fun e w' => e = .returned (.bool (f m)) ∧ Below w.heap.size w w') :
    Calls Tryd.prog 28 #[.slice ao l.length cap, .func (.func gn) #[] gc] W fun e w' => e = .returned (.int .i64 (totP (l.filter f))) ∧ Below W.heap.size W w' := by
  have hl1 := hL.len
  have hl2 := hL.top
  unfold maxLen at hl2
  have hlm0 : l.length ≤ 9223372036854775807 := by omega
  have hall : Hid (totP ((l.take l.length).filter f) = totP (l.filter f)) := Lib.hid (by rw [List.take_length])
  have hz : totP ((l.take 0).filter f) = 0 := rfl
  clear hl1 hl2
  obtain ⟨n, hn⟩ : ∃ n, n = l.length := ⟨_, rfl⟩
  rw [← hn] at hlm0 ⊢
  have hlm := Lib.hid hlm0
  clear hlm0
  replace hn := Lib.hid hn
  go_enter Tryd.func28, Tryd.ntmps28
  go_wp2_with fail
  go_loopg [5, 12] n (fun j p5 p12 wr => ∃ (q : Nat) (t : Int), q + j = n ∧ p5 = .int .i64 t ∧ p12 = .int .i64 (q : Int) ∧ Hid (t = totP ((l.take q).filter f)) ∧ Below W.heap.size W wr)
  case atStart => exact ⟨0, 0, by omega, rfl, rfl, Lib.hid hz.symm, Below.refl _ _⟩
  case round =>
    clear hz
    obtain ⟨q, t, hqj, rfl, rfl, ht, br⟩ := hrel
    by_cases hqn : q < n
    · obtain ⟨x, hx⟩ : ∃ x, l[q]? = some x := ⟨_, List.getElem?_eq_getElem (by rw [← hn.out]; exact hqn)⟩
      have hs := fsum_at f hx
      rw [← ht.out] at hs
      have h1 := hb q
      have h2 := hb (q + 1)
      rw [← ht.out] at h1
      obtain ⟨c0, off, rfl, y0, y1, y2⟩ := (hL.below br).get hx
      replace y0 : wr.cell? ⟨c0, off + q * 3, none⟩ = some (.int .i64 x.buy) := y0
      obtain ⟨wa, hwa⟩ : ∃ wa, wa = wr.alloc (.cells (cPr x) 50) := ⟨_, rfl⟩
      have hbwa : Below W.heap.size W wa := by rw [hwa]; exact br.alloc br.size _
      have hPa : Blk wa wr.heap.size 50 (cPr x) := by rw [hwa]; exact Blk.new _ _ _
      obtain ⟨z0, z1, z2⟩ := pr_cells hPa
      have hql : (q : Int) < (n : Int) := by omega
      replace hqj := Lib.hid hqj
      have hCr := hC wa hbwa x (List.mem_of_getElem? hx)
      have hG1 := hG (#[vPr x] ++ gc)
      clear hC hx
      obtain ⟨xi, xp, xq⟩ := x
      simp only at y0 y1 y2 z0 z1 z2 hs
      simp only [cPr, vPr] at hwa hCr hG1 hPa
      cases hf : f ⟨xi, xp, xq⟩
      · rw [hf] at hCr hs
        simp only [Bool.false_eq_true, if_false] at hs
        have hs' : Hid (t = totP ((l.take (q + 1)).filter f)) := Lib.hid (by rw [hs]; omega)
        clear hs h1 h2 hf hPa
        go_wp2_with (first
          | (rw [← hwa]; clear hwa)
          | ((with_reducible refine hCr.mono ?_); rintro e w2 ⟨rfl, hb2⟩; clear hCr)
          | fail)
        go_roundg (n - (q + 1))
        case measure => have := hqj.out; omega
        case rel => have := hlm.out; exact ⟨q + 1, _, by have := hqj.out; omega, rfl, by refine congrArg _ ?_; unfold RowKit.wrap64; omega, hs', hbwa.trans (hb2.mono hbwa.size)⟩
      · rw [hf] at hCr hs
        simp only [if_true] at hs
        have cA := fun w => fadd_any t xq ⟨by omega, by omega⟩ ⟨by omega, by omega⟩ w
        rw [fit_yes ⟨by omega, by omega⟩] at cA
        have hs' : Hid (t + xq = totP ((l.take (q + 1)).filter f)) := Lib.hid hs.symm
        clear hs h1 h2 hf
        go_wp2_with (first
          | (rw [← hwa]; clear hwa)
          | (go_at_call 51; refine (cA _).mono ?_; rintro e w3 ⟨rfl, hb3⟩; clear cA)
          | ((with_reducible refine hCr.mono ?_); rintro e w2 ⟨rfl, hb2⟩; clear hCr z0 z1 z2; obtain ⟨z0, z1, z2⟩ := pr_cells (hPa.below hb2 hPa.lt); clear hPa)
          | fail)
        go_roundg (n - (q + 1))
        case measure => have := hqj.out; omega
        case rel => have := hlm.out; exact ⟨q + 1, _, by have := hqj.out; omega, rfl, by refine congrArg _ ?_; unfold RowKit.wrap64; omega, hs', hbwa.trans ((hb2.trans (hb3.mono hb2.size)).mono hbwa.size)⟩
    · have e : q = n := by have := hqj; omega
      subst e
      have hqn : ¬ (q : Int) < (q : Int) := by omega
      have ht2 : t = totP (l.filter f) := by
        rw [ht.out]
        have := hall.out
        rw [← hn.out] at this
        exact this
      clear hall hn ht hb hL hC
      go_wp2_with fail
      go_ret
      exact ⟨by first | rfl | rw [ht2], br⟩
theorem total1_any (m : Pr) (W : World) : Calls Tryd.prog 29 #[vPr m] W fun e w' => e = .returned (.bool true) ∧ Below W.heap.size W w' := by
  obtain ⟨a, b, c⟩ := m
  obtain ⟨W1, hW1⟩ : ∃ W1, W1 = W.alloc (.cells #[.int .i64 a, .int .i64 b, .int .i64 c] 50) := ⟨_, rfl⟩
  have hb1 : Below W.heap.size W W1 := by rw [hW1]; exact (Below.refl _ _).alloc (Nat.le_refl _) _
  simp only [vPr]
  go_enter Tryd.func29, Tryd.ntmps29
  go_wp2_with (rw [← hW1]; clear hW1)
  go_ret
  exact ⟨rfl, hb1⟩
theorem of1_any (m : Pr) (id : Int) {r : Nat} {T : TypeId} (W : World) (hB : Blk W r T #[.int .i64 id]) : Calls Tryd.prog 30 #[vPr m, .pointer (some ⟨r, 0, none⟩)] W fun e w' => e = .returned (.bool (Pr.of id m)) ∧ Below W.heap.size W w' := by
  obtain ⟨a, b, c⟩ := m
  obtain ⟨W1, hW1⟩ : ∃ W1, W1 = W.alloc (.cells #[.int .i64 a, .int .i64 b, .int .i64 c] 50) := ⟨_, rfl⟩
  have hb1 : Below W.heap.size W W1 := by rw [hW1]; exact (Below.refl _ _).alloc (Nat.le_refl _) _
  obtain ⟨z0, z1, z2⟩ := pr_cells (show Blk W1 W.heap.size 50 #[.int .i64 a, .int .i64 b, .int .i64 c] by rw [hW1]; exact Blk.new _ _ _)
  have c0 := (hB.below hb1 hB.lt).cell_eq 0 _ rfl
  have e : Pr.of id ⟨a, b, c⟩ = (a == id || b == id) := rfl
  rw [e]
  simp only [vPr]
  cases ha : (a == id)
  · cases hb : (b == id)
    · go_enter Tryd.func30, Tryd.ntmps30
      go_wp2_with (rw [← hW1]; clear hW1)
      go_ret
      exact ⟨rfl, hb1⟩
    · go_enter Tryd.func30, Tryd.ntmps30
      go_wp2_with (rw [← hW1]; clear hW1)
      go_ret
      exact ⟨rfl, hb1⟩
  · go_enter Tryd.func30, Tryd.ntmps30
    go_wp2_with (rw [← hW1]; clear hW1)
    go_ret
    exact ⟨rfl, hb1⟩
theorem al_total (l : List Pr) (hl : ∀ p ∈ l, 0 ≤ p.qty) (ht : totP l ≤ 9223372036854775807) {ao : Option Addr} {cap : Nat} (h : Prs W ao cap l) : Calls Tryd.prog 13 #[.slice ao l.length cap] W fun e w' => e = .returned (.int .i64 (totP l)) ∧ Below W.heap.size W w' := by
  have hf : l.filter (fun _ => true) = l := List.filter_eq_self.2 fun _ _ => rfl
  have cS := sum_any 29 #[] (goes_of Tryd.func29 (by kernel_rfl) (by kernel_rfl)) (fun _ => true) h (fun n => by
    have := fsum_le (fun _ => true) l hl n
    omega) (fun w _ m _ => by simpa using total1_any m w)
  rw [hf] at cS
  generalize totP l = t at cS ⊢
  clear h hl hf ht
  go_enter Tryd.func13, Tryd.ntmps13
  go_wp2_with (go_at_call 28; refine cS.mono ?_; rintro e w1 ⟨rfl, hb1⟩; clear cS)
  go_ret
  exact ⟨rfl, hb1⟩
theorem al_of (l : List Pr) (hl : ∀ p ∈ l, 0 ≤ p.qty) (ht : totP l ≤ 9223372036854775807) (id : Int) {ao : Option Addr} {cap : Nat} (h : Prs W ao cap l) : Calls Tryd.prog 16 #[.slice ao l.length cap, .int .i64 id] W fun e w' => e = .returned (.int .i64 (ofP l id)) ∧ Below W.heap.size W w' := by
  obtain ⟨W1, hW1⟩ : ∃ W1, W1 = W.alloc (.cells #[.int .i64 id] 2) := ⟨_, rfl⟩
  have hb1 : Below W.heap.size W W1 := by rw [hW1]; exact (Below.refl _ _).alloc (Nat.le_refl _) _
  have hB : Blk W1 W.heap.size 2 #[.int .i64 id] := by rw [hW1]; exact Blk.new _ _ _
  have cS := sum_any 30 #[.pointer (some ⟨W.heap.size, 0, none⟩)] (goes_of Tryd.func30 (by kernel_rfl) (by kernel_rfl)) (Pr.of id) (h.below hb1) (fun n => by
    have := fsum_le (Pr.of id) l hl n
    omega) (fun w hw m _ => of1_any m id w (hB.below hw hB.lt))
  rw [show totP (l.filter (Pr.of id)) = ofP l id from rfl] at cS
  generalize ofP l id = t at cS ⊢
  clear h hl ht hB
  go_enter Tryd.func16, Tryd.ntmps16
  go_wp2_with (first
    | (rw [← hW1]; clear hW1)
    | (go_at_call 28; refine cS.mono ?_; rintro e w1 ⟨rfl, hb2⟩; clear cS)
    | fail)
  go_ret
  exact ⟨rfl, hb1.trans (hb2.mono hb1.size)⟩
end
end Go.Proofs.YtdmjcjheanedgaaDoor
namespace Go.Proofs.YtdmjcjheanedgaaDoor
open Go.RowKit
set_option linter.unusedSimpArgs false
/-- What is left to do with some IDs of a pair, and with the pairs behind it. -/
def prI : Bk → Int → List Int → List Pr → Int × Bk
  | b, _, [], l => prA b l
  | b, q, i :: is, l => if (b.redF i q).2 ≠ 0 then ((b.redF i q).2, b.red i q) else prI (b.red i q) q is l
theorem prA_cons (b : Bk) (p : Pr) (l : List Pr) : prA b (p :: l) = prI b p.qty [p.buy, p.sell] l := rfl
theorem Prs.frmS {S : Nat → Prop} {w w' : World} {ao : Option Addr} {cap : Nat} {l : List Pr} (h : Prs w ao cap l) (hf : Frm S w w') (hk : ∀ b off s, ao = some ⟨b, off, s⟩ → ¬ S b) : Prs w' ao cap l := by
  refine ⟨h.len, h.top, ?_⟩
  rcases h.at' with h0 | ⟨b, off, ha, hl⟩
  · exact .inl h0
  · refine .inr ⟨b, off, ha, fun i m hi j v hj => ?_⟩
    have hc := hl i m hi j v hj
    have hlt : b < w.heap.size := World.block_lt_of_cell? w ⟨b, off + i * 3 + j, none⟩ hc
    exact (World.cell?_of_block (a := ⟨b, off + i * 3 + j, none⟩) (hf.block b hlt (hk b off none ha))).trans hc
/-- How far the two IDs of a pair have come. -/
structure Apx (wb : World) (g : Nat) (S : Nat → Prop) (b : Bk) (w : World) : Prop where
  ex : ∃ S2 k, PB w g S2 k b ∧ ∀ c, S2 c → S c ∨ wb.heap.size ≤ c
  frm : Frm S wb w
section
variable {w w' W wb : World} {g k : Nat} {S T : Nat → Prop} {b : Bk}
theorem Apx.start (h : PB w g S k b) : Apx w g S b w := ⟨⟨S, k, h, fun _ e => .inl e⟩, Frm.refl _ _⟩
theorem Apx.below (h : Apx wb g S b w) (hb : Below w.heap.size w w') : Apx wb g S b w' := by
  obtain ⟨⟨S2, k, h1, h2⟩, h3⟩ := h
  exact ⟨⟨S2, k, h1.below hb, h2⟩, h3.trans (Frm.of_below (S := fun _ => False) hb) (fun _ e => e.elim)⟩
theorem Apx.red (h : Apx wb g S b w) (id q : Int) (hd : In64 id) : Calls Tryd.prog 31 #[.pointer (some ⟨g, 0, none⟩), .int .i64 id, .int .i64 q] w fun e w' => e = .returned (.tuple #[vOrd (b.redF id q).1, .int .i64 (b.redF id q).2]) ∧ Apx wb g S (b.red id q) w' := by
  obtain ⟨⟨S2, k, h1, h2⟩, h3⟩ := h
  refine (pb_redq id q hd h1).mono ?_
  rintro e w' ⟨he, ⟨S3, g1, g2⟩, g3⟩
  have hs := h3.size
  exact ⟨he, ⟨S3, _, g1, fun c e => (g2 c e).elim (h2 c) (fun e => .inr (Nat.le_trans hs e))⟩, h3.trans g3 (fun c e => h2 c e)⟩
/-- One pair's turn, told of the whole. -/
theorem Apx.of {wr : World} (h0 : Apx W g S b wr) : ∃ S' k', PB wr g S' k' b ∧ (∀ c, S' c → S c ∨ W.heap.size ≤ c) ∧ ∀ wb, Below wr.heap.size wr wb → ∀ b' w, Apx wb g S' b' w → Apx W g S b' w := by
  obtain ⟨⟨S2, k, h1, h2⟩, h3⟩ := h0
  refine ⟨S2, k, h1, h2, fun wb hb b' w ⟨⟨S3, k3, g1, g2⟩, g3⟩ => ?_⟩
  have e1 := h3.size
  have e2 := hb.size
  refine ⟨⟨S3, k3, g1, fun c e => ?_⟩, (h3.trans (Frm.of_below (S := fun _ => False) hb) (fun _ e => e.elim)).trans g3 (fun c e => h2 c e)⟩
  rcases g2 c e with e | e
  · exact h2 c e
  · right; omega
set_option maxRecDepth 8000 in
set_option maxHeartbeats 8000000 in
theorem al_apply (l : List Pr) {ao : Option Addr} {cap : Nat} (h : PB W g S k b) (hP : Prs W ao cap l) (hF : ∀ p ∈ l, p.Fit) (hS : ∀ c off s, ao = some ⟨c, off, s⟩ → ¬ S c) : Calls Tryd.prog 18 #[.pointer (some ⟨g, 0, none⟩), .slice ao l.length cap] W fun e w' => e = .returned (.int .i64 (prA b l).1) ∧ Frm S W w' := by
  have hl1 := hP.len
  have hl2 := hP.top
  unfold maxLen at hl2
  have hlm := Lib.hid (show l.length ≤ 9223372036854775807 by omega)
  clear hl1 hl2
  obtain ⟨R, hR⟩ : ∃ R, R = (prA b l).1 := ⟨_, rfl⟩
  rw [← hR]
  have hst : (prA b (l.drop 0)).1 = R := by rw [hR]; rfl
  clear hR
  obtain ⟨n, hn⟩ : ∃ n, n = l.length := ⟨_, rfl⟩
  rw [← hn] at hlm ⊢
  replace hn := Lib.hid hn
  have h0 := Apx.start h
  clear h
  go_enter Tryd.func18, Tryd.ntmps18
  go_wp2_with fail
  go_loopg [13] n (fun j p13 wr => ∃ (q : Nat) (b' : Bk), q + j = n ∧ p13 = .int .i64 (q : Int) ∧ Apx W g S b' wr ∧ Hid ((prA b' (l.drop q)).1 = R))
  case atStart => exact ⟨0, b, by omega, rfl, h0, Lib.hid hst⟩
  case round =>
    clear h0 hst
    obtain ⟨q, b', hqj, rfl, hA, hres⟩ := hrel
    by_cases hqn : q < n
    · obtain ⟨x, hx⟩ : ∃ x, l[q]? = some x := ⟨_, List.getElem?_eq_getElem (by rw [← hn.out]; exact hqn)⟩
      have hdr : l.drop q = x :: l.drop (q + 1) := by
        obtain ⟨hh, e⟩ := List.getElem?_eq_some_iff.1 hx
        rw [List.drop_eq_getElem_cons hh, e]
      have hres2 := hres.out
      rw [hdr, prA_cons] at hres2
      have hxf := hF x (List.mem_of_getElem? hx)
      obtain ⟨c0, off, rfl, y0, y1, y2⟩ := (hP.frmS hA.frm hS).get hx
      replace y0 : wr.cell? ⟨c0, off + q * 3, none⟩ = some (.int .i64 x.buy) := y0
      obtain ⟨S', k', hPB, hS', hback⟩ := hA.of
      obtain ⟨wa, hwa⟩ : ∃ wa, wa = wr.alloc (.cells (cPr x) 50) := ⟨_, rfl⟩
      have hba : Below wr.heap.size wr wa := by rw [hwa]; exact (Below.refl _ _).alloc (Nat.le_refl _) _
      have hPa : Blk wa wr.heap.size 50 (cPr x) := by rw [hwa]; exact Blk.new _ _ _
      have hza : wa.heap.size = wr.heap.size + 1 := by rw [hwa]; simp
      obtain ⟨wb, hwb⟩ : ∃ wb, wb = wa.alloc (.cells #[.int .i64 x.buy, .int .i64 x.sell] 2) := ⟨_, rfl⟩
      have hbb : Below wr.heap.size wr wb := by rw [hwb]; exact hba.alloc hba.size _
      have hPb : Blk wb wr.heap.size 50 (cPr x) := by rw [hwb]; exact hPa.alloc _
      have hIb : Blk wb wa.heap.size 2 #[.int .i64 x.buy, .int .i64 x.sell] := by rw [hwb]; exact Blk.new _ _ _
      obtain ⟨z0, z1, z2⟩ : wa.cell? ⟨wr.heap.size, 0, none⟩ = some (.int .i64 x.buy) ∧ wa.cell? ⟨wr.heap.size, 1, none⟩ = some (.int .i64 x.sell) ∧ wa.cell? ⟨wr.heap.size, 2, none⟩ = some (.int .i64 x.qty) := ⟨hPa.cell_eq 0 _ rfl, hPa.cell_eq 1 _ rfl, hPa.cell_eq 2 _ rfl⟩
      have hSw := hPB.lt
      have hI := Apx.start (hPB.below hbb)
      have hcell : Hid (∀ b2 w, Apx wb g S' b2 w → w.cell? ⟨wr.heap.size, 2, none⟩ = some (.int .i64 x.qty) ∧ ∀ (t : Nat) (i : Int), [x.buy, x.sell][t]? = some i → w.cell? ⟨wa.heap.size, t, none⟩ = some (.int .i64 i)) := Lib.hid fun b2 w hA2 => by
        have e1 := blk_frm hPb hA2.frm (fun e => by have := hSw _ e; omega)
        have e2 := blk_frm hIb hA2.frm (fun e => by have := hSw _ e; omega)
        refine ⟨e1.cell_eq 2 _ rfl, fun t i ht => e2.cell_eq t _ ?_⟩
        match t, ht with
        | 0, ht => simp at ht; subst ht; rfl
        | 1, ht => simp at ht; subst ht; rfl
      have hids : Hid (∀ (t : Nat) (i : Int), [x.buy, x.sell][t]? = some i → In64 i) := Lib.hid fun t i ht => by
        match t, ht with
        | 0, ht => simp at ht; subst ht; exact hxf.buy
        | 1, ht => simp at ht; subst ht; exact hxf.sell
      have hql : (q : Int) < (n : Int) := by omega
      replace hback := Lib.hid (hback wb hbb)
      replace hza := Lib.hid hza
      replace hqj := Lib.hid hqj
      have hI0 := Lib.hid hres2
      clear hA hres hres2 hdr hxf hx hba hbb hPa hPb hIb hS' hSw hPB hP hS hF
      obtain ⟨xa, xs, xq⟩ := x
      simp only at y0 y1 y2 z0 z1 z2 hcell hids hwb hI0
      simp only [cPr] at hwa
      go_wp2_with (first
        | (rw [← hwa]; clear hwa)
        | (rw [← hwb]; clear hwb)
        | fail)
      go_loopg [23] 2 (fun i p23 wi => ∃ (t : Nat) (b2 : Bk), t + i = 2 ∧ p23 = .int .i64 (t : Int) ∧ Apx wb g S' b2 wi ∧ Hid ((prI b2 xq ([xa, xs].drop t) (l.drop (q + 1))).1 = R))
      case atStart => exact ⟨0, b', by omega, rfl, hI, hI0⟩
      case round =>
        clear hI hI0 z0 z1 z2 y0 y1 y2
        obtain ⟨t, b2, hti, rfl, hA, hres⟩ := hrel
        by_cases ht2 : t < 2
        · obtain ⟨id, hid⟩ : ∃ id, [xa, xs][t]? = some id := ⟨_, List.getElem?_eq_getElem (by simpa using ht2)⟩
          have hdr : [xa, xs].drop t = id :: [xa, xs].drop (t + 1) := by
            obtain ⟨hh, e⟩ := List.getElem?_eq_some_iff.1 hid
            rw [List.drop_eq_getElem_cons hh, e]
          have hres2 := hres.out
          rw [hdr] at hres2
          unfold prI at hres2
          obtain ⟨u2, u1⟩ := hcell.out b2 wr hA
          have u0 := u1 t id hid
          have cR := hA.red id xq (hids.out t id hid)
          obtain ⟨f, hf⟩ : ∃ f, f = (b2.redF id xq).2 := ⟨_, rfl⟩
          obtain ⟨b3, hb3⟩ : ∃ b3, b3 = b2.red id xq := ⟨_, rfl⟩
          obtain ⟨ro, hro⟩ : ∃ ro, ro = (b2.redF id xq).1 := ⟨_, rfl⟩
          rw [← hf, ← hb3, ← hro] at cR
          rw [← hf, ← hb3] at hres2
          have ht2' : (t : Int) < 2 := by omega
          clear hf hb3 hro u1 hid hdr hres hA hcell hids
          obtain ⟨o0, o1, o2, o3, o4, o5, o6⟩ := ro
          simp only [vOrd] at cR
          have hal : ∀ w, Apx wb g S' b3 w → ∃ V, V = w.alloc (.cells #[.int .i64 o0, .int .i64 o1, .int .i64 o2, .int .i64 o3, .int .i64 o4, .int .i64 o5, .int .i64 o6] 44) ∧ Apx wb g S' b3 V := fun w h => ⟨_, rfl, h.below ((Below.refl _ _).alloc (Nat.le_refl _) _)⟩
          replace hal := Lib.hid hal
          by_cases hf0 : f = 0
          · rw [if_neg (by simpa using hf0)] at hres2
            subst hf0
            have hres3 := Lib.hid hres2
            clear hres2 hback
            go_wp2_with (first
              | (go_at_call 31; refine cR.mono ?_; rintro e w2 ⟨rfl, hA2⟩; clear cR; obtain ⟨V, hV, hA3⟩ := hal.out w2 hA2; clear hal hA2)
              | (rw [← hV]; clear hV)
              | fail)
            go_roundg (2 - (t + 1))
            case measure => omega
            case rel => exact ⟨t + 1, b3, by omega, by go_num, hA3, hres3⟩
          · rw [if_pos (by simpa using hf0)] at hres2
            simp only at hres2
            subst hres2
            have hf1 : (f == 0) = false := by simpa using hf0
            clear hf0
            go_wp2_with (first
              | (go_at_call 31; refine cR.mono ?_; rintro e w2 ⟨rfl, hA2⟩; clear cR; obtain ⟨V, hV, hA3⟩ := hal.out w2 hA2; clear hal hA2)
              | (rw [← hV]; clear hV)
              | fail)
            go_ret
            exact ⟨rfl, (hback.out b3 V hA3).frm⟩
        · obtain rfl : t = 2 := by omega
          have hA3 := hback.out b2 wr hA
          have hres3 : Hid ((prA b2 (l.drop (q + 1))).1 = R) := hres
          clear hback hA hres hcell hids
          go_wp2_with fail
          go_roundg (n - (q + 1))
          case measure => have := hqj.out; omega
          case rel => have := hlm.out; exact ⟨q + 1, b2, by have := hqj.out; omega, by refine congrArg _ ?_; unfold RowKit.wrap64; have := hqj.out; omega, hA3, hres3⟩
    · have e : q = n := by omega
      subst e
      have hqn : ¬ (q : Int) < (q : Int) := by omega
      have hR : (0 : Int) = R := by
        have := hres.out
        rw [hn.out, List.drop_length] at this
        exact this
      have hf := hA.frm
      clear hA hres hn hP hS hF
      go_wp2_with fail
      go_ret
      exact ⟨by first | rfl | rw [hR], hf⟩
end
end Go.Proofs.YtdmjcjheanedgaaDoor
namespace Go.Proofs.YtdmjcjheanedgaaDoor
open Go.RowKit
/-- A price that no order can have needs no test. -/
theorem prsL_any {b : Bk} (hb : b.Ok) (price : Int) : prsL b.L price = prsF (partL b.L 1 price) 0 (partL b.L 0 price) := by
  unfold prsL
  split
  · rename_i h
    rcases h with h | h
    · have e : partL b.L 1 price = [] := List.eq_nil_iff_forall_not_mem.2 fun o ho => by
        obtain ⟨h1, -, h3⟩ := part_mem.1 ho
        have := (hb.ok o h1).p1
        rw [bett_sell, decide_eq_false_iff_not] at h3
        omega
      rw [e, prs_none]
    · have e : partL b.L 0 price = [] := List.eq_nil_iff_forall_not_mem.2 fun o ho => by
        obtain ⟨h1, -, h3⟩ := part_mem.1 ho
        have := (hb.ok o h1).p2
        rw [bett_buy, decide_eq_false_iff_not] at h3
        omega
      rw [e]
      rfl
  · rfl
theorem part_lim {b : Bk} (hb : b.Ok) (s price : Int) : QtyOk (partL b.L s price) ∧ (bkOf b.L s).length ≤ 500 ∧ (partL b.L s price).length ≤ 500 := by
  have h2 := (bkOf_perm b.L s).length_eq
  have h3 := List.length_filter_le (fun o : Ord => o.side == s) b.L
  have h1 := List.length_filter_le (fun o : Ord => !bett s price o.price) (bkOf b.L s)
  have h4 := hb.len
  have h5 := hb.s2
  refine ⟨fun x hx => ?_, by omega, ?_⟩
  · have h1 := hb.ok x (part_mem.1 hx).1
    exact ⟨h1.q1, h1.q2⟩
  · unfold partL
    omega
section
variable {W : World} {g k : Nat} {S : Nat → Prop} {b : Bk}
theorem al_pairsq (price : Int) (h : PB W g S k b) : Calls Tryd.prog 10 #[.pointer (some ⟨g, 0, none⟩), .int .i64 price] W fun e w' => ∃ ao cap, e = .returned (.slice ao (prsL b.L price).length cap) ∧ Prs w' ao cap (prsL b.L price) ∧ (∀ c off s, ao = some ⟨c, off, s⟩ → W.heap.size ≤ c) ∧ Below W.heap.size W w' := by
  have hok := h.ok
  rw [prsL_any hok]
  refine pairs_any price (part_lim hok 0 price).1 (part_lim hok 1 price).1 (part_lim hok 0 price).2.2 (part_lim hok 1 price).2.2 (fun w hw => ?_) (fun w hw => ?_)
  · rw [← wil_part hok.u]
    exact willing_any 0 price _ (part_lim hok 0 price).2.1 (eachx_pb 0 (h.below hw))
  · rw [← wil_part hok.u]
    exact willing_any 1 price _ (part_lim hok 1 price).2.1 (eachx_pb 1 (h.below hw))
theorem al_pairs (price : Int) (h : PB W g S k b) : Calls Tryd.prog 10 #[.pointer (some ⟨g, 0, none⟩), .int .i64 price] W fun e w' => ∃ ao cap, e = .returned (.slice ao (prsL b.L price).length cap) ∧ Prs w' ao cap (prsL b.L price) ∧ Below W.heap.size W w' :=
  (al_pairsq price h).mono fun e w' ⟨ao, cap, he, hP, _, hb⟩ => ⟨ao, cap, he, hP, hb⟩
theorem al_pairs_nil (price : Int) (W : World) : Calls Tryd.prog 10 #[.pointer none, .int .i64 price] W fun e w' => ∃ ao cap, e = .returned (.slice ao 0 cap) ∧ Below W.heap.size W w' := by
  have h0 : QtyOk [] := fun x hx => by cases hx
  refine (pairs_any price h0 h0 (Nat.zero_le _) (Nat.zero_le _) (fun w hw => willing_any 0 price [] (Nat.zero_le _) (eachx_nil 0 w)) (fun w hw => willing_any 1 price [] (Nat.zero_le _) (eachx_nil 1 w))).mono ?_
  rintro e w' ⟨ao, cap, he, -, -, hb⟩
  exact ⟨ao, cap, he, hb⟩
end
/-- A book, and a list of pairs that is none of its own. -/
def ApB (W : World) (g k : Nat) (b : Bk) (ao : Option Addr) (w : World) : Prop := Below W.heap.size W w ∧ ∃ Sp, PB w g Sp k b ∧ (∀ c, Sp c → W.heap.size ≤ c) ∧ ∀ c off s, ao = some ⟨c, off, s⟩ → ¬ Sp c
theorem ApB.below {W w w' : World} {g k : Nat} {b : Bk} {ao : Option Addr} (h : ApB W g k b ao w) (hb : Below w.heap.size w w') : ApB W g k b ao w' := by
  obtain ⟨h1, Sp, h2, h3, h4⟩ := h
  exact ⟨h1.trans (hb.mono h1.size), Sp, h2.below hb, h3, h4⟩
theorem tot_mem : ∀ {l : List Pr}, (∀ p ∈ l, 0 ≤ p.qty) → ∀ p ∈ l, p.qty ≤ totP l
  | q :: l, h, p, hp => by
    have h1 := h q List.mem_cons_self
    have ih := tot_mem (l := l) fun z hz => h z (List.mem_cons_of_mem _ hz)
    have h3 := (fsum_le (fun _ => true) l (fun z hz => h z (List.mem_cons_of_mem _ hz)) 0)
    simp only [List.take_zero, List.filter_nil, totP] at h3
    rcases List.mem_cons.1 hp with rfl | hp
    · simp only [totP]; omega
    · have := ih p hp
      simp only [totP]; omega
theorem prsL_fit {b : Bk} (hb : b.Ok) {price : Int} (hpos : ∀ p ∈ prsL b.L price, 0 ≤ p.qty) (ht : totP (prsL b.L price) ≤ 9223372036854775807) : ∀ p ∈ prsL b.L price, p.Fit := by
  intro p hp
  have h1 := tot_mem hpos p hp
  have h0 := hpos p hp
  rw [prsL_any hb] at hp
  obtain ⟨⟨x, hx, e1⟩, ⟨y, hy, e2⟩, -⟩ := prsF_mem _ p hp
  exact ⟨by rw [e1]; exact (hb.ok x (part_mem.1 hx).1).fit.id, by rw [e2]; exact (hb.ok y (part_mem.1 hy).1).fit.id, ⟨by omega, by omega⟩⟩
end Go.Proofs.YtdmjcjheanedgaaDoor
