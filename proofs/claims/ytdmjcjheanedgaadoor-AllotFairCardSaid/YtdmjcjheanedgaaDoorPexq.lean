/-
  What the function that the program's Each hands back yields, where rounds may also turn what earlier ones have made (SeqsX). (Written by gen/p_pex.py.)
-/
import Derived.Test.YtdmjcjheanedgaaDoorGZ
namespace Go.Proofs.YtdmjcjheanedgaaDoor
open Go.RowKit
set_option linter.unusedSimpArgs false
attribute [local go_sem] Oper.semAt_some
attribute [local go_sem] wide_fn
set_option maxRecDepth 100000 in
set_option maxHeartbeats 8000000 in
theorem each1_seqsx (p : Option Addr) (s : Int) (P : List Ord) (hP : P.length ≤ 500) (t1 t2 : Nat) (T1 T2 : TypeId) (w : World) (T : Nat → Prop) (n : Nat) (hn : 1 ≤ n) (hb1 : Blk w t1 T1 #[.pointer p]) (hb2 : Blk w t2 T2 #[.int .i64 s]) (hT : ∀ c, T c → c < w.heap.size ∧ c ≠ t1 ∧ c ≠ t2)
    (cW0 : ∀ W, Below w.heap.size w W → Calls Tryd.prog 65 #[.pointer p, .int .i64 s] W fun e w' => ∃ lb, e = .returned (.func (.func 80) #[] lb) ∧ Below W.heap.size W w' ∧ Walks P lb w')
    (cG0 : ∀ (k : Nat) (x : Ord) (V : World), P[k]? = some x → Frm (fun c => T c ∨ w.heap.size ≤ c) w V → Calls Tryd.prog 27 #[.pointer p, .int .i64 x.id] V fun e w' => e = .returned (.tuple #[vOrd x, .bool true]) ∧ Below V.heap.size V w') :
    SeqsX Fence.wide n Tryd.prog 63 #[.pointer (some ⟨t1, 0, none⟩), .pointer (some ⟨t2, 0, none⟩)] encO (goodO P) T (fun ys => ys.length = P.length) (fun pre => pre.length ≤ P.length) P.length w := by
  intro l J Jx W hW hlW hlw hJ hJx hY h0
  have hl1 := hb1.lt
  have hl2 := hb2.lt
  have hWs := hW.size
  have hW1 := hb1.below hW hl1
  have hW2 := hb2.below hW hl2
  have cW := cW0 W hW
  refine callsIn_of_wp Tryd.func63 rfl trivial ?_ rfl
  simp only [Tryd.ntmps63, List.size_toArray, List.length_cons, List.length_nil, Nat.reduceAdd, Nat.reduceSub, Array.replicate_succ, Array.replicate_zero, List.push_toArray, List.append_toArray, List.nil_append, List.cons_append]
  have cb1 := hW1.cell_eq 0 _ rfl
  have cb2 := hW2.cell_eq 0 _ rfl
  clear cW0
  gi_wp2_with (first
    | (gi_at_call 65; refine (callsIn_wide.2 cW).mono ?_; rintro e w1 ⟨lb, rfl, hbw1, hwk⟩; clear cW; have cC := collect_any lb P hP w1 hwk)
    | (gi_at_call 64; refine (callsIn_wide.2 cC).mono ?_; rintro e w2 ⟨ao, cap, rfl, hI, hao, hbw2⟩; clear cC))
  have hs1 := hbw1.size
  have hs2 := hbw2.size
  have hb02 : Below W.heap.size W w2 := hbw1.trans (hbw2.mono hs1)
  have hJ1 := (hJ _).below h0 hb02
  have hB1 := hW1.below hb02 hW1.lt
  have hF2 : Frm (fun c => T c ∨ w.heap.size ≤ c) w w2 := (Frm.of_below hW).trans (Frm.of_below (S := fun _ => False) hb02) (fun _ e => e.elim)
  clear cb1 cb2 hW1 hW2 hb1 hb2 h0 hwk hbw1 hbw2 hb02
  gi_loopw [13] (fun p13 wr => ∃ (k : Nat) (pre : List Ord) (X : Nat → Prop), p13 = .int .i64 (k : Int) ∧ k ≤ P.length ∧ J X pre wr ∧ Frm (fun b => T b ∨ b = l ∨ w2.heap.size ≤ b) w2 wr ∧ (∀ c, X c → w2.heap.size ≤ c ∧ c < wr.heap.size) ∧ Hid (pre.length = k))
    (fun p _ => P.length - (intOf p).toNat)
  case atStart => exact ⟨0, [], fun _ => False, rfl, Nat.zero_le _, hJ1, Frm.refl _ _, fun _ e => e.elim, Lib.hid rfl⟩
  case round =>
    clear hJ1
    obtain ⟨k, pre, X, rfl, hk, hJs, hfr, hX, hpre⟩ := hrel
    have hws := hfr.size
    by_cases hkn : k < P.length
    · obtain ⟨y, hx⟩ : ∃ y, P[k]? = some y := ⟨_, List.getElem?_eq_getElem hkn⟩
      have hB1r := blk_frm hB1 hfr (by rintro (h | h | h); exact (hT _ h).2.1 rfl; omega; omega)
      have hIr := hI.frmP hfr (fun b off s e h => by
        have := hao b off s e
        rcases h with h | h | h
        · have := (hT b h).1; omega
        · omega
        · omega)
      obtain ⟨rb, off, rfl, u0, u1, u2, u3, u4, u5, u6⟩ := hIr.get hx
      replace u0 : wr.cell? ⟨rb, off + k * 7, none⟩ = some (.int .i64 y.id) := u0
      have hbA : Below wr.heap.size wr (wr.alloc (.cells (cOrd y) 44)) := (Below.refl _ _).alloc (Nat.le_refl _) _
      have b1 := (hB1r.below hbA hB1r.lt).cell_eq 0 _ rfl
      have hFr : Frm (fun c => T c ∨ w.heap.size ≤ c) w wr := hF2.trans hfr (fun c e => e.elim (fun e => .inl (.inl e)) (fun e => .inl (.inr (by omega))))
      have cX := cG0 k y (wr.alloc (.cells (cOrd y) 44)) hx (hFr.alloc _)
      have hthen : Blk (wr.alloc (.cells (cOrd y) 44)) wr.heap.size 44 (cOrd y) := Blk.new _ _ _
      obtain ⟨i0, -, -, -, -, -, -⟩ := Ord.cells hthen
      have hgood : ∀ V, goodO P pre y V := fun V => by show P[pre.length]? = some y; rw [hpre.out]; exact hx
      have hlt : pre.length < P.length := by rw [hpre.out]; exact hkn
      have hn2 : Hid ((pre ++ [y]).length = k + 1) := Lib.hid (by rw [List.length_append, hpre.out]; rfl)
      have hnx : ∀ w3, Below (wr.alloc (.cells (cOrd y) 44)).heap.size (wr.alloc (.cells (cOrd y) 44)) w3 → ∃ V4 V5, V4 = w3.alloc (.cells (cOrd y) 44) ∧ V5 = V4.setCell ⟨wr.heap.size, 4, none⟩ (.int .i64 y.qty) ∧ V4.cell? ⟨w3.heap.size, 4, none⟩ = some (.int .i64 y.qty) ∧ V4.cell? ⟨wr.heap.size, 4, none⟩ = some (.int .i64 y.qty) ∧ V4.frozen? ⟨wr.heap.size, 4, none⟩ = false ∧
          Blk V5 wr.heap.size 44 (cOrd y) ∧ Blk V5 w3.heap.size 44 (cOrd y) ∧ Below wr.heap.size wr V5 := fun w3 h => by
        have h1 := (hthen.below h hthen.lt).alloc (.cells (cOrd y) 44)
        have h2 : Blk (w3.alloc (.cells (cOrd y) 44)) w3.heap.size 44 (cOrd y) := Blk.new _ _ _
        have hsz := h.size
        rw [World.size_alloc] at hsz
        refine ⟨_, _, rfl, rfl, h2.cell_eq 4 _ rfl, h1.cell_eq 4 _ rfl, h1.free 4, h1.set 4 _, h2.other (by show wr.heap.size ≠ w3.heap.size; omega) _, ?_⟩
        exact ((hbA.trans (h.mono hbA.size)).alloc (by omega) _).setCell (p := ⟨wr.heap.size, 4, none⟩) (Nat.le_refl _) _
      have hYq := fun V (hb : Below wr.heap.size wr V) => hY X pre y V ((hJ X).below hJs hb) (fun c e => ⟨by have := (hX c e).1; omega, by have := (hX c e).2; have := hb.size; omega⟩) (hgood V) hlt
      have hfd : ∀ V, Below wr.heap.size wr V → Frm (fun b => T b ∨ b = l ∨ w2.heap.size ≤ b) w2 V := fun V hb => hfr.trans (Frm.of_below (S := fun _ => False) hb) (fun _ f => f.elim)
      have hE := eql_Ord y y
      rw [eqOrd_self] at hE
      have hki : (k : Int) < (P.length : Int) := by omega
      clear hB1r hgood hx hI hIr hao hB1 hJs hJ hY hfr hT hFr hF2 cG0 hbA hthen
      obtain ⟨o0, o1, o2, o3, o4, o5, o6⟩ := y
      simp only [vOrd] at hE cX
      simp only at u0 u1 u2 u3 u4 u5 u6 i0 cX hE
      simp only [cOrd] at hnx cX b1 i0
      gi_wp2_with (first
        | (gi_at_call 27; refine (callsIn_wide.2 cX).mono ?_; rintro e w3 ⟨rfl, hb3⟩; clear cX b1 u0 u1 u2 u3 u4 u5 u6 i0; obtain ⟨V4, V5, hV4, hV5, q1, q2, q3, hB5, hB6, hbV⟩ := hnx _ hb3; obtain ⟨v0, v1, v2, v3, v4, v5, v6⟩ := Ord.cells (m := ⟨o0, o1, o2, o3, o4, o5, o6⟩) hB5; obtain ⟨z0, z1, z2, z3, z4, z5, z6⟩ := Ord.cells (m := ⟨o0, o1, o2, o3, o4, o5, o6⟩) hB6; simp only at v0 v1 v2 v3 v4 v5 v6 z0 z1 z2 z3 z4 z5 z6; obtain ⟨fn, tmps, assign, body, hyy, hRR⟩ := hYq V5 hbV; have hfW := hfd V5 hbV; have hb3s := hbV.size; clear hYq hfd hnx hb3 hB5 hB6; dsimp only [encO, vOrd] at hyy hRR)
        | (rw [← hV4]; clear hV4)
        | (rw [← hV5]; clear hV5)
        | (refine hRR.mono ?_; rintro e W3 h3; obtain ⟨kk, rfl, hk'⟩ := merge3 h3; rcases hk' with ⟨rfl, X', hJ3, hG3, hk3⟩ | ⟨rfl, hJx3, hk3⟩; have hk3s := Nat.le_trans hb3s hk3.size))
      all_goals first
        | exact ⟨⟨k + 1, _, X', by go_num, hkn, hJ3, hfW.trans hk3 (fun c h => .inl (h.imp id (Or.imp id (fun e => (hX c e).1)))), fun c e => (by
          rcases hG3 c e with e' | e'
          · have := hX c e'
            omega
          · have e1 := Nat.le_trans hb3s e'.1
            have := e'.2
            omega), hn2⟩, by simp [intOf]; omega⟩
        | (refine bodyPost_end (results_none rfl _ _ _) rfl ?_
           exact ⟨⟨_, rfl⟩, .inr ⟨_, by rw [List.length_append]; exact hlt, hJx3⟩⟩)
        | (refine bodyPost_ret (results_none rfl _ _ _) rfl ?_
           exact ⟨⟨_, rfl⟩, .inr ⟨_, by rw [List.length_append]; exact hlt, hJx3⟩⟩)
        | trace_state
    · clear hY cG0
      gi_wp2
      have hqe : k = P.length := by omega
      rw [hqe] at hpre
      exact bodyPost_end (results_none rfl _ _ _) rfl ⟨⟨_, rfl⟩, .inl ⟨pre, X, hpre.out, hJs⟩⟩
section
variable {w w' W : World} {g k : Nat} {S T : Nat → Prop} {b : Bk}
theorem pb_eachx (side : Int) (h : PB W g S k b) : Calls Tryd.prog 46 #[.pointer (some ⟨g, 0, none⟩), .int .i64 side] W fun e w' => ∃ lb, e = .returned (.func (.func 63) #[] lb) ∧ Below W.heap.size W w' ∧
    ∀ (n : Nat) (T : Nat → Prop), 1 ≤ n → (∀ c, T c → 2 ≤ c ∧ c < W.heap.size ∧ ¬ S c) → SeqsX Fence.wide n Tryd.prog 63 lb encO (goodO (bkOf b.L side)) T (fun ys => ys.length = (bkOf b.L side).length) (fun pre => pre.length ≤ (bkOf b.L side).length) (bkOf b.L side).length w' := by
  have hlt := h.lt
  have h2 := h.gl.two
  refine (beach_fn (some ⟨g, 0, none⟩) side W).mono ?_
  rintro e w' ⟨he, hb, T1, T2, hA, hB⟩
  have hbs := hb.size
  have hw' := h.below hb
  refine ⟨_, he, hb, fun n T hn hT => each1_seqsx (some ⟨g, 0, none⟩) side (bkOf b.L side) (pbkOf_le h.ok side) _ _ T1 T2 w' T n hn hA hB (fun c e => ⟨by have := (hT c e).2.1; omega, by have := (hT c e).2.1; omega, by have := (hT c e).2.1; omega⟩) (fun V hV => ?_) (fun j x V hx hf => ?_)⟩
  · refine (walk_book side (hw'.below hV)).mono ?_
    rintro e v ⟨lb, he, hb', hs⟩
    have e1 := hV.size
    have e2 := hb'.size
    exact ⟨lb, he, hb', fun V' hV' n T hT => hs V' hV' n T fun c e => ⟨by have := (hT c e).1; omega, (hT c e).2, fun e' => by have := hlt c e'; have := (hT c e).1; omega, .inr (hT c e).1⟩⟩
  · obtain ⟨e1, e2⟩ := h.ok.got hx
    have := pb_get x.id e2.fit.id (hw'.frm hf (fun c e e' => by
      rcases e with e | e
      · exact (hT c e).2.2 e'
      · have := hlt c e'; omega) (fun c e => by
      rcases e with e | e
      · exact (hT c e).1
      · omega))
    rw [e1] at this
    exact this
end
end Go.Proofs.YtdmjcjheanedgaaDoor
