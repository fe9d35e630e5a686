/-
  The program's sweep: the other side, worse than a limit, the best price of a book, Reaches.
  What the function that the program's Each hands back yields, where rounds may also turn what earlier ones have made (SeqsX). (Written by gen/p_pex.py.)
  The plan's methods: trade, cancel. (Written by gen/p_swt.py.)
-/
import Derived.Test.YtdpibjnlpdgdeaaDoorGZ
import Derived.Test.YtdpibjnlpdgdeaaDoorGSa
import Derived.Test.YtdpibjnlpdgdeaaDoorGB
import Derived.Test.YtdpibjnlpdgdeaaDoorGJ
namespace Go.Proofs.YtdpibjnlpdgdeaaDoor
open Go.RowKit
set_option linter.unusedSimpArgs false
/-- The side whose orders a taker meets; of what is no side, no side either. -/
def opp (s : Int) : Int := if s = 0 then 1 else if s = 1 then 0 else s
theorem opp_side {s : Int} (h : s = 0 ∨ s = 1) : opp s = 1 - s := by
  unfold opp
  rcases h with rfl | rfl <;> rfl
theorem opp_no {s : Int} (h : ¬ (s = 0 ∨ s = 1)) : opp s = s := by
  unfold opp
  rw [if_neg (fun e => h (.inl e)), if_neg (fun e => h (.inr e))]
section
variable {w w' W : World} {g k : Nat} {S T : Nat → Prop} {b : Bk}
theorem opp_any (s : Int) (W : World) : Calls Tryd.prog 20 #[.int .i64 s] W fun e w' => e = .returned (.int .i64 (opp s)) ∧ w' = W := by
  unfold opp
  by_cases h0 : s = 0
  · subst h0
    go_enter Tryd.func20, Tryd.ntmps20
    go_wp2_with fail
    all_goals go_ret
    all_goals exact ⟨rfl, rfl⟩
  · have d0 : (s == 0) = false := by simpa using h0
    rw [if_neg h0]
    by_cases h1 : s = 1
    · subst h1
      clear h0
      go_enter Tryd.func20, Tryd.ntmps20
      go_wp2_with fail
      all_goals go_ret
      all_goals exact ⟨rfl, rfl⟩
    · have d1 : (s == 1) = false := by simpa using h1
      rw [if_neg h1]
      clear h0 h1
      go_enter Tryd.func20, Tryd.ntmps20
      go_wp2_with fail
      all_goals go_ret
      all_goals exact ⟨rfl, rfl⟩
theorem worse_any (side a c : Int) (W : World) : Calls Tryd.prog 21 #[.int .i64 side, .int .i64 a, .int .i64 c] W fun e w' => e = .returned (.bool (swo side a c)) ∧ w' = W := by
  have cB := pb_better side a c W
  unfold swo
  generalize bett side a c = B at *
  by_cases e0 : c = 0
  · subst e0
    simp only [bne_self_eq_false, Bool.false_and]
    clear cB
    go_enter Tryd.func21, Tryd.ntmps21
    go_wp2_with fail
    go_ret
    trivial
  · have e1 : (c != 0) = true := by simpa using e0
    rw [e1]
    simp only [Bool.true_and]
    go_enter Tryd.func21, Tryd.ntmps21
    go_wp2_with (go_at_call 13; (with_reducible refine cB.mono ?_); rintro e w2 ⟨rfl, rfl⟩)
    go_ret
    trivial
/-- The best price of a side. -/
theorem pb_best (s : Int) (h : PB W g S k b) : Calls Tryd.prog 19 #[.pointer (some ⟨g, 0, none⟩), .int .i64 s] W fun e w' => e = .returned (.tuple #[.int .i64 ((b.front s).getD .zero).price, .bool (b.front s).isSome]) ∧ Below W.heap.size W w' := by
  refine h.ask fun ga gf gx g0 g1 Z a x f d So h1 h2 h3 h4 => ?_
  by_cases hs : s = 0 ∨ s = 1
  · obtain ⟨Sl, hl, -⟩ := h3.lad hs
    obtain ⟨ko, ao, cap, P, F, hl⟩ := hl
    have hP := hl.ord
    have hlen := hP.len
    clear hl
    have key : ∃ z : Lvl, z = P[0]?.getD .zero ∧ z.price = ((b.front s).getD .zero).price ∧ decide (0 < (d s).L.length) = (b.front s).isSome := by
      refine ⟨_, rfl, ?_⟩
      have hh := flatP_head (h2.l s hs) hP
      rw [h2.flat hs hP] at hh
      unfold Bk.front
      cases P with
      | nil =>
        rw [hh]
        exact ⟨rfl, by rw [← hlen]; rfl⟩
      | cons l t =>
        have hl : l ∈ (d s).L := hP.mem.1 List.mem_cons_self
        have hg1 := ((h2.l s hs).lx l hl).1
        rw [hh]
        cases hg : (grp Z s l.price)[0]? with
        | none => rw [List.getElem?_eq_none_iff] at hg; omega
        | some z =>
          have hz := (grp_mem.1 (List.mem_of_getElem? hg)).2.2
          refine ⟨by simp [hg, hz], ?_⟩
          simp only [List.getElem?_cons_zero, Option.bind_some, hg, Option.map_some, Option.isSome_some, decide_eq_true_eq]
          rw [← hlen]; simp
    obtain ⟨z, hz, e1, e2⟩ := key
    rw [← e1, ← e2]
    refine best_walk _ s W _ _ z _ (half_yes s hs h1) fun w hb => ?_
    rw [hz]
    exact (h3.here hb).lbest hs hP
  · have e0 : b.front s = none := by
      unfold Bk.front
      cases hq : bkOf b.L s with
      | nil => rfl
      | cons x q =>
        have hm := bkOf_mem.1 (show x ∈ bkOf b.L s by rw [hq]; exact List.mem_cons_self)
        have := (h2.ok.ok x hm.1).side
        rw [hm.2] at this
        exact absurd this hs
    rw [e0]
    exact best_walk _ s W _ _ .zero false (half_no s hs g W) fun w _ => lbestNil_any w
theorem reaches_walk (p : Option Addr) (side limit : Int) (W : World) (x : Int) (q : Bool) (cB : Calls Tryd.prog 19 #[.pointer p, .int .i64 (opp side)] W fun e w' => e = .returned (.tuple #[.int .i64 x, .bool q]) ∧ Below W.heap.size W w') :
    Calls Tryd.prog 7 #[.pointer p, .int .i64 side, .int .i64 limit] W fun e w' => e = .returned (.bool (q && !swo side x limit)) ∧ Below W.heap.size W w' := by
  have cO := opp_any side W
  have cW := fun w => worse_any side x limit w
  generalize swo side x limit = z at *
  generalize opp side = os at *
  cases q
  all_goals
    go_enter Tryd.func7, Tryd.ntmps7
    go_wp2_with (first
      | (go_at_call 20; refine cO.mono ?_; rintro e w1 ⟨rfl, hw1⟩; subst w1; clear cO)
      | (go_at_call 19; refine cB.mono ?_; rintro e w2 ⟨rfl, hb2⟩; clear cB)
      | (go_at_call 21; refine (cW _).mono ?_; rintro e w3 ⟨rfl, hw3⟩; subst w3; clear cW)
      | fail)
    go_ret
    exact ⟨by simp, hb2⟩
theorem sw_reaches (side limit : Int) (h : PB W g S k b) : Calls Tryd.prog 7 #[.pointer (some ⟨g, 0, none⟩), .int .i64 side, .int .i64 limit] W fun e w' => e = .returned (.bool (swr b side limit)) ∧ Below W.heap.size W w' := by
  have hw := reaches_walk _ side limit W _ _ (pb_best (opp side) h)
  have e : ((b.front (opp side)).isSome && !swo side ((b.front (opp side)).getD .zero).price limit) = swr b side limit := by
    unfold swr
    by_cases hs : side = 0 ∨ side = 1
    · rw [opp_side hs, decide_eq_true hs]
      cases b.front (1 - side) <;> simp
    · rw [opp_no hs, decide_eq_false hs, Bool.false_and]
      have e0 : b.front side = none := by
        unfold Bk.front
        cases hq : bkOf b.L side with
        | nil => rfl
        | cons x q =>
          have hm := bkOf_mem.1 (show x ∈ bkOf b.L side by rw [hq]; exact List.mem_cons_self)
          have := (h.ok.ok x hm.1).side
          rw [hm.2] at this
          exact absurd this hs
      rw [e0]; rfl
  rw [← e]
  exact hw
theorem sw_reaches_nil (side limit : Int) (w : World) : Calls Tryd.prog 7 #[.pointer none, .int .i64 side, .int .i64 limit] w fun e w' => e = .returned (.bool false) ∧ Below w.heap.size w w' :=
  reaches_walk _ side limit w _ _ (pbNil_best (opp side) w)
end
end Go.Proofs.YtdpibjnlpdgdeaaDoor
namespace Go.Proofs.YtdpibjnlpdgdeaaDoor
open Go.RowKit
set_option linter.unusedSimpArgs false
attribute [local go_sem] Oper.semAt_some
attribute [local go_sem] wide_fn
set_option maxRecDepth 100000 in
set_option maxHeartbeats 8000000 in
theorem each1_seqsx (p : Option Addr) (s : Int) (P : List Ord) (hP : P.length ≤ 500) (t1 t2 : Nat) (T1 T2 : TypeId) (w : World) (T : Nat → Prop) (n : Nat) (hn : 1 ≤ n) (hb1 : Blk w t1 T1 #[.pointer p]) (hb2 : Blk w t2 T2 #[.int .i64 s]) (hT : ∀ c, T c → c < w.heap.size ∧ c ≠ t1 ∧ c ≠ t2)
    (cW0 : ∀ W, Below w.heap.size w W → Calls Tryd.prog 49 #[.pointer p, .int .i64 s] W fun e w' => ∃ lb, e = .returned (.func (.func 66) #[] lb) ∧ Below W.heap.size W w' ∧ Walks P lb w')
    (cG0 : ∀ (k : Nat) (x : Ord) (V : World), P[k]? = some x → Frm (fun c => T c ∨ w.heap.size ≤ c) w V → Calls Tryd.prog 12 #[.pointer p, .int .i64 x.id] V fun e w' => e = .returned (.tuple #[vOrd x, .bool true]) ∧ Below V.heap.size V w') :
    SeqsX Fence.wide n Tryd.prog 47 #[.pointer (some ⟨t1, 0, none⟩), .pointer (some ⟨t2, 0, none⟩)] encO (goodO P) T (fun ys => ys.length = P.length) (fun pre => pre.length ≤ P.length) P.length w := by
  intro l J Jx W hW hlW hlw hJ hJx hY h0
  have hl1 := hb1.lt
  have hl2 := hb2.lt
  have hWs := hW.size
  have hW1 := hb1.below hW hl1
  have hW2 := hb2.below hW hl2
  have cW := cW0 W hW
  refine callsIn_of_wp Tryd.func47 rfl trivial ?_ rfl
  simp only [Tryd.ntmps47, List.size_toArray, List.length_cons, List.length_nil, Nat.reduceAdd, Nat.reduceSub, Array.replicate_succ, Array.replicate_zero, List.push_toArray, List.append_toArray, List.nil_append, List.cons_append]
  have cb1 := hW1.cell_eq 0 _ rfl
  have cb2 := hW2.cell_eq 0 _ rfl
  clear cW0
  gi_wp2_with (first
    | (gi_at_call 49; refine (callsIn_wide.2 cW).mono ?_; rintro e w1 ⟨lb, rfl, hbw1, hwk⟩; clear cW; have cC := collect_any lb P hP w1 hwk)
    | (gi_at_call 48; refine (callsIn_wide.2 cC).mono ?_; rintro e w2 ⟨ao, cap, rfl, hI, hao, hbw2⟩; clear cC))
  have hs1 := hbw1.size
  have hs2 := hbw2.size
  have hb02 : Below W.heap.size W w2 := hbw1.trans (hbw2.mono hs1)
  have hJ1 := (hJ _).below h0 hb02
  have hB1 := hW1.below hb02 hW1.lt
  have hF2 : Frm (fun c => T c ∨ w.heap.size ≤ c) w w2 := (Frm.of_below hW).trans (Frm.of_below (S := fun _ => False) hb02) (fun _ e => e.elim)
  clear cb1 cb2 hW1 hW2 hb1 hb2 h0 hwk hbw1 hbw2 hb02
  gi_loopw [13] (fun p13 wr => ∃ (k : Nat) (pre : List Ord) (X : Nat → Prop), p13 = .int .i64 (k : Int) ∧ k ≤ P.length ∧ J X pre wr ∧ Frm (fun b => T b ∨ b = l ∨ w2.heap.size ≤ b) w2 wr ∧ (∀ c, X c → w2.heap.size ≤ c ∧ c < wr.heap.size) ∧ Hid (pre.length = k))
    (fun p _ => P.length - (intOf p).toNat)
  case atStart => exact ⟨0, [], fun _ => False, rfl, Nat.zero_le _, hJ1, Frm.refl _ _, fun _ e => e.elim, Lib.hid rfl⟩
  case round =>
    clear hJ1
    obtain ⟨k, pre, X, rfl, hk, hJs, hfr, hX, hpre⟩ := hrel
    have hws := hfr.size
    by_cases hkn : k < P.length
    · obtain ⟨y, hx⟩ : ∃ y, P[k]? = some y := ⟨_, List.getElem?_eq_getElem hkn⟩
      have hB1r := blk_frm hB1 hfr (by rintro (h | h | h); exact (hT _ h).2.1 rfl; omega; omega)
      have hIr := hI.frmP hfr (fun b off s e h => by
        have := hao b off s e
        rcases h with h | h | h
        · have := (hT b h).1; omega
        · omega
        · omega)
      obtain ⟨rb, off, rfl, u0, u1, u2, u3, u4, u5, u6⟩ := hIr.get hx
      replace u0 : wr.cell? ⟨rb, off + k * 7, none⟩ = some (.int .i64 y.id) := u0
      have hbA : Below wr.heap.size wr (wr.alloc (.cells (cOrd y) 45)) := (Below.refl _ _).alloc (Nat.le_refl _) _
      have b1 := (hB1r.below hbA hB1r.lt).cell_eq 0 _ rfl
      have hFr : Frm (fun c => T c ∨ w.heap.size ≤ c) w wr := hF2.trans hfr (fun c e => e.elim (fun e => .inl (.inl e)) (fun e => .inl (.inr (by omega))))
      have cX := cG0 k y (wr.alloc (.cells (cOrd y) 45)) hx (hFr.alloc _)
      have hthen : Blk (wr.alloc (.cells (cOrd y) 45)) wr.heap.size 45 (cOrd y) := Blk.new _ _ _
      obtain ⟨i0, -, -, -, -, -, -⟩ := Ord.cells hthen
      have hgood : ∀ V, goodO P pre y V := fun V => by show P[pre.length]? = some y; rw [hpre.out]; exact hx
      have hlt : pre.length < P.length := by rw [hpre.out]; exact hkn
      have hn2 : Hid ((pre ++ [y]).length = k + 1) := Lib.hid (by rw [List.length_append, hpre.out]; rfl)
      have hnx : ∀ w3, Below (wr.alloc (.cells (cOrd y) 45)).heap.size (wr.alloc (.cells (cOrd y) 45)) w3 → ∃ V4 V5, V4 = w3.alloc (.cells (cOrd y) 45) ∧ V5 = V4.setCell ⟨wr.heap.size, 4, none⟩ (.int .i64 y.qty) ∧ V4.cell? ⟨w3.heap.size, 4, none⟩ = some (.int .i64 y.qty) ∧ V4.cell? ⟨wr.heap.size, 4, none⟩ = some (.int .i64 y.qty) ∧ V4.frozen? ⟨wr.heap.size, 4, none⟩ = false ∧
          Blk V5 wr.heap.size 45 (cOrd y) ∧ Blk V5 w3.heap.size 45 (cOrd y) ∧ Below wr.heap.size wr V5 := fun w3 h => by
        have h1 := (hthen.below h hthen.lt).alloc (.cells (cOrd y) 45)
        have h2 : Blk (w3.alloc (.cells (cOrd y) 45)) w3.heap.size 45 (cOrd y) := Blk.new _ _ _
        have hsz := h.size
        rw [World.size_alloc] at hsz
        refine ⟨_, _, rfl, rfl, h2.cell_eq 4 _ rfl, h1.cell_eq 4 _ rfl, h1.free 4, h1.set 4 _, h2.other (by show wr.heap.size ≠ w3.heap.size; omega) _, ?_⟩
        exact ((hbA.trans (h.mono hbA.size)).alloc (by omega) _).setCell (p := ⟨wr.heap.size, 4, none⟩) (Nat.le_refl _) _
      have hYq := fun V (hb : Below wr.heap.size wr V) => hY X pre y V ((hJ X).below hJs hb) (fun c e => ⟨by have := (hX c e).1; omega, by have := (hX c e).2; have := hb.size; omega⟩) (hgood V) hlt
      have hfd : ∀ V, Below wr.heap.size wr V → Frm (fun b => T b ∨ b = l ∨ w2.heap.size ≤ b) w2 V := fun V hb => hfr.trans (Frm.of_below (S := fun _ => False) hb) (fun _ f => f.elim)
      have hE := eql_Ord y y
      rw [eqOrd_self] at hE
      have hki : (k : Int) < (P.length : Int) := by omega
      clear hB1r hgood hx hI hIr hao hB1 hJs hJ hY hfr hT hFr hF2 cG0 hbA hthen
      obtain ⟨o0, o1, o2, o3, o4, o5, o6⟩ := y
      simp only [vOrd] at hE cX
      simp only at u0 u1 u2 u3 u4 u5 u6 i0 cX hE
      simp only [cOrd] at hnx cX b1 i0
      gi_wp2_with (first
        | (gi_at_call 12; refine (callsIn_wide.2 cX).mono ?_; rintro e w3 ⟨rfl, hb3⟩; clear cX b1 u0 u1 u2 u3 u4 u5 u6 i0; obtain ⟨V4, V5, hV4, hV5, q1, q2, q3, hB5, hB6, hbV⟩ := hnx _ hb3; obtain ⟨v0, v1, v2, v3, v4, v5, v6⟩ := Ord.cells (m := ⟨o0, o1, o2, o3, o4, o5, o6⟩) hB5; obtain ⟨z0, z1, z2, z3, z4, z5, z6⟩ := Ord.cells (m := ⟨o0, o1, o2, o3, o4, o5, o6⟩) hB6; simp only at v0 v1 v2 v3 v4 v5 v6 z0 z1 z2 z3 z4 z5 z6; obtain ⟨fn, tmps, assign, body, hyy, hRR⟩ := hYq V5 hbV; have hfW := hfd V5 hbV; have hb3s := hbV.size; clear hYq hfd hnx hb3 hB5 hB6; dsimp only [encO, vOrd] at hyy hRR)
        | (rw [← hV4]; clear hV4)
        | (rw [← hV5]; clear hV5)
        | (refine hRR.mono ?_; rintro e W3 h3; obtain ⟨kk, rfl, hk'⟩ := merge3 h3; rcases hk' with ⟨rfl, X', hJ3, hG3, hk3⟩ | ⟨rfl, hJx3, hk3⟩; have hk3s := Nat.le_trans hb3s hk3.size))
      all_goals first
        | exact ⟨⟨k + 1, _, X', by go_num, hkn, hJ3, hfW.trans hk3 (fun c h => .inl (h.imp id (Or.imp id (fun e => (hX c e).1)))), fun c e => (by
          rcases hG3 c e with e' | e'
          · have := hX c e'
            omega
          · have e1 := Nat.le_trans hb3s e'.1
            have := e'.2
            omega), hn2⟩, by simp [intOf]; omega⟩
        | (refine bodyPost_end (results_none rfl _ _ _) rfl ?_
           exact ⟨⟨_, rfl⟩, .inr ⟨_, by rw [List.length_append]; exact hlt, hJx3⟩⟩)
        | (refine bodyPost_ret (results_none rfl _ _ _) rfl ?_
           exact ⟨⟨_, rfl⟩, .inr ⟨_, by rw [List.length_append]; exact hlt, hJx3⟩⟩)
        | trace_state
    · clear hY cG0
      gi_wp2
      have hqe : k = P.length := by omega
      rw [hqe] at hpre
      exact bodyPost_end (results_none rfl _ _ _) rfl ⟨⟨_, rfl⟩, .inl ⟨pre, X, hpre.out, hJs⟩⟩
section
variable {w w' W : World} {g k : Nat} {S T : Nat → Prop} {b : Bk}
theorem pb_eachx (side : Int) (h : PB W g S k b) : Calls Tryd.prog 24 #[.pointer (some ⟨g, 0, none⟩), .int .i64 side] W fun e w' => ∃ lb, e = .returned (.func (.func 47) #[] lb) ∧ Below W.heap.size W w' ∧
    ∀ (n : Nat) (T : Nat → Prop), 1 ≤ n → (∀ c, T c → 2 ≤ c ∧ c < W.heap.size ∧ ¬ S c) → SeqsX Fence.wide n Tryd.prog 47 lb encO (goodO (bkOf b.L side)) T (fun ys => ys.length = (bkOf b.L side).length) (fun pre => pre.length ≤ (bkOf b.L side).length) (bkOf b.L side).length w' := by
  have hlt := h.lt
  have h2 := h.gl.two
  refine (beach_fn (some ⟨g, 0, none⟩) side W).mono ?_
  rintro e w' ⟨he, hb, T1, T2, hA, hB⟩
  have hbs := hb.size
  have hw' := h.below hb
  refine ⟨_, he, hb, fun n T hn hT => each1_seqsx (some ⟨g, 0, none⟩) side (bkOf b.L side) (pbkOf_le h.ok side) _ _ T1 T2 w' T n hn hA hB (fun c e => ⟨by have := (hT c e).2.1; omega, by have := (hT c e).2.1; omega, by have := (hT c e).2.1; omega⟩) (fun V hV => ?_) (fun j x V hx hf => ?_)⟩
  · refine (walk_book side (hw'.below hV)).mono ?_
    rintro e v ⟨lb, he, hb', hs⟩
    have e1 := hV.size
    have e2 := hb'.size
    exact ⟨lb, he, hb', fun V' hV' n T hT => hs V' hV' n T fun c e => ⟨by have := (hT c e).1; omega, (hT c e).2, fun e' => by have := hlt c e'; have := (hT c e).1; omega, .inr (hT c e).1⟩⟩
  · obtain ⟨e1, e2⟩ := h.ok.got hx
    have := pb_get x.id e2.fit.id (hw'.frm hf (fun c e e' => by
      rcases e with e | e
      · exact (hT c e).2.2 e'
      · have := hlt c e'; omega) (fun c e => by
      rcases e with e | e
      · exact (hT c e).1
      · omega))
    rw [e1] at this
    exact this
end
end Go.Proofs.YtdpibjnlpdgdeaaDoor
namespace Go.Proofs.YtdpibjnlpdgdeaaDoor
open Go.RowKit
set_option linter.unusedSimpArgs false
abbrev fcs (l : List Fll) : List Value := l.flatMap fun m => (cFll m).toList
theorem fcs_snoc (l : List Fll) (x : Fll) : fcs (l ++ [x]) = fcs l ++ (cFll x).toList := by simp [fcs]
theorem infoFll : (Tryd.prog.info? 43).map (fun i => (i.zero, i.size, i.bytes)) = some (some (vFll Fll.zero), 4, 32) := by kernel_rfl
theorem cFll_one (x : Fll) : ∀ u ∈ (cFll x).toList, u.oneCell' = true := by
  intro u hu
  simp at hu
  rcases hu with rfl | rfl | rfl | rfl <;> rfl
theorem Flls.of_own {E : TypeId} {w : World} {ko : Option Nat} {ao : Option Addr} {cap : Nat} {l : List Fll} (h : OwG E 4 w ko ao cap l.length (fcs l)) : Flls w ao cap l := by
  refine ⟨h.len, h.top, ?_⟩
  by_cases h0 : l = []
  · exact .inl h0
  right
  have hget : ∀ (L : List Fll) (i : Nat) (m : Fll), L[i]? = some m → ∀ (j : Nat) (v : Value), (cFll m)[j]? = some v → (fcs L)[i * 4 + j]? = some v := by
    intro L
    induction L with
    | nil => intro i m hi; simp at hi
    | cons x t ih =>
      intro i m hi j v hj
      have hc : fcs (x :: t) = (cFll x).toList ++ fcs t := by simp [fcs]
      have hl4 : (cFll x).toList.length = 4 := rfl
      rw [hc]
      cases i with
      | zero =>
        cases hi
        have hj4 : j < 4 := (Array.getElem?_eq_some_iff.1 hj).1
        rw [List.getElem?_append_left (by rw [hl4]; omega)]
        simpa using hj
      | succ i =>
        rw [List.getElem?_append_right (by rw [hl4]; omega), hl4]
        have := ih i m hi j v hj
        rw [show (i + 1) * 4 + j - 4 = i * 4 + j by omega]
        exact this
  obtain ⟨y, hy⟩ : ∃ y, l[0]? = some y := by
    cases l with
    | nil => exact absurd rfl h0
    | cons y _ => exact ⟨y, rfl⟩
  obtain ⟨k, _, ha, _, _⟩ := h.cell 0 _ (hget l 0 y hy 0 _ rfl)
  refine ⟨k, 0, ha, fun i m hi j v hj => ?_⟩
  obtain ⟨k', _, ha', hc, _⟩ := h.cell (i * 4 + j) v (hget l i m hi j v hj)
  rw [ha] at ha'
  cases ha'
  rw [Nat.zero_add]
  exact hc
theorem three_cells {w : World} {b : Nat} {T : TypeId} {u0 u1 u2 : Value} (h : Blk w b T #[u0, u1, u2]) : w.cell? ⟨b, 0, none⟩ = some u0 ∧ w.cell? ⟨b, 1, none⟩ = some u1 ∧ w.cell? ⟨b, 2, none⟩ = some u2 :=
  ⟨h.cell_eq 0 _ rfl, h.cell_eq 1 _ rfl, h.cell_eq 2 _ rfl⟩
theorem seven_lay {w : World} {b : Nat} {T : TypeId} {u0 u1 u2 u3 u4 u5 u6 : Value} (h : Blk w b T #[u0, u1, u2, u3, u4, u5, u6]) (v0 v1 v2 v3 v4 v5 v6 : Value) : Blk (((((((w.setCell ⟨b, 0, none⟩ v0).setCell ⟨b, 1, none⟩ v1).setCell ⟨b, 2, none⟩ v2).setCell ⟨b, 3, none⟩ v3).setCell ⟨b, 4, none⟩ v4).setCell ⟨b, 5, none⟩ v5).setCell ⟨b, 6, none⟩ v6) b T #[v0, v1, v2, v3, v4, v5, v6] := by
  have h0 : Blk _ b T #[v0, u1, u2, u3, u4, u5, u6] := h.set 0 v0
  have h1 : Blk _ b T #[v0, v1, u2, u3, u4, u5, u6] := h0.set 1 v1
  have h2 : Blk _ b T #[v0, v1, v2, u3, u4, u5, u6] := h1.set 2 v2
  have h3 : Blk _ b T #[v0, v1, v2, v3, u4, u5, u6] := h2.set 3 v3
  have h4 : Blk _ b T #[v0, v1, v2, v3, v4, u5, u6] := h3.set 4 v4
  have h5 : Blk _ b T #[v0, v1, v2, v3, v4, v5, u6] := h4.set 5 v5
  have h6 : Blk _ b T #[v0, v1, v2, v3, v4, v5, v6] := h5.set 6 v6
  exact h6
theorem seven_cells {w : World} {b : Nat} {T : TypeId} {u0 u1 u2 u3 u4 u5 u6 : Value} (h : Blk w b T #[u0, u1, u2, u3, u4, u5, u6]) : w.cell? ⟨b, 0, none⟩ = some u0 ∧ w.cell? ⟨b, 1, none⟩ = some u1 ∧ w.cell? ⟨b, 2, none⟩ = some u2 ∧ w.cell? ⟨b, 3, none⟩ = some u3 ∧ w.cell? ⟨b, 4, none⟩ = some u4 ∧ w.cell? ⟨b, 5, none⟩ = some u5 ∧ w.cell? ⟨b, 6, none⟩ = some u6 :=
  ⟨h.cell_eq 0 _ rfl, h.cell_eq 1 _ rfl, h.cell_eq 2 _ rfl, h.cell_eq 3 _ rfl, h.cell_eq 4 _ rfl, h.cell_eq 5 _ rfl, h.cell_eq 6 _ rfl⟩
theorem seven_below {B : Nat} {W w : World} {b : Nat} (h : Below B W w) (hb : B ≤ b) (v0 v1 v2 v3 v4 v5 v6 : Value) : Below B W (((((((w.setCell ⟨b, 0, none⟩ v0).setCell ⟨b, 1, none⟩ v1).setCell ⟨b, 2, none⟩ v2).setCell ⟨b, 3, none⟩ v3).setCell ⟨b, 4, none⟩ v4).setCell ⟨b, 5, none⟩ v5).setCell ⟨b, 6, none⟩ v6) := by
  have h0 := h.setCell (p := ⟨b, 0, none⟩) hb v0
  have h1 := h0.setCell (p := ⟨b, 1, none⟩) hb v1
  have h2 := h1.setCell (p := ⟨b, 2, none⟩) hb v2
  have h3 := h2.setCell (p := ⟨b, 3, none⟩) hb v3
  have h4 := h3.setCell (p := ⟨b, 4, none⟩) hb v4
  have h5 := h4.setCell (p := ⟨b, 5, none⟩) hb v5
  have h6 := h5.setCell (p := ⟨b, 6, none⟩) hb v6
  exact h6
theorem three_lay {w : World} {b : Nat} {T : TypeId} {u0 u1 u2 : Value} (h : Blk w b T #[u0, u1, u2]) (v0 v1 v2 : Value) : Blk (((w.setCell ⟨b, 0, none⟩ v0).setCell ⟨b, 1, none⟩ v1).setCell ⟨b, 2, none⟩ v2) b T #[v0, v1, v2] := by
  have h0 : Blk _ b T #[v0, u1, u2] := h.set 0 v0
  have h1 : Blk _ b T #[v0, v1, u2] := h0.set 1 v1
  have h2 : Blk _ b T #[v0, v1, v2] := h1.set 2 v2
  exact h2
theorem three_below {B : Nat} {W w : World} {b : Nat} (h : Below B W w) (hb : B ≤ b) (v0 v1 v2 : Value) : Below B W (((w.setCell ⟨b, 0, none⟩ v0).setCell ⟨b, 1, none⟩ v1).setCell ⟨b, 2, none⟩ v2) := by
  have h0 := h.setCell (p := ⟨b, 0, none⟩) hb v0
  have h1 := h0.setCell (p := ⟨b, 1, none⟩) hb v1
  have h2 := h1.setCell (p := ⟨b, 2, none⟩) hb v2
  exact h2
theorem moved_swt {w W : World} {ko ko' : Option Nat} (h : Moved w ko ko') (hw : W.heap.size ≤ w.heap.size) : ∀ k, ko' = some k → ko = some k ∨ W.heap.size ≤ k := by
  intro k e
  rcases h with g | g | ⟨k', g, g'⟩
  · rw [g] at e; cases e
  · rw [g] at e; exact .inl e
  · rw [g] at e; cases e; exact .inr (by omega)
section
variable {W w3 : World} {g : Nat} {ko ko1 : Option Nat} {ao ao1 : Option Addr} {cap cap1 n : Nat} {cs : List Value} {left stop : Int} {T : TypeId}
/-- The slice, laid into the plan. -/
theorem plan_lay (hB : Blk W g T #[.slice ao n cap, .int .i64 left, .int .i64 stop]) (hg : ∀ k, ko = some k → k ≠ g) (hf : Frm (fun c => ko = some c) W w3) (ho : OwG 43 4 w3 ko1 ao1 cap1 (n + 1) cs) (hm : ∀ k, ko1 = some k → ko = some k ∨ W.heap.size ≤ k) :
    w3.cell? ⟨g, 0, none⟩ = some (.slice ao n cap) ∧ w3.frozen? ⟨g, 0, none⟩ = false ∧ Blk (w3.setCell ⟨g, 0, none⟩ (.slice ao1 (n + 1) cap1)) g T #[.slice ao1 (n + 1) cap1, .int .i64 left, .int .i64 stop] ∧
      OwG 43 4 (w3.setCell ⟨g, 0, none⟩ (.slice ao1 (n + 1) cap1)) ko1 ao1 cap1 (n + 1) cs ∧ (∀ k, ko1 = some k → k ≠ g) ∧ Frm (fun c => c = g ∨ ko = some c) W (w3.setCell ⟨g, 0, none⟩ (.slice ao1 (n + 1) cap1)) := by
  have hlt := hB.lt
  have h3 := blk_frmK hB hf (fun e => hg g e rfl)
  have hk : ∀ k, ko1 = some k → k ≠ g := fun k e => by
    rcases hm k e with e' | e'
    · exact hg k e'
    · omega
  refine ⟨h3.cell_eq 0 _ rfl, h3.free 0, h3.set 0 _, ho.keep fun k e => heap_othK _ _ _ (hk k e), hk, ?_⟩
  exact ((Frm.refl _ W).trans hf (fun c e => .inl (.inr e))).setCell _ _ (.inl (.inl rfl))
end
set_option maxRecDepth 100000 in
set_option maxHeartbeats 8000000 in
theorem trade_any (o : Ord) {W : World} {g n : Nat} {ko : Option Nat} {ao : Option Addr} {cap : Nat} {l : List Fll} {left stop m : Int} (hB : Blk W g 37 #[.slice ao n cap, .int .i64 left, .int .i64 stop]) (how : OwG 43 4 W ko ao cap n (fcs l)) (hk : ∀ k, ko = some k → k ≠ g) (hl : n ≤ 1000) (hm : m = min left o.qty) (hw : Hid (IntKind.i64.wrap (left - m) = left - m)) :
    Calls Tryd.prog 25 #[.pointer (some ⟨g, 0, none⟩), vOrd o] W fun e w' => e = .returned undef ∧ ∃ ko' ao' cap', Blk w' g 37 #[.slice ao' (n + 1) cap', .int .i64 (left - m), .int .i64 stop] ∧ OwG 43 4 w' ko' ao' cap' (n + 1) (fcs (l ++ [⟨o.id, o.price, m, false⟩])) ∧ (∀ k, ko' = some k → k ≠ g ∧ (ko = some k ∨ W.heap.size ≤ k)) ∧ Frm (fun c => c = g ∨ ko = some c) W w' := by
  obtain ⟨W1, hW1⟩ : ∃ W1, W1 = W.alloc (.cells (cOrd o) 45) := ⟨_, rfl⟩
  have hBx : Blk W1 W.heap.size 45 (cOrd o) := by rw [hW1]; exact Blk.new _ _ _
  have hF1 : Below W.heap.size W W1 := by rw [hW1]; exact (Below.refl _ _).alloc (Nat.le_refl _) _
  have hglt := hB.lt
  have hP := fun w (h : Below W1.heap.size W1 w) => three_cells ((hB.below hF1 hB.lt).below h (by have := hF1.size; omega))
  have hO := fun w (h : Below W1.heap.size W1 w) => Ord.cells (hBx.below h hBx.lt)
  have hko : ∀ k, ko = some k → k < W.heap.size := fun k e => by subst e; exact how.lt
  obtain ⟨i1, hi1, e1⟩ := Option.map_eq_some_iff.1 infoFll
  simp only [Prod.mk.injEq] at e1
  obtain ⟨hz1, hs1, hb1⟩ := e1
  obtain ⟨x0, x1, x2, x3, x4, x5, x6⟩ := o
  simp only at hm
  replace hm := Lib.hid hm
  have hcs := fcs_snoc l ⟨x0, x3, m, false⟩
  simp only at hO
  have hone := cFll_one ⟨x0, x3, m, false⟩
  simp only [vOrd]
  simp only [cOrd] at hW1
  go_enter Tryd.func25, Tryd.ntmps25
  go_wp2_with (rw [← hW1])
  refine wp_region_S (S := (fun _ w => Below W1.heap.size W1 w)) (by kernel_rfl) (Below.refl _ _).drew ?_
  refine AllS.next (v := ?_) rfl rfl rfl (by kernel_rfl) ?_ ?_
  rotate_left
  · refine yieldsS_run (fun _ _ h => h) (by rfl) ?_
    intro L wx hS
    go_simp
    try with_reducible rfl
  try simp only [Act.put, List.setIfInBounds_toArray, List.set_cons_zero, List.set_cons_succ, List.getElem_toArray, List.getElem_cons_zero, List.getElem_cons_succ]
  refine AllS.next (v := ?_) rfl rfl rfl (by kernel_rfl) ?_ ?_
  rotate_left
  · refine yieldsS_run (fun _ _ h => h) (by rfl) ?_
    intro L wx hS
    go_simp
    try with_reducible rfl
  try simp only [Act.put, List.setIfInBounds_toArray, List.set_cons_zero, List.set_cons_succ, List.getElem_toArray, List.getElem_cons_zero, List.getElem_cons_succ]
  refine AllS.next (v := ?_) rfl rfl rfl (by kernel_rfl) ?_ ?_
  rotate_left
  · refine yieldsS_run (fun _ _ h => h) (by rfl) ?_
    intro L wx hS
    go_simp
    try with_reducible rfl
  try simp only [Act.put, List.setIfInBounds_toArray, List.set_cons_zero, List.set_cons_succ, List.getElem_toArray, List.getElem_cons_zero, List.getElem_cons_succ]
  refine AllS.next (v := ?_) rfl rfl rfl (by kernel_rfl) ?_ ?_
  rotate_left
  · refine yieldsS_run (fun _ _ h => h) (by rfl) ?_
    intro L wx hS
    obtain ⟨p0, p1, p2⟩ := hP _ hS
    go_simp
    try with_reducible rfl
  try simp only [Act.put, List.setIfInBounds_toArray, List.set_cons_zero, List.set_cons_succ, List.getElem_toArray, List.getElem_cons_zero, List.getElem_cons_succ]
  refine AllS.next (v := ?_) rfl rfl rfl (by kernel_rfl) ?_ ?_
  rotate_left
  · refine yieldsS_run (fun _ _ h => h) (by rfl) ?_
    intro L wx hS
    go_simp
    try with_reducible rfl
  try simp only [Act.put, List.setIfInBounds_toArray, List.set_cons_zero, List.set_cons_succ, List.getElem_toArray, List.getElem_cons_zero, List.getElem_cons_succ]
  refine AllS.next (v := ?_) rfl rfl rfl (by kernel_rfl) ?_ ?_
  rotate_left
  · refine yieldsS_run (fun _ _ h => h) (by rfl) ?_
    intro L wx hS
    obtain ⟨o0, o1, o2, o3, o4, o5, o6⟩ := hO _ hS
    go_simp
    try with_reducible rfl
  try simp only [Act.put, List.setIfInBounds_toArray, List.set_cons_zero, List.set_cons_succ, List.getElem_toArray, List.getElem_cons_zero, List.getElem_cons_succ]
  refine AllS.next (v := .int .i64 m) rfl rfl rfl (by kernel_rfl) ?_ ?_
  · refine yieldsS_run (fun _ _ h => h) (by rfl) ?_
    intro L wx hS
    have hm := hm.out
    go_simp
    all_goals first
      | done
      | with_reducible rfl
      | omega
      | (split <;> simp_all <;> omega)
      | trace_state
  try simp only [Act.put, List.setIfInBounds_toArray, List.set_cons_zero, List.set_cons_succ, List.getElem_toArray, List.getElem_cons_zero, List.getElem_cons_succ, Nat.zero_add, List.nil_append]
  refine AllS.next (v := ?_) rfl rfl rfl (by kernel_rfl) ?_ ?_
  rotate_left
  · refine yieldsS_run (fun _ _ h => h) (by rfl) ?_
    intro L wx hS
    go_simp
    try with_reducible rfl
  try simp only [Act.put, List.setIfInBounds_toArray, List.set_cons_zero, List.set_cons_succ, List.getElem_toArray, List.getElem_cons_zero, List.getElem_cons_succ]
  refine AllS.done (by kernel_rfl) ?_
  intro W2 b2
  have hb12 : Below W.heap.size W W2 := hF1.trans (b2.mono hF1.size)
  have hB2 := hB.below hb12 hglt
  have hP2 : ∀ w, Frm (fun c => ko = some c) W2 w → _ := fun w h => three_cells (blk_frmK hB2 h (fun e => hk g e rfl))
  have hO2 : ∀ w, Frm (fun c => ko = some c) W2 w → _ := fun w h => Ord.cells (blk_frmK (hBx.below b2 hBx.lt) h (fun e => by have := hko _ e; omega))
  have hOU := (how.below hb12).drew
  have hDU : Frm (fun c => ko = some c) W2 W2.drew := (Frm.refl _ _).drew
  have hfin : ∀ w3 ao1 cap1 ko1, Frm (fun c => ko = some c) W2 w3 → OwG 43 4 w3 ko1 ao1 cap1 (n + 1) (fcs l ++ (cFll ⟨x0, x3, m, false⟩).toList) → (∀ k, ko1 = some k → ko = some k ∨ W2.heap.size ≤ k) → ∃ V, w3.cell? ⟨g, 0, none⟩ = some (.slice ao n cap) ∧ w3.frozen? ⟨g, 0, none⟩ = false ∧ Hid (V = w3.setCell ⟨g, 0, none⟩ (.slice ao1 (n + 1) cap1) ∧ V.cell? ⟨g, 1, none⟩ = some (.int .i64 left) ∧ V.frozen? ⟨g, 1, none⟩ = false ∧
      ∃ ko' ao' cap', Blk (V.setCell ⟨g, 1, none⟩ (.int .i64 (left - m))) g 37 #[.slice ao' (n + 1) cap', .int .i64 (left - m), .int .i64 stop] ∧ OwG 43 4 (V.setCell ⟨g, 1, none⟩ (.int .i64 (left - m))) ko' ao' cap' (n + 1) (fcs (l ++ [⟨x0, x3, m, false⟩])) ∧ (∀ k, ko' = some k → k ≠ g ∧ (ko = some k ∨ W.heap.size ≤ k)) ∧ Frm (fun c => c = g ∨ ko = some c) W (V.setCell ⟨g, 1, none⟩ (.int .i64 (left - m)))) := by
    intro w3 ao1 cap1 ko1 h1 h2 h3
    obtain ⟨q1, q2, q3, q4, q5, q6⟩ := plan_lay hB2 hk h1 h2 h3
    refine ⟨_, q1, q2, Lib.hid ⟨rfl, q3.cell_eq 1 _ rfl, q3.free 1, ko1, ao1, cap1, q3.set 1 _, ?_, fun k e => ⟨q5 k e, (h3 k e).imp id (fun e' => Nat.le_trans hb12.size e')⟩, ((Frm.of_below hb12).trans q6 (fun c e => .inl e)).setCell _ _ (.inl (.inl rfl))⟩⟩
    rw [hcs]
    exact q4.keep fun k e => heap_othK _ _ _ (q5 k e)
  clear hP hO hB hBx hF1 how hk hm hb12 hB2 b2 hcs hko hglt
  go_wp2_with fail
  refine GoL.start (S := Slq (fun w => Frm (fun c => ko = some c) W2 w) 15) (by kernel_rfl) (fun _ => hDU) ?_
  generalize W2.drew = U at hOU hDU ⊢
  refine GoL.take (i := 0) (v := ?_) rfl rfl (by kernel_rfl) (fun _ _ _ h => h) (fun _ _ => Slq.other (by decide)) (by rfl) ?_ ?_
  rotate_left
  · intro wx hwx
    go_simp
    try with_reducible rfl
  try simp only [Act.put, List.setIfInBounds_toArray, List.set_cons_zero, List.set_cons_succ, List.getElem_toArray, List.getElem_cons_zero, List.getElem_cons_succ, Nat.zero_add, List.nil_append]
  refine GoL.take (i := 1) (v := ?_) rfl rfl (by kernel_rfl) (fun _ _ _ h => h) (fun _ _ => Slq.other (by decide)) (by rfl) ?_ ?_
  rotate_left
  · intro wx hwx
    go_simp
    try with_reducible rfl
  try simp only [Act.put, List.setIfInBounds_toArray, List.set_cons_zero, List.set_cons_succ, List.getElem_toArray, List.getElem_cons_zero, List.getElem_cons_succ, Nat.zero_add, List.nil_append]
  refine GoL.take (i := 2) (v := ?_) rfl rfl (by kernel_rfl) (fun _ _ _ h => h) (fun _ _ => Slq.other (by decide)) (by rfl) ?_ ?_
  rotate_left
  · intro wx hwx
    go_simp
    try with_reducible rfl
  try simp only [Act.put, List.setIfInBounds_toArray, List.set_cons_zero, List.set_cons_succ, List.getElem_toArray, List.getElem_cons_zero, List.getElem_cons_succ, Nat.zero_add, List.nil_append]
  refine GoL.take (i := 3) (v := ?_) rfl rfl (by kernel_rfl) (fun _ _ _ h => h) (fun _ _ => Slq.other (by decide)) (by rfl) ?_ ?_
  rotate_left
  · intro wx hwx
    go_simp
    try with_reducible rfl
  try simp only [Act.put, List.setIfInBounds_toArray, List.set_cons_zero, List.set_cons_succ, List.getElem_toArray, List.getElem_cons_zero, List.getElem_cons_succ, Nat.zero_add, List.nil_append]
  refine GoL.take (i := 4) (v := ?_) rfl rfl (by kernel_rfl) (fun _ _ _ h => h) (fun _ _ => Slq.other (by decide)) (by rfl) ?_ ?_
  rotate_left
  · intro wx hwx
    have hq := (Slq.wi (fun L h1 h2 => (Closed.not h1 (i := 12) (by kernel_rfl) (Closed.not h1 (i := 4) (by kernel_rfl) (ready_not h2)))) hwx)
    obtain ⟨p0, p1, p2⟩ := hP2 _ hq
    go_simp
    try with_reducible rfl
  try simp only [Act.put, List.setIfInBounds_toArray, List.set_cons_zero, List.set_cons_succ, List.getElem_toArray, List.getElem_cons_zero, List.getElem_cons_succ, Nat.zero_add, List.nil_append]
  refine GoL.take (i := 5) (v := ?_) rfl rfl (by kernel_rfl) (fun _ _ _ h => h) (fun _ _ => Slq.other (by decide)) (by rfl) ?_ ?_
  rotate_left
  · intro wx hwx
    go_simp
    try with_reducible rfl
  try simp only [Act.put, List.setIfInBounds_toArray, List.set_cons_zero, List.set_cons_succ, List.getElem_toArray, List.getElem_cons_zero, List.getElem_cons_succ, Nat.zero_add, List.nil_append]
  refine GoL.take (i := 6) (v := ?_) rfl rfl (by kernel_rfl) (fun _ _ _ h => h) (fun _ _ => Slq.other (by decide)) (by rfl) ?_ ?_
  rotate_left
  · intro wx hwx
    have hq := (Slq.wi (fun L h1 h2 => (Closed.not h1 (i := 12) (by kernel_rfl) (Closed.not h1 (i := 11) (by kernel_rfl) (Closed.not h1 (i := 10) (by kernel_rfl) (Closed.not h1 (i := 6) (by kernel_rfl) (ready_not h2)))))) hwx)
    obtain ⟨o0, o1, o2, o3, o4, o5, o6⟩ := hO2 _ hq
    go_simp
    try with_reducible rfl
  try simp only [Act.put, List.setIfInBounds_toArray, List.set_cons_zero, List.set_cons_succ, List.getElem_toArray, List.getElem_cons_zero, List.getElem_cons_succ, Nat.zero_add, List.nil_append]
  refine GoL.take (i := 7) (v := ?_) rfl rfl (by kernel_rfl) (fun _ _ _ h => h) (fun _ _ => Slq.other (by decide)) (by rfl) ?_ ?_
  rotate_left
  · intro wx hwx
    go_simp
    try with_reducible rfl
  try simp only [Act.put, List.setIfInBounds_toArray, List.set_cons_zero, List.set_cons_succ, List.getElem_toArray, List.getElem_cons_zero, List.getElem_cons_succ, Nat.zero_add, List.nil_append]
  refine GoL.take (i := 8) (v := ?_) rfl rfl (by kernel_rfl) (fun _ _ _ h => h) (fun _ _ => Slq.other (by decide)) (by rfl) ?_ ?_
  rotate_left
  · intro wx hwx
    have hq := (Slq.wi (fun L h1 h2 => (Closed.not h1 (i := 12) (by kernel_rfl) (Closed.not h1 (i := 11) (by kernel_rfl) (Closed.not h1 (i := 10) (by kernel_rfl) (Closed.not h1 (i := 8) (by kernel_rfl) (ready_not h2)))))) hwx)
    obtain ⟨o0, o1, o2, o3, o4, o5, o6⟩ := hO2 _ hq
    go_simp
    try with_reducible rfl
  try simp only [Act.put, List.setIfInBounds_toArray, List.set_cons_zero, List.set_cons_succ, List.getElem_toArray, List.getElem_cons_zero, List.getElem_cons_succ, Nat.zero_add, List.nil_append]
  refine GoL.take (i := 9) (v := ?_) rfl rfl (by kernel_rfl) (fun _ _ _ h => h) (fun _ _ => Slq.other (by decide)) (by rfl) ?_ ?_
  rotate_left
  · intro wx hwx
    go_simp
    try with_reducible rfl
  try simp only [Act.put, List.setIfInBounds_toArray, List.set_cons_zero, List.set_cons_succ, List.getElem_toArray, List.getElem_cons_zero, List.getElem_cons_succ, Nat.zero_add, List.nil_append]
  refine GoL.take (i := 10) (v := ?_) rfl rfl (by kernel_rfl) (fun _ _ _ h => h) (fun _ _ => Slq.other (by decide)) (by rfl) ?_ ?_
  rotate_left
  · intro wx hwx
    go_simp
    try with_reducible rfl
  try simp only [Act.put, List.setIfInBounds_toArray, List.set_cons_zero, List.set_cons_succ, List.getElem_toArray, List.getElem_cons_zero, List.getElem_cons_succ, Nat.zero_add, List.nil_append]
  refine GoL.on (rs := [11]) (by kernel_rfl) (by decide) ?_
  refine OnL.cons rfl ?_ OnL.nil
  intro K hK
  replace hK := Lib.hid hK
  go_simp
  have hD3 := hDU.alloc (.cells #[.int .i64 x0, .int .i64 x3, .int .i64 m, .bool false] 43)
  refine hK.out _ _ (fun _ => hD3) ?_
  clear hK
  try simp only [Act.put, List.setIfInBounds_toArray, List.set_cons_zero, List.set_cons_succ, List.getElem_toArray, List.getElem_cons_zero, List.getElem_cons_succ, Nat.zero_add, List.nil_append]
  refine GoL.on (rs := [12]) (by kernel_rfl) (by decide) ?_
  refine OnL.cons rfl ?_ OnL.nil
  intro K hK
  replace hK := Lib.hid hK
  refine step_appG rfl (.tmp 16) (.tmp 23) 35 43 i1 _ 4 32 Tryd.underlying35 hi1 hz1 hs1 hb1 rfl (by decide) rfl (hOU.alloc _) (SrcG.row (cs := #[.int .i64 x0, .int .i64 x3, .int .i64 m, .bool false]) (Blk.new _ _ _) rfl hone) rfl rfl (by omega) (by omega) ?_
  intro ao1 cap1 ko1 w3 ho1 hf1 hm1
  have hD4 := hD3.trans hf1 (fun c e => .inl e)
  obtain ⟨V, c3, f3, hend⟩ := hfin w3 ao1 cap1 ko1 hD4 ho1 (moved_swt hm1 (by rw [World.size_alloc]; have := hDU.size; omega))
  clear hf1 hm1 ho1
  refine hK.out _ _ (fun _ => hD4) ?_
  clear hK
  try simp only [Act.put, List.setIfInBounds_toArray, List.set_cons_zero, List.set_cons_succ, List.getElem_toArray, List.getElem_cons_zero, List.getElem_cons_succ, Nat.zero_add, List.nil_append]
  refine GoL.take (i := 13) (v := ?_) rfl rfl (by kernel_rfl) (fun _ _ _ h => h) (fun _ _ => Slq.other (by decide)) (by rfl) ?_ ?_
  rotate_left
  · intro wx hwx
    go_simp
    try with_reducible rfl
  try simp only [Act.put, List.setIfInBounds_toArray, List.set_cons_zero, List.set_cons_succ, List.getElem_toArray, List.getElem_cons_zero, List.getElem_cons_succ, Nat.zero_add, List.nil_append]
  refine GoL.take (i := 14) (v := ?_) rfl rfl (by kernel_rfl) (fun _ _ _ h => h) (fun _ _ => Slq.other (by decide)) (by rfl) ?_ ?_
  rotate_left
  · intro wx hwx
    go_simp
    try with_reducible rfl
  try simp only [Act.put, List.setIfInBounds_toArray, List.set_cons_zero, List.set_cons_succ, List.getElem_toArray, List.getElem_cons_zero, List.getElem_cons_succ, Nat.zero_add, List.nil_append]
  refine GoL.on (rs := [15]) (by kernel_rfl) (by decide) ?_
  refine OnL.cons rfl ?_ OnL.nil
  intro K hK
  replace hK := Lib.hid hK
  go_simp
  refine hK.out _ _ (Slq.last (by simp)) ?_
  clear hK
  try simp only [Act.put, List.setIfInBounds_toArray, List.set_cons_zero, List.set_cons_succ, List.getElem_toArray, List.getElem_cons_zero, List.getElem_cons_succ, Nat.zero_add, List.nil_append]
  refine GoL.done (by kernel_rfl) ?_
  refine NoPanic.normal ?_
  obtain ⟨hV, g1, g2, hpost⟩ := hend.out
  rw [← hV]
  replace hpost := Lib.hid hpost
  replace hw := hw.out
  clear hend hV hfin
  go_wp2_with fail
  go_end0
  exact ⟨rfl, hpost.out⟩

set_option maxRecDepth 100000 in
set_option maxHeartbeats 8000000 in
theorem cancel_any (o : Ord) {W : World} {g n : Nat} {ko : Option Nat} {ao : Option Addr} {cap : Nat} {l : List Fll} {left stop : Int} (hB : Blk W g 37 #[.slice ao n cap, .int .i64 left, .int .i64 stop]) (how : OwG 43 4 W ko ao cap n (fcs l)) (hk : ∀ k, ko = some k → k ≠ g) (hl : n ≤ 1000) :
    Calls Tryd.prog 26 #[.pointer (some ⟨g, 0, none⟩), vOrd o] W fun e w' => e = .returned undef ∧ ∃ ko' ao' cap', Blk w' g 37 #[.slice ao' (n + 1) cap', .int .i64 left, .int .i64 stop] ∧ OwG 43 4 w' ko' ao' cap' (n + 1) (fcs (l ++ [⟨o.id, o.price, o.qty, true⟩])) ∧ (∀ k, ko' = some k → k ≠ g ∧ (ko = some k ∨ W.heap.size ≤ k)) ∧ Frm (fun c => c = g ∨ ko = some c) W w' := by
  obtain ⟨W1, hW1⟩ : ∃ W1, W1 = W.alloc (.cells (cOrd o) 45) := ⟨_, rfl⟩
  have hBx : Blk W1 W.heap.size 45 (cOrd o) := by rw [hW1]; exact Blk.new _ _ _
  have hF1 : Below W.heap.size W W1 := by rw [hW1]; exact (Below.refl _ _).alloc (Nat.le_refl _) _
  have hglt := hB.lt
  have hko : ∀ k, ko = some k → k < W.heap.size := fun k e => by subst e; exact how.lt
  obtain ⟨i1, hi1, e1⟩ := Option.map_eq_some_iff.1 infoFll
  simp only [Prod.mk.injEq] at e1
  obtain ⟨hz1, hs1, hb1⟩ := e1
  obtain ⟨x0, x1, x2, x3, x4, x5, x6⟩ := o
  have hcs := fcs_snoc l ⟨x0, x3, x4, true⟩
  have hone := cFll_one ⟨x0, x3, x4, true⟩
  simp only [vOrd]
  simp only [cOrd] at hW1
  go_enter Tryd.func26, Tryd.ntmps26
  go_wp2_with (rw [← hW1])
  clear hW1
  have hB1 := hB.below hF1 hglt
  have hP2 : ∀ w, Frm (fun c => ko = some c) W1 w → _ := fun w h => three_cells (blk_frmK hB1 h (fun e => hk g e rfl))
  have hO2 : ∀ w, Frm (fun c => ko = some c) W1 w → _ := fun w h => Ord.cells (blk_frmK hBx h (fun e => by have := hko _ e; omega))
  simp only at hO2
  have hOU := (how.below hF1).drew
  have hDU : Frm (fun c => ko = some c) W1 W1.drew := (Frm.refl _ _).drew
  have hfin : ∀ w3 ao1 cap1 ko1, Frm (fun c => ko = some c) W1 w3 → OwG 43 4 w3 ko1 ao1 cap1 (n + 1) (fcs l ++ (cFll ⟨x0, x3, x4, true⟩).toList) → (∀ k, ko1 = some k → ko = some k ∨ W1.heap.size ≤ k) → ∃ V, w3.cell? ⟨g, 0, none⟩ = some (.slice ao n cap) ∧ w3.frozen? ⟨g, 0, none⟩ = false ∧ Hid (V = w3.setCell ⟨g, 0, none⟩ (.slice ao1 (n + 1) cap1) ∧
      ∃ ko' ao' cap', Blk V g 37 #[.slice ao' (n + 1) cap', .int .i64 left, .int .i64 stop] ∧ OwG 43 4 V ko' ao' cap' (n + 1) (fcs (l ++ [⟨x0, x3, x4, true⟩])) ∧ (∀ k, ko' = some k → k ≠ g ∧ (ko = some k ∨ W.heap.size ≤ k)) ∧ Frm (fun c => c = g ∨ ko = some c) W V) := by
    intro w3 ao1 cap1 ko1 h1 h2 h3
    obtain ⟨q1, q2, q3, q4, q5, q6⟩ := plan_lay hB1 hk h1 h2 h3
    refine ⟨_, q1, q2, Lib.hid ⟨rfl, ko1, ao1, cap1, q3, ?_, fun k e => ⟨q5 k e, (h3 k e).imp id (fun e' => Nat.le_trans hF1.size e')⟩, (Frm.of_below hF1).trans q6 (fun c e => .inl e)⟩⟩
    rw [hcs]
    exact q4
  clear hB hBx hF1 how hk hB1 hcs hko hglt
  refine GoL.start (S := Slq (fun w => Frm (fun c => ko = some c) W1 w) 16) (by kernel_rfl) (fun _ => hDU) ?_
  generalize W1.drew = U at hOU hDU ⊢
  refine GoL.take (i := 0) (v := ?_) rfl rfl (by kernel_rfl) (fun _ _ _ h => h) (fun _ _ => Slq.other (by decide)) (by rfl) ?_ ?_
  rotate_left
  · intro wx hwx
    go_simp
    try with_reducible rfl
  try simp only [Act.put, List.setIfInBounds_toArray, List.set_cons_zero, List.set_cons_succ, List.getElem_toArray, List.getElem_cons_zero, List.getElem_cons_succ, Nat.zero_add, List.nil_append]
  refine GoL.take (i := 1) (v := ?_) rfl rfl (by kernel_rfl) (fun _ _ _ h => h) (fun _ _ => Slq.other (by decide)) (by rfl) ?_ ?_
  rotate_left
  · intro wx hwx
    go_simp
    try with_reducible rfl
  try simp only [Act.put, List.setIfInBounds_toArray, List.set_cons_zero, List.set_cons_succ, List.getElem_toArray, List.getElem_cons_zero, List.getElem_cons_succ, Nat.zero_add, List.nil_append]
  refine GoL.take (i := 2) (v := ?_) rfl rfl (by kernel_rfl) (fun _ _ _ h => h) (fun _ _ => Slq.other (by decide)) (by rfl) ?_ ?_
  rotate_left
  · intro wx hwx
    go_simp
    try with_reducible rfl
  try simp only [Act.put, List.setIfInBounds_toArray, List.set_cons_zero, List.set_cons_succ, List.getElem_toArray, List.getElem_cons_zero, List.getElem_cons_succ, Nat.zero_add, List.nil_append]
  refine GoL.take (i := 3) (v := ?_) rfl rfl (by kernel_rfl) (fun _ _ _ h => h) (fun _ _ => Slq.other (by decide)) (by rfl) ?_ ?_
  rotate_left
  · intro wx hwx
    go_simp
    try with_reducible rfl
  try simp only [Act.put, List.setIfInBounds_toArray, List.set_cons_zero, List.set_cons_succ, List.getElem_toArray, List.getElem_cons_zero, List.getElem_cons_succ, Nat.zero_add, List.nil_append]
  refine GoL.take (i := 4) (v := ?_) rfl rfl (by kernel_rfl) (fun _ _ _ h => h) (fun _ _ => Slq.other (by decide)) (by rfl) ?_ ?_
  rotate_left
  · intro wx hwx
    have hq := (Slq.wi (fun L h1 h2 => (Closed.not h1 (i := 13) (by kernel_rfl) (Closed.not h1 (i := 4) (by kernel_rfl) (ready_not h2)))) hwx)
    obtain ⟨p0, p1, p2⟩ := hP2 _ hq
    go_simp
    try with_reducible rfl
  try simp only [Act.put, List.setIfInBounds_toArray, List.set_cons_zero, List.set_cons_succ, List.getElem_toArray, List.getElem_cons_zero, List.getElem_cons_succ, Nat.zero_add, List.nil_append]
  refine GoL.take (i := 5) (v := ?_) rfl rfl (by kernel_rfl) (fun _ _ _ h => h) (fun _ _ => Slq.other (by decide)) (by rfl) ?_ ?_
  rotate_left
  · intro wx hwx
    go_simp
    try with_reducible rfl
  try simp only [Act.put, List.setIfInBounds_toArray, List.set_cons_zero, List.set_cons_succ, List.getElem_toArray, List.getElem_cons_zero, List.getElem_cons_succ, Nat.zero_add, List.nil_append]
  refine GoL.take (i := 6) (v := ?_) rfl rfl (by kernel_rfl) (fun _ _ _ h => h) (fun _ _ => Slq.other (by decide)) (by rfl) ?_ ?_
  rotate_left
  · intro wx hwx
    have hq := (Slq.wi (fun L h1 h2 => (Closed.not h1 (i := 13) (by kernel_rfl) (Closed.not h1 (i := 12) (by kernel_rfl) (Closed.not h1 (i := 11) (by kernel_rfl) (Closed.not h1 (i := 6) (by kernel_rfl) (ready_not h2)))))) hwx)
    obtain ⟨o0, o1, o2, o3, o4, o5, o6⟩ := hO2 _ hq
    go_simp
    try with_reducible rfl
  try simp only [Act.put, List.setIfInBounds_toArray, List.set_cons_zero, List.set_cons_succ, List.getElem_toArray, List.getElem_cons_zero, List.getElem_cons_succ, Nat.zero_add, List.nil_append]
  refine GoL.take (i := 7) (v := ?_) rfl rfl (by kernel_rfl) (fun _ _ _ h => h) (fun _ _ => Slq.other (by decide)) (by rfl) ?_ ?_
  rotate_left
  · intro wx hwx
    go_simp
    try with_reducible rfl
  try simp only [Act.put, List.setIfInBounds_toArray, List.set_cons_zero, List.set_cons_succ, List.getElem_toArray, List.getElem_cons_zero, List.getElem_cons_succ, Nat.zero_add, List.nil_append]
  refine GoL.take (i := 8) (v := ?_) rfl rfl (by kernel_rfl) (fun _ _ _ h => h) (fun _ _ => Slq.other (by decide)) (by rfl) ?_ ?_
  rotate_left
  · intro wx hwx
    have hq := (Slq.wi (fun L h1 h2 => (Closed.not h1 (i := 13) (by kernel_rfl) (Closed.not h1 (i := 12) (by kernel_rfl) (Closed.not h1 (i := 11) (by kernel_rfl) (Closed.not h1 (i := 8) (by kernel_rfl) (ready_not h2)))))) hwx)
    obtain ⟨o0, o1, o2, o3, o4, o5, o6⟩ := hO2 _ hq
    go_simp
    try with_reducible rfl
  try simp only [Act.put, List.setIfInBounds_toArray, List.set_cons_zero, List.set_cons_succ, List.getElem_toArray, List.getElem_cons_zero, List.getElem_cons_succ, Nat.zero_add, List.nil_append]
  refine GoL.take (i := 9) (v := ?_) rfl rfl (by kernel_rfl) (fun _ _ _ h => h) (fun _ _ => Slq.other (by decide)) (by rfl) ?_ ?_
  rotate_left
  · intro wx hwx
    go_simp
    try with_reducible rfl
  try simp only [Act.put, List.setIfInBounds_toArray, List.set_cons_zero, List.set_cons_succ, List.getElem_toArray, List.getElem_cons_zero, List.getElem_cons_succ, Nat.zero_add, List.nil_append]
  refine GoL.take (i := 10) (v := ?_) rfl rfl (by kernel_rfl) (fun _ _ _ h => h) (fun _ _ => Slq.other (by decide)) (by rfl) ?_ ?_
  rotate_left
  · intro wx hwx
    have hq := (Slq.wi (fun L h1 h2 => (Closed.not h1 (i := 13) (by kernel_rfl) (Closed.not h1 (i := 12) (by kernel_rfl) (Closed.not h1 (i := 11) (by kernel_rfl) (Closed.not h1 (i := 10) (by kernel_rfl) (ready_not h2)))))) hwx)
    obtain ⟨o0, o1, o2, o3, o4, o5, o6⟩ := hO2 _ hq
    go_simp
    try with_reducible rfl
  try simp only [Act.put, List.setIfInBounds_toArray, List.set_cons_zero, List.set_cons_succ, List.getElem_toArray, List.getElem_cons_zero, List.getElem_cons_succ, Nat.zero_add, List.nil_append]
  refine GoL.take (i := 11) (v := ?_) rfl rfl (by kernel_rfl) (fun _ _ _ h => h) (fun _ _ => Slq.other (by decide)) (by rfl) ?_ ?_
  rotate_left
  · intro wx hwx
    go_simp
    try with_reducible rfl
  try simp only [Act.put, List.setIfInBounds_toArray, List.set_cons_zero, List.set_cons_succ, List.getElem_toArray, List.getElem_cons_zero, List.getElem_cons_succ, Nat.zero_add, List.nil_append]
  refine GoL.on (rs := [12]) (by kernel_rfl) (by decide) ?_
  refine OnL.cons rfl ?_ OnL.nil
  intro K hK
  replace hK := Lib.hid hK
  go_simp
  have hD3 := hDU.alloc (.cells #[.int .i64 x0, .int .i64 x3, .int .i64 x4, .bool true] 43)
  refine hK.out _ _ (fun _ => hD3) ?_
  clear hK
  try simp only [Act.put, List.setIfInBounds_toArray, List.set_cons_zero, List.set_cons_succ, List.getElem_toArray, List.getElem_cons_zero, List.getElem_cons_succ, Nat.zero_add, List.nil_append]
  refine GoL.on (rs := [13]) (by kernel_rfl) (by decide) ?_
  refine OnL.cons rfl ?_ OnL.nil
  intro K hK
  replace hK := Lib.hid hK
  refine step_appG rfl (.tmp 8) (.tmp 16) 35 43 i1 _ 4 32 Tryd.underlying35 hi1 hz1 hs1 hb1 rfl (by decide) rfl (hOU.alloc _) (SrcG.row (cs := #[.int .i64 x0, .int .i64 x3, .int .i64 x4, .bool true]) (Blk.new _ _ _) rfl hone) rfl rfl (by omega) (by omega) ?_
  intro ao1 cap1 ko1 w3 ho1 hf1 hm1
  have hD4 := hD3.trans hf1 (fun c e => .inl e)
  obtain ⟨V, c3, f3, hend⟩ := hfin w3 ao1 cap1 ko1 hD4 ho1 (moved_swt hm1 (by rw [World.size_alloc]; have := hDU.size; omega))
  clear hf1 hm1 ho1
  refine hK.out _ _ (fun _ => hD4) ?_
  clear hK
  try simp only [Act.put, List.setIfInBounds_toArray, List.set_cons_zero, List.set_cons_succ, List.getElem_toArray, List.getElem_cons_zero, List.getElem_cons_succ, Nat.zero_add, List.nil_append]
  refine GoL.take (i := 14) (v := ?_) rfl rfl (by kernel_rfl) (fun _ _ _ h => h) (fun _ _ => Slq.other (by decide)) (by rfl) ?_ ?_
  rotate_left
  · intro wx hwx
    go_simp
    try with_reducible rfl
  try simp only [Act.put, List.setIfInBounds_toArray, List.set_cons_zero, List.set_cons_succ, List.getElem_toArray, List.getElem_cons_zero, List.getElem_cons_succ, Nat.zero_add, List.nil_append]
  refine GoL.take (i := 15) (v := ?_) rfl rfl (by kernel_rfl) (fun _ _ _ h => h) (fun _ _ => Slq.other (by decide)) (by rfl) ?_ ?_
  rotate_left
  · intro wx hwx
    go_simp
    try with_reducible rfl
  try simp only [Act.put, List.setIfInBounds_toArray, List.set_cons_zero, List.set_cons_succ, List.getElem_toArray, List.getElem_cons_zero, List.getElem_cons_succ, Nat.zero_add, List.nil_append]
  refine GoL.on (rs := [16]) (by kernel_rfl) (by decide) ?_
  refine OnL.cons rfl ?_ OnL.nil
  intro K hK
  replace hK := Lib.hid hK
  go_simp
  refine hK.out _ _ (Slq.last (by simp)) ?_
  clear hK
  try simp only [Act.put, List.setIfInBounds_toArray, List.set_cons_zero, List.set_cons_succ, List.getElem_toArray, List.getElem_cons_zero, List.getElem_cons_succ, Nat.zero_add, List.nil_append]
  refine GoL.done (by kernel_rfl) ?_
  refine NoPanic.normal ?_
  obtain ⟨hV, hpost⟩ := hend.out
  rw [← hV]
  replace hpost := Lib.hid hpost
  clear hend hV hfin
  go_wp2_with fail
  go_end0
  exact ⟨rfl, hpost.out⟩
end Go.Proofs.YtdpibjnlpdgdeaaDoor
