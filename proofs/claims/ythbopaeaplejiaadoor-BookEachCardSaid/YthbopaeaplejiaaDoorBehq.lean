/-
  The walk of BookEach.
-/
import Derived.Test.YthbopaeaplejiaaDoorBboq
import Derived.Test.YthbopaeaplejiaaDoorBalq
import Derived.Test.YthbopaeaplejiaaDoorRbfq
import Derived.Test.YthbopaeaplejiaaDoorGM
import Derived.Test.YthbopaeaplejiaaDoorGW
import Derived.Test.YthbopaeaplejiaaDoorGB
import Derived.RangeFuncCalls
import Derived.Shelf.RegionOpen
import Derived.OwnWalkIn
import Derived.TacticsInMore
import Derived.LoopNIn
import Derived.LoopIn
import Derived.Stop.RegionWithIn
import Derived.Sort.QuietTacIn
namespace Go.Proofs.YthbopaeaplejiaaDoor
open Go.RowKit
set_option linter.unusedSimpArgs false
attribute [local go_sem] Oper.semAt_some
theorem wide_fnE (f : FuncId) : Fence.wide.fn f = True := by simp [Fence.wide]
attribute [local go_sem] wide_fnE
theorem Ords.frmE {S : Nat → Prop} {w w' : World} {ao : Option Addr} {cap : Nat} {l : List Ord} (h : Ords w ao cap l) (hf : Frm S w w') (hk : ∀ b off s, ao = some ⟨b, off, s⟩ → b < w.heap.size → ¬ S b) : Ords w' ao cap l := by
  refine ⟨h.len, h.top, ?_⟩
  rcases h.at' with h0 | ⟨b, off, ha, hl⟩
  · exact .inl h0
  · refine .inr ⟨b, off, ha, fun i m hi j v hj => ?_⟩
    have hc := hl i m hi j v hj
    have hlt : b < w.heap.size := World.block_lt_of_cell? w ⟨b, off + i * 7 + j, none⟩ hc
    exact (World.cell?_of_block (a := ⟨b, off + i * 7 + j, none⟩) (hf.block b hlt (hk b off none ha hlt))).trans hc
theorem bqOf {w0 w : World} {S0 : Nat → Prop} {g r k : Nat} {b t : Bk} (h : Bb w0 S0 g r k b t w) (ht : t.Ok) (s : Int) : Calls Tryd.prog 11 #[.pointer (some ⟨r, 0, none⟩), .int .i64 s] w fun e w' => ∃ ao cap, e = .returned (.slice ao (bkOf t.L s).length cap) ∧ Ords w' ao cap (bkOf t.L s) ∧ (∀ c off s, ao = some ⟨c, off, s⟩ → c < w'.heap.size) ∧ Below w.heap.size w w' := by
  obtain ⟨Sp, Sr, h1, h2, h3, h4⟩ := h.both
  have h5 := ht.len
  have h6 := ht.s2
  refine (kof_any s h2 (by omega)).mono ?_
  rintro e w' ⟨ko, cap, ao, he, hG⟩
  refine ⟨ao, cap, he, Ords.of_own hG.ow, fun b off s e => ?_, hG.bel⟩
  rcases hG.ow.at' with ⟨_, h0, _⟩ | ⟨k, cur, rfl, h0, _⟩
  · rw [h0] at e; cases e
  · rw [h0] at e; cases e; exact hG.ow.lt
theorem bkOf_len (L : List Ord) (s : Int) : (bkOf L s).length ≤ L.length := by
  rw [(bkOf_perm L s).length_eq]
  exact List.length_filter_le _ _
set_option maxRecDepth 100000 in
set_option maxHeartbeats 8000000 in
theorem beach_any (x y : Int) (ao : Option Addr) (cap : Nat) (l : List Bac) (side stop : Int) (W : World) (hG : Gl W) (hL : Bacs W ao cap l) (hF : ∀ m ∈ l, m.Fit) :
    Calls Tryd.prog 3 #[.int .i64 x, .int .i64 y, .slice ao l.length cap, .int .i64 side, .int .i64 stop] W fun e w' => e = .returned (.bool true) ∧ Below W.heap.size W w' := by
  have hl1 := hL.len
  have hl2 := hL.top
  unfold maxLen at hl2
  obtain ⟨W1, hW1⟩ : ∃ W1, W1 = (W.alloc (.cells #[.int .i64 stop] 3)).alloc (.cells #[.bool false] 4) := ⟨_, rfl⟩
  have m1 : Mem W [(W.heap.size + 1, 4, #[.bool false]), (W.heap.size, 3, #[.int .i64 stop])] W1 := by
    rw [hW1]
    exact ((Mem.start W).new _ _).new' _ _ (by simp)
  have cL := fun w => light_any ao l.length cap w (by omega)
  have early : ∀ (w : World), Mem W [(W.heap.size + 1, 4, #[.bool false]), (W.heap.size, 3, #[.int .i64 stop])] w → w.cell? ⟨W.heap.size + 1, 0, none⟩ = some (.bool false) ∧ w.frozen? ⟨W.heap.size + 1, 0, none⟩ = false ∧ (w.setCell ⟨W.heap.size + 1, 0, none⟩ (.bool true)).cell? ⟨W.heap.size + 1, 0, none⟩ = some (.bool true) ∧ Below W.heap.size W (w.setCell ⟨W.heap.size + 1, 0, none⟩ (.bool true)) := by
    intro w m
    have h2 := m.blk (W.heap.size + 1) 4 #[.bool false] (by simp)
    exact ⟨h2.cell_eq 0 _ rfl, h2.free 0, (h2.set 0 (.bool true)).cell_eq 0 _ rfl, m.below.setCell (p := ⟨W.heap.size + 1, 0, none⟩) (by simp) _⟩
  replace early := Lib.hid early
  refine (callsIn_wide (n := 6)).1 ?_
  refine callsIn_of_wp_marks Tryd.func3 rfl trivial ?_ rfl
  simp only [Tryd.ntmps3, List.size_toArray, List.length_cons, List.length_nil, Nat.reduceAdd, Nat.reduceSub, Array.replicate_succ, Array.replicate_zero, List.push_toArray, List.append_toArray, List.nil_append, List.cons_append]
  refine wpIn_wide.2 ?_
  by_cases hx : x < 1 ∨ 500 < x ∨ y < 1 ∨ 200 < y
  · have c2 := fun w => knewNo_any x y hx w
    clear hx
    obtain ⟨q, hq⟩ : ∃ q, decide (l.length ≤ 100) = q := ⟨_, rfl⟩
    rw [hq] at cL
    clear hq
    cases q
    all_goals
      go_wp2_with (first
        | (go_at_call 6; rw [← hW1]; refine (alive_any W1 (hG.below m1.below)).mono ?_; rintro e w2 ⟨rfl, hb2⟩; have m2 := m1.keep hb2; clear m1 hW1 hb2)
        | (go_at_call 7; refine (c2 w2).mono ?_; rintro e w3 ⟨rfl, hw3⟩; subst w3; obtain ⟨c3, c4, hcr, hfin⟩ := early.out _ m2)
        | (go_at_call 8; refine (cL w2).mono ?_; rintro e w3 ⟨rfl, hw3⟩; subst w3)
        | fail)
      refine ⟨.bool true, ?_, rfl, hfin⟩
      simp [results, Tryd.results3, go_sem, hcr]
  obtain ⟨n, rfl, hn1, hn2⟩ : ∃ n : Nat, x = (n : Int) ∧ 1 ≤ n ∧ n ≤ 500 := ⟨x.toNat, by omega, by omega, by omega⟩
  obtain ⟨m, rfl, hm1, hm2⟩ : ∃ m : Nat, y = (m : Int) ∧ 1 ≤ m ∧ m ≤ 200 := ⟨y.toNat, by omega, by omega, by omega⟩
  clear hx
  have c1 := fun w (h : Gl w) => pb_new n m hn1 hn2 hm1 hm2 w h
  have c2 := fun w => knew_any n m hn1 hn2 hm1 hm2 w
  clear hn1 hn2 hm1 hm2
  obtain ⟨s0, h0⟩ : ∃ s0, s0 = Bk.new n m := ⟨_, rfl⟩
  rw [← h0] at c1 c2
  clear h0
  by_cases h100 : l.length ≤ 100
  rotate_left
  · rw [decide_eq_false h100] at cL
    go_wp2_with (first
      | (go_at_call 6; rw [← hW1]; refine (alive_any W1 (hG.below m1.below)).mono ?_; rintro e w2 ⟨rfl, hb2⟩; have m2 := m1.keep hb2; clear m1 hW1 hb2)
      | (go_at_call 7; refine (c2 w2).mono ?_; rintro e w3 ⟨r, Sr, rfl, -, hb3, -⟩; have m3 := m2.keep hb3; obtain ⟨c3, c4, hcr, hfin⟩ := early.out _ m3)
      | (go_at_call 8; refine (cL w3).mono ?_; rintro e w4 ⟨rfl, hw4⟩; subst w4)
      | fail)
    refine ⟨.bool true, ?_, rfl, hfin⟩
    simp [results, Tryd.results3, go_sem, hcr]
  rw [decide_eq_true h100] at cL
  have d100 : decide ((100 : Int) < (l.length : Int)) = false := decide_eq_false (by omega)
  go_wp2_with (first
    | (go_at_call 6; rw [← hW1]; refine (alive_any W1 (hG.below m1.below)).mono ?_; rintro e w2 ⟨rfl, hb2⟩; have m2 := m1.keep hb2; clear m1 hW1 hb2)
    | (go_at_call 7; refine (c2 w2).mono ?_; rintro e w3 ⟨r, Sr, rfl, hR, hb3, hSr⟩; have m3 := m2.keep hb3; clear c2)
    | (go_at_call 8; refine (cL w3).mono ?_; rintro e w4 ⟨rfl, hw4⟩; subst w4; clear cL)
    | (go_at_call 9; refine (c1 w3 (hG.below m3.below)).mono ?_; rintro e w5 ⟨g, Sp, rfl, hP, hb5, hSp⟩; have m5 := m3.keep hb5; clear c1)
    | fail)
  have hz2 : W.heap.size + 1 < w2.heap.size := (m2.blk (W.heap.size + 1) 4 #[.bool false] (by simp)).lt
  have hRl := hR.lt
  have hG2 := hG.two
  have k0 : Bb w2 (fun _ => False) g r 0 s0 s0 w5 := ⟨⟨by omega, fun _ f => f.elim⟩, Frm.of_below (hb3.trans (hb5.mono hb3.size)), Sp, Sr, hP, hR.below hb5, (fun b e e' => by have := hSp b e; have := hRl b e'; omega), fun b e => by
    right
    rcases e with e | e
    · have := hSp b e; have := hb3.size; omega
    · exact hSr b e⟩
  have hbx : ∀ k s t w, Bb w2 (fun _ => False) g r k s t w → Mem W [(W.heap.size + 1, 4, #[.bool false]), (W.heap.size, 3, #[.int .i64 stop])] w := fun k s t w q => m2.keep (q.frm.below (Nat.le_refl _) (fun _ f => f.elim))
  clear hP hR hb3 hb5 hSp hSr hRl m3 m5 early
  go_loopg [15] l.length (fun j p15 wr => ∃ (q : Nat) (s : Bk), q + j = l.length ∧ p15 = .int .i64 (q : Int) ∧ Bb w2 (fun _ => False) g r q s s wr)
  case atStart => exact ⟨0, s0, by omega, rfl, k0⟩
  case round =>
    clear k0
    obtain ⟨q, s, hqj, rfl, k⟩ := hrel
    by_cases hj : q < l.length
    · obtain ⟨a, hm⟩ : ∃ a, l[q]? = some a := ⟨l[q], List.getElem?_eq_getElem hj⟩
      have hfit := hF a (List.mem_of_getElem? hm)
      obtain ⟨b, off, rfl, y0, y1, y2, y3, y4, y5, y6, y7, y8⟩ := (hL.below (hbx _ _ _ _ k).below).get hm
      replace y0 : wr.cell? ⟨b, off + q * 9, none⟩ = some (.int .i64 a.kind) := y0
      have cX := bact_any k (by omega) a hfit
      generalize s.act a = s' at *
      obtain ⟨kind, o, amt⟩ := a
      obtain ⟨o0, o1, o2, o3, o4, o5, o6⟩ := o
      simp only at y0 y1 y2 y3 y4 y5 y6 y7 y8
      have hql : (q : Int) < (l.length : Int) := by omega
      clear hm k hL hfit hF hbx m2
      go_wp2_with (go_at_call 10; refine cX.mono ?_; rintro e w6 ⟨rfl, k6⟩; clear cX y0 y1 y2 y3 y4 y5 y6 y7 y8)
      go_roundg (l.length - (q + 1))
      case measure => omega
      case rel => exact ⟨q + 1, s', by omega, by go_num, k6⟩
    · have hok := k.ok
      have cS := bqOf k hok side
      have hPb : (bkOf s.L side).length ≤ 500 := by
        have := bkOf_len s.L side
        have := hok.len
        have := hok.s2
        omega
      have hmr := hbx _ _ _ _ k
      obtain ⟨SpE, SrE, hPE, -, -, -⟩ := k.both
      have hSpl := hPE.lt
      have hWr : W.heap.size + 1 < wr.heap.size := (hmr.blk (W.heap.size + 1) 4 #[.bool false] (by simp)).lt
      obtain ⟨P, hP⟩ : ∃ P, P = bkOf s.L side := ⟨_, rfl⟩
      rw [← hP] at cS hPb
      have hb89 : ∀ w7 v, Below w7.heap.size w7 ((w7.alloc (.cells #[v] 37)).alloc (.cells #[.int .i64 0] 3)) := fun w7 v => ((Below.refl _ _).alloc (Nat.le_refl _) _).alloc (by simp) _
      have cE : ∀ w9, Below wr.heap.size wr w9 → Calls Tryd.prog 12 #[.pointer (some ⟨g, 0, none⟩), .int .i64 side] w9 fun e w' => ∃ lb, e = .returned (.func (.func 36) #[] lb) ∧ Below w9.heap.size w9 w' ∧ Hid (∀ (T : Nat → Prop), (∀ c, T c → 2 ≤ c ∧ c < w9.heap.size ∧ ¬ SpE c) → SeqsT Fence.wide 5 Tryd.prog 36 lb encO (goodO P) T (fun ys => ys.length = P.length) (fun pre => pre.length ≤ P.length) P.length w') := by
        intro w9 hb
        refine (pb_each side (hPE.below hb)).mono ?_
        rintro e w' ⟨lb, he, h1, h2⟩
        rw [← hP] at h2
        exact ⟨lb, he, h1, Lib.hid h2⟩
      clear k hbx hL hF hok hP hPE
      go_wp2_with (first
        | (go_at_call 11; refine cS.mono ?_; rintro e w7 ⟨ao5, cap5, rfl, hP5, hP5b, hb7⟩; clear cS; obtain ⟨V9, hV9⟩ : ∃ V9, V9 = (w7.alloc (.cells #[.slice ao5 P.length cap5] 37)).alloc (.cells #[.int .i64 0] 3) := ⟨_, rfl⟩; have h9 : Below w7.heap.size w7 V9 := (by rw [hV9]; exact hb89 w7 _); have g2 : Blk V9 w7.heap.size 37 #[.slice ao5 P.length cap5] := (by rw [hV9]; exact (Blk.new _ _ _).alloc _); have n8 : Blk V9 (w7.heap.size + 1) 3 #[.int .i64 0] := (by rw [hV9]; exact Blk.new' (by simp)); have cE9 := cE V9 (hb7.trans (h9.mono hb7.size)))
        | (go_at_call 12; rw [← hV9]; refine cE9.mono ?_; rintro e w10 ⟨lb, rfl, hb10, hseq⟩; clear cE cE9)
        | fail)
      refine (wpIn_wide (n := 6)).1 ?_
      have hb7s := hb7.size
      have h9s : V9.heap.size = w7.heap.size + 2 := by rw [hV9]; simp
      have hs10 := hb10.size
      replace g2 := g2.below hb10 (by omega)
      replace n8 := n8.below hb10 (by omega)
      have hb710 : Below w7.heap.size w7 w10 := h9.trans (hb10.mono (by omega))
      have hbr10 : Below wr.heap.size wr w10 := hb7.trans (hb710.mono hb7s)
      have g3 := hP5.below hb710
      have m10 := hmr.keep hbr10
      have g5 := m10.blk (W.heap.size + 1) 4 #[.bool false] (by simp)
      have g6 := m10.blk W.heap.size 3 #[.int .i64 stop] (by simp)
      have g7 := m10.below
      obtain ⟨b16, hb16⟩ : ∃ b, b = w7.heap.size := ⟨_, rfl⟩
      rw [← hb16] at g2 n8 hP5b
      have hgl : wr.heap.size ≤ b16 := by omega
      have hWb : W.heap.size + 1 < b16 := by omega
      have hs16 : b16 + 2 ≤ w10.heap.size := by omega
      replace hseq := hseq.out (fun b => b = b16 + 1) (fun c e => ⟨by omega, by omega, fun h => by have := hSpl c h; omega⟩)
      rw [← hb16]
      clear hb16 hb10 h9 hb89 hb710 hbr10 hP5 hmr hV9 h9s hb7 hb7s hSpl m10 hs10
      refine range_law5 (F := Fence.wide) rfl (by omega) (gf := 36) (lb := lb) rfl trivial (goes_of Tryd.func36 (by kernel_rfl) rfl) (enc := encO) (fun _ => rfl) (fun b => b = b16 + 1) (fun b e => by omega) (G := goodO P) (goodO_put P) hseq
        (fun pre A => Blk A (b16 + 1) 3 #[.int .i64 (pre.length : Int)] ∧ Frm (fun b => b = b16 + 1 ∨ w10.heap.size ≤ b) w10 A ∧ (0 < stop → (pre.length : Int) < stop))
        (fun c pre A => (c = .exit 2 ∧ 0 < pre.length) ∧ Blk A (b16 + 1) 3 #[.int .i64 (pre.length : Int)] ∧ Frm (fun b => b = b16 + 1 ∨ w10.heap.size ≤ b) w10 A ∧ (pre.length : Int) = stop)
        (fun pre A B ⟨h1, h3, h4⟩ hf => ⟨blk_frmK h1 hf (by omega), h3.trans hf (fun b h => .inl (.inr (by omega))), h4⟩)
        (fun c pre A B ⟨h0, h1, h3, h4⟩ hf => ⟨h0, blk_frmK h1 hf (by omega), h3.trans hf (fun b h => .inl (.inr (by omega))), h4⟩)
        ⟨n8, Frm.refl _ _, fun h => h⟩
        ?a1 (fun x A => A.alloc (.cells (cOrd x) 34)) (fun x A => (Below.refl _ _).alloc (Nat.le_refl _) _) (fun _ _ _ h => h) ?assign ?body ?done ?stop
      case assign =>
        intro l x V K hK
        simp only [encO]
        gi_wp2
        exact hK
      case body =>
        rintro lb pre x A0 A ⟨h1, h3, h4⟩ hgood hlen hl0 hfA
        have hx : P[pre.length]? = some x := hgood
        have hA1 := h3.size
        have hbox := blk_frmK (Blk.new A0 34 (cOrd x)) hfA (by omega)
        obtain ⟨b2, off2, rfl, u0, u1, u2, u3, u4, u5, u6⟩ := (g3.frmE h3 (fun b off s e hb => by have := hP5b b off s e; omega)).get hx
        replace u0 : A.cell? ⟨b2, off2 + pre.length * 7, none⟩ = some (.int .i64 x.id) := u0
        obtain ⟨z0, z1, z2, z3, z4, z5, z6⟩ := Ord.cells hbox
        have c16 : A.cell? ⟨b16, 0, none⟩ = some (.slice (some ⟨b2, off2, none⟩) P.length cap5) := (blk_frmK g2 h3 (by omega)).cell_eq 0 _ rfl
        have cs : A.cell? ⟨W.heap.size, 0, none⟩ = some (.int .i64 stop) := (blk_frmK g6 h3 (by omega)).cell_eq 0 _ rfl
        have c17 : A.cell? ⟨b16 + 1, 0, none⟩ = some (.int .i64 (pre.length : Int)) := h1.cell_eq 0 _ rfl
        have hlp : (pre ++ [x]).length = pre.length + 1 := by simp
        have hcast : (((pre ++ [x]).length : Nat) : Int) = (pre.length : Int) + 1 := by rw [hlp]; omega
        have hd1 : decide ((P.length : Int) ≤ (pre.length : Int)) = false := decide_eq_false (by omega)
        have hd1' : decide (P.length ≤ pre.length) = false := decide_eq_false (by omega)
        have hkn : (pre.length : Int) < (P.length : Int) := by omega
        have hp500 : pre.length < 501 := by omega
        have hE := neq_Ord x x
        rw [eqOrd_self] at hE
        simp only [vOrd, Bool.not_true] at hE
        have hq6 : 0 < (pre ++ [x]).length := by omega
        have hend : ∀ nq, (A.drewN nq).cell? ⟨b16 + 1, 0, none⟩ = some (.int .i64 (pre.length : Int)) ∧ (A.drewN nq).cell? ⟨W.heap.size, 0, none⟩ = some (.int .i64 stop) ∧ (A.drewN nq).frozen? ⟨b16 + 1, 0, none⟩ = false ∧ ∀ V, V = (A.drewN nq).setCell ⟨b16 + 1, 0, none⟩ (.int .i64 ((pre.length : Int) + 1)) → Frm (fun b => b = b16 + 1) A V ∧ Blk V (b16 + 1) 3 #[.int .i64 (((pre ++ [x]).length : Nat) : Int)] ∧ Frm (fun b => b = b16 + 1 ∨ w10.heap.size ≤ b) w10 V := by
          intro nq
          have hb : Below A.heap.size A (A.drewN nq) := belowK (Below.refl _ _) nq
          have h1' := h1.below hb h1.lt
          refine ⟨h1'.cell_eq 0 _ rfl, cs, h1'.free 0, ?_⟩
          rintro V rfl
          have hf : Frm (fun b => b = b16 + 1) A ((A.drewN nq).setCell ⟨b16 + 1, 0, none⟩ (.int .i64 ((pre.length : Int) + 1))) := (Frm.of_below hb).setCell _ _ (.inl rfl)
          exact ⟨hf, by rw [hcast]; exact h1'.set 0 _, h3.trans hf (fun b h => .inl (.inl h))⟩
        have hfin1 : (pre.length : Int) + 1 = stop → (((pre ++ [x]).length : Nat) : Int) = stop := fun e => by rw [hcast]; exact e
        have hfin2 : ¬ (pre.length : Int) + 1 = stop → 0 < stop → (((pre ++ [x]).length : Nat) : Int) < stop := fun e h => by have := h4 h; rw [hcast]; omega
        replace hend := Lib.hid hend
        replace hfin1 := Lib.hid hfin1
        replace hfin2 := Lib.hid hfin2
        clear hseq hgood hx hbox g2 g3 g5 g6 g7 n8 h1 h3 h4 hlen hfA hcast hlp hP5b
        obtain ⟨x0, x1, x2, x3, x4, x5, x6⟩ := x
        simp only at *
        gi_wp2
        refine wpIn_region_quiet_round (F := Fence.wide) rfl (by kernel_rfl) (by kernel_rfl) (by kernel_rfl) ?_
        repeat (quiet_step_in (fail))
        refine wpQuietIn_nil ?_
        rintro _ ⟨nq, rfl⟩
        obtain ⟨d17, ds, df, hfin⟩ := hend.out nq
        have hfin' := Lib.hid (hfin _ rfl)
        clear hend hfin z0 z1 z2 z3 z4 z5 z6 u0 u1 u2 u3 u4 u5 u6 c16 cs c17 hE
        by_cases hx : (pre.length : Int) + 1 = stop
        · have hd : ((pre.length : Int) + 1 == stop) = true := by simpa using hx
          have q5 := Lib.hid (hfin1.out hx)
          clear hx hfin1 hfin2
          gi_wp2
          obtain ⟨r1, r2, r3⟩ := hfin'.out
          exact ⟨r1, ⟨rfl, hq6⟩, r2, r3, q5.out⟩
        · have hd : ((pre.length : Int) + 1 == stop) = false := by simpa using hx
          have q5 := Lib.hid (hfin2.out hx)
          clear hx hfin1 hfin2
          gi_wp2
          obtain ⟨r1, r2, r3⟩ := hfin'.out
          exact ⟨r1, r2, r3, q5.out⟩
      case done =>
        rintro D ys V hD hys ⟨h1, h3, h4⟩ hK
        rw [hys] at h1 h4
        have c17 : V.cell? ⟨b16 + 1, 0, none⟩ = some (.int .i64 (P.length : Int)) := h1.cell_eq 0 _ rfl
        have c16 : V.cell? ⟨b16, 0, none⟩ = some (.slice ao5 P.length cap5) := (blk_frmK g2 h3 (by omega)).cell_eq 0 _ rfl
        have hsV := blk_frmK g6 h3 (by omega)
        have hrV := blk_frmK g5 h3 (by omega)
        have hbV : Below W.heap.size W V := g7.trans (h3.below g7.size (fun b h => by have := g7.size; omega))
        have cs : V.cell? ⟨W.heap.size, 0, none⟩ = some (.int .i64 stop) := hsV.cell_eq 0 _ rfl
        have c2 : V.cell? ⟨W.heap.size + 1, 0, none⟩ = some (.bool false) := hrV.cell_eq 0 _ rfl
        have c3 := hrV.free 0
        obtain ⟨V2, hV2⟩ : ∃ V2, V2 = V.setCell ⟨W.heap.size + 1, 0, none⟩ (.bool true) := ⟨_, rfl⟩
        have hK' : V2.heap[D]? = some (.deferred (some [])) := by rw [hV2]; exact (Below.heap_setCell _ _ _ _ (by show D ≠ W.heap.size + 1; omega)).trans hK
        have hfin : Below W.heap.size W (V2.putObj D (.deferred none)) := by
          have e2 : Below W.heap.size W V2 := by rw [hV2]; exact hbV.setCell (p := ⟨W.heap.size + 1, 0, none⟩) (by simp) _
          exact e2.trans ((Frm.put (S := fun b => b = D) V2 D (.deferred none) rfl).below e2.size (fun b h => by omega))
        have hcr : (V2.putObj D (.deferred none)).cell? ⟨W.heap.size + 1, 0, none⟩ = some (.bool true) := by
          refine (World.cell?_of_block (a := ⟨W.heap.size + 1, 0, none⟩) (World.putObj_heap_other (by show W.heap.size + 1 ≠ D; omega))).trans ?_
          rw [hV2]
          exact (hrV.set 0 (.bool true)).cell_eq 0 _ rfl
        have H4 := Lib.hid h4
        clear h1 h3 h4 hsV hbV hseq g2 g3 g5 g6 g7 n8 hys
        have d2 : decide ((0 : Int) < stop) = false ∨ (decide ((0 : Int) < stop) = true ∧ decide (stop < (P.length : Int)) = false) := by
          by_cases hp : 0 < stop
          · have := H4.out hp
            exact .inr ⟨decide_eq_true hp, decide_eq_false (by omega)⟩
          · exact .inl (decide_eq_false hp)
        clear H4
        rcases d2 with d2 | ⟨d2, d3⟩
        all_goals go_wp2_with fail
        all_goals
          rw [← hV2]
          refine ⟨by simp, .inl ⟨_, _, rfl, run_takeDeferred hK', ?_⟩⟩
          refine ⟨.bool true, ?_, rfl, hfin⟩
          simp [results, Tryd.results3, go_sem, hcr]
      case stop =>
        rintro D c' pre V hD hsp ⟨⟨rfl, hpos⟩, h1, h3, h4⟩ hK
        rw [h4] at h1
        have c17 : V.cell? ⟨b16 + 1, 0, none⟩ = some (.int .i64 stop) := h1.cell_eq 0 _ rfl
        have c16 : V.cell? ⟨b16, 0, none⟩ = some (.slice ao5 P.length cap5) := (blk_frmK g2 h3 (by omega)).cell_eq 0 _ rfl
        have hsV := blk_frmK g6 h3 (by omega)
        have hrV := blk_frmK g5 h3 (by omega)
        have hbV : Below W.heap.size W V := g7.trans (h3.below g7.size (fun b h => by have := g7.size; omega))
        have cs : V.cell? ⟨W.heap.size, 0, none⟩ = some (.int .i64 stop) := hsV.cell_eq 0 _ rfl
        have c2 : V.cell? ⟨W.heap.size + 1, 0, none⟩ = some (.bool false) := hrV.cell_eq 0 _ rfl
        have c3 := hrV.free 0
        obtain ⟨V2, hV2⟩ : ∃ V2, V2 = V.setCell ⟨W.heap.size + 1, 0, none⟩ (.bool true) := ⟨_, rfl⟩
        have hK' : V2.heap[D]? = some (.deferred (some [])) := by rw [hV2]; exact (Below.heap_setCell _ _ _ _ (by show D ≠ W.heap.size + 1; omega)).trans hK
        have hfin : Below W.heap.size W (V2.putObj D (.deferred none)) := by
          have e2 : Below W.heap.size W V2 := by rw [hV2]; exact hbV.setCell (p := ⟨W.heap.size + 1, 0, none⟩) (by simp) _
          exact e2.trans ((Frm.put (S := fun b => b = D) V2 D (.deferred none) rfl).below e2.size (fun b h => by omega))
        have hcr : (V2.putObj D (.deferred none)).cell? ⟨W.heap.size + 1, 0, none⟩ = some (.bool true) := by
          refine (World.cell?_of_block (a := ⟨W.heap.size + 1, 0, none⟩) (World.putObj_heap_other (by show W.heap.size + 1 ≠ D; omega))).trans ?_
          rw [hV2]
          exact (hrV.set 0 (.bool true)).cell_eq 0 _ rfl
        have d1 : decide ((0 : Int) < stop) = true := decide_eq_true (by omega)
        have d2 : decide (stop < (P.length : Int)) = true ∨ (decide (stop < (P.length : Int)) = false ∧ (stop == (P.length : Int)) = true) := by
          by_cases hp : stop < (P.length : Int)
          · exact .inl (decide_eq_true hp)
          · exact .inr ⟨decide_eq_false hp, by simp; omega⟩
        clear h1 h3 h4 hsV hbV hseq g2 g3 g5 g6 g7 n8 hpos hsp
        refine wpIn_wide.2 ?_
        rcases d2 with d2 | ⟨d2, d3⟩
        all_goals go_wp2_with fail
        all_goals
          rw [← hV2]
          refine ⟨by simp, .inl ⟨_, _, rfl, run_takeDeferred hK', ?_⟩⟩
          refine ⟨.bool true, ?_, rfl, hfin⟩
          simp [results, Tryd.results3, go_sem, hcr]
end Go.Proofs.YthbopaeaplejiaaDoor
