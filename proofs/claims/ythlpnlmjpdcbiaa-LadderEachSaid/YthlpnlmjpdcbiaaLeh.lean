/-
  The walk of LadderEach.
-/
import Derived.Test.YthlpnlmjpdcbiaaLpy
import Derived.Test.YthlpnlmjpdcbiaaRnd
namespace Go.Proofs.Ythlpnlmjpdcbiaa
open Go.RowKit
set_option linter.unusedSimpArgs false
attribute [local go_sem] Oper.semAt_some
attribute [local go_sem] wide_fn
theorem Bl.frmBel {W w0 w : World} {g r : Nat} {s t : Ld} (hb : Below W.heap.size W w0) (h : Bl w0 (fun _ => False) g r s t w) : Below W.heap.size W w := hb.trans ((h.frm.below (Nat.le_refl _) (fun _ f => f.elim)).mono hb.size)
set_option maxRecDepth 100000 in
set_option maxHeartbeats 8000000 in
theorem leach_any (x y : Int) (ao : Option Addr) (cap : Nat) (l : List Lac) (stop : Int) (W : World) (hL : Lacs W ao cap l) (hF : ∀ m ∈ l, m.Fit) :
    Calls Try.prog 4 #[.int .i64 x, .int .i64 y, .slice ao l.length cap, .int .i64 stop] W fun e w' => e = .returned (.bool true) ∧ Below W.heap.size W w' := by
  have hl1 := hL.len
  have hl2 := hL.top
  unfold maxLen at hl2
  obtain ⟨W1, hW1⟩ : ∃ W1, W1 = (W.alloc (.cells #[.int .i64 stop] 3)).alloc (.cells #[.bool false] 4) := ⟨_, rfl⟩
  have m1 : Mem W [(W.heap.size + 1, 4, #[.bool false]), (W.heap.size, 3, #[.int .i64 stop])] W1 := by
    rw [hW1]
    exact ((Mem.start W).new _ _).new' _ _ (by simp)
  have cR := fun w (hb : Below W.heap.size W w) => right_any ao cap l w (hL.below hb)
  refine (callsIn_wide (n := 6)).1 ?_
  refine callsIn_of_wp_marks Try.func4 rfl trivial ?_ rfl
  simp only [Try.ntmps4, List.size_toArray, List.length_cons, List.length_nil, Nat.reduceAdd, Nat.reduceSub, Array.replicate_succ, Array.replicate_zero, List.push_toArray, List.append_toArray, List.nil_append, List.cons_append]
  refine wpIn_wide.2 ?_
  have early : ∀ (w : World), Mem W [(W.heap.size + 1, 4, #[.bool false]), (W.heap.size, 3, #[.int .i64 stop])] w → w.cell? ⟨W.heap.size + 1, 0, none⟩ = some (.bool false) ∧ w.frozen? ⟨W.heap.size + 1, 0, none⟩ = false ∧ (w.setCell ⟨W.heap.size + 1, 0, none⟩ (.bool true)).cell? ⟨W.heap.size + 1, 0, none⟩ = some (.bool true) ∧ Below W.heap.size W (w.setCell ⟨W.heap.size + 1, 0, none⟩ (.bool true)) := by
    intro w m
    have h2 := m.blk (W.heap.size + 1) 4 #[.bool false] (by simp)
    exact ⟨h2.cell_eq 0 _ rfl, h2.free 0, (h2.set 0 (.bool true)).cell_eq 0 _ rfl, m.below.setCell (p := ⟨W.heap.size + 1, 0, none⟩) (by simp) _⟩
  replace early := Lib.hid early
  have hbad : (x ≠ 0 ∧ x ≠ 1) ∨ (∃ buy, x = sdI buy) := by
    by_cases h0 : x = 0
    · exact .inr ⟨true, by simp [sdI, h0]⟩
    · by_cases h1 : x = 1
      · exact .inr ⟨false, by simp [sdI, h1]⟩
      · exact .inl ⟨h0, h1⟩
  have hnew : (∃ f : Int, (f != 0) = true ∧ ¬ f = 0 ∧ ∀ w, Calls Try.prog 10 #[.int .i64 x, .int .i64 y] w fun e w' => e = .returned (.tuple #[.pointer none, .int .i64 f]) ∧ w' = w) ∨ ∃ (buy : Bool) (n : Nat), x = sdI buy ∧ y = (n : Int) ∧ 1 ≤ n ∧ n ≤ 200 := by
    rcases hbad with ⟨h0, h1⟩ | ⟨buy, rfl⟩
    · exact .inl ⟨1, by decide, by decide, fun w => lnewSide_any x y h0 h1 w⟩
    · by_cases hy : y < 1 ∨ 200 < y
      · exact .inl ⟨9, by decide, by decide, fun w => lnewRange_any buy y hy w⟩
      · exact .inr ⟨buy, y.toNat, rfl, by omega, by omega, by omega⟩
  clear hbad
  rcases hnew with ⟨f, hf1, hf2, c2⟩ | ⟨buy, n, rfl, rfl, hn1, hn2⟩
  · go_wp2_with (first
      | (go_at_call 8; rw [← hW1]; refine (alive_any W1).mono ?_; rintro e w2 ⟨rfl, hb2⟩; have m2 := m1.keep hb2; clear m1 hW1 hb2)
      | (go_at_call 10; refine (c2 w2).mono ?_; rintro e w3 ⟨rfl, hw3⟩; subst w3; obtain ⟨c3, c4, hcr, hfin⟩ := early.out _ m2)
      | (go_at_call 7; refine (cR _ m2.below).mono ?_; rintro e w4 ⟨R, rfl, -, hw4⟩; subst w4; cases R)
      | fail)
    all_goals
      refine ⟨.bool true, ?_, rfl, hfin⟩
      simp [results, Try.results4, go_sem, hcr]
  have c1 : ∀ w, Calls Try.prog 9 #[.int .i64 (sdI buy), .int .i64 (n : Int)] w fun e w' => ∃ g S, e = .returned (.tuple #[.pointer (some ⟨g, 0, none⟩), .int .i64 0]) ∧ PL w' g S ⟨buy, n, []⟩ ∧ Below w.heap.size w w' ∧ ∀ b, S b → w.heap.size ≤ b := fun w =>
    (pnew_any buy n hn1 hn2 w).mono fun e w' ⟨g, S, F, he, h1, h2, h3, h4⟩ => ⟨g, S, he, new_pl h1 h2 hn2, h3, h4⟩
  have c2 := fun w => lnew_any buy n hn1 hn2 w
  have hs0 := Lib.hid (Ld.new_wf buy n)
  clear hn1 hn2
  generalize sdI buy = x at *
  go_wp2_with (first
    | (go_at_call 8; rw [← hW1]; refine (alive_any W1).mono ?_; rintro e w2 ⟨rfl, hb2⟩; have m2 := m1.keep hb2; clear m1 hW1 hb2)
    | (go_at_call 10; refine (c2 w2).mono ?_; rintro e w3 ⟨r, Sr, rfl, hR, hb3, hSr⟩; have m3 := m2.keep hb3; clear c2; obtain ⟨c3, c4, hcr, hfin⟩ := early.out _ m3)
    | (go_at_call 7; refine (cR _ m3.below).mono ?_; rintro e w4 ⟨R, rfl, hlen, hw4⟩; subst w4; clear cR; cases R)
    | (go_at_call 9; refine (c1 w3).mono ?_; rintro e w5 ⟨g, Sp, rfl, hP, hb5, hSp⟩; have m5 := m3.keep hb5; clear c1)
    | fail)
  · refine ⟨.bool true, ?_, rfl, hfin⟩
    simp [results, Try.results4, go_sem, hcr]
  have hl120 := hlen (by simp)
  have hz2 : W.heap.size + 1 < w2.heap.size := (m2.blk (W.heap.size + 1) 4 #[.bool false] (by simp)).lt
  have hRl := hR.lt
  have k0 : Bl w2 (fun _ => False) g r ⟨buy, n, []⟩ ⟨buy, n, []⟩ w5 := ⟨Frm.of_below (hb3.trans (hb5.mono hb3.size)), Sp, Sr, hP, hR.below hb5, (fun b e e' => by have := hSp b e; have := hRl b e'; omega), fun b e => by
    right
    rcases e with e | e
    · have := hSp b e; have := hb3.size; omega
    · exact hSr b e⟩
  have hbx : ∀ s t w, Bl w2 (fun _ => False) g r s t w → Mem W [(W.heap.size + 1, 4, #[.bool false]), (W.heap.size, 3, #[.int .i64 stop])] w := fun s t w k => m2.keep (k.frm.below (Nat.le_refl _) (fun _ f => f.elim))
  clear hlen hP hR hb3 hb5 hSp hSr hRl c3 c4 hcr hfin m3 m5 early
  generalize Ld.mk buy n [] = s0 at *
  go_loopg [13] l.length (fun j p13 wr => ∃ (q : Nat) (s : Ld), q + j = l.length ∧ p13 = .int .i64 (q : Int) ∧ Hid (s.Wf q) ∧ Bl w2 (fun _ => False) g r s s wr)
  case atStart => exact ⟨0, s0, by omega, rfl, hs0, k0⟩
  case round =>
    clear k0 hs0
    obtain ⟨q, s, hqj, rfl, hs, k⟩ := hrel
    by_cases hj : q < l.length
    · obtain ⟨a, hm⟩ : ∃ a, l[q]? = some a := ⟨l[q], List.getElem?_eq_getElem hj⟩
      have hfit := hF a (List.mem_of_getElem? hm)
      obtain ⟨b, off, rfl, y0, y1, y2, y3⟩ := (hL.below (hbx _ _ _ k).below).get hm
      replace y0 : wr.cell? ⟨b, off + q * 4, none⟩ = some (.int .i64 a.kind) := y0
      have cX := act_any k hs.out (by omega) a hfit
      have hs2 := Lib.hid (Ld.act_wf hs.out hfit)
      generalize s.act a = s' at *
      obtain ⟨kind, price, qty, gone⟩ := a
      simp only at y0 y1 y2 y3
      have hql : (q : Int) < (l.length : Int) := by omega
      clear hm hs k hL hfit hF hbx m2
      go_wp2_with (go_at_call 11; refine cX.mono ?_; rintro e w6 ⟨rfl, k6⟩; clear cX y0 y1 y2 y3)
      go_roundg (l.length - (q + 1))
      case measure => omega
      case rel => exact ⟨q + 1, s', by omega, by go_num, hs2, k6⟩
    · have hu := hs.out.uniP
      have cS := qSorted k hs.out wr (Below.refl _ _)
      have hO := s.srt_ord hu
      have hmr := hbx _ _ _ k
      obtain ⟨SpE, SrE, ⟨koE, aoE, capE, P', FE, hPE⟩, -, -, -⟩ := k.both
      obtain rfl := hO.uni hPE.ord
      have hPm := hPE.mem
      have hPl := hPm.len
      have hOl := hO.len
      have hSpl := hPm.lt
      have hstd := hO.std
      generalize hPP : s.srt hu = P at *
      rw [← hOl] at cS
      clear hPP hO hOl hPE hu hs k hbx m2 hL hF
      have hWr : W.heap.size + 1 < wr.heap.size := (hmr.blk (W.heap.size + 1) 4 #[.bool false] (by simp)).lt
      have hb89 : ∀ w7 v, Below w7.heap.size w7 ((w7.alloc (.cells #[v] 36)).alloc (.cells #[.int .i64 0] 3)) := fun w7 v => ((Below.refl _ _).alloc (Nat.le_refl _) _).alloc (by simp) _
      go_wp2_with (first
        | (go_at_call 15; refine cS.mono ?_; rintro e w7 ⟨ao5, cap5, rfl, hP5, hb7⟩; clear cS)
        | (go_at_call 16; refine (peach_any (some ⟨g, 0, none⟩) _).mono ?_; rintro e w10 ⟨rfl, hb10, T1, hB1⟩))
      refine (wpIn_wide (n := 6)).1 ?_
      have hb7s := hb7.size
      obtain ⟨V9, hV9⟩ : ∃ V9, V9 = (w7.alloc (.cells #[.slice ao5 P.length cap5] 36)).alloc (.cells #[.int .i64 0] 3) := ⟨_, rfl⟩
      have h9 : Below w7.heap.size w7 V9 := by rw [hV9]; exact hb89 w7 _
      have h9s : V9.heap.size = w7.heap.size + 2 := by rw [hV9]; simp
      have k14 : Blk V9 w7.heap.size 36 #[.slice ao5 P.length cap5] := by rw [hV9]; exact (Blk.new _ _ _).alloc _
      have k15 : Blk V9 (w7.heap.size + 1) 3 #[.int .i64 0] := by rw [hV9]; exact Blk.new' (by simp)
      rw [← hV9] at hb10 hB1
      have hs10 := hB1.lt
      replace k14 := k14.below hb10 (by omega)
      replace k15 := k15.below hb10 (by omega)
      have hb710 : Below w7.heap.size w7 w10 := h9.trans (hb10.mono (by omega))
      have hbr10 : Below wr.heap.size wr w10 := hb7.trans (hb710.mono hb7s)
      have hP10 := hPm.below hbr10
      have hP5' := hP5.below hb710
      have m10 := hmr.keep hbr10
      rw [h9s] at hB1 hs10
      have hseq := peach_seqs Fence.wide rfl (6 - 1) (by omega) (w7.heap.size + 2) T1 w10 (fun b => b = w7.heap.size + 1) hB1 hP10 hstd (by omega) (fun b e h => by have := hSpl b h; omega) (fun b e => by omega)
      generalize hb14 : w7.heap.size = b14 at *
      have hgl : wr.heap.size ≤ b14 := hb7s
      have hlp5 : ∀ b off s, ao5 = some ⟨b, off, s⟩ → 0 < P.length → b < b14 := by
        intro b off s e hp
        obtain ⟨y, hy⟩ : ∃ y, P[0]? = some y := ⟨_, List.getElem?_eq_getElem hp⟩
        obtain ⟨b', off', e', c0, -⟩ := hP5.get hy
        rw [e] at e'
        cases e'
        have := World.block_lt_of_cell? w7 _ c0
        simp only at this
        omega
      clear hb14 hb10 h9 hb89 hb710 hbr10 hPm hP5 hmr hV9 h9s hb7 hb7s hstd hSpl hP10
      refine range_law5 (F := Fence.wide) rfl (by omega) (gf := 28) (lb := #[.pointer (some ⟨b14 + 2, 0, none⟩)]) rfl trivial (goes_of Try.func28 (by kernel_rfl) rfl) (enc := encL) (fun _ => rfl) (fun b => b = b14 + 1) (fun b e => by omega) (G := goodL P) (goodL_put P) hseq
        (fun pre A => Blk A (b14 + 1) 3 #[.int .i64 (pre.length : Int)] ∧ Frm (fun b => b = b14 + 1 ∨ w10.heap.size ≤ b) w10 A ∧ (0 < stop → (pre.length : Int) < stop))
        (fun c pre A => (c = .exit 2 ∧ 0 < pre.length) ∧ Blk A (b14 + 1) 3 #[.int .i64 (pre.length : Int)] ∧ Frm (fun b => b = b14 + 1 ∨ w10.heap.size ≤ b) w10 A ∧ (pre.length : Int) = stop)
        (fun pre A B ⟨h1, h3, h4⟩ hf => ⟨blk_frm h1 hf (by omega), h3.trans hf (fun b h => .inl (.inr (by omega))), h4⟩)
        (fun c pre A B ⟨h0, h1, h3, h4⟩ hf => ⟨h0, blk_frm h1 hf (by omega), h3.trans hf (fun b h => .inl (.inr (by omega))), h4⟩)
        ⟨k15, Frm.refl _ _, fun h => h⟩
        ?a1 (fun x A => A.alloc (.cells (cLvl x) 40)) (fun x A => (Below.refl _ _).alloc (Nat.le_refl _) _) (fun _ _ _ h => h) ?assign ?body ?done ?stop
      case assign =>
        intro l x V K hK
        simp only [encL]
        gi_wp2
        exact hK
      case body =>
        rintro lb pre x A0 A ⟨h1, h3, h4⟩ hgood hlen hl0 hfA
        have hx : P[pre.length]? = some x := hgood
        have hA1 := h3.size
        have hbox := blk_frm (Blk.new A0 40 (cLvl x)) hfA (by omega)
        have hboxl := hbox.lt
        have h14 := blk_frm k14 h3 (by omega)
        have hst := blk_frm (m10.blk W.heap.size 3 #[.int .i64 stop] (by simp)) h3 (by omega)
        have hPA := hP5'.frm h3 (fun b off s e hb => by have := hlp5 b off s e (by omega); omega)
        obtain ⟨b5, off5, rfl, -⟩ := hPA.get hx
        have hfac : ∀ w, Below A.heap.size A w → w.cell? ⟨b14 + 1, 0, none⟩ = some (.int .i64 (pre.length : Int)) ∧ w.cell? ⟨b14, 0, none⟩ = some (.slice (some ⟨b5, off5, none⟩) P.length cap5) ∧ (w.cell? ⟨b5, off5 + pre.length * 4, none⟩ = some (.int .i64 x.price) ∧ w.cell? ⟨b5, off5 + pre.length * 4 + 1, none⟩ = some (.int .i64 x.qty) ∧ w.cell? ⟨b5, off5 + pre.length * 4 + 2, none⟩ = some (.int .i64 x.orders) ∧ w.cell? ⟨b5, off5 + pre.length * 4 + 3, none⟩ = some (.int .i64 x.queue)) ∧ (w.cell? ⟨A0.heap.size, 0, none⟩ = some (.int .i64 x.price) ∧ w.cell? ⟨A0.heap.size, 1, none⟩ = some (.int .i64 x.qty) ∧ w.cell? ⟨A0.heap.size, 2, none⟩ = some (.int .i64 x.orders) ∧ w.cell? ⟨A0.heap.size, 3, none⟩ = some (.int .i64 x.queue)) ∧ w.cell? ⟨W.heap.size, 0, none⟩ = some (.int .i64 stop) ∧ w.frozen? ⟨b14 + 1, 0, none⟩ = false := by
          intro w hb
          obtain ⟨b', off', e', q0, q1, q2, q3⟩ := (hPA.below hb).get hx
          cases e'
          exact ⟨(h1.below hb h1.lt).cell_eq 0 _ rfl, (h14.below hb h14.lt).cell_eq 0 _ rfl, ⟨q0, q1, q2, q3⟩, Lvl.cells (hbox.below hb hboxl), (hst.below hb hst.lt).cell_eq 0 _ rfl, (h1.below hb h1.lt).free 0⟩
        have hlp : (pre ++ [x]).length = pre.length + 1 := by simp
        have hcast : (((pre ++ [x]).length : Nat) : Int) = (pre.length : Int) + 1 := by rw [hlp]; omega
        have hend : ∀ w, Below A.heap.size A w → Frm (fun b => b = b14 + 1) A (w.setCell ⟨b14 + 1, 0, none⟩ (.int .i64 ((pre.length : Int) + 1))) ∧ Blk (w.setCell ⟨b14 + 1, 0, none⟩ (.int .i64 ((pre.length : Int) + 1))) (b14 + 1) 3 #[.int .i64 (((pre ++ [x]).length : Nat) : Int)] ∧ Frm (fun b => b = b14 + 1 ∨ w10.heap.size ≤ b) w10 (w.setCell ⟨b14 + 1, 0, none⟩ (.int .i64 ((pre.length : Int) + 1))) := by
          intro w hb
          have hf : Frm (fun b => b = b14 + 1) A (w.setCell ⟨b14 + 1, 0, none⟩ (.int .i64 ((pre.length : Int) + 1))) := (Frm.of_below hb).setCell _ _ (.inl rfl)
          exact ⟨hf, by rw [hcast]; exact (h1.below hb h1.lt).set 0 _, h3.trans hf (fun b h => .inl (.inl h))⟩
        have hd1 : decide ((P.length : Int) ≤ (pre.length : Int)) = false := decide_eq_false (by omega)
        have hd1' : decide (P.length ≤ pre.length) = false := decide_eq_false (by omega)
        have hkn : (pre.length : Int) < (P.length : Int) := by omega
        have hp500 : pre.length < 501 := by omega
        have hq6 : 0 < (pre ++ [x]).length := by omega
        have hfin1 : (pre.length : Int) + 1 = stop → (((pre ++ [x]).length : Nat) : Int) = stop := fun e => by rw [hcast]; exact e
        have hfin2 : ¬ (pre.length : Int) + 1 = stop → 0 < stop → (((pre ++ [x]).length : Nat) : Int) < stop := fun e h => by have := h4 h; rw [hcast]; omega
        have hbA := Below.refl A.heap.size A
        have hD := hbA.drew
        replace hfac := Lib.hid hfac
        replace hend := Lib.hid hend
        replace hfin1 := Lib.hid hfin1
        replace hfin2 := Lib.hid hfin2
        clear hseq hgood hx hbox h14 hst hPA h1 h3 h4 k14 k15 m10 hP5' hlp5 hlen hfA hcast hlp hB1
        obtain ⟨x0, x1, x2, x3⟩ := x
        simp only at *
        gi_wp2
        refine wpIn_region_S_round (S := fun _ w => Below A.heap.size A w) (by kernel_rfl) (by kernel_rfl) hD ?_
        refine AllS.next (v := ?_) rfl rfl rfl (by kernel_rfl) ?_ ?_
        rotate_left
        · refine yieldsS_run (fun _ _ h => h) (by rfl) ?_
          intro L wx hS
          obtain ⟨u15, u14, ⟨u0, u1, u2, u3⟩, ⟨z0, z1, z2, z3⟩, -, -⟩ := hfac.out _ hS
          go_simp
          try with_reducible rfl
        simp only [Act.put, List.setIfInBounds_toArray, List.set_cons_zero, List.set_cons_succ, List.getElem_toArray, List.getElem_cons_zero]
        refine AllS.next (v := ?_) rfl rfl rfl (by kernel_rfl) ?_ ?_
        rotate_left
        · refine yieldsS_run (fun _ _ h => h) (by rfl) ?_
          intro L wx hS
          obtain ⟨u15, u14, ⟨u0, u1, u2, u3⟩, ⟨z0, z1, z2, z3⟩, -, -⟩ := hfac.out _ hS
          go_simp
          try with_reducible rfl
        simp only [Act.put, List.setIfInBounds_toArray, List.set_cons_zero, List.set_cons_succ, List.getElem_toArray, List.getElem_cons_zero, List.getElem_cons_succ]
        refine AllS.next (v := ?_) rfl rfl rfl (by kernel_rfl) ?_ ?_
        rotate_left
        · refine yieldsS_run (fun _ _ h => h) (by rfl) ?_
          intro L wx hS
          go_simp
          try with_reducible rfl
        simp only [Act.put, List.setIfInBounds_toArray, List.set_cons_zero, List.set_cons_succ, List.getElem_toArray, List.getElem_cons_zero, List.getElem_cons_succ]
        refine AllS.next (v := ?_) rfl rfl rfl (by kernel_rfl) ?_ ?_
        rotate_left
        · refine yieldsS_run (fun _ _ h => h) (by rfl) ?_
          intro L wx hS
          go_simp
          try with_reducible rfl
        simp only [Act.put, List.setIfInBounds_toArray, List.set_cons_zero, List.set_cons_succ, List.getElem_toArray, List.getElem_cons_zero, List.getElem_cons_succ]
        refine AllS.next (v := ?_) rfl rfl rfl (by kernel_rfl) ?_ ?_
        rotate_left
        · refine yieldsS_run (fun _ _ h => h) (by rfl) ?_
          intro L wx hS
          go_simp
          try with_reducible rfl
        simp only [Act.put, List.setIfInBounds_toArray, List.set_cons_zero, List.set_cons_succ, List.getElem_toArray, List.getElem_cons_zero, List.getElem_cons_succ]
        refine AllS.next (v := ?_) rfl rfl rfl (by kernel_rfl) ?_ ?_
        rotate_left
        · refine yieldsS_run (fun _ _ h => h) (by rfl) ?_
          intro L wx hS
          obtain ⟨u15, u14, ⟨u0, u1, u2, u3⟩, ⟨z0, z1, z2, z3⟩, -, -⟩ := hfac.out _ hS
          go_simp
          try with_reducible rfl
        simp only [Act.put, List.setIfInBounds_toArray, List.set_cons_zero, List.set_cons_succ, List.getElem_toArray, List.getElem_cons_zero, List.getElem_cons_succ]
        refine AllS.next (v := ?_) rfl rfl rfl (by kernel_rfl) ?_ ?_
        rotate_left
        · refine yieldsS_run (fun _ _ h => h) (by rfl) ?_
          intro L wx hS
          obtain ⟨u15, u14, ⟨u0, u1, u2, u3⟩, ⟨z0, z1, z2, z3⟩, -, -⟩ := hfac.out _ hS
          go_simp
          try with_reducible rfl
        simp only [Act.put, List.setIfInBounds_toArray, List.set_cons_zero, List.set_cons_succ, List.getElem_toArray, List.getElem_cons_zero, List.getElem_cons_succ]
        refine AllS.next (v := ?_) rfl rfl rfl (by kernel_rfl) ?_ ?_
        rotate_left
        · refine yieldsS_run (fun _ _ h => h) (by rfl) ?_
          intro L wx hS
          obtain ⟨u15, u14, ⟨u0, u1, u2, u3⟩, ⟨z0, z1, z2, z3⟩, -, -⟩ := hfac.out _ hS
          go_simp
          try with_reducible rfl
        simp only [Act.put, List.setIfInBounds_toArray, List.set_cons_zero, List.set_cons_succ, List.getElem_toArray, List.getElem_cons_zero, List.getElem_cons_succ]
        refine AllS.next (v := ?_) rfl rfl rfl (by kernel_rfl) ?_ ?_
        rotate_left
        · refine yieldsS_run (fun _ _ h => h) (by rfl) ?_
          intro L wx hS
          go_simp
          try with_reducible rfl
        simp only [Act.put, List.setIfInBounds_toArray, List.set_cons_zero, List.set_cons_succ, List.getElem_toArray, List.getElem_cons_zero, List.getElem_cons_succ]
        refine AllS.next (v := ?_) rfl rfl rfl (by kernel_rfl) ?_ ?_
        rotate_left
        · refine yieldsS_run (fun _ _ h => h) (by rfl) ?_
          intro L wx hS
          obtain ⟨u15, u14, ⟨u0, u1, u2, u3⟩, ⟨z0, z1, z2, z3⟩, -, -⟩ := hfac.out _ hS
          go_simp
          try with_reducible rfl
        simp only [Act.put, List.setIfInBounds_toArray, List.set_cons_zero, List.set_cons_succ, List.getElem_toArray, List.getElem_cons_zero, List.getElem_cons_succ]
        refine AllS.next (v := .bool true) rfl rfl rfl (by kernel_rfl) ?_ ?_
        · refine yieldsS_call (f := 14) (args := #[.agg #[.int .i64 x0, .int .i64 x1, .int .i64 x2, .int .i64 x3], .agg #[.int .i64 x0, .int .i64 x1, .int .i64 x2, .int .i64 x3]]) (by rfl) ?_ ?_
          · intro wx
            go_simp
            try with_reducible rfl
          · intro L wx hS
            exact (same_any ⟨x0, x1, x2, x3⟩ wx).mono fun e w h => ⟨h.1, hS.trans (h.2.mono hS.size)⟩
        simp only [Act.put, List.setIfInBounds_toArray, List.set_cons_zero, List.set_cons_succ, List.getElem_toArray, List.getElem_cons_zero, List.getElem_cons_succ]
        refine AllS.next (v := ?_) rfl rfl rfl (by kernel_rfl) ?_ ?_
        rotate_left
        · refine yieldsS_run (fun _ _ h => h) (by rfl) ?_
          intro L wx hS
          go_simp
          try with_reducible rfl
        simp only [Act.put, List.setIfInBounds_toArray, List.set_cons_zero, List.set_cons_succ, List.getElem_toArray, List.getElem_cons_zero, List.getElem_cons_succ]
        refine AllS.next (v := ?_) rfl rfl rfl (by kernel_rfl) ?_ ?_
        rotate_left
        · refine yieldsS_run (fun _ _ h => h) (by rfl) ?_
          intro L wx hS
          go_simp
          try with_reducible rfl
        simp only [Act.put, List.setIfInBounds_toArray, List.set_cons_zero, List.set_cons_succ, List.getElem_toArray, List.getElem_cons_zero, List.getElem_cons_succ]
        refine AllS.done (by kernel_rfl) fun w2 hb2 => ?_
        obtain ⟨u15, u14, -, -, ust, f15⟩ := hfac.out _ hb2
        have H := Lib.hid (hend.out _ hb2)
        clear hfac hend
        by_cases hx : (pre.length : Int) + 1 = stop
        · have hd : ((pre.length : Int) + 1 == stop) = true := by simpa using hx
          have q5 := Lib.hid (hfin1.out hx)
          clear hx hfin1 hfin2
          gi_wp2
          obtain ⟨r1, r2, r3⟩ := H.out
          exact ⟨r1, ⟨rfl, hq6⟩, r2, r3, q5.out⟩
        · have hd : ((pre.length : Int) + 1 == stop) = false := by simpa using hx
          have q5 := Lib.hid (hfin2.out hx)
          clear hx hfin1 hfin2
          gi_wp2
          obtain ⟨r1, r2, r3⟩ := H.out
          exact ⟨r1, r2, r3, q5.out⟩
      case done =>
        rintro D ys V hD hys ⟨h1, h3, h4⟩ hK
        rw [hys] at h1 h4
        have c17 : V.cell? ⟨b14 + 1, 0, none⟩ = some (.int .i64 (P.length : Int)) := h1.cell_eq 0 _ rfl
        have h14 := blk_frm k14 h3 (by omega)
        have c16 : V.cell? ⟨b14, 0, none⟩ = some (.slice ao5 P.length cap5) := h14.cell_eq 0 _ rfl
        have hsV := blk_frm (m10.blk W.heap.size 3 #[.int .i64 stop] (by simp)) h3 (by omega)
        have hrV := blk_frm (m10.blk (W.heap.size + 1) 4 #[.bool false] (by simp)) h3 (by omega)
        have hbV : Below W.heap.size W V := m10.below.trans (h3.below m10.below.size (fun b h => by have := m10.below.size; omega))
        have cs : V.cell? ⟨W.heap.size, 0, none⟩ = some (.int .i64 stop) := hsV.cell_eq 0 _ rfl
        have c2 : V.cell? ⟨W.heap.size + 1, 0, none⟩ = some (.bool false) := hrV.cell_eq 0 _ rfl
        have c3 := hrV.free 0
        obtain ⟨V2, hV2⟩ : ∃ V2, V2 = V.setCell ⟨W.heap.size + 1, 0, none⟩ (.bool true) := ⟨_, rfl⟩
        have hK' : V2.heap[D]? = some (.deferred (some [])) := by rw [hV2]; exact (Below.heap_setCell _ _ _ _ (by show D ≠ W.heap.size + 1; omega)).trans hK
        have hfin : Below W.heap.size W (V2.putObj D (.deferred none)) := by
          have e2 : Below W.heap.size W V2 := by rw [hV2]; exact hbV.setCell (p := ⟨W.heap.size + 1, 0, none⟩) (by simp) _
          exact e2.trans ((Frm.put (S := fun b => b = D) V2 D (.deferred none) rfl).below e2.size (fun b h => by omega))
        have hcr : (V2.putObj D (.deferred none)).cell? ⟨W.heap.size + 1, 0, none⟩ = some (.bool true) := by
          refine (World.cell?_of_block (a := ⟨W.heap.size + 1, 0, none⟩) (World.putObj_heap_other (by show W.heap.size + 1 ≠ D; omega))).trans ?_
          rw [hV2]
          exact (hrV.set 0 (.bool true)).cell_eq 0 _ rfl
        have H4 := Lib.hid h4
        clear h1 h3 h4 hsV hbV hseq k14 k15 m10 hP5' hlp5 hys hB1 h14 hrV
        have d2 : decide ((0 : Int) < stop) = false ∨ (decide ((0 : Int) < stop) = true ∧ decide (stop < (P.length : Int)) = false) := by
          by_cases hp : 0 < stop
          · have := H4.out hp
            exact .inr ⟨decide_eq_true hp, decide_eq_false (by omega)⟩
          · exact .inl (decide_eq_false hp)
        clear H4
        rcases d2 with d2 | ⟨d2, d3⟩
        all_goals go_wp2_with fail
        all_goals
          rw [← hV2]
          refine ⟨by simp, .inl ⟨_, _, rfl, run_takeDeferred hK', ?_⟩⟩
          refine ⟨.bool true, ?_, rfl, hfin⟩
          simp [results, Try.results4, go_sem, hcr]
      case stop =>
        rintro D c' pre V hD hsp ⟨⟨rfl, hpos⟩, h1, h3, h4⟩ hK
        rw [h4] at h1
        have c17 : V.cell? ⟨b14 + 1, 0, none⟩ = some (.int .i64 stop) := h1.cell_eq 0 _ rfl
        have h14 := blk_frm k14 h3 (by omega)
        have c16 : V.cell? ⟨b14, 0, none⟩ = some (.slice ao5 P.length cap5) := h14.cell_eq 0 _ rfl
        have hsV := blk_frm (m10.blk W.heap.size 3 #[.int .i64 stop] (by simp)) h3 (by omega)
        have hrV := blk_frm (m10.blk (W.heap.size + 1) 4 #[.bool false] (by simp)) h3 (by omega)
        have hbV : Below W.heap.size W V := m10.below.trans (h3.below m10.below.size (fun b h => by have := m10.below.size; omega))
        have cs : V.cell? ⟨W.heap.size, 0, none⟩ = some (.int .i64 stop) := hsV.cell_eq 0 _ rfl
        have c2 : V.cell? ⟨W.heap.size + 1, 0, none⟩ = some (.bool false) := hrV.cell_eq 0 _ rfl
        have c3 := hrV.free 0
        obtain ⟨V2, hV2⟩ : ∃ V2, V2 = V.setCell ⟨W.heap.size + 1, 0, none⟩ (.bool true) := ⟨_, rfl⟩
        have hK' : V2.heap[D]? = some (.deferred (some [])) := by rw [hV2]; exact (Below.heap_setCell _ _ _ _ (by show D ≠ W.heap.size + 1; omega)).trans hK
        have hfin : Below W.heap.size W (V2.putObj D (.deferred none)) := by
          have e2 : Below W.heap.size W V2 := by rw [hV2]; exact hbV.setCell (p := ⟨W.heap.size + 1, 0, none⟩) (by simp) _
          exact e2.trans ((Frm.put (S := fun b => b = D) V2 D (.deferred none) rfl).below e2.size (fun b h => by omega))
        have hcr : (V2.putObj D (.deferred none)).cell? ⟨W.heap.size + 1, 0, none⟩ = some (.bool true) := by
          refine (World.cell?_of_block (a := ⟨W.heap.size + 1, 0, none⟩) (World.putObj_heap_other (by show W.heap.size + 1 ≠ D; omega))).trans ?_
          rw [hV2]
          exact (hrV.set 0 (.bool true)).cell_eq 0 _ rfl
        have d1 : decide ((0 : Int) < stop) = true := decide_eq_true (by omega)
        have d2 : decide (stop < (P.length : Int)) = true ∨ (decide (stop < (P.length : Int)) = false ∧ (stop == (P.length : Int)) = true) := by
          by_cases hp : stop < (P.length : Int)
          · exact .inl (decide_eq_true hp)
          · exact .inr ⟨decide_eq_false hp, by simp; omega⟩
        clear h1 h3 h4 hsV hbV hseq k14 k15 m10 hP5' hlp5 hB1 h14 hrV hpos hsp
        refine wpIn_wide.2 ?_
        rcases d2 with d2 | ⟨d2, d3⟩
        all_goals go_wp2_with fail
        all_goals
          rw [← hV2]
          refine ⟨by simp, .inl ⟨_, _, rfl, run_takeDeferred hK', ?_⟩⟩
          refine ⟨.bool true, ?_, rfl, hfin⟩
          simp [results, Try.results4, go_sem, hcr]
end Go.Proofs.Ythlpnlmjpdcbiaa
