/-
  The walk of IndexEach.
-/
import Derived.Test.YtbfidpngpdaieaaIpl
import Derived.Test.YtbfidpngpdaieaaIxe
import Derived.Test.YtbfidpngpdaieaaEnt
import Derived.RangeFuncCalls
import Derived.Shelf.RegionOpen
namespace Go.Proofs.Ytbfidpngpdaieaa
open Go.RowKit
set_option linter.unusedSimpArgs false
attribute [local go_sem] Oper.semAt_some
attribute [local go_sem] wide_fn
theorem Ixrs.frm {S : Nat → Prop} {w w' : World} {ao : Option Addr} {cap : Nat} {l : List Ixr} (h : Ixrs w ao cap l) (hf : Frm S w w') (hk : ∀ b off s, ao = some ⟨b, off, s⟩ → b < w.heap.size → ¬ S b) : Ixrs w' ao cap l := by
  refine ⟨h.len, h.top, ?_⟩
  rcases h.at' with h0 | ⟨b, off, ha, hl⟩
  · exact .inl h0
  · refine .inr ⟨b, off, ha, fun i m hi j v hj => ?_⟩
    have hc := hl i m hi j v hj
    have hlt : b < w.heap.size := World.block_lt_of_cell? w ⟨b, off + i * 3 + j, none⟩ hc
    exact (World.cell?_of_block (a := ⟨b, off + i * 3 + j, none⟩) (hf.block b hlt (hk b off none ha hlt))).trans hc
theorem xqOfE {w0 w : World} {S0 : Nat → Prop} {g r k : Nat} {l : List Ixr} (h : Bx w0 S0 g r k l l w) (hl : l.length ≤ 100000) (s : Int) : Calls Try.prog 10 #[.pointer (some ⟨r, 0, none⟩), .int .i64 s] w fun e w' => ∃ ao cap, e = .returned (.slice ao (ixOf l s).length cap) ∧ Ixrs w' ao cap (ixOf l s) ∧ (∀ b off s, ao = some ⟨b, off, s⟩ → b < w'.heap.size) ∧ Below w.heap.size w w' := by
  obtain ⟨Sp, Sr, h1, h2, h3, h4⟩ := h.both
  refine (iof_any s h2 hl h1.u).mono ?_
  rintro e w' ⟨ko, cap, ao, he, hG⟩
  refine ⟨ao, cap, he, Ixrs.of_own hG.ow, fun b off s e => ?_, hG.bel⟩
  rcases hG.ow.at' with ⟨_, h0, _⟩ | ⟨k, cur, rfl, h0, _⟩
  · rw [h0] at e; cases e
  · rw [h0] at e; cases e; exact hG.ow.lt
set_option maxRecDepth 100000 in
set_option maxHeartbeats 8000000 in
theorem ieach_any (ao : Option Addr) (cap : Nat) (l : List Iac) (sym stop : Int) (W : World) (hL : Iacs W ao cap l) (hF : ∀ m ∈ l, m.Fit) :
    Calls Try.prog 4 #[.slice ao l.length cap, .int .i64 sym, .int .i64 stop] W fun e w' => e = .returned (.bool true) ∧ Below W.heap.size W w' := by
  have hl1 := hL.len
  have hl2 := hL.top
  unfold maxLen at hl2
  obtain ⟨W1, hW1⟩ : ∃ W1, W1 = (W.alloc (.cells #[.int .i64 stop] 3)).alloc (.cells #[.bool false] 4) := ⟨_, rfl⟩
  have m1 : Mem W [(W.heap.size + 1, 4, #[.bool false]), (W.heap.size, 3, #[.int .i64 stop])] W1 := by
    rw [hW1]
    exact ((Mem.start W).new _ _).new' _ _ (by simp)
  refine (callsIn_wide (n := 6)).1 ?_
  refine callsIn_of_wp_marks Try.func4 rfl trivial ?_ rfl
  simp only [Try.ntmps4, List.size_toArray, List.length_cons, List.length_nil, Nat.reduceAdd, Nat.reduceSub, Array.replicate_succ, Array.replicate_zero, List.push_toArray, List.append_toArray, List.nil_append, List.cons_append]
  refine wpIn_wide.2 ?_
  by_cases hlen : 200 < l.length
  · go_wp2_with (first
      | (go_at_call 6; rw [← hW1]; refine (alive_any W1).mono ?_; rintro e w2 ⟨rfl, hb2⟩; have m2 := m1.keep hb2; clear m1 hW1 hb2; have h2 := m2.blk (W.heap.size + 1) 4 #[.bool false] (by simp); have c3 : w2.cell? ⟨W.heap.size + 1, 0, none⟩ = some (.bool false) := h2.cell_eq 0 _ rfl; have c4 := h2.free 0))
    have hcr : (w2.setCell ⟨W.heap.size + 1, 0, none⟩ (.bool true)).cell? ⟨W.heap.size + 1, 0, none⟩ = some (.bool true) := (h2.set 0 (.bool true)).cell_eq 0 _ rfl
    refine ⟨.bool true, ?_, rfl, m2.below.setCell (p := ⟨W.heap.size + 1, 0, none⟩) (by simp) _⟩
    simp [results, Try.results4, go_sem, hcr]
  have hll : l.length ≤ 200 := by omega
  have d200 : decide ((200 : Int) < (l.length : Int)) = false := decide_eq_false (by omega)
  clear hlen
  go_wp2_with (first
    | (go_at_call 6; rw [← hW1]; refine (alive_any W1).mono ?_; rintro e w2 ⟨rfl, hb2⟩; have m2 := m1.keep hb2; clear m1 hW1 hb2)
    | (go_at_call 7; refine (xnew_any w2).mono ?_; rintro e w3 ⟨g, Sp, rfl, hP, hSp, hb3⟩; have k0 := Bx.start hP hSp hb3; clear hP hSp hb3; generalize hs0 : ([] : List Ixr) = s0 at k0; have hz0 : s0.length = 0 := (by rw [← hs0]; rfl); clear hs0)
    | fail)
  have hbx : ∀ k s t w, Bx w2 (fun _ => False) g w3.heap.size k s t w → Mem W [(W.heap.size + 1, 4, #[.bool false]), (W.heap.size, 3, #[.int .i64 stop])] w := fun k s t w q => m2.keep q.bel
  clear m2
  go_loopg [9] l.length (fun j p9 wr => ∃ (q : Nat) (s : List Ixr), q + j = l.length ∧ p9 = .int .i64 (q : Int) ∧ Hid (s.length ≤ q) ∧ Bx w2 (fun _ => False) g w3.heap.size q s s wr)
  case atStart => exact ⟨0, s0, by omega, rfl, Lib.hid (by omega), k0⟩
  case round =>
    clear k0 hz0
    generalize w3.heap.size = r at *
    obtain ⟨q, s, hqj, rfl, hs, k⟩ := hrel
    by_cases hj : q < l.length
    · obtain ⟨a, hm⟩ : ∃ a, l[q]? = some a := ⟨l[q], List.getElem?_eq_getElem hj⟩
      have hfit := hF a (List.mem_of_getElem? hm)
      obtain ⟨b, off, rfl, y0, y1, y2, y3⟩ := (hL.below (hbx _ _ _ _ k).below).get hm
      replace y0 : wr.cell? ⟨b, off + q * 4, none⟩ = some (.int .i64 a.kind) := y0
      have hs1 := hs.out
      have cX := iact_any k (by omega) (by omega) a hfit
      have hal := ixAct_len s a
      have hs2 := Lib.hid (show (ixAct s a).length ≤ q + 1 by omega)
      generalize ixAct s a = s' at *
      obtain ⟨kind, sy, slot, id⟩ := a
      simp only at y0 y1 y2 y3
      have hql : (q : Int) < (l.length : Int) := by omega
      clear hm hs hs1 hal k hL hfit hF hbx
      go_wp2_with (go_at_call 8; refine cX.mono ?_; rintro e w6 ⟨rfl, k6⟩; clear cX y0 y1 y2 y3)
      go_roundg (l.length - (q + 1))
      case measure => omega
      case rel => exact ⟨q + 1, s', by omega, by go_num, hs2, k6⟩
    · have hs1 := hs.out
      have hsl : s.length ≤ 100000 := by omega
      have cS := xqOfE k hsl sym
      have hPb : (ixOf s sym).length ≤ 200 := by
        rw [(ixOf_perm s sym).length_eq]
        exact Nat.le_trans (List.length_filter_le _ _) (by omega)
      have hmr := hbx _ _ _ _ k
      obtain ⟨SpE, SrE, hPE, -, -, -⟩ := k.both
      have hSpl := hPE.lt
      have hWr : W.heap.size + 1 < wr.heap.size := (hmr.blk (W.heap.size + 1) 4 #[.bool false] (by simp)).lt
      obtain ⟨P, hP⟩ : ∃ P, P = ixOf s sym := ⟨_, rfl⟩
      rw [← hP] at cS hPb
      replace hP := Lib.hid hP
      have hb89 : ∀ w7 v, Below w7.heap.size w7 ((w7.alloc (.cells #[v] 27)).alloc (.cells #[.int .i64 0] 3)) := fun w7 v => ((Below.refl _ _).alloc (Nat.le_refl _) _).alloc (by simp) _
      clear k hbx hL hF hs hs1
      go_wp2_with (first
        | (go_at_call 10; refine cS.mono ?_; rintro e w7 ⟨ao5, cap5, rfl, hP5, hP5b, hb7⟩; clear cS)
        | (go_at_call 11; refine (xeach_any (some ⟨g, 0, none⟩) sym _).mono ?_; rintro e w10 ⟨rfl, hb10, hB1, hB3⟩)
        | fail)
      refine (wpIn_wide (n := 6)).1 ?_
      have hb7s := hb7.size
      obtain ⟨V9, hV9⟩ : ∃ V9, V9 = (w7.alloc (.cells #[.slice ao5 P.length cap5] 27)).alloc (.cells #[.int .i64 0] 3) := ⟨_, rfl⟩
      have h9 : Below w7.heap.size w7 V9 := by rw [hV9]; exact hb89 w7 _
      have h9s : V9.heap.size = w7.heap.size + 2 := by rw [hV9]; simp
      have g2 : Blk V9 w7.heap.size 27 #[.slice ao5 P.length cap5] := by rw [hV9]; exact (Blk.new _ _ _).alloc _
      have n8 : Blk V9 (w7.heap.size + 1) 3 #[.int .i64 0] := by rw [hV9]; exact Blk.new' (by simp)
      rw [← hV9] at hb10 hB1 hB3
      have hs10 := hB3.lt
      replace g2 := g2.below hb10 (by omega)
      replace n8 := n8.below hb10 (by omega)
      have hb710 : Below w7.heap.size w7 w10 := h9.trans (hb10.mono (by omega))
      have hbr10 : Below wr.heap.size wr w10 := hb7.trans (hb710.mono hb7s)
      have hP10 := hPE.below hbr10
      have g3 := hP5.below hb710
      have m10 := hmr.keep hbr10
      rw [h9s] at hB1 hB3 hs10
      have g5 := m10.blk (W.heap.size + 1) 4 #[.bool false] (by simp)
      have g6 := m10.blk W.heap.size 3 #[.int .i64 stop] (by simp)
      have g7 := m10.below
      obtain ⟨b16, hb16⟩ : ∃ b, b = w7.heap.size := ⟨_, rfl⟩
      rw [← hb16] at g2 n8 hB1 hB3 hs10 hP5b
      have hgl : wr.heap.size ≤ b16 := by omega
      have hWb : W.heap.size + 1 < b16 := by omega
      have hseq := xeach_seqs Fence.wide rfl (6 - 1) (by omega) (b16 + 2) (b16 + 2 + 1) _ _ w10 (fun b => b = b16 + 1) hB1 hB3 hP10 hsl (by omega) (by omega) (fun b e h => by have := hSpl b h; omega) (fun b e => by omega)
      rw [← hP.out] at hseq
      have h9s' : V9.heap.size = b16 + 2 := by omega
      first | rw [← hV9, h9s', ← hb16] | rw [← hb16]
      clear hb16 hb10 h9 hb89 hb710 hbr10 hP5 hmr hV9 h9s h9s' hb7 hb7s hSpl hP10 hB1 hB3 hPE m10 hP hsl
      refine range_law4 (F := Fence.wide) rfl (by omega) (gf := 21) (lb := #[.pointer (some ⟨b16 + 2, 0, none⟩), .pointer (some ⟨b16 + 2 + 1, 0, none⟩)]) rfl trivial (goes_of Try.func21 (by kernel_rfl) rfl) (enc := encX) (fun _ => rfl) (fun b => b = b16 + 1) (fun b e => by omega) (G := goodX P) (goodX_put P) hseq
        (fun pre A => Blk A (b16 + 1) 3 #[.int .i64 (pre.length : Int)] ∧ Frm (fun b => b = b16 + 1 ∨ w10.heap.size ≤ b) w10 A ∧ (0 < stop → (pre.length : Int) < stop))
        (fun c pre A => (c = .exit 2 ∧ 0 < pre.length) ∧ Blk A (b16 + 1) 3 #[.int .i64 (pre.length : Int)] ∧ Frm (fun b => b = b16 + 1 ∨ w10.heap.size ≤ b) w10 A ∧ (pre.length : Int) = stop)
        (fun pre A B ⟨h1, h3, h4⟩ hf => ⟨blk_frmX h1 hf (by omega), h3.trans hf (fun b h => .inl (.inr (by omega))), h4⟩)
        (fun c pre A B ⟨h0, h1, h3, h4⟩ hf => ⟨h0, blk_frmX h1 hf (by omega), h3.trans hf (fun b h => .inl (.inr (by omega))), h4⟩)
        ⟨n8, Frm.refl _ _, fun h => h⟩ ?a1 ?assign ?body ?done ?stop
      case assign =>
        intro lb0 x V K hK
        simp only [encX]
        gi_wp2
        exact hK
      case body =>
        rintro lb0 pre x A ⟨h1, h3, h4⟩ hgood hlen _
        have hxq : P[pre.length]? = some x := hgood
        obtain ⟨b2, off2, rfl, -, y1, y2⟩ := (g3.frm h3 (fun b off s e hb => by have := hP5b b off s e; omega)).get hxq
        have c16 : A.cell? ⟨b16, 0, none⟩ = some (.slice (some ⟨b2, off2, none⟩) P.length cap5) := (blk_frmX g2 h3 (by omega)).cell_eq 0 _ rfl
        have cs : A.cell? ⟨W.heap.size, 0, none⟩ = some (.int .i64 stop) := (blk_frmX g6 h3 (by omega)).cell_eq 0 _ rfl
        have c17 : A.cell? ⟨b16 + 1, 0, none⟩ = some (.int .i64 (pre.length : Int)) := h1.cell_eq 0 _ rfl
        have f17 := h1.free 0
        have hlp : (pre ++ [x]).length = pre.length + 1 := by simp
        have hX1 := h1.set 0 (.int .i64 ((pre.length : Int) + 1))
        have hXf := (Frm.refl (fun b => b = b16 + 1) A).setCell ⟨b16 + 1, 0, none⟩ (.int .i64 ((pre.length : Int) + 1)) (.inl rfl)
        have hXw := h3.trans hXf (fun b h => .inl (.inl h))
        have hcast : (((pre ++ [x]).length : Nat) : Int) = (pre.length : Int) + 1 := by rw [hlp]; omega
        have hd1 : decide ((P.length : Int) ≤ (pre.length : Int)) = false := decide_eq_false (by omega)
        have hkn : (pre.length : Int) < (P.length : Int) := by omega
        have hp500 : pre.length < 501 := by omega
        have q1 : Blk (A.setCell ⟨b16 + 1, 0, none⟩ (.int .i64 ((pre.length : Int) + 1))) (b16 + 1) 3 #[.int .i64 (((pre ++ [x]).length : Nat) : Int)] := by rw [hcast]; exact hX1
        clear hgood hxq hseq g2 g3 g5 g6 g7 n8 hX1 h1
        by_cases hx : (pre.length : Int) + 1 = stop
        · have hd : ((pre.length : Int) + 1 == stop) = true := by simpa using hx
          have q5 : (((pre ++ [x]).length : Nat) : Int) = stop := by rw [hcast]; exact hx
          have q6 : 0 < (pre ++ [x]).length := by omega
          have H := Lib.hid (And.intro hXf (And.intro q6 (And.intro q1 (And.intro hXw q5))))
          clear hXf hXw q1 q5 q6 hcast hx h3 h4
          gi_wp2
          obtain ⟨r1, r2, r3⟩ := H.out
          exact ⟨r1, ⟨rfl, r2⟩, r3⟩
        · have hd : ((pre.length : Int) + 1 == stop) = false := by simpa using hx
          have q5 : 0 < stop → (((pre ++ [x]).length : Nat) : Int) < stop := fun h => by have := h4 h; rw [hcast]; omega
          have H := Lib.hid (And.intro hXf (And.intro q1 (And.intro hXw q5)))
          clear hXf hXw q1 q5 hcast hx h3 h4
          gi_wp2
          exact H.out
      case done =>
        rintro D ys V hD hys ⟨h1, h3, h4⟩ hK
        rw [hys] at h1 h4
        have c17 : V.cell? ⟨b16 + 1, 0, none⟩ = some (.int .i64 (P.length : Int)) := h1.cell_eq 0 _ rfl
        have c16 : V.cell? ⟨b16, 0, none⟩ = some (.slice ao5 P.length cap5) := (blk_frmX g2 h3 (by omega)).cell_eq 0 _ rfl
        have hsV := blk_frmX g6 h3 (by omega)
        have hrV := blk_frmX g5 h3 (by omega)
        have hbV : Below W.heap.size W V := g7.trans (h3.below g7.size (fun b h => by have := g7.size; omega))
        have cs : V.cell? ⟨W.heap.size, 0, none⟩ = some (.int .i64 stop) := hsV.cell_eq 0 _ rfl
        have c2 : V.cell? ⟨W.heap.size + 1, 0, none⟩ = some (.bool false) := hrV.cell_eq 0 _ rfl
        have c3 := hrV.free 0
        obtain ⟨V2, hV2⟩ : ∃ V2, V2 = V.setCell ⟨W.heap.size + 1, 0, none⟩ (.bool true) := ⟨_, rfl⟩
        have hK' : V2.heap[D]? = some (.deferred (some [])) := by rw [hV2]; exact (Below.heap_setCell _ _ _ _ (by show D ≠ W.heap.size + 1; omega)).trans hK
        have hfin : Below W.heap.size W (V2.putObj D (.deferred none)) := by
          have e2 : Below W.heap.size W V2 := by rw [hV2]; exact hbV.setCell (p := ⟨W.heap.size + 1, 0, none⟩) (by simp) _
          exact e2.trans ((Frm.put (S := fun b => b = D) V2 D (.deferred none) rfl).below e2.size (fun b h => by omega))
        have hcr : (V2.putObj D (.deferred none)).cell? ⟨W.heap.size + 1, 0, none⟩ = some (.bool true) := by
          refine (World.cell?_of_block (a := ⟨W.heap.size + 1, 0, none⟩) (World.putObj_heap_other (by show W.heap.size + 1 ≠ D; omega))).trans ?_
          rw [hV2]
          exact (hrV.set 0 (.bool true)).cell_eq 0 _ rfl
        have H4 := Lib.hid h4
        clear h1 h3 h4 hsV hbV hseq g2 g3 g5 g6 g7 n8 hys
        have d2 : decide ((0 : Int) < stop) = false ∨ (decide ((0 : Int) < stop) = true ∧ decide (stop < (P.length : Int)) = false) := by
          by_cases hp : 0 < stop
          · have := H4.out hp
            exact .inr ⟨decide_eq_true hp, decide_eq_false (by omega)⟩
          · exact .inl (decide_eq_false hp)
        clear H4
        rcases d2 with d2 | ⟨d2, d3⟩
        all_goals go_wp2_with fail
        all_goals
          rw [← hV2]
          refine ⟨by simp, .inl ⟨_, _, rfl, run_takeDeferred hK', ?_⟩⟩
          refine ⟨.bool true, ?_, rfl, hfin⟩
          simp [results, Try.results4, go_sem, hcr]
      case stop =>
        rintro D c' pre V hD hsp ⟨⟨rfl, hpos⟩, h1, h3, h4⟩ hK
        rw [h4] at h1
        have c17 : V.cell? ⟨b16 + 1, 0, none⟩ = some (.int .i64 stop) := h1.cell_eq 0 _ rfl
        have c16 : V.cell? ⟨b16, 0, none⟩ = some (.slice ao5 P.length cap5) := (blk_frmX g2 h3 (by omega)).cell_eq 0 _ rfl
        have hsV := blk_frmX g6 h3 (by omega)
        have hrV := blk_frmX g5 h3 (by omega)
        have hbV : Below W.heap.size W V := g7.trans (h3.below g7.size (fun b h => by have := g7.size; omega))
        have cs : V.cell? ⟨W.heap.size, 0, none⟩ = some (.int .i64 stop) := hsV.cell_eq 0 _ rfl
        have c2 : V.cell? ⟨W.heap.size + 1, 0, none⟩ = some (.bool false) := hrV.cell_eq 0 _ rfl
        have c3 := hrV.free 0
        obtain ⟨V2, hV2⟩ : ∃ V2, V2 = V.setCell ⟨W.heap.size + 1, 0, none⟩ (.bool true) := ⟨_, rfl⟩
        have hK' : V2.heap[D]? = some (.deferred (some [])) := by rw [hV2]; exact (Below.heap_setCell _ _ _ _ (by show D ≠ W.heap.size + 1; omega)).trans hK
        have hfin : Below W.heap.size W (V2.putObj D (.deferred none)) := by
          have e2 : Below W.heap.size W V2 := by rw [hV2]; exact hbV.setCell (p := ⟨W.heap.size + 1, 0, none⟩) (by simp) _
          exact e2.trans ((Frm.put (S := fun b => b = D) V2 D (.deferred none) rfl).below e2.size (fun b h => by omega))
        have hcr : (V2.putObj D (.deferred none)).cell? ⟨W.heap.size + 1, 0, none⟩ = some (.bool true) := by
          refine (World.cell?_of_block (a := ⟨W.heap.size + 1, 0, none⟩) (World.putObj_heap_other (by show W.heap.size + 1 ≠ D; omega))).trans ?_
          rw [hV2]
          exact (hrV.set 0 (.bool true)).cell_eq 0 _ rfl
        have d1 : decide ((0 : Int) < stop) = true := decide_eq_true (by omega)
        have d2 : decide (stop < (P.length : Int)) = true ∨ (decide (stop < (P.length : Int)) = false ∧ (stop == (P.length : Int)) = true) := by
          by_cases hp : stop < (P.length : Int)
          · exact .inl (decide_eq_true hp)
          · exact .inr ⟨decide_eq_false hp, by simp; omega⟩
        clear h1 h3 h4 hsV hbV hseq g2 g3 g5 g6 g7 n8 hpos hsp
        refine wpIn_wide.2 ?_
        rcases d2 with d2 | ⟨d2, d3⟩
        all_goals go_wp2_with fail
        all_goals
          rw [← hV2]
          refine ⟨by simp, .inl ⟨_, _, rfl, run_takeDeferred hK', ?_⟩⟩
          refine ⟨.bool true, ?_, rfl, hfin⟩
          simp [results, Try.results4, go_sem, hcr]
end Go.Proofs.Ytbfidpngpdaieaa
