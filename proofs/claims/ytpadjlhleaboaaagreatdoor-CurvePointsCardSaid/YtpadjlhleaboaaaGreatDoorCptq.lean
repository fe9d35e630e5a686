/-
  CurvePoints. (Written by gen/p_cpt.py.)
-/
import Derived.Test.YtpadjlhleaboaaaGreatDoorCtuq
import Derived.Test.YtpadjlhleaboaaaGreatDoorCatq
import Derived.Test.YtpadjlhleaboaaaGreatDoorGM
import Derived.Test.YtpadjlhleaboaaaGreatDoorGW
namespace Go.Proofs.YtpadjlhleaboaaaGreatDoor
open Go.RowKit
set_option linter.unusedSimpArgs false
attribute [local go_sem] Oper.semAt_some
attribute [local go_sem] wide_fnC
theorem It.frmC {S : Nat → Prop} {w w' : World} {ao : Option Addr} {cap : Nat} {l : List Int} (h : It .i64 w ao cap l) (hf : Frm S w w') (hk : ∀ b off s, ao = some ⟨b, off, s⟩ → b < w.heap.size → ¬ S b) : It .i64 w' ao cap l := by
  refine ⟨h.len, h.top, h.bare, h.wf, ?_⟩
  rcases h.at' with h0 | ⟨b, off, ha, hl⟩
  · exact .inl h0
  · refine .inr ⟨b, off, ha, fun i z hi => ?_⟩
    have hc := hl i z hi
    have hlt : b < w.heap.size := World.block_lt_of_cell? w ⟨b, off + i, none⟩ hc
    exact (World.cell?_of_block (a := ⟨b, off + i, none⟩) (hf.block b hlt (hk b off none ha hlt))).trans hc
set_option maxRecDepth 100000 in
set_option maxHeartbeats 8000000 in
theorem cpoints_any (ao : Option Addr) (cap : Nat) (l : List Ord) (stop : Int) (W : World) (hG : Gl W) (hL : Ords W ao cap l) (hF : ∀ m ∈ l, m.Fit) :
    Calls Tryz.prog 4 #[.slice ao l.length cap, .int .i64 stop] W fun e w' => e = .returned (.bool true) ∧ Below W.heap.size W w' := by
  have hl1 := hL.len
  have hl2 := hL.top
  unfold maxLen at hl2
  have hl3 : l.length ≤ 9223372036854775807 := by omega
  clear hl1 hl2
  obtain ⟨W1, hW1⟩ : ∃ W1, W1 = (W.alloc (.cells #[.int .i64 stop] 3)).alloc (.cells #[.bool false] 4) := ⟨_, rfl⟩
  have m1 : Mem W [(W.heap.size + 1, 4, #[.bool false]), (W.heap.size, 3, #[.int .i64 stop])] W1 := by
    rw [hW1]
    exact ((Mem.start W).new _ _).new' _ _ (by simp)
  have cA := fun w (h : Gl w) => alive16_any w h
  have early : ∀ (w : World), Mem W [(W.heap.size + 1, 4, #[.bool false]), (W.heap.size, 3, #[.int .i64 stop])] w → w.cell? ⟨W.heap.size + 1, 0, none⟩ = some (.bool false) ∧ w.frozen? ⟨W.heap.size + 1, 0, none⟩ = false ∧ (w.setCell ⟨W.heap.size + 1, 0, none⟩ (.bool true)).cell? ⟨W.heap.size + 1, 0, none⟩ = some (.bool true) ∧ Below W.heap.size W (w.setCell ⟨W.heap.size + 1, 0, none⟩ (.bool true)) := by
    intro w m
    have h2 := m.blk (W.heap.size + 1) 4 #[.bool false] (by simp)
    exact ⟨h2.cell_eq 0 _ rfl, h2.free 0, (h2.set 0 (.bool true)).cell_eq 0 _ rfl, m.below.setCell (p := ⟨W.heap.size + 1, 0, none⟩) (by simp) _⟩
  replace early := Lib.hid early
  refine (callsIn_wide (n := 6)).1 ?_
  refine callsIn_of_wp_marks Tryz.func4 rfl trivial ?_ rfl
  simp only [Tryz.ntmps4, List.size_toArray, List.length_cons, List.length_nil, Nat.reduceAdd, Nat.reduceSub, Array.replicate_succ, Array.replicate_zero, List.push_toArray, List.append_toArray, List.nil_append, List.cons_append]
  refine wpIn_wide.2 ?_
  by_cases h60 : 60 < l.length
  · have d60 : decide ((60 : Int) < (l.length : Int)) = true := decide_eq_true (by omega)
    clear h60
    go_wp2_with (first
      | (go_at_call 7; rw [← hW1]; refine (cA _ (hG.below m1.below)).mono ?_; rintro e w2 ⟨rfl, hb2⟩; clear cA hW1; obtain ⟨c3, c4, hcr, hfin⟩ := early.out _ (m1.keep hb2))
      | fail)
    refine ⟨.bool true, ?_, rfl, hfin⟩
    simp [results, Tryz.results4, go_sem, hcr]
  have d60 : decide ((60 : Int) < (l.length : Int)) = false := decide_eq_false (by omega)
  have hok := bks_ok hF
  have cB := fun w (h : Below W.heap.size W w) => books_any ao cap l w (hG.below h) (hL.below h) hF (by omega)
  obtain ⟨bk, hbk⟩ : ∃ bk, bk = bks l := ⟨_, rfl⟩
  rw [← hbk] at cB hok
  have hlen : bk.L.length ≤ 500 := by
    have := hok.len
    have := hok.s2
    omega
  have hwf : ∀ z ∈ cprA bk.L, (Lit.int .i64 z).wf = true := fun z hz => by
    obtain ⟨⟨o, h1, h2⟩, -⟩ := cpr_mem.1 hz
    have := hok.ok o h1
    have h3 := this.p1
    have h4 := this.p2
    exact wf_i64 ⟨by omega, by omega⟩
  have hPb : (cprA bk.L).length ≤ 500 := Nat.le_trans (cpr_len _ _ _) hlen
  have cR : ∀ (r : Nat) (S : Nat → Prop) (w : World), RK w r S bk → Calls Tryz.prog 15 #[.pointer (some ⟨r, 0, none⟩), .int .i64 0, .int .i64 4611686018427387904] w fun e w' => ∃ cap ao, e = .returned (.slice ao (cprA bk.L).length cap) ∧ It .i64 w' ao cap (cprA bk.L) ∧ (∀ c off s, ao = some ⟨c, off, s⟩ → w.heap.size ≤ c ∧ c < w'.heap.size) ∧ Below w.heap.size w w' := by
    intro r S w h
    refine (rprices_any 0 4611686018427387904 h (by omega)).mono ?_
    rintro e w' ⟨ko, cap, ao, he, hg⟩
    have how : OwG 2 1 w' ko ao cap (cprA bk.L).length (ics (cprA bk.L)) := hg.ow
    refine ⟨cap, ao, he, It.of_own hwf (by rw [ics_map] at how; exact how), fun c off s e => ?_, hg.bel⟩
    rcases how.at' with ⟨_, h0, _⟩ | ⟨k, cur, rfl, h0, _⟩
    · rw [h0] at e; cases e
    · rw [h0] at e; cases e; exact ⟨hg.own _ rfl, how.lt⟩
  have cO : ∀ W0 g r w, Bb W0 (fun _ => False) g r l.length bk bk w → Calls Tryz.prog 9 #[.pointer (some ⟨g, 0, none⟩)] w fun e w' => ∃ p, e = .returned (.pointer p) ∧ CvP w.heap.size w' p bk.L ∧ Below w.heap.size w w' := by
    intro W0 g r w h
    refine (bbOf h).mono ?_
    rintro e w' ⟨p, he, hc, h', hb⟩
    exact ⟨p, he, hc, hb⟩
  have cPt := fun (B : Nat) (p : Option Addr) (w : World) (h : CvP B w p bk.L) => cv_points h
  have cAt := fun (r : Nat) (S : Nat → Prop) (w : World) (y : Int) (h : RK w r S bk) => rat_any y hok h
  have hQ : cvQ bk.L = (cprA bk.L).map (catL bk.L) := rfl
  have hQl : (cvQ bk.L).length = (cprA bk.L).length := by rw [hQ, List.length_map]
  simp only [hQl] at cPt
  clear hwf hlen hL hF h60 hbk
  obtain ⟨P, hP⟩ : ∃ P, P = cprA bk.L := ⟨_, rfl⟩
  rw [← hP] at cR hPb hQ
  simp only [← hP] at cPt
  generalize cvQ bk.L = Q at *
  clear hQl hP
  have hnx : ∀ w3, Mem W [(W.heap.size + 1, 4, #[.bool false]), (W.heap.size, 3, #[.int .i64 stop])] w3 → ∀ r, ∃ V4, V4 = w3.alloc (.cells #[.pointer (some ⟨r, 0, none⟩)] 25) ∧ Below w3.heap.size w3 V4 ∧ Blk V4 w3.heap.size 25 #[.pointer (some ⟨r, 0, none⟩)] := fun w3 m r => ⟨_, rfl, (Below.refl _ _).alloc (Nat.le_refl _) _, Blk.new _ _ _⟩
  have hnx2 : ∀ w5 ao5 cap5, ∃ V6, V6 = (w5.alloc (.cells #[.slice ao5 P.length cap5] 37)).alloc (.cells #[.int .i64 0] 3) ∧ Below w5.heap.size w5 V6 ∧ Blk V6 w5.heap.size 37 #[.slice ao5 P.length cap5] ∧ Blk V6 (w5.heap.size + 1) 3 #[.int .i64 0] ∧ V6.heap.size = w5.heap.size + 2 := fun w5 ao5 cap5 => ⟨_, rfl, ((Below.refl _ _).alloc (Nat.le_refl _) _).alloc (by simp) _, (Blk.new _ _ _).alloc _, Blk.new' (by simp), by simp⟩
  go_wp2_with (first
    | (go_at_call 7; rw [← hW1]; refine (cA _ (hG.below m1.below)).mono ?_; rintro e w2 ⟨rfl, hb2⟩; clear cA hW1; replace m1 := m1.keep hb2; clear hb2; have cB2 := cB _ m1.below; clear cB)
    | (go_at_call 8; refine cB2.mono ?_; rintro e w3 ⟨g, r, rfl, k3⟩; clear cB2; replace m1 := m1.keep (k3.frm.below (Nat.le_refl _) (fun _ f => f.elim)); obtain ⟨V4, hV4, hb4, br⟩ := hnx _ m1 r; clear hnx; have k4 := k3.below hb4; obtain ⟨Sp, Sr, -, hR4, -⟩ := k4.both; obtain ⟨Sp3, Sr3, -, hR3, -⟩ := k3.both)
    | (go_at_call 15; rw [← hV4]; refine (cR _ _ _ hR4).mono ?_; rintro e w5 ⟨cap5, ao5, rfl, hI5, hA5, hb5⟩; clear cR; have k5 := k4.below hb5; obtain ⟨V6, hV6, hb6, bw, bn, hz6⟩ := hnx2 w5 ao5 cap5; clear hnx2; have k6 := k5.below hb6)
    | (go_at_call 9; rw [← hV6]; refine (cO _ _ _ _ k6).mono ?_; rintro e w7 ⟨p, rfl, hc7, hb7⟩; clear cO)
    | (go_at_call 16; refine (cPt _ _ _ hc7).mono ?_; rintro e w10 ⟨lb, rfl, hb10, hseq0⟩; clear cPt)
    | fail)
  refine (wpIn_wide (n := 6)).1 ?_
  have hz3 := hb4.size
  have hz5 := hb5.size
  have hz7 := hb7.size
  have hz10 := hb10.size
  have hb6_10 : Below V6.heap.size V6 w10 := hb7.trans (hb10.mono hz7)
  have hb5_10 : Below w5.heap.size w5 w10 := hb6.trans (hb6_10.mono hb6.size)
  have hb4_10 : Below V4.heap.size V4 w10 := hb5.trans (hb5_10.mono hz5)
  have hb3_10 : Below w3.heap.size w3 w10 := hb4.trans (hb4_10.mono hz3)
  have m10 := m1.keep hb3_10
  have g5 := m10.blk (W.heap.size + 1) 4 #[.bool false] (by simp)
  have g6 := m10.blk W.heap.size 3 #[.int .i64 stop] (by simp)
  have g7 := m10.below
  have hW3 := (m1.blk (W.heap.size + 1) 4 #[.bool false] (by simp)).lt
  have gr := br.below hb4_10 br.lt
  have g2 := bw.below hb6_10 bw.lt
  have n8 := bn.below hb6_10 bn.lt
  have gI := hI5.below hb5_10
  have hRl := hR4.lt
  have hR10 : RK w10 r Sr bk := hR4.below hb4_10
  have hz4 : V4.heap.size = w3.heap.size + 1 := by rw [hV4]; simp
  have hRl3 : ∀ c, Sr c → c ≠ w5.heap.size + 1 := fun c e => by have := hRl c e; omega
  have hseq := hseq0 (fun c => c = w5.heap.size + 1) (fun c e => by omega)
  obtain ⟨nb, hnb⟩ : ∃ nb, nb = w5.heap.size + 1 := ⟨_, rfl⟩
  obtain ⟨wb, hwb⟩ : ∃ wb, wb = w5.heap.size := ⟨_, rfl⟩
  obtain ⟨rb, hrb⟩ : ∃ rb, rb = w3.heap.size := ⟨_, rfl⟩
  rw [← hnb] at n8 hRl3 hseq
  rw [← hwb] at g2
  rw [← hrb] at gr
  have hA10 : ∀ c off s, ao5 = some ⟨c, off, s⟩ → c ≠ nb ∧ c < w10.heap.size := fun c off s e => by have := hA5 c off s e; omega
  have hord : W.heap.size + 1 < rb ∧ rb < wb ∧ wb + 1 = nb ∧ nb < w10.heap.size := by omega
  obtain ⟨o1, o2, o3, o4⟩ := hord
  rw [← hwb, ← hrb, o3]
  clear hwb hrb hnb hseq0 m10 m1 hb3_10 hb4_10 hb5_10 hb6_10 hI5 hA5 hR4 hR3 br bw bn k3 k4 k5 k6 hb4 hb5 hb6 hb7 hb10 hz3 hz5 hz7 hz10 hz4 hz6 hW3 hRl hc7 hV4 hV6 early
  refine range_law5 (F := Fence.wide) rfl (by omega) (gf := 30) (lb := lb) rfl trivial (goes_of Tryz.func30 (by kernel_rfl) rfl) (enc := encP) (fun _ => rfl) (fun c => c = nb) (fun c e => by omega) (G := goodP Q) (goodP_put Q) hseq
    (fun pre A => Blk A nb 3 #[.int .i64 (pre.length : Int)] ∧ Frm (fun b => b = nb ∨ w10.heap.size ≤ b) w10 A ∧ (0 < stop → (pre.length : Int) < stop))
    (fun c pre A => (c = .exit 0 ∧ 0 < pre.length) ∧ Blk A nb 3 #[.int .i64 (pre.length : Int)] ∧ Frm (fun b => b = nb ∨ w10.heap.size ≤ b) w10 A ∧ (pre.length : Int) = stop)
    (fun pre A B ⟨h1, h3, h4⟩ hf => ⟨blk_frmK h1 hf (by omega), h3.trans hf (fun b h => .inl (.inr (by omega))), h4⟩)
    (fun c pre A B ⟨h0, h1, h3, h4⟩ hf => ⟨h0, blk_frmK h1 hf (by omega), h3.trans hf (fun b h => .inl (.inr (by omega))), h4⟩)
    ⟨n8, Frm.refl _ _, fun h => h⟩
    ?a1 (fun x A => A.alloc (.cells (cPnt x) 31)) (fun x A => (Below.refl _ _).alloc (Nat.le_refl _) _) (fun _ _ _ h => h) ?assign ?body ?done ?stop
  case assign =>
    intro l x V K hK
    simp only [encP]
    gi_wp2
    exact hK
  case body =>
    rintro lb pre x A0 A ⟨h1, h3, h4⟩ hgood hlen hl0 hfA
    have hx : Q[pre.length]? = some x := hgood
    rw [hQ, List.getElem?_map] at hx
    obtain ⟨y, hy, rfl⟩ := Option.map_eq_some_iff.1 hx
    have hA1 := h3.size
    have hbox := blk_frmK (Blk.new A0 31 (cPnt (catL bk.L y))) hfA (by omega)
    obtain ⟨b2, off2, rfl, u9⟩ := (gI.frmC h3 (fun b off s e hb => by have := hA10 b off s e; omega)).get hy
    have hRA := hR10.frm h3 (fun c e e' => by
      rcases e with e | e
      · exact hRl3 c e' e
      · have := hR10.lt c e'; omega)
    have hgr := blk_frmK gr h3 (by omega)
    have hgw := blk_frmK g2 h3 (by omega)
    have hgs := blk_frmK g6 h3 (by omega)
    have cR : Hid (∀ w, Below A.heap.size A w → Calls Tryz.prog 12 #[.pointer (some ⟨r, 0, none⟩), .int .i64 y] w fun e w' => e = .returned (vPnt (catL bk.L y)) ∧ Below w.heap.size w w') := Lib.hid fun w hb => cAt _ _ w y (hRA.below hb)
    have cW := fun w => own16_any (catL bk.L y) w
    have hE := neq_Pnc (catL bk.L y) (catL bk.L y)
    rw [eqPnt_self] at hE
    have hlp : (pre ++ [catL bk.L y]).length = pre.length + 1 := by simp
    obtain ⟨x, hxe⟩ : ∃ x, x = catL bk.L y := ⟨_, rfl⟩
    rw [← hxe] at cR cW hE hbox hlp ⊢
    clear hxe
    have hcast : (((pre ++ [x]).length : Nat) : Int) = (pre.length : Int) + 1 := by rw [hlp]; omega
    have hd1 : decide ((P.length : Int) ≤ (pre.length : Int)) = false := decide_eq_false (by omega)
    have hd1' : decide (P.length ≤ pre.length) = false := decide_eq_false (by omega)
    have hkn : (pre.length : Int) < (P.length : Int) := by omega
    have hp500 : pre.length < 501 := by omega
    simp only [vPnt, Bool.not_true] at hE
    have hq6 : 0 < (pre ++ [x]).length := by omega
    have hfac : ∀ w, Below A.heap.size A w → w.cell? ⟨nb, 0, none⟩ = some (.int .i64 (pre.length : Int)) ∧ w.cell? ⟨wb, 0, none⟩ = some (.slice (some ⟨b2, off2, none⟩) P.length cap5) ∧ w.cell? ⟨rb, 0, none⟩ = some (.pointer (some ⟨r, 0, none⟩)) ∧ w.cell? ⟨b2, off2 + pre.length, none⟩ = some (.int .i64 y) ∧ w.cell? ⟨A0.heap.size, 0, none⟩ = some (.int .i64 x.price) ∧ w.cell? ⟨A0.heap.size, 1, none⟩ = some (.int .i64 x.demand) ∧ w.cell? ⟨A0.heap.size, 2, none⟩ = some (.int .i64 x.supply) := fun w hb => by
      obtain ⟨z0, z1, z2⟩ := Pnt.three (hbox.below hb hbox.lt)
      exact ⟨(h1.below hb h1.lt).cell_eq 0 _ rfl, (hgw.below hb hgw.lt).cell_eq 0 _ rfl, (hgr.below hb hgr.lt).cell_eq 0 _ rfl, u9 w hb, z0, z1, z2⟩
    have hend : ∀ w9, Below A.heap.size A w9 → w9.cell? ⟨nb, 0, none⟩ = some (.int .i64 (pre.length : Int)) ∧ w9.cell? ⟨W.heap.size, 0, none⟩ = some (.int .i64 stop) ∧ w9.frozen? ⟨nb, 0, none⟩ = false ∧ ∀ V, V = w9.setCell ⟨nb, 0, none⟩ (.int .i64 ((pre.length : Int) + 1)) → Frm (fun b => b = nb) A V ∧ Blk V nb 3 #[.int .i64 (((pre ++ [x]).length : Nat) : Int)] ∧ Frm (fun b => b = nb ∨ w10.heap.size ≤ b) w10 V := by
      intro w9 hb
      have h1' := h1.below hb h1.lt
      refine ⟨h1'.cell_eq 0 _ rfl, (hgs.below hb hgs.lt).cell_eq 0 _ rfl, h1'.free 0, ?_⟩
      rintro V rfl
      have hf : Frm (fun b => b = nb) A (w9.setCell ⟨nb, 0, none⟩ (.int .i64 ((pre.length : Int) + 1))) := (Frm.of_below hb).setCell _ _ (.inl rfl)
      exact ⟨hf, by rw [hcast]; exact h1'.set 0 _, h3.trans hf (fun b h => .inl (.inl h))⟩
    have hfin1 : (pre.length : Int) + 1 = stop → (((pre ++ [x]).length : Nat) : Int) = stop := fun e => by rw [hcast]; exact e
    have hfin2 : ¬ (pre.length : Int) + 1 = stop → 0 < stop → (((pre ++ [x]).length : Nat) : Int) < stop := fun e h => by have := h4 h; rw [hcast]; omega
    replace hend := Lib.hid hend
    replace hfin1 := Lib.hid hfin1
    replace hfin2 := Lib.hid hfin2
    replace hfac := Lib.hid hfac
    clear hseq hgood hx hbox g2 g5 g6 g7 n8 gr gI h1 h3 h4 hlen hfA hcast hlp hA10 hRA hgr hgw hgs hR10 hRl3 cAt hy u9 hQ
    obtain ⟨x0, x1, x2⟩ := x
    simp only at hfac
    simp only [vPnt, cPnt] at cR cW hE
    gi_wp2
    refine wpIn_region_S_round (S := fun _ w => Below A.heap.size A w) (by kernel_rfl) (by kernel_rfl) (Below.refl _ _).drew ?_
    refine AllS.next (v := ?_) rfl rfl rfl (by kernel_rfl) ?_ ?_
    rotate_left
    · refine yieldsS_run (fun _ _ h => h) (by rfl) ?_
      intro L wx hS
      obtain ⟨un, uw, ur, uy, u0, u1, u2⟩ := hfac.out _ hS
      go_simp
      try with_reducible rfl
    try simp only [Act.put, List.setIfInBounds_toArray, List.set_cons_zero, List.set_cons_succ, List.getElem_toArray, List.getElem_cons_zero, List.getElem_cons_succ]
    refine AllS.next (v := ?_) rfl rfl rfl (by kernel_rfl) ?_ ?_
    rotate_left
    · refine yieldsS_run (fun _ _ h => h) (by rfl) ?_
      intro L wx hS
      obtain ⟨un, uw, ur, uy, u0, u1, u2⟩ := hfac.out _ hS
      go_simp
      try with_reducible rfl
    try simp only [Act.put, List.setIfInBounds_toArray, List.set_cons_zero, List.set_cons_succ, List.getElem_toArray, List.getElem_cons_zero, List.getElem_cons_succ]
    refine AllS.next (v := ?_) rfl rfl rfl (by kernel_rfl) ?_ ?_
    rotate_left
    · refine yieldsS_run (fun _ _ h => h) (by rfl) ?_
      intro L wx hS
      go_simp
      try with_reducible rfl
    try simp only [Act.put, List.setIfInBounds_toArray, List.set_cons_zero, List.set_cons_succ, List.getElem_toArray, List.getElem_cons_zero, List.getElem_cons_succ]
    refine AllS.next (v := (.bool false)) rfl rfl rfl (by kernel_rfl) ?_ ?_
    · refine yieldsS_run (fun _ _ h => h) (by rfl) ?_
      intro L wx hS
      go_simp
      all_goals first
        | done
        | with_reducible rfl
        | assumption
        | omega
        | (simp_all; done)
    try simp only [Act.put, List.setIfInBounds_toArray, List.set_cons_zero, List.set_cons_succ, List.getElem_toArray, List.getElem_cons_zero, List.getElem_cons_succ]
    refine AllS.next (v := ?_) rfl rfl rfl (by kernel_rfl) ?_ ?_
    rotate_left
    · refine yieldsS_run (fun _ _ h => h) (by rfl) ?_
      intro L wx hS
      go_simp
      try with_reducible rfl
    try simp only [Act.put, List.setIfInBounds_toArray, List.set_cons_zero, List.set_cons_succ, List.getElem_toArray, List.getElem_cons_zero, List.getElem_cons_succ]
    refine AllS.next (v := ?_) rfl rfl rfl (by kernel_rfl) ?_ ?_
    rotate_left
    · refine yieldsS_run (fun _ _ h => h) (by rfl) ?_
      intro L wx hS
      obtain ⟨un, uw, ur, uy, u0, u1, u2⟩ := hfac.out _ hS
      go_simp
      try with_reducible rfl
    try simp only [Act.put, List.setIfInBounds_toArray, List.set_cons_zero, List.set_cons_succ, List.getElem_toArray, List.getElem_cons_zero, List.getElem_cons_succ]
    refine AllS.next (v := ?_) rfl rfl rfl (by kernel_rfl) ?_ ?_
    rotate_left
    · refine yieldsS_run (fun _ _ h => h) (by rfl) ?_
      intro L wx hS
      obtain ⟨un, uw, ur, uy, u0, u1, u2⟩ := hfac.out _ hS
      go_simp
      try with_reducible rfl
    try simp only [Act.put, List.setIfInBounds_toArray, List.set_cons_zero, List.set_cons_succ, List.getElem_toArray, List.getElem_cons_zero, List.getElem_cons_succ]
    refine AllS.next (v := ?_) rfl rfl rfl (by kernel_rfl) ?_ ?_
    rotate_left
    · refine yieldsS_run (fun _ _ h => h) (by rfl) ?_
      intro L wx hS
      obtain ⟨un, uw, ur, uy, u0, u1, u2⟩ := hfac.out _ hS
      go_simp
      try with_reducible rfl
    try simp only [Act.put, List.setIfInBounds_toArray, List.set_cons_zero, List.set_cons_succ, List.getElem_toArray, List.getElem_cons_zero, List.getElem_cons_succ]
    refine AllS.next (v := ?_) rfl rfl rfl (by kernel_rfl) ?_ ?_
    rotate_left
    · refine yieldsS_run (fun _ _ h => h) (by rfl) ?_
      intro L wx hS
      obtain ⟨un, uw, ur, uy, u0, u1, u2⟩ := hfac.out _ hS
      go_simp
      try with_reducible rfl
    try simp only [Act.put, List.setIfInBounds_toArray, List.set_cons_zero, List.set_cons_succ, List.getElem_toArray, List.getElem_cons_zero, List.getElem_cons_succ]
    refine AllS.next (v := ?_) rfl rfl rfl (by kernel_rfl) ?_ ?_
    rotate_left
    · refine yieldsS_run (fun _ _ h => h) (by rfl) ?_
      intro L wx hS
      go_simp
      try with_reducible rfl
    try simp only [Act.put, List.setIfInBounds_toArray, List.set_cons_zero, List.set_cons_succ, List.getElem_toArray, List.getElem_cons_zero, List.getElem_cons_succ]
    refine AllS.next (v := ?_) rfl rfl rfl (by kernel_rfl) ?_ ?_
    rotate_left
    · refine yieldsS_run (fun _ _ h => h) (by rfl) ?_
      intro L wx hS
      obtain ⟨un, uw, ur, uy, u0, u1, u2⟩ := hfac.out _ hS
      go_simp
      try with_reducible rfl
    try simp only [Act.put, List.setIfInBounds_toArray, List.set_cons_zero, List.set_cons_succ, List.getElem_toArray, List.getElem_cons_zero, List.getElem_cons_succ]
    refine AllS.next (v := (.agg #[.int .i64 x0, .int .i64 x1, .int .i64 x2])) rfl rfl rfl (by kernel_rfl) ?_ ?_
    · refine yieldsS_call (f := 12) (args := #[.pointer (some ⟨r, 0, none⟩), .int .i64 y]) (by rfl) ?_ ?_
      · intro wx
        go_simp
        try with_reducible rfl
      · intro L wx hS
        exact (cR.out wx hS).mono fun e w h => ⟨h.1, hS.trans (h.2.mono hS.size)⟩
    try simp only [Act.put, List.setIfInBounds_toArray, List.set_cons_zero, List.set_cons_succ, List.getElem_toArray, List.getElem_cons_zero, List.getElem_cons_succ]
    refine AllS.next (v := (.agg #[.int .i64 x0, .int .i64 x1, .int .i64 x2])) rfl rfl rfl (by kernel_rfl) ?_ ?_
    · refine yieldsS_call (f := 11) (args := #[(.agg #[.int .i64 x0, .int .i64 x1, .int .i64 x2])]) (by rfl) ?_ ?_
      · intro wx
        go_simp
        try with_reducible rfl
      · intro L wx hS
        exact (cW wx).mono fun e w h => ⟨h.1, hS.trans (h.2.mono hS.size)⟩
    try simp only [Act.put, List.setIfInBounds_toArray, List.set_cons_zero, List.set_cons_succ, List.getElem_toArray, List.getElem_cons_zero, List.getElem_cons_succ]
    refine AllS.next (v := (.bool false)) rfl rfl rfl (by kernel_rfl) ?_ ?_
    · refine yieldsS_run (fun _ _ h => h) (by rfl) ?_
      intro L wx hS
      go_simp
      all_goals first
        | done
        | with_reducible rfl
        | assumption
        | omega
        | (simp_all; done)
    try simp only [Act.put, List.setIfInBounds_toArray, List.set_cons_zero, List.set_cons_succ, List.getElem_toArray, List.getElem_cons_zero, List.getElem_cons_succ]
    refine AllS.next (v := (.bool false)) rfl rfl rfl (by kernel_rfl) ?_ ?_
    · refine yieldsS_run (fun _ _ h => h) (by rfl) ?_
      intro L wx hS
      go_simp
      all_goals first
        | done
        | with_reducible rfl
        | assumption
        | omega
        | (simp_all; done)
    try simp only [Act.put, List.setIfInBounds_toArray, List.set_cons_zero, List.set_cons_succ, List.getElem_toArray, List.getElem_cons_zero, List.getElem_cons_succ]
    refine AllS.done (by kernel_rfl) ?_
    intro w9 hS9
    obtain ⟨d17, ds, df, hfin⟩ := hend.out _ hS9
    have hfin' := Lib.hid (hfin _ rfl)
    clear hend hfin hfac hE cW
    by_cases hx : (pre.length : Int) + 1 = stop
    · have hd : ((pre.length : Int) + 1 == stop) = true := by simpa using hx
      have q5 := Lib.hid (hfin1.out hx)
      clear hx hfin1 hfin2
      gi_wp2
      obtain ⟨r1, r2, r3⟩ := hfin'.out
      exact ⟨r1, ⟨rfl, hq6⟩, r2, r3, q5.out⟩
    · have hd : ((pre.length : Int) + 1 == stop) = false := by simpa using hx
      have q5 := Lib.hid (hfin2.out hx)
      clear hx hfin1 hfin2
      gi_wp2
      obtain ⟨r1, r2, r3⟩ := hfin'.out
      exact ⟨r1, r2, r3, q5.out⟩
  case done =>
    rintro D ys V hD hys ⟨h1, h3, h4⟩ hK
    rw [hys] at h1 h4
    have cn : V.cell? ⟨nb, 0, none⟩ = some (.int .i64 (P.length : Int)) := h1.cell_eq 0 _ rfl
    have m := (blk_frmK g2 h3 (by omega))
    have cw : V.cell? ⟨wb, 0, none⟩ = some (.slice ao5 P.length cap5) := m.cell_eq 0 _ rfl
    have hsV := blk_frmK g6 h3 (by omega)
    have hrV := blk_frmK g5 h3 (by omega)
    have hbV : Below W.heap.size W V := g7.trans (h3.below g7.size (fun b h => by have := g7.size; omega))
    have cs : V.cell? ⟨W.heap.size, 0, none⟩ = some (.int .i64 stop) := hsV.cell_eq 0 _ rfl
    have c2 : V.cell? ⟨W.heap.size + 1, 0, none⟩ = some (.bool false) := hrV.cell_eq 0 _ rfl
    have c3 := hrV.free 0
    obtain ⟨V2, hV2⟩ : ∃ V2, V2 = V.setCell ⟨W.heap.size + 1, 0, none⟩ (.bool true) := ⟨_, rfl⟩
    have hK' : V2.heap[D]? = some (.deferred (some [])) := by rw [hV2]; exact (Below.heap_setCell _ _ _ _ (by show D ≠ W.heap.size + 1; omega)).trans hK
    have hfin : Below W.heap.size W (V2.putObj D (.deferred none)) := by
      have e2 : Below W.heap.size W V2 := by rw [hV2]; exact hbV.setCell (p := ⟨W.heap.size + 1, 0, none⟩) (by simp) _
      exact e2.trans ((Frm.put (S := fun b => b = D) V2 D (.deferred none) rfl).below e2.size (fun b h => by omega))
    have hcr : (V2.putObj D (.deferred none)).cell? ⟨W.heap.size + 1, 0, none⟩ = some (.bool true) := by
      refine (World.cell?_of_block (a := ⟨W.heap.size + 1, 0, none⟩) (World.putObj_heap_other (by show W.heap.size + 1 ≠ D; omega))).trans ?_
      rw [hV2]
      exact (hrV.set 0 (.bool true)).cell_eq 0 _ rfl
    have H4 := Lib.hid h4
    clear h1 h3 h4 hsV hbV hseq g2 g5 g6 g7 n8 hys m gr gI
    have d2 : decide ((0 : Int) < stop) = false ∨ (decide ((0 : Int) < stop) = true ∧ decide (stop < (P.length : Int)) = false) := by
      by_cases hp : 0 < stop
      · have := H4.out hp
        exact .inr ⟨decide_eq_true hp, decide_eq_false (by omega)⟩
      · exact .inl (decide_eq_false hp)
    clear H4
    rcases d2 with d2 | ⟨d2, d3⟩
    all_goals go_wp2_with fail
    all_goals
      rw [← hV2]
      refine ⟨by simp, .inl ⟨_, _, rfl, run_takeDeferred hK', ?_⟩⟩
      refine ⟨.bool true, ?_, rfl, hfin⟩
      simp [results, Tryz.results4, go_sem, hcr]
  case stop =>
    rintro D c' pre V hD hsp ⟨⟨rfl, hpos⟩, h1, h3, h4⟩ hK
    rw [h4] at h1
    have cn : V.cell? ⟨nb, 0, none⟩ = some (.int .i64 stop) := h1.cell_eq 0 _ rfl
    have m := (blk_frmK g2 h3 (by omega))
    have cw : V.cell? ⟨wb, 0, none⟩ = some (.slice ao5 P.length cap5) := m.cell_eq 0 _ rfl
    have hsV := blk_frmK g6 h3 (by omega)
    have hrV := blk_frmK g5 h3 (by omega)
    have hbV : Below W.heap.size W V := g7.trans (h3.below g7.size (fun b h => by have := g7.size; omega))
    have cs : V.cell? ⟨W.heap.size, 0, none⟩ = some (.int .i64 stop) := hsV.cell_eq 0 _ rfl
    have c2 : V.cell? ⟨W.heap.size + 1, 0, none⟩ = some (.bool false) := hrV.cell_eq 0 _ rfl
    have c3 := hrV.free 0
    obtain ⟨V2, hV2⟩ : ∃ V2, V2 = V.setCell ⟨W.heap.size + 1, 0, none⟩ (.bool true) := ⟨_, rfl⟩
    have hK' : V2.heap[D]? = some (.deferred (some [])) := by rw [hV2]; exact (Below.heap_setCell _ _ _ _ (by show D ≠ W.heap.size + 1; omega)).trans hK
    have hfin : Below W.heap.size W (V2.putObj D (.deferred none)) := by
      have e2 : Below W.heap.size W V2 := by rw [hV2]; exact hbV.setCell (p := ⟨W.heap.size + 1, 0, none⟩) (by simp) _
      exact e2.trans ((Frm.put (S := fun b => b = D) V2 D (.deferred none) rfl).below e2.size (fun b h => by omega))
    have hcr : (V2.putObj D (.deferred none)).cell? ⟨W.heap.size + 1, 0, none⟩ = some (.bool true) := by
      refine (World.cell?_of_block (a := ⟨W.heap.size + 1, 0, none⟩) (World.putObj_heap_other (by show W.heap.size + 1 ≠ D; omega))).trans ?_
      rw [hV2]
      exact (hrV.set 0 (.bool true)).cell_eq 0 _ rfl
    have d1 : decide ((0 : Int) < stop) = true := decide_eq_true (by omega)
    have d2 : decide (stop < (P.length : Int)) = true ∨ (decide (stop < (P.length : Int)) = false ∧ (stop == (P.length : Int)) = true) := by
      by_cases hp : stop < (P.length : Int)
      · exact .inl (decide_eq_true hp)
      · exact .inr ⟨decide_eq_false hp, by simp; omega⟩
    clear h1 h3 h4 hsV hbV hseq g2 g5 g6 g7 n8 hpos hsp m gr gI
    refine wpIn_wide.2 ?_
    rcases d2 with d2 | ⟨d2, d3⟩
    all_goals go_wp2_with fail
    all_goals
      rw [← hV2]
      refine ⟨by simp, .inl ⟨_, _, rfl, run_takeDeferred hK', ?_⟩⟩
      refine ⟨.bool true, ?_, rfl, hfin⟩
      simp [results, Tryz.results4, go_sem, hcr]
end Go.Proofs.YtpadjlhleaboaaaGreatDoor
