/-
  CurveTurns.
-/
import Derived.Test.YtpadjlhleaboaaaGreatDoorGCg
import Derived.Test.YtpadjlhleaboaaaGreatDoorGB
import Derived.RangeFuncCalls
import Derived.Shelf.RegionOpen
import Derived.OwnWalkIn
import Derived.TacticsInMore
import Derived.LoopNIn
import Derived.LoopIn
import Derived.Stop.RegionWithIn
import Derived.Sort.QuietTacIn
namespace Go.Proofs.YtpadjlhleaboaaaGreatDoor
open Go.RowKit
set_option linter.unusedSimpArgs false
attribute [local go_sem] Oper.semAt_some
theorem wide_fnC (f : FuncId) : Fence.wide.fn f = True := by simp [Fence.wide]
attribute [local go_sem] wide_fnC
theorem goodP_put (P : List Pnt) (pre : List Pnt) (x : Pnt) (A : World) (l : Nat) (o o' : Obj) (h : goodP P pre x A) (_ : A.heap[l]? = some o) (_ : o.isCells = false) : goodP P pre x (A.putObj l o') := h
theorem cvQ_nil : cvQ [] = [] := rfl
set_option maxRecDepth 100000 in
set_option maxHeartbeats 8000000 in
theorem cturns_any (ao : Option Addr) (cap : Nat) (l : List Ord) (a b : Int) (W : World) (hG : Gl W) (hL : Ords W ao cap l) (hF : ∀ m ∈ l, m.Fit) :
    Calls Tryz.prog 6 #[.slice ao l.length cap, .int .i64 a, .int .i64 b] W fun e w' => e = .returned (.bool true) ∧ Below W.heap.size W w' := by
  have hl1 := hL.len
  have hl2 := hL.top
  unfold maxLen at hl2
  have hl3 : l.length ≤ 9223372036854775807 := by omega
  clear hl1 hl2
  obtain ⟨W1, hW1⟩ : ∃ W1, W1 = W.alloc (.cells #[.bool false] 4) := ⟨_, rfl⟩
  have m1 : Mem W [(W.heap.size, 4, #[.bool false])] W1 := by
    rw [hW1]
    exact (Mem.start W).new _ _
  refine (callsIn_wide (n := 6)).1 ?_
  refine callsIn_of_wp_marks Tryz.func6 rfl trivial ?_ rfl
  simp only [Tryz.ntmps6, List.size_toArray, List.length_cons, List.length_nil, Nat.reduceAdd, Nat.reduceSub, Array.replicate_succ, Array.replicate_zero, List.push_toArray, List.append_toArray, List.nil_append, List.cons_append]
  have cA := fun w (h : Gl w) => alive16_any w h
  have hea : 60 < l.length ∨ b < a ∨ (¬ 60 < l.length ∧ ¬ b < a) := by omega
  have early : ∀ (w : World), Mem W [(W.heap.size, 4, #[.bool false])] w → w.cell? ⟨W.heap.size, 0, none⟩ = some (.bool false) ∧ w.frozen? ⟨W.heap.size, 0, none⟩ = false ∧ (w.setCell ⟨W.heap.size, 0, none⟩ (.bool true)).cell? ⟨W.heap.size, 0, none⟩ = some (.bool true) ∧ Below W.heap.size W (w.setCell ⟨W.heap.size, 0, none⟩ (.bool true)) := by
    intro w m
    have h2 := m.blk W.heap.size 4 #[.bool false] (by simp)
    exact ⟨h2.cell_eq 0 _ rfl, h2.free 0, (h2.set 0 (.bool true)).cell_eq 0 _ rfl, m.below.setCell (p := ⟨W.heap.size, 0, none⟩) (Nat.le_refl _) _⟩
  replace early := Lib.hid early
  refine wpIn_wide.2 ?_
  by_cases h60 : 60 < l.length
  · have d60 : decide ((60 : Int) < (l.length : Int)) = true := decide_eq_true (by omega)
    clear hea h60
    go_wp2_with (first
      | (go_at_call 7; rw [← hW1]; refine (cA _ (hG.below m1.below)).mono ?_; rintro e w2 ⟨rfl, hb2⟩; clear cA hW1; obtain ⟨c3, c4, hcr, hfin⟩ := early.out _ (m1.keep hb2))
      | fail)
    refine ⟨.bool true, ?_, rfl, hfin⟩
    simp [results, Tryz.results6, go_sem, hcr]
  have d60 : decide ((60 : Int) < (l.length : Int)) = false := decide_eq_false (by omega)
  by_cases hba : b < a
  · have dab : decide (b < a) = true := decide_eq_true hba
    clear hea h60 hba
    go_wp2_with (first
      | (go_at_call 7; rw [← hW1]; refine (cA _ (hG.below m1.below)).mono ?_; rintro e w2 ⟨rfl, hb2⟩; clear cA hW1; obtain ⟨c3, c4, hcr, hfin⟩ := early.out _ (m1.keep hb2))
      | fail)
    refine ⟨.bool true, ?_, rfl, hfin⟩
    simp [results, Tryz.results6, go_sem, hcr]
  have dab : decide (b < a) = false := decide_eq_false hba
  have hok := bks_ok hF
  have cB := fun w (h : Below W.heap.size W w) => books_any ao cap l w (hG.below h) (hL.below h) hF (by omega)
  obtain ⟨bk, hbk⟩ : ∃ bk, bk = bks l := ⟨_, rfl⟩
  rw [← hbk] at cB hok
  have hq0 : ∀ x ∈ bk.L, 0 ≤ x.qty := fun x hx => by
    have := (hok.ok x hx).q1
    omega
  obtain ⟨t1, t2⟩ := catL_turns (L := bk.L) hq0 (p := a) (q := b) (by omega)
  have cO : ∀ W0 g r w, Bb W0 (fun _ => False) g r l.length bk bk w → Calls Tryz.prog 9 #[.pointer (some ⟨g, 0, none⟩)] w fun e w' => ∃ p B, e = .returned (.pointer p) ∧ CvP B w' p bk.L ∧ Below w.heap.size w w' := by
    intro W0 g r w h
    refine (bbOf h).mono ?_
    rintro e w' ⟨p, he, hc, h', hb⟩
    exact ⟨p, _, he, hc, hb⟩
  have cAt := fun (x : Int) (B : Nat) (p : Option Addr) (w : World) (h : CvP B w p bk.L) => cv_at x h
  have cAa := cAt a
  have cAb := cAt b
  clear cAt hbk hok hq0 h60 hba hea hL hF
  generalize catL bk.L a = x at *
  generalize catL bk.L b = y at *
  obtain ⟨x0, x1, x2⟩ := x
  obtain ⟨y0, y1, y2⟩ := y
  simp only at t1 t2
  simp only [vPnt, cPnt] at cAa cAb
  have cPn := fun (w : World) => cv_points (cv_nil 0 w (Nat.zero_le _))
  have cP2 := fun (B : Nat) (p : Option Addr) (w : World) (h : CvP B w p []) => cv_points h
  have cN := fun w => cv_of_nil w
  rw [cvQ_nil] at cPn
  simp only [cvQ_nil] at cP2
  have hnx : ∀ w, Mem W [(W.heap.size, 4, #[.bool false])] w → ∃ V, V = (w.alloc (.cells #[.int .i64 x0, .int .i64 x1, .int .i64 x2] 31)).alloc (.cells #[.int .i64 y0, .int .i64 y1, .int .i64 y2] 31) ∧
      Mem W [(w.heap.size + 1, 31, #[.int .i64 y0, .int .i64 y1, .int .i64 y2]), (w.heap.size, 31, #[.int .i64 x0, .int .i64 x1, .int .i64 x2]), (W.heap.size, 4, #[.bool false])] V := fun w m => ⟨_, rfl, (m.new _ _).new' _ _ (by simp)⟩
  go_wp2_with (first
    | (go_at_call 7; rw [← hW1]; refine (cA _ (hG.below m1.below)).mono ?_; rintro e w2 ⟨rfl, hb2⟩; clear cA hW1; replace m1 := m1.keep hb2; clear hb2; have cB2 := cB _ m1.below; clear cB)
    | (go_at_call 8; refine cB2.mono ?_; rintro e w3 ⟨g, r, rfl, k3⟩; clear cB2; replace m1 := m1.keep (k3.frm.below (Nat.le_refl _) (fun _ f => f.elim)))
    | (go_at_call 9; (with_reducible refine (cO _ _ _ _ k3).mono ?_); rintro e w4 ⟨p, B, rfl, hc4, hb4⟩; clear cO k3; replace m1 := m1.keep hb4)
    | (go_at_call 10; (with_reducible refine (cAa _ _ _ hc4).mono ?_); rintro e w5 ⟨rfl, hb5⟩; clear cAa; replace m1 := m1.keep hb5)
    | (go_at_call 10; (with_reducible refine (cAb _ _ _ (hc4.below hb5)).mono ?_); rintro e w6 ⟨rfl, hb6⟩; clear cAb; replace m1 := m1.keep hb6; clear hb4 hb5 hb6 hc4; have hWl := Lib.hid (m1.blk W.heap.size 4 #[.bool false] (by simp)).lt; obtain ⟨V6, hV6, m6⟩ := hnx _ m1; clear hnx m1)
    | (go_at_call 16; rw [← hV6]; refine (cPn V6).mono ?_; rintro e w7 ⟨lb, rfl, hb7, hseq0⟩; clear cPn hV6; have m7 := m6.keep hb7; clear hb7 m6)
    | fail)
  refine (wpIn_wide (n := 6)).1 ?_
  have hseq := hseq0 (fun _ => False) (fun _ e => e.elim)
  clear hseq0
  refine range_law4 (F := Fence.wide) rfl (by omega) (gf := 30) (lb := lb) rfl trivial (goes_of Tryz.func30 (by kernel_rfl) rfl) (enc := encP) (fun _ => rfl) (fun _ => False) (fun _ e => e.elim) (G := goodP []) (goodP_put [])
    hseq (fun _ A => Frm (fun q => w7.heap.size ≤ q) w7 A) (fun _ _ _ => False) (fun pre A B h hf => h.trans hf (fun q h => .inl (by omega))) (fun c pre A B h hf => h) (Frm.refl _ _) ?a1 ?assign ?body ?done ?stop
  case assign =>
    intro l x V K hK
    gi_wp2
    exact hK
  case body =>
    rintro lb pre x A h1 hgood
    exact absurd hgood (by simp [goodP])
  case stop =>
    rintro D c pre V hD hsp
    exact fun h => h.elim
  case done =>
    rintro D ys V hD hys h4 hK
    have m8 := m7.keep (h4.below (Nat.le_refl _) (fun q h => h))
    have hlV : D < V.heap.size := (Array.getElem?_eq_some_iff.1 hK).1
    have hDW : w6.heap.size + 1 < D := by have := (m7.blk (w6.heap.size + 1) 31 #[.int .i64 y0, .int .i64 y1, .int .i64 y2] (by simp)).lt; omega
    clear h4 m7 hys hseq hD
    go_wp2_with (first
      | (go_at_call 9; (with_reducible refine (cN _).mono ?_); rintro e w9 ⟨p9, rfl, hc9, hb9⟩)
      | (go_at_call 16; (with_reducible refine (cP2 _ _ _ hc9).mono ?_); rintro e w10 ⟨lb2, rfl, hb10, hseq0⟩; clear cP2 hc9; have hb810 := hb9.trans (hb10.mono hb9.size); have m10 := m8.keep hb810; have hK10 := (hb810.block _ hlV).trans hK; clear hb9 hb10)
      | fail)
    refine (wpIn_wide (n := 6)).1 ?_
    have hseq := hseq0 (fun _ => False) (fun _ e => e.elim)
    have hs10 := hb810.size
    clear hseq0
    refine range_law4 (F := Fence.wide) rfl (by omega) (gf := 30) (lb := lb2) rfl trivial (goes_of Tryz.func30 (by kernel_rfl) rfl) (enc := encP) (fun _ => rfl) (fun _ => False) (fun _ e => e.elim) (G := goodP []) (goodP_put [])
      hseq (fun _ A => Frm (fun q => w10.heap.size ≤ q) w10 A) (fun _ _ _ => False) (fun pre A B h hf => h.trans hf (fun q h => .inl (by omega))) (fun c pre A B h hf => h) (Frm.refl _ _) ?b1 ?assign2 ?body2 ?done2 ?stop2
    case assign2 =>
      intro l x V K hK
      gi_wp2
      exact hK
    case body2 =>
      rintro lb pre x A h1 hgood
      exact absurd hgood (by simp [goodP])
    case stop2 =>
      rintro D c pre V hD hsp
      exact fun h => h.elim
    case done2 =>
      rintro D2 ys V2 hD2 hys h4 hK2
      have hb102 := h4.below (Nat.le_refl _) (fun q h => h)
      have m12 := m10.keep hb102
      have hK12 := (hb102.block _ (by omega)).trans hK10
      have hz := Lib.hid (show w6.heap.size + 1 < D ∧ D < D2 ∧ D2 < V2.heap.size from ⟨hDW, by omega, (Array.getElem?_eq_some_iff.1 hK2).1⟩)
      clear h4 m10 hys hseq hD2 hs10 hb102 hb810 hK hK10 hlV hDW m8
      have hfin : ∀ w, Below V2.heap.size V2 w → ∀ V3, V3 = w.setCell ⟨W.heap.size, 0, none⟩ (.bool true) → ∃ V4 V5, V3.heap[D2]? = some (.deferred (some [])) ∧ V4 = V3.putObj D2 (.deferred none) ∧ V4.heap[D]? = some (.deferred (some [])) ∧ V5 = V4.putObj D (.deferred none) ∧ V5.cell? ⟨W.heap.size, 0, none⟩ = some (.bool true) ∧ Below W.heap.size W V5 := by
        rintro w hb V3 rfl
        obtain ⟨z1, z2, z3⟩ := hz.out
        have hWl' := hWl.out
        have m := m12.keep hb
        have k := (m.blk W.heap.size 4 #[.bool false] (by simp)).set 0 (.bool true)
        have e1 : (w.setCell ⟨W.heap.size, 0, none⟩ (.bool true)).heap[D2]? = some (.deferred (some [])) := (Below.heap_setCell _ _ _ _ (by show D2 ≠ W.heap.size; omega)).trans ((hb.block _ z3).trans hK2)
        have e2 : ((w.setCell ⟨W.heap.size, 0, none⟩ (.bool true)).putObj D2 (.deferred none)).heap[D]? = some (.deferred (some [])) := (World.putObj_heap_other (by omega)).trans ((Below.heap_setCell _ _ _ _ (by show D ≠ W.heap.size; omega)).trans ((hb.block _ (by omega)).trans hK12))
        have g1 := (m.below).setCell (p := ⟨W.heap.size, 0, none⟩) (Nat.le_refl _) (.bool true)
        have g2 := g1.trans ((Frm.put (S := fun q => q = D2) (w.setCell ⟨W.heap.size, 0, none⟩ (.bool true)) D2 (.deferred none) rfl).below g1.size (fun q h => by omega))
        have g3 := g2.trans ((Frm.put (S := fun q => q = D) ((w.setCell ⟨W.heap.size, 0, none⟩ (.bool true)).putObj D2 (.deferred none)) D (.deferred none) rfl).below g2.size (fun q h => by omega))
        refine ⟨_, _, e1, rfl, e2, rfl, ?_, g3⟩
        refine (World.cell?_of_block (a := ⟨W.heap.size, 0, none⟩) (World.putObj_heap_other (by show W.heap.size ≠ D; omega))).trans ?_
        refine (World.cell?_of_block (a := ⟨W.heap.size, 0, none⟩) (World.putObj_heap_other (by show W.heap.size ≠ D2; omega))).trans ?_
        exact k.cell_eq 0 _ rfl
      have key : ∀ w, Below V2.heap.size V2 w → _ := fun w hb => m12.keep hb
      have hcells : ∀ w, Below V2.heap.size V2 w → w.cell? ⟨W.heap.size, 0, none⟩ = some (.bool false) ∧ w.frozen? ⟨W.heap.size, 0, none⟩ = false ∧ (w.cell? ⟨w6.heap.size, 1, none⟩ = some (.int .i64 x1) ∧ w.cell? ⟨w6.heap.size, 2, none⟩ = some (.int .i64 x2)) ∧ w.cell? ⟨w6.heap.size + 1, 1, none⟩ = some (.int .i64 y1) ∧ w.cell? ⟨w6.heap.size + 1, 2, none⟩ = some (.int .i64 y2) := fun w hb => by
        have m := m12.keep hb
        have k := m.blk W.heap.size 4 #[.bool false] (by simp)
        have kx := m.blk w6.heap.size 31 #[.int .i64 x0, .int .i64 x1, .int .i64 x2] (by simp)
        have ky := m.blk (w6.heap.size + 1) 31 #[.int .i64 y0, .int .i64 y1, .int .i64 y2] (by simp)
        exact ⟨k.cell_eq 0 _ rfl, k.free 0, ⟨kx.cell_eq 1 _ rfl, kx.cell_eq 2 _ rfl⟩, ky.cell_eq 1 _ rfl, ky.cell_eq 2 _ rfl⟩
      replace hcells := Lib.hid hcells
      replace hfin := Lib.hid hfin
      have hbc := Below.refl V2.heap.size V2
      obtain ⟨c0, cf, ⟨u1, u2⟩, v1, v2⟩ := hcells.out _ hbc
      have d1 : decide (y1 ≤ x1) = true := decide_eq_true t1
      have d2 : decide (x2 ≤ y2) = true := decide_eq_true t2
      have cAn := fun (w : World) => cv_at a (cv_nil 0 w (Nat.zero_le _))
      have cA2 := fun (B : Nat) (p : Option Addr) (w : World) (h : CvP B w p []) => cv_at b h
      have cPr := fun (w : World) => cv_prices a b (cv_nil 0 w (Nat.zero_le _))
      have ea : catL [] a = ⟨a, 0, 0⟩ := rfl
      have eb : catL [] b = ⟨b, 0, 0⟩ := rfl
      have ep : cpr a b [] = [] := rfl
      have qa := fun w => eql_Pnc ⟨a, 0, 0⟩ ⟨a, 0, 0⟩ w
      have qb := fun w => eql_Pnc ⟨b, 0, 0⟩ ⟨b, 0, 0⟩ w
      rw [eqPnt_self] at qa qb
      rw [ea] at cAn
      rw [eb] at cA2
      rw [ep] at cPr
      simp only [vPnt, cPnt] at qa qb cAn cA2
      simp only [List.length_nil] at cPr
      clear ea eb ep t1 t2 key
      go_wp2_with (first
        | (go_at_call 10; (with_reducible refine (cAn _).mono ?_); rintro e w11 ⟨rfl, hb11⟩; clear cAn; replace hbc := hbc.trans (hb11.mono hbc.size); clear hb11)
        | (go_at_call 14; (with_reducible refine (cPr _).mono ?_); rintro e w12 ⟨ao3, cap3, rfl, -, hb12⟩; clear cPr; replace hbc := hbc.trans (hb12.mono hbc.size); clear hb12)
        | (go_at_call 9; (with_reducible refine (cN _).mono ?_); rintro e w13 ⟨p13, rfl, hc13, hb13⟩; replace hbc := hbc.trans (hb13.mono hbc.size); clear hb13)
        | (go_at_call 10; (with_reducible refine (cA2 _ _ _ hc13).mono ?_); rintro e w14 ⟨rfl, hb14⟩; clear cA2; replace hbc := hbc.trans (hb14.mono hbc.size); clear hb14 c0 cf u1 u2 v1 v2; obtain ⟨c0, cf, ⟨u1, u2⟩, v1, v2⟩ := hcells.out _ hbc)
        | fail)
      obtain ⟨V4, V5, e1, rfl, e2, rfl, hcr, hF⟩ := hfin.out _ hbc _ rfl
      refine ⟨by simp, .inl ⟨_, _, rfl, run_takeDeferred e1, ?_⟩⟩
      refine ⟨by simp, .inl ⟨_, _, rfl, run_takeDeferred e2, ?_⟩⟩
      refine ⟨.bool true, ?_, rfl, hF⟩
      simp [results, Tryz.results6, go_sem, hcr]
end Go.Proofs.YtpadjlhleaboaaaGreatDoor
