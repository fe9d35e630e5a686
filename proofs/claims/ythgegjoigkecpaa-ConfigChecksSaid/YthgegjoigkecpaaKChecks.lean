/-
  ConfigChecks, for every configuration.
-/
import Derived.Test.YthgegjoigkecpaaCfgM
import Derived.Test.YthgegjoigkecpaaRegS
import Derived.Test.YthgegjoigkecpaaPost
namespace Go.Proofs.Ythgegjoigkecpaa
open Go.RowKit
/-- A configuration in its box, and what its slices hold. -/
structure CK (W : World) (b : Nat) (sa : Option Addr) (sc : Nat) (ra : Option Addr) (rc : Nat) (c : Cfg) (w : World) : Prop where
  blk : Blk w b 27 (cCfg sa sc ra rc c)
  hold : Holds w sa sc ra rc c
  bel : Below W.heap.size W w
section
variable {W w w' : World} {b sc rc : Nat} {sa ra : Option Addr} {c : Cfg}
theorem CK.keep (h : CK W b sa sc ra rc c w) (hb : Below w.heap.size w w') : CK W b sa sc ra rc c w' := ⟨h.blk.below hb h.blk.lt, h.hold.below hb, h.bel.trans (hb.mono h.bel.size)⟩
theorem CK.drew (h : CK W b sa sc ra rc c w) : CK W b sa sc ra rc c w.drew := h.keep (Below.refl _ _).drew
theorem CK.start (h : Holds W sa sc ra rc c) : CK W W.heap.size sa sc ra rc c (W.alloc (.cells (cCfg sa sc ra rc c) 27)) :=
  ⟨Blk.new _ _ _, h.below ((Below.refl _ _).alloc (Nat.le_refl _) _), (Below.refl _ _).alloc (Nat.le_refl _) _⟩
end
set_option maxRecDepth 8000 in
set_option maxHeartbeats 4000000 in
theorem kchecks_any (sa : Option Addr) (sc : Nat) (ra : Option Addr) (rc : Nat) (c : Cfg) (hF : c.Fit) (W : World) (hH : Holds W sa sc ra rc c) :
    Calls Try.prog 3 #[vCfg sa sc ra rc c] W fun e w' => e = .returned (.bool true) ∧ Below W.heap.size W w' := by
  have cA := fun w => alive7_any w
  have cL := fun w => light7_any sa sc ra rc c w
  have cC := fun w h => check_any sa sc ra rc c hF w h
  have cR := fun w h => refCheck_any sa sc ra rc c w h
  unfold Checked at cC cR
  have hS := CK.start hH
  by_cases hl : c.syms.length ≤ 20 ∧ c.rows.length ≤ 40
  · rw [show (decide (c.syms.length ≤ 20) && decide (c.rows.length ≤ 40)) = true by simp; exact hl] at cL
    obtain ⟨hl1, hl2⟩ := hl
    generalize checkF c = p at cC cR
    obtain ⟨pf, pn⟩ := p
    simp only at cC cR
    go_enter Try.func3, Try.ntmps3
    obtain ⟨x0, x1, x2, x3, x4, x5, x6, x7⟩ := Cfg.cells hS.blk
    go_wp2_with (first
      | (go_at_call 7; refine (cL _).mono ?_; rintro e w1 ⟨rfl, hb1⟩; replace hS := hS.keep hb1; clear x0 x1 x2 x3 x4 x5 x6 x7; obtain ⟨x0, x1, x2, x3, x4, x5, x6, x7⟩ := Cfg.cells hS.blk)
      | (go_at_call 9; refine (cC _ hS.hold).mono ?_; rintro e w2 ⟨rfl, hb2⟩; replace hS := hS.keep hb2; clear x0 x1 x2 x3 x4 x5 x6 x7; obtain ⟨x0, x1, x2, x3, x4, x5, x6, x7⟩ := Cfg.cells hS.blk)
      | (go_at_call 10; refine (cR _ hS.hold).mono ?_; rintro e w3 ⟨rfl, hb3⟩; replace hS := hS.keep hb3))
    clear x0 x1 x2 x3 x4 x5 x6 x7 cL cC cR
    go_loopg [7] c.syms.length (fun j p7 wr => ∃ q : Nat, q + j = c.syms.length ∧ p7 = .int .i64 (q : Int) ∧ CK W W.heap.size sa sc ra rc c wr)
    case atStart => exact ⟨0, by omega, rfl, hS⟩
    case round =>
      clear hS
      obtain ⟨q, hq, rfl, hS⟩ := hrel
      obtain ⟨x0, x1, x2, x3, x4, x5, x6, x7⟩ := Cfg.cells hS.blk
      by_cases hj : q < c.syms.length
      · obtain ⟨s, hs⟩ : ∃ s, c.syms[q]? = some s := ⟨c.syms[q], List.getElem?_eq_getElem hj⟩
        have l1 := hS.hold.syms.len
        have l2 := hS.hold.syms.top
        unfold maxLen at l2
        have hsf := hF.syms s (List.mem_of_getElem? hs)
        obtain ⟨b, off, rfl, -⟩ := hS.hold.syms.get hs
        have hY : ∀ wx, Holds wx (some ⟨b, off, none⟩) sc ra rc c → wx.cell? ⟨b, off + q * 16, none⟩ = some (.int .i64 s.grid) ∧ wx.cell? ⟨b, off + q * 16 + 1, none⟩ = some (.int .i64 s.refp) ∧ wx.cell? ⟨b, off + q * 16 + 2, none⟩ = some (.int .i64 s.stat) ∧ wx.cell? ⟨b, off + q * 16 + 3, none⟩ = some (.int .i64 s.dyn) ∧ wx.cell? ⟨b, off + q * 16 + 4, none⟩ = some (.int .i64 s.win) ∧ wx.cell? ⟨b, off + q * 16 + 5, none⟩ = some (.int .i64 s.move) ∧ wx.cell? ⟨b, off + q * 16 + 6, none⟩ = some (.int .i64 s.lim) ∧ wx.cell? ⟨b, off + q * 16 + 7, none⟩ = some (.int .i64 s.pau) ∧ wx.cell? ⟨b, off + q * 16 + 8, none⟩ = some (.int .i64 s.ext) ∧ wx.cell? ⟨b, off + q * 16 + 9, none⟩ = some (.int .i64 s.mext) ∧ wx.cell? ⟨b, off + q * 16 + 10, none⟩ = some (.int .i64 s.col) ∧ wx.cell? ⟨b, off + q * 16 + 11, none⟩ = some (.int .i64 s.wid) ∧ wx.cell? ⟨b, off + q * 16 + 12, none⟩ = some (.int .i64 s.self) ∧ wx.cell? ⟨b, off + q * 16 + 13, none⟩ = some (.int .i64 s.slots) ∧ wx.cell? ⟨b, off + q * 16 + 14, none⟩ = some (.int .i64 s.levels) ∧ wx.cell? ⟨b, off + q * 16 + 15, none⟩ = some (.int .i64 s.short) := fun wx h => by
          obtain ⟨b', off', e, h⟩ := h.syms.get hs
          cases e
          exact h
        have c1 := fun w => symbol_any s hsf w
        have c2 := fun w => refSymbol_any s w
        have c3 := fun w => cbound_any s hsf w
        have c4 := fun w => refBound_any s w
        generalize symF s = f at c1 c2
        generalize boundS s = g at c3 c4
        clear hs hsf hF hH
        obtain ⟨grid, refp, stat, dyn, win, move, lim, pau, ext, mext, col, wid, self, slots, levels, short⟩ := s
        simp only at hY
        go_wp2_with fail
        refine wp_region_S (S := fun _ w' => CK W W.heap.size (some ⟨b, off, none⟩) sc ra rc c w') (by kernel_rfl) hS.drew ?_
        refine AllS.next (v := ?_) rfl rfl rfl (by kernel_rfl) ?_ ?_
        rotate_left
        · refine yieldsS_run (fun _ _ h => h) (by rfl) ?_
          intro L wx hS
          go_simp
          try with_reducible rfl
        simp only [Act.put, List.setIfInBounds_toArray, List.set_cons_zero, List.set_cons_succ, List.getElem_toArray, List.getElem_cons_zero]
        refine AllS.next (v := ?_) rfl rfl rfl (by kernel_rfl) ?_ ?_
        rotate_left
        · refine yieldsS_run (fun _ _ h => h) (by rfl) ?_
          intro L wx hS
          obtain ⟨x0, x1, x2, x3, x4, x5, x6, x7⟩ := Cfg.cells hS.blk
          go_simp
          try with_reducible rfl
        simp only [Act.put, List.setIfInBounds_toArray, List.set_cons_zero, List.set_cons_succ, List.getElem_toArray, List.getElem_cons_zero, List.getElem_cons_succ]
        refine AllS.next (v := ?_) rfl rfl rfl (by kernel_rfl) ?_ ?_
        rotate_left
        · refine yieldsS_run (fun _ _ h => h) (by rfl) ?_
          intro L wx hS
          go_simp
          try with_reducible rfl
        simp only [Act.put, List.setIfInBounds_toArray, List.set_cons_zero, List.set_cons_succ, List.getElem_toArray, List.getElem_cons_zero, List.getElem_cons_succ]
        refine AllS.next (v := ?_) rfl rfl rfl (by kernel_rfl) ?_ ?_
        rotate_left
        · refine yieldsS_run (fun _ _ h => h) (by rfl) ?_
          intro L wx hS
          go_simp
          try with_reducible rfl
        simp only [Act.put, List.setIfInBounds_toArray, List.set_cons_zero, List.set_cons_succ, List.getElem_toArray, List.getElem_cons_zero, List.getElem_cons_succ]
        refine AllS.next (v := ?_) rfl rfl rfl (by kernel_rfl) ?_ ?_
        rotate_left
        · refine yieldsS_run (fun _ _ h => h) (by rfl) ?_
          intro L wx hS
          obtain ⟨y0, y1, y2, y3, y4, y5, y6, y7, y8, y9, ya, yb, yc, yd, ye, yf⟩ := hY _ hS.hold
          go_simp
          try with_reducible rfl
        simp only [Act.put, List.setIfInBounds_toArray, List.set_cons_zero, List.set_cons_succ, List.getElem_toArray, List.getElem_cons_zero, List.getElem_cons_succ]
        refine AllS.next (v := .int .i64 (f : Int)) rfl rfl rfl (by kernel_rfl) ?_ ?_
        · refine yieldsS_call (f := 11) (args := #[vSymb ⟨grid, refp, stat, dyn, win, move, lim, pau, ext, mext, col, wid, self, slots, levels, short⟩]) (by rfl) ?_ ?_
          · intro wx
            go_simp
            try with_reducible rfl
          · intro L wx hS
            exact (c1 wx).mono fun e w' h => ⟨h.1, hS.keep h.2⟩
        simp only [Act.put, List.setIfInBounds_toArray, List.set_cons_zero, List.set_cons_succ, List.getElem_toArray, List.getElem_cons_zero, List.getElem_cons_succ]
        refine AllS.next (v := ?_) rfl rfl rfl (by kernel_rfl) ?_ ?_
        rotate_left
        · refine yieldsS_run (fun _ _ h => h) (by rfl) ?_
          intro L wx hS
          go_simp
          try with_reducible rfl
        simp only [Act.put, List.setIfInBounds_toArray, List.set_cons_zero, List.set_cons_succ, List.getElem_toArray, List.getElem_cons_zero, List.getElem_cons_succ]
        refine AllS.next (v := ?_) rfl rfl rfl (by kernel_rfl) ?_ ?_
        rotate_left
        · refine yieldsS_run (fun _ _ h => h) (by rfl) ?_
          intro L wx hS
          obtain ⟨x0, x1, x2, x3, x4, x5, x6, x7⟩ := Cfg.cells hS.blk
          go_simp
          try with_reducible rfl
        simp only [Act.put, List.setIfInBounds_toArray, List.set_cons_zero, List.set_cons_succ, List.getElem_toArray, List.getElem_cons_zero, List.getElem_cons_succ]
        refine AllS.next (v := ?_) rfl rfl rfl (by kernel_rfl) ?_ ?_
        rotate_left
        · refine yieldsS_run (fun _ _ h => h) (by rfl) ?_
          intro L wx hS
          go_simp
          try with_reducible rfl
        simp only [Act.put, List.setIfInBounds_toArray, List.set_cons_zero, List.set_cons_succ, List.getElem_toArray, List.getElem_cons_zero, List.getElem_cons_succ]
        refine AllS.next (v := ?_) rfl rfl rfl (by kernel_rfl) ?_ ?_
        rotate_left
        · refine yieldsS_run (fun _ _ h => h) (by rfl) ?_
          intro L wx hS
          go_simp
          try with_reducible rfl
        simp only [Act.put, List.setIfInBounds_toArray, List.set_cons_zero, List.set_cons_succ, List.getElem_toArray, List.getElem_cons_zero, List.getElem_cons_succ]
        refine AllS.next (v := ?_) rfl rfl rfl (by kernel_rfl) ?_ ?_
        rotate_left
        · refine yieldsS_run (fun _ _ h => h) (by rfl) ?_
          intro L wx hS
          obtain ⟨y0, y1, y2, y3, y4, y5, y6, y7, y8, y9, ya, yb, yc, yd, ye, yf⟩ := hY _ hS.hold
          go_simp
          try with_reducible rfl
        simp only [Act.put, List.setIfInBounds_toArray, List.set_cons_zero, List.set_cons_succ, List.getElem_toArray, List.getElem_cons_zero, List.getElem_cons_succ]
        refine AllS.next (v := .int .i64 (f : Int)) rfl rfl rfl (by kernel_rfl) ?_ ?_
        · refine yieldsS_call (f := 12) (args := #[vSymb ⟨grid, refp, stat, dyn, win, move, lim, pau, ext, mext, col, wid, self, slots, levels, short⟩]) (by rfl) ?_ ?_
          · intro wx
            go_simp
            try with_reducible rfl
          · intro L wx hS
            exact (c2 wx).mono fun e w' h => ⟨h.1, hS.keep h.2⟩
        simp only [Act.put, List.setIfInBounds_toArray, List.set_cons_zero, List.set_cons_succ, List.getElem_toArray, List.getElem_cons_zero, List.getElem_cons_succ]
        refine AllS.next (v := ?_) rfl rfl rfl (by kernel_rfl) ?_ ?_
        rotate_left
        · refine yieldsS_run (fun _ _ h => h) (by rfl) ?_
          intro L wx hS
          go_simp
          try with_reducible rfl
        simp only [Act.put, List.setIfInBounds_toArray, List.set_cons_zero, List.set_cons_succ, List.getElem_toArray, List.getElem_cons_zero, List.getElem_cons_succ]
        refine AllS.next (v := ?_) rfl rfl rfl (by kernel_rfl) ?_ ?_
        rotate_left
        · refine yieldsS_run (fun _ _ h => h) (by rfl) ?_
          intro L wx hS
          go_simp
          try with_reducible rfl
        simp only [Act.put, List.setIfInBounds_toArray, List.set_cons_zero, List.set_cons_succ, List.getElem_toArray, List.getElem_cons_zero, List.getElem_cons_succ]
        refine AllS.next (v := ?_) rfl rfl rfl (by kernel_rfl) ?_ ?_
        rotate_left
        · refine yieldsS_run (fun _ _ h => h) (by rfl) ?_
          intro L wx hS
          go_simp
          try with_reducible rfl
        simp only [Act.put, List.setIfInBounds_toArray, List.set_cons_zero, List.set_cons_succ, List.getElem_toArray, List.getElem_cons_zero, List.getElem_cons_succ]
        refine AllS.next (v := ?_) rfl rfl rfl (by kernel_rfl) ?_ ?_
        rotate_left
        · refine yieldsS_run (fun _ _ h => h) (by rfl) ?_
          intro L wx hS
          obtain ⟨x0, x1, x2, x3, x4, x5, x6, x7⟩ := Cfg.cells hS.blk
          go_simp
          try with_reducible rfl
        simp only [Act.put, List.setIfInBounds_toArray, List.set_cons_zero, List.set_cons_succ, List.getElem_toArray, List.getElem_cons_zero, List.getElem_cons_succ]
        refine AllS.next (v := ?_) rfl rfl rfl (by kernel_rfl) ?_ ?_
        rotate_left
        · refine yieldsS_run (fun _ _ h => h) (by rfl) ?_
          intro L wx hS
          go_simp
          try with_reducible rfl
        simp only [Act.put, List.setIfInBounds_toArray, List.set_cons_zero, List.set_cons_succ, List.getElem_toArray, List.getElem_cons_zero, List.getElem_cons_succ]
        refine AllS.next (v := ?_) rfl rfl rfl (by kernel_rfl) ?_ ?_
        rotate_left
        · refine yieldsS_run (fun _ _ h => h) (by rfl) ?_
          intro L wx hS
          go_simp
          try with_reducible rfl
        simp only [Act.put, List.setIfInBounds_toArray, List.set_cons_zero, List.set_cons_succ, List.getElem_toArray, List.getElem_cons_zero, List.getElem_cons_succ]
        refine AllS.next (v := ?_) rfl rfl rfl (by kernel_rfl) ?_ ?_
        rotate_left
        · refine yieldsS_run (fun _ _ h => h) (by rfl) ?_
          intro L wx hS
          obtain ⟨y0, y1, y2, y3, y4, y5, y6, y7, y8, y9, ya, yb, yc, yd, ye, yf⟩ := hY _ hS.hold
          go_simp
          try with_reducible rfl
        simp only [Act.put, List.setIfInBounds_toArray, List.set_cons_zero, List.set_cons_succ, List.getElem_toArray, List.getElem_cons_zero, List.getElem_cons_succ]
        refine AllS.next (v := .int .i64 g) rfl rfl rfl (by kernel_rfl) ?_ ?_
        · refine yieldsS_call (f := 13) (args := #[vSymb ⟨grid, refp, stat, dyn, win, move, lim, pau, ext, mext, col, wid, self, slots, levels, short⟩]) (by rfl) ?_ ?_
          · intro wx
            go_simp
            try with_reducible rfl
          · intro L wx hS
            exact (c3 wx).mono fun e w' h => ⟨h.1, hS.keep h.2⟩
        simp only [Act.put, List.setIfInBounds_toArray, List.set_cons_zero, List.set_cons_succ, List.getElem_toArray, List.getElem_cons_zero, List.getElem_cons_succ]
        refine AllS.next (v := ?_) rfl rfl rfl (by kernel_rfl) ?_ ?_
        rotate_left
        · refine yieldsS_run (fun _ _ h => h) (by rfl) ?_
          intro L wx hS
          go_simp
          try with_reducible rfl
        simp only [Act.put, List.setIfInBounds_toArray, List.set_cons_zero, List.set_cons_succ, List.getElem_toArray, List.getElem_cons_zero, List.getElem_cons_succ]
        refine AllS.next (v := ?_) rfl rfl rfl (by kernel_rfl) ?_ ?_
        rotate_left
        · refine yieldsS_run (fun _ _ h => h) (by rfl) ?_
          intro L wx hS
          obtain ⟨x0, x1, x2, x3, x4, x5, x6, x7⟩ := Cfg.cells hS.blk
          go_simp
          try with_reducible rfl
        simp only [Act.put, List.setIfInBounds_toArray, List.set_cons_zero, List.set_cons_succ, List.getElem_toArray, List.getElem_cons_zero, List.getElem_cons_succ]
        refine AllS.next (v := ?_) rfl rfl rfl (by kernel_rfl) ?_ ?_
        rotate_left
        · refine yieldsS_run (fun _ _ h => h) (by rfl) ?_
          intro L wx hS
          go_simp
          try with_reducible rfl
        simp only [Act.put, List.setIfInBounds_toArray, List.set_cons_zero, List.set_cons_succ, List.getElem_toArray, List.getElem_cons_zero, List.getElem_cons_succ]
        refine AllS.next (v := ?_) rfl rfl rfl (by kernel_rfl) ?_ ?_
        rotate_left
        · refine yieldsS_run (fun _ _ h => h) (by rfl) ?_
          intro L wx hS
          go_simp
          try with_reducible rfl
        simp only [Act.put, List.setIfInBounds_toArray, List.set_cons_zero, List.set_cons_succ, List.getElem_toArray, List.getElem_cons_zero, List.getElem_cons_succ]
        refine AllS.next (v := ?_) rfl rfl rfl (by kernel_rfl) ?_ ?_
        rotate_left
        · refine yieldsS_run (fun _ _ h => h) (by rfl) ?_
          intro L wx hS
          obtain ⟨y0, y1, y2, y3, y4, y5, y6, y7, y8, y9, ya, yb, yc, yd, ye, yf⟩ := hY _ hS.hold
          go_simp
          try with_reducible rfl
        simp only [Act.put, List.setIfInBounds_toArray, List.set_cons_zero, List.set_cons_succ, List.getElem_toArray, List.getElem_cons_zero, List.getElem_cons_succ]
        refine AllS.next (v := .int .i64 g) rfl rfl rfl (by kernel_rfl) ?_ ?_
        · refine yieldsS_call (f := 14) (args := #[vSymb ⟨grid, refp, stat, dyn, win, move, lim, pau, ext, mext, col, wid, self, slots, levels, short⟩]) (by rfl) ?_ ?_
          · intro wx
            go_simp
            try with_reducible rfl
          · intro L wx hS
            exact (c4 wx).mono fun e w' h => ⟨h.1, hS.keep h.2⟩
        simp only [Act.put, List.setIfInBounds_toArray, List.set_cons_zero, List.set_cons_succ, List.getElem_toArray, List.getElem_cons_zero, List.getElem_cons_succ]
        refine AllS.next (v := ?_) rfl rfl rfl (by kernel_rfl) ?_ ?_
        rotate_left
        · refine yieldsS_run (fun _ _ h => h) (by rfl) ?_
          intro L wx hS
          go_simp
          try with_reducible rfl
        simp only [Act.put, List.setIfInBounds_toArray, List.set_cons_zero, List.set_cons_succ, List.getElem_toArray, List.getElem_cons_zero, List.getElem_cons_succ]
        refine AllS.next (v := ?_) rfl rfl rfl (by kernel_rfl) ?_ ?_
        rotate_left
        · refine yieldsS_run (fun _ _ h => h) (by rfl) ?_
          intro L wx hS
          go_simp
          try with_reducible rfl
        simp only [Act.put, List.setIfInBounds_toArray, List.set_cons_zero, List.set_cons_succ, List.getElem_toArray, List.getElem_cons_zero, List.getElem_cons_succ]
        refine AllS.done rfl ?_
        intro w9 hS9
        go_wp2_with fail
        go_roundg (c.syms.length - (q + 1))
        case measure => omega
        case rel => exact ⟨q + 1, by omega, by go_num, hS9⟩
      · go_wp2_with (go_at_call 8; refine (cA _).mono ?_; rintro e w4 ⟨rfl, hb4⟩)
        go_ret
        exact ⟨rfl, (hS.keep hb4).bel⟩
  · rw [show (decide (c.syms.length ≤ 20) && decide (c.rows.length ≤ 40)) = false by simp; omega] at cL
    clear hl cC cR
    go_enter Try.func3, Try.ntmps3
    obtain ⟨x0, x1, x2, x3, x4, x5, x6, x7⟩ := Cfg.cells hS.blk
    go_wp2_with (first
      | (go_at_call 7; refine (cL _).mono ?_; rintro e w1 ⟨rfl, hb1⟩; replace hS := hS.keep hb1)
      | (go_at_call 8; refine (cA _).mono ?_; rintro e w4 ⟨rfl, hb4⟩))
    go_ret
    exact ⟨rfl, (hS.keep hb4).bel⟩
end Go.Proofs.Ythgegjoigkecpaa
