/-
  The contract of the document's Same of configurations.
-/
import Derived.Test.YtbkiipeoabbiiaaCfgF
namespace Go.Proofs.Ytbkiipeoabbiiaa
open Go.RowKit
set_option maxRecDepth 8000 in
set_option maxHeartbeats 4000000 in
theorem rcsame_any (sa : Option Addr) (sc : Nat) (ra : Option Addr) (rc : Nat) (c : Cfg) (ta : Option Addr) (tc : Nat) (ua : Option Addr) (uc : Nat) (d : Cfg) (W : World) (hH : Holds W sa sc ra rc c) (hG : Holds W ta tc ua uc d) :
    Calls Try.prog 19 #[vCfg sa sc ra rc c, vCfg ta tc ua uc d] W fun e w' => e = .returned (.bool (sameC c d)) ∧ Below W.heap.size W w' := by
  have m0 := ((Mem.start W).new 27 (cCfg sa sc ra rc c)).new' 27 (cCfg ta tc ua uc d) (n := W.heap.size + 1) (by simp)
  have hF := fun w => neq_Falls c.f0 c.f1 c.f2 d.f0 d.f1 d.f2 w
  have hH2 := fun w => neq_Halts c.h0 c.h1 d.h0 d.h1 w
  have l1 := hH.syms.len
  have l2 := hH.syms.top
  have l3 := hH.rows.len
  have l4 := hH.rows.top
  have l5 := hG.syms.len
  have l6 := hG.syms.top
  have l7 := hG.rows.len
  have l8 := hG.rows.top
  unfold maxLen at l2 l4 l6 l8
  have b0 := m0.below
  have hx := (m0.blk W.heap.size _ _ (by simp : (W.heap.size, 27, cCfg sa sc ra rc c) ∈ _))
  have hy := (m0.blk (W.heap.size + 1) _ _ (by simp : (W.heap.size + 1, 27, cCfg ta tc ua uc d) ∈ _))
  obtain ⟨x0, x1, x2, x3, x4, x5, x6, x7⟩ := Cfg.cells hx
  obtain ⟨y0, y1, y2, y3, y4, y5, y6, y7⟩ := Cfg.cells hy
  clear m0
  by_cases hc : c.syms.length = d.syms.length ∧ c.rows.length = d.rows.length ∧ c.index = d.index ∧ eqF c d = true ∧ eqH c d = true
  · obtain ⟨hc1, hc2, hc3, hc4, hc5⟩ := hc
    have hval : sameC c d = (decide (c.syms = d.syms) && decide (c.rows = d.rows)) := by
      unfold sameC
      rw [hc4, hc5, hc3]
      simp
    rw [hval]
    unfold eqF at hc4
    unfold eqH at hc5
    rw [hc4] at hF
    rw [hc5] at hH2
    have g1 : c.syms.length ≤ d.syms.length := by omega
    have g2 : d.syms.length ≤ c.syms.length := by omega
    have g3 : c.rows.length ≤ d.rows.length := by omega
    have g4 : d.rows.length ≤ c.rows.length := by omega
    have g5 : c.index ≤ d.index := by omega
    have g6 : d.index ≤ c.index := by omega
    have keep : ∀ w' w, (Blk w W.heap.size 27 (cCfg sa sc ra rc c) ∧ Blk w (W.heap.size + 1) 27 (cCfg ta tc ua uc d) ∧ Below W.heap.size W w) → Below w.heap.size w w' → (Blk w' W.heap.size 27 (cCfg sa sc ra rc c) ∧ Blk w' (W.heap.size + 1) 27 (cCfg ta tc ua uc d) ∧ Below W.heap.size W w') := fun w' w h hb => ⟨h.1.below hb h.1.lt, h.2.1.below hb h.2.1.lt, h.2.2.trans (hb.mono h.2.2.size)⟩
    clear hc1 hc2 hc3 hc4 hc5 hval
    go_enter Try.func19, Try.ntmps19
    go_wp2_with fail
    all_goals first
      | (exfalso; omega)
      | skip
    clear x0 x1 x2 x3 x4 x5 x6 x7 y0 y1 y2 y3 y4 y5 y6 y7 hF hH2
    go_loopg [5] c.syms.length (fun j p5 wr => ∃ q : Nat, q + j = c.syms.length ∧ p5 = .int .i64 (q : Int) ∧ (Blk wr W.heap.size 27 (cCfg sa sc ra rc c) ∧ Blk wr (W.heap.size + 1) 27 (cCfg ta tc ua uc d) ∧ Below W.heap.size W wr) ∧ Hid (c.syms.take q = d.syms.take q))
    case atStart => exact ⟨0, by omega, rfl, ⟨hx, hy, b0⟩, by simp [Hid]⟩
    case round =>
      clear hx hy b0
      obtain ⟨q, hq, rfl, hK, ht⟩ := hrel
      obtain ⟨x0, x1, x2, x3, x4, x5, x6, x7⟩ := Cfg.cells hK.1
      obtain ⟨y0, y1, y2, y3, y4, y5, y6, y7⟩ := Cfg.cells hK.2.1
      by_cases hj : q < c.syms.length
      · obtain ⟨x, hxs⟩ : ∃ x, c.syms[q]? = some x := ⟨c.syms[q], List.getElem?_eq_getElem hj⟩
        obtain ⟨y, hys⟩ : ∃ x, d.syms[q]? = some x := ⟨d.syms[q]'(by omega), List.getElem?_eq_getElem (by omega)⟩
        obtain ⟨b1, off1, rfl, u0, u1, u2, u3, u4, u5, u6, u7, u8, u9, ua', ub, uc', ud, ue, uf⟩ := (hH.syms.below hK.2.2).get hxs
        obtain ⟨b2, off2, rfl, v0, v1, v2, v3, v4, v5, v6, v7, v8, v9, va, vb, vc, vd, ve, vf⟩ := (hG.syms.below hK.2.2).get hys
        replace u0 : wr.cell? ⟨b1, off1 + q * 16, none⟩ = some (.int .i64 x.grid) := u0
        replace v0 : wr.cell? ⟨b2, off2 + q * 16, none⟩ = some (.int .i64 y.grid) := v0
        have hE := fun w => neq_Symb x y w
        have t1 := fun e => take_ne_of hxs hys e
        have t2 := fun e => take_eq_of hxs hys e ht.out
        have hj2 : q < d.syms.length := by omega
        clear hxs hys hH hG
        cases he : eqSymb x y with
        | true =>
          have ht2 := Lib.hid (t2 (eqSymb_true.1 he))
          rw [he] at hE
          clear t1 t2 he ht
          obtain ⟨e0, e1, e2, e3, e4, e5, e6, e7, e8, e9, ea, eb, ec, ed, ee, ef⟩ := x
          obtain ⟨d0, d1, d2, d3, d4, d5, d6, d7, d8, d9, da, db, dc, dd, de, df⟩ := y
          simp only [vSymb, cSymb, Bool.not_true] at hE
          go_wp2_with fail
          go_quiet (fail)
          go_wp2_with fail
          go_roundg (c.syms.length - (q + 1))
          case measure => omega
          case rel => exact ⟨q + 1, by omega, by go_num, ⟨hK.1, hK.2.1, Below.drewN hK.2.2 _⟩, ht2⟩
        | false =>
          have hne := Lib.hid (t1 (fun e => by rw [e, eqSymb_self] at he; cases he))
          rw [he] at hE
          clear t1 t2 he ht
          obtain ⟨e0, e1, e2, e3, e4, e5, e6, e7, e8, e9, ea, eb, ec, ed, ee, ef⟩ := x
          obtain ⟨d0, d1, d2, d3, d4, d5, d6, d7, d8, d9, da, db, dc, dd, de, df⟩ := y
          simp only [vSymb, cSymb, Bool.not_false] at hE
          go_wp2_with fail
          go_quiet (fail)
          go_wp2_with fail
          go_ret
          exact ⟨by rw [decide_eq_false hne.out]; rfl, Below.drewN hK.2.2 _⟩
      · have hqe : q = c.syms.length := by omega
        have hall : c.syms = d.syms := by
          have h2 := ht.out
          rw [List.take_of_length_le (by omega), List.take_of_length_le (by omega)] at h2
          exact h2
        replace hall := Lib.hid hall
        have hjd : ¬ q < d.syms.length := by omega
        clear hqe ht
        go_wp2_with fail
        clear x0 x1 x2 x3 x4 x5 x6 x7 y0 y1 y2 y3 y4 y5 y6 y7
        go_loopg [6] c.rows.length (fun j p6 wr => ∃ q : Nat, q + j = c.rows.length ∧ p6 = .int .i64 (q : Int) ∧ (Blk wr W.heap.size 27 (cCfg sa sc ra rc c) ∧ Blk wr (W.heap.size + 1) 27 (cCfg ta tc ua uc d) ∧ Below W.heap.size W wr) ∧ Hid (c.rows.take q = d.rows.take q))
        case atStart => exact ⟨0, by omega, rfl, hK, by simp [Hid]⟩
        case round =>
          clear hK hj hq
          obtain ⟨q, hq, rfl, hK, ht⟩ := hrel
          obtain ⟨x0, x1, x2, x3, x4, x5, x6, x7⟩ := Cfg.cells hK.1
          obtain ⟨y0, y1, y2, y3, y4, y5, y6, y7⟩ := Cfg.cells hK.2.1
          by_cases hj : q < c.rows.length
          · obtain ⟨x, hxs⟩ : ∃ x, c.rows[q]? = some x := ⟨c.rows[q], List.getElem?_eq_getElem hj⟩
            obtain ⟨y, hys⟩ : ∃ x, d.rows[q]? = some x := ⟨d.rows[q]'(by omega), List.getElem?_eq_getElem (by omega)⟩
            obtain ⟨b1, off1, rfl, u0, u1⟩ := (hH.rows.below hK.2.2).get hxs
            obtain ⟨b2, off2, rfl, v0, v1⟩ := (hG.rows.below hK.2.2).get hys
            replace u0 : wr.cell? ⟨b1, off1 + q * 2, none⟩ = some (.int .i64 x.tick) := u0
            replace v0 : wr.cell? ⟨b2, off2 + q * 2, none⟩ = some (.int .i64 y.tick) := v0
            have hE := fun w => neq_Rowp x y w
            have t1 := fun e => take_ne_of hxs hys e
            have t2 := fun e => take_eq_of hxs hys e ht.out
            have hj2 : q < d.rows.length := by omega
            clear hxs hys hH hG
            cases he : eqRowp x y with
            | true =>
              have ht2 := Lib.hid (t2 (eqRowp_true.1 he))
              rw [he] at hE
              clear t1 t2 he ht
              obtain ⟨e0, e1⟩ := x
              obtain ⟨d0, d1⟩ := y
              simp only [vRowp, cRowp, Bool.not_true] at hE
              go_wp2_with fail
              go_quiet (fail)
              go_wp2_with fail
              go_roundg (c.rows.length - (q + 1))
              case measure => omega
              case rel => exact ⟨q + 1, by omega, by go_num, ⟨hK.1, hK.2.1, Below.drewN hK.2.2 _⟩, ht2⟩
            | false =>
              have hne := Lib.hid (t1 (fun e => by rw [e, eqRowp_self] at he; cases he))
              rw [he] at hE
              clear t1 t2 he ht
              obtain ⟨e0, e1⟩ := x
              obtain ⟨d0, d1⟩ := y
              simp only [vRowp, cRowp, Bool.not_false] at hE
              go_wp2_with fail
              go_quiet (fail)
              go_wp2_with fail
              go_ret
              exact ⟨by rw [decide_eq_true hall.out, decide_eq_false hne.out]; rfl, Below.drewN hK.2.2 _⟩
          · have hall2 : c.rows = d.rows := by
              have h2 := ht.out
              rw [List.take_of_length_le (by omega), List.take_of_length_le (by omega)] at h2
              exact h2
            replace hall2 := Lib.hid hall2
            clear ht
            go_wp2_with fail
            go_ret
            exact ⟨by rw [decide_eq_true hall.out, decide_eq_true hall2.out]; rfl, hK.2.2⟩
  · have hval : sameC c d = false := by
      rw [Bool.eq_false_iff]
      intro e
      rw [sameC_true] at e
      subst e
      exact hc ⟨rfl, rfl, rfl, by simp [eqF], by simp [eqH]⟩
    rw [hval]
    have hc' : ¬ (c.syms.length = d.syms.length ∧ c.rows.length = d.rows.length ∧ c.index = d.index ∧ (c.f0 == d.f0 && (c.f1 == d.f1 && c.f2 == d.f2)) = true ∧ (c.h0 == d.h0 && c.h1 == d.h1) = true) := hc
    clear hc hval hx hy
    generalize (c.f0 == d.f0 && (c.f1 == d.f1 && c.f2 == d.f2)) = k4 at hF hc'
    generalize (c.h0 == d.h0 && c.h1 == d.h1) = k5 at hH2 hc'
    have hfin : k4 = true → k5 = true → c.syms.length ≤ d.syms.length → d.syms.length ≤ c.syms.length → c.rows.length ≤ d.rows.length → d.rows.length ≤ c.rows.length → c.index ≤ d.index → d.index ≤ c.index → False := fun h1 h2 h3 h4 h5 h6 h7 h8 => hc' ⟨by omega, by omega, by omega, h1, h2⟩
    clear hc'
    have hfin2 := Lib.hid hfin
    clear hfin
    cases k4 <;> cases k5
    all_goals (
      go_enter Try.func19, Try.ntmps19
      go_wp2_with fail)
    all_goals first
      | (go_ret; exact ⟨rfl, b0⟩)
      | (exfalso; omega)
      | (exfalso; exact hfin2.out (by trivial) (by trivial) (by omega) (by omega) (by omega) (by omega) (by omega) (by omega))
end Go.Proofs.Ytbkiipeoabbiiaa
