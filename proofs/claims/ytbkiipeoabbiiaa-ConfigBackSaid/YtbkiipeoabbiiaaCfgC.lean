/-
  The contract of the document's Check.
-/
import Derived.Test.YtbkiipeoabbiiaaCfgK
import Derived.BigQuiet
import Derived.Deep.QuietTactic
import Derived.IntWalk
namespace Go.Proofs.Ytbkiipeoabbiiaa
open Go.RowKit
theorem tail_index {c : Cfg} (h : inK c.index 1 1099511627776 = false) : tailF c = 9 := by unfold tailF; rw [if_pos h]
theorem tail_falls {c : Cfg} (h : fallsB c = false) : tailF c = 9 := by unfold tailF; rw [if_pos h]; split <;> rfl
theorem tail_halts {c : Cfg} (h : haltsB c = false) : tailF c = 9 := by unfold tailF; rw [if_pos h]; split <;> (first | rfl | (split <;> rfl))
theorem tail_ok {c : Cfg} (h1 : inK c.index 1 1099511627776 = true) (h2 : fallsB c = true) (h3 : haltsB c = true) : tailF c = 0 := by
  unfold tailF; rw [h1, h2, h3]; rfl
/-- The Falls up to one. -/
def fallsU (c : Cfg) (q : Int) : Prop := (1 ≤ q → inK c.f0 1 9999 = true) ∧ (2 ≤ q → inK c.f1 1 9999 = true ∧ decide (c.f0 < c.f1) = true) ∧ (3 ≤ q → inK c.f2 1 9999 = true ∧ decide (c.f1 < c.f2) = true)
set_option maxRecDepth 8000 in
set_option maxHeartbeats 4000000 in
theorem refCheck_any (sa : Option Addr) (sc : Nat) (ra : Option Addr) (rc : Nat) (c : Cfg) (W : World) (hH : Holds W sa sc ra rc c) :
    Calls Try.prog 10 #[vCfg sa sc ra rc c] W fun e w' => Checked W w' e (checkF c) := by
  have hb0 := fun o => Below.alK (Below.refl W.heap.size W) o
  have hBox : Blk (W.alloc (.cells (cCfg sa sc ra rc c) 27)) W.heap.size 27 (cCfg sa sc ra rc c) := Blk.new _ _ _
  have l1 := hH.syms.len
  have l2 := hH.syms.top
  have l3 := hH.rows.len
  have l4 := hH.rows.top
  unfold maxLen at l2 l4
  by_cases hn : c.syms.length < 1 ∨ 8 < c.syms.length
  · rw [check_syms hn]
    go_enter Try.func10, Try.ntmps10
    obtain ⟨x0, x1, x2, x3, x4, x5, x6, x7⟩ := Cfg.cells hBox
    clear hH
    go_wp2
    all_goals first
      | (exfalso; omega)
      | (go_ret2; exact ⟨rfl, hb0 _⟩)
  · have hn2 : 1 ≤ c.syms.length ∧ c.syms.length ≤ 8 := by omega
    go_enter Try.func10, Try.ntmps10
    obtain ⟨x0, x1, x2, x3, x4, x5, x6, x7⟩ := Cfg.cells hBox
    go_wp2_with fail
    all_goals first
      | (exfalso; omega)
      | skip
    clear x0 x1 x2 x3 x4 x5 x6 x7
    have keep : ∀ wr, Blk wr W.heap.size 27 (cCfg sa sc ra rc c) ∧ Below W.heap.size W wr → ∀ w', Below wr.heap.size wr w' → Blk w' W.heap.size 27 (cCfg sa sc ra rc c) ∧ Below W.heap.size W w' := fun wr h w' hb => ⟨h.1.below hb h.1.lt, h.2.trans (hb.mono h.2.size)⟩
    go_loopg [4] c.syms.length (fun j p4 wr => ∃ q : Nat, q + j = c.syms.length ∧ p4 = .int .i64 (q : Int) ∧ (Blk wr W.heap.size 27 (cCfg sa sc ra rc c) ∧ Below W.heap.size W wr) ∧ Hid (∀ x ∈ c.syms.take q, symF x = 0))
    case atStart => exact ⟨0, by omega, rfl, ⟨hBox, hb0 _⟩, by simp [Hid]⟩
    case round =>
      obtain ⟨q, hq, rfl, hK, hS⟩ := hrel
      obtain ⟨x0, x1, x2, x3, x4, x5, x6, x7⟩ := Cfg.cells hK.1
      by_cases hj : q < c.syms.length
      · obtain ⟨s, hs⟩ : ∃ s, c.syms[q]? = some s := ⟨c.syms[q], List.getElem?_eq_getElem hj⟩
        obtain ⟨b, off, rfl, y0, y1, y2, y3, y4, y5, y6, y7, y8, y9, ya, yb, yc, yd, ye, yf⟩ := (hH.syms.below hK.2).get hs
        have cS := fun w => refSymbol_any s w
        have tB := fun h : symF s ≠ 0 => check_sym hn2 hs hS.out h
        have tN := fun h : symF s = 0 => syms_next hs hS.out h
        replace y0 : wr.cell? ⟨b, off + q * 16, none⟩ = some (.int .i64 s.grid) := y0
        clear hs hS hH hBox
        generalize symF s = f at cS tB tN
        obtain ⟨grid, refp, stat, dyn, win, move, lim, pau, ext, mext, col, wid, self, slots, levels, short⟩ := s
        simp only at y0 y1 y2 y3 y4 y5 y6 y7 y8 y9 ya yb yc yd ye yf
        by_cases hf : f = 0
        · have tN2 := Lib.hid (tN hf)
          subst hf
          clear tB tN
          replace cS : ∀ w, Calls Try.prog 12 #[vSymb ⟨grid, refp, stat, dyn, win, move, lim, pau, ext, mext, col, wid, self, slots, levels, short⟩] w fun e w' => e = .returned (.int .i64 0) ∧ Below w.heap.size w w' := cS
          go_wp2_with (go_at_call 12; refine (cS _).mono ?_; rintro e w1 ⟨rfl, hb1⟩; have hK1 := keep _ hK _ hb1)
          go_roundg (c.syms.length - (q + 1))
          case measure => omega
          case rel => exact ⟨q + 1, by omega, by go_num, hK1, tN2⟩
        · have tB2 := tB hf
          clear tB tN
          have q1 : ((f : Int) != 0) = true := by simp; omega
          clear hf
          go_wp2_with (go_at_call 12; refine (cS _).mono ?_; rintro e w1 ⟨rfl, hb1⟩; have hK1 := keep _ hK _ hb1)
          go_ret2
          rw [tB2]
          exact ⟨rfl, hK1.2⟩
      · have hqe : q = c.syms.length := by omega
        have hSA := hS.out
        rw [hqe, List.take_length] at hSA
        clear hS hqe
        by_cases hm : c.rows.length < 1 ∨ 20 < c.rows.length
        · have hC := check_rows hn2 hSA hm
          clear hSA hH
          go_wp2
          all_goals first
            | (exfalso; omega)
            | (go_ret2; first | exact ⟨rfl, hK.2⟩ | (rw [hC]; exact ⟨rfl, hK.2⟩))
        · have hm2 : 1 ≤ c.rows.length ∧ c.rows.length ≤ 20 := by omega
          replace hSA := Lib.hid hSA
          go_wp2_with fail
          all_goals first
            | (exfalso; omega)
            | skip
          clear x0 x1 x2 x3 x4 x5 x6 x7
          go_loopg [6] c.rows.length (fun j p6 wr => ∃ q : Nat, q + j = c.rows.length ∧ p6 = .int .i64 (q : Int) ∧ (Blk wr W.heap.size 27 (cCfg sa sc ra rc c) ∧ Below W.heap.size W wr) ∧ Hid ((roF (c.rows.take q) none 0).1 = 0))
          case atStart => exact ⟨0, by omega, rfl, hK, by simp [Hid, roF]⟩
          case round =>
            clear hK hj hq hBox
            obtain ⟨q, hq, rfl, hK, hR⟩ := hrel
            obtain ⟨x0, x1, x2, x3, x4, x5, x6, x7⟩ := Cfg.cells hK.1
            by_cases hj : q < c.rows.length
            · obtain ⟨r, hr⟩ : ∃ r, c.rows[q]? = some r := ⟨c.rows[q], List.getElem?_eq_getElem hj⟩
              have hRow := hH.rows.below hK.2
              obtain ⟨b, off, rfl, y0, y1⟩ := hRow.get hr
              replace y0 : wr.cell? ⟨b, off + q * 2, none⟩ = some (.int .i64 r.tick) := y0
              have cT : ∀ n, Calls Try.prog 26 #[.int .i64 r.tick, .int .i64 0, .int .i64 1125899906842624] (wr.drewN n) fun e w' => e = .returned (.bool (inK r.tick 0 1125899906842624)) ∧ w' = wr.drewN n := fun n => (inK_any _ _ _ _).mono fun e w' h => ⟨h.1, h.2.symm⟩
              have cP := fun w => inK_any r.phase 0 2 w
              cases hT : inK r.tick 0 1125899906842624 with
              | false =>
                have tB := check_row hn2 hSA.out hm2 hr hR.out (f := 9) (by unfold rowF; rw [if_pos (.inl hT)]) (by decide)
                rw [hT] at cT
                clear hT hr hR hSA hH cP hm2 hn2
                obtain ⟨tick, phase⟩ := r
                go_wp2_with fail
                go_quiet ((go_at_call 26; exact (cT _).mono fun e w' h => ⟨h.1, _, h.2⟩))
                go_wp2_with fail
                go_ret2
                rw [tB]
                exact ⟨rfl, Below.drewN hK.2 _⟩
              | true =>
                rw [hT] at cT
                by_cases hq0 : q = 0
                · have hgood : ¬ (inK r.tick 0 1125899906842624 = false ∨ rowL (aheadT c.rows q) r = true) := by rw [hT, hq0]; simp [aheadT, rowL]
                  have hd : decide ((0 : Int) < (q : Int)) = false := by simp; omega
                  have hd2 : decide (0 < q) = false := by simp; omega
                  have hd3 : ¬ (0 < q) := by omega
                  clear hq0
                  clear hT
                  cases hP : inK r.phase 0 2 with
                  | false =>
                    have tB := check_row hn2 hSA.out hm2 hr hR.out (f := 10) (by unfold rowF; rw [if_neg hgood, if_pos hP]) (by decide)
                    rw [hP] at cP
                    clear hP hgood hr hR hSA hH hm2 hn2
                    obtain ⟨tick, phase⟩ := r
                    go_wp2_with fail
                    go_quiet ((go_at_call 26; exact (cT _).mono fun e w' h => ⟨h.1, _, h.2⟩))
                    go_wp2_with (go_at_call 26; refine (cP _).mono ?_; rintro e w1 ⟨rfl, rfl⟩)
                    go_ret2
                    rw [tB]
                    exact ⟨rfl, Below.drewN hK.2 _⟩
                  | true =>
                    have tN := Lib.hid (roF_next hr hR.out (by unfold rowF; rw [if_neg hgood, if_neg (by rw [hP]; decide)]))
                    rw [hP] at cP
                    clear hP hgood hr hR hH hm2 hn2
                    obtain ⟨tick, phase⟩ := r
                    go_wp2_with fail
                    go_quiet ((go_at_call 26; exact (cT _).mono fun e w' h => ⟨h.1, _, h.2⟩))
                    go_wp2_with (go_at_call 26; refine (cP _).mono ?_; rintro e w1 ⟨rfl, rfl⟩)
                    go_roundg (c.rows.length - (q + 1))
                    case measure => omega
                    case rel => exact ⟨q + 1, by omega, by go_num, ⟨hK.1, Below.drewN hK.2 _⟩, tN⟩
                · obtain ⟨u, hu⟩ : ∃ u, q = u + 1 := ⟨q - 1, by omega⟩
                  obtain ⟨p, hp⟩ : ∃ p, c.rows[u]? = some p := ⟨c.rows[u], List.getElem?_eq_getElem (by omega)⟩
                  obtain ⟨b', off', hba, z0, z1⟩ := hRow.get hp
                  cases hba
                  have hah : aheadT c.rows q = some p.tick := by rw [hu]; show (c.rows[u]?).map (·.tick) = _; rw [hp]; rfl
                  have hd : decide ((0 : Int) < (q : Int)) = true := by simp; omega
                  replace z0 : wr.cell? ⟨b, off + u * 2, none⟩ = some (.int .i64 p.tick) := z0
                  have hul : u < c.rows.length := by omega
                  have hw : IntKind.i64.wrap ((q : Int) - 1) = (u : Int) := by rw [hu, IntWalk.i64_in _ (by omega)]; omega
                  have hL := IntWalk.i64_in (r.tick) (by have := (inK_true.1 hT); omega)
                  have hd2 : decide (0 < q) = true := by simp; omega
                  have hd3 : 0 < q := by omega
                  have hrowL : rowL (aheadT c.rows q) r = decide (r.tick ≤ p.tick) := by rw [hah]; rfl
                  cases hL2 : decide (r.tick ≤ p.tick) with
                  | true =>
                    have tB := check_row hn2 hSA.out hm2 hr hR.out (f := 9) (by unfold rowF; rw [if_pos (.inr (by rw [hrowL, hL2]))]) (by decide)
                    clear hu hq0 hT hr hR hSA hH cP hm2 hn2 hRow hp hah z1 hL hrowL
                    obtain ⟨tick, phase⟩ := r
                    obtain ⟨ptick, pphase⟩ := p
                    simp only at *
                    go_wp2_with fail
                    go_quiet ((go_at_call 26; exact (cT _).mono fun e w' h => ⟨h.1, _, h.2⟩))
                    go_wp2_with fail
                    go_ret2
                    rw [tB]
                    exact ⟨rfl, Below.drewN hK.2 _⟩
                  | false =>
                    have hgood : ¬ (inK r.tick 0 1125899906842624 = false ∨ rowL (aheadT c.rows q) r = true) := by rw [hT, hrowL, hL2]; simp
                    cases hP : inK r.phase 0 2 with
                    | false =>
                      have tB := check_row hn2 hSA.out hm2 hr hR.out (f := 10) (by unfold rowF; rw [if_neg hgood, if_pos hP]) (by decide)
                      rw [hP] at cP
                      clear hu hq0 hT hr hR hSA hH hm2 hn2 hRow hp hah z1 hL hrowL hgood hP
                      obtain ⟨tick, phase⟩ := r
                      obtain ⟨ptick, pphase⟩ := p
                      simp only at *
                      go_wp2_with fail
                      go_quiet ((go_at_call 26; exact (cT _).mono fun e w' h => ⟨h.1, _, h.2⟩))
                      go_wp2_with (go_at_call 26; refine (cP _).mono ?_; rintro e w1 ⟨rfl, rfl⟩)
                      go_ret2
                      rw [tB]
                      exact ⟨rfl, Below.drewN hK.2 _⟩
                    | true =>
                      have tN := Lib.hid (roF_next hr hR.out (by unfold rowF; rw [if_neg hgood, if_neg (by rw [hP]; decide)]))
                      rw [hP] at cP
                      clear hu hq0 hT hr hR hH hm2 hn2 hRow hp hah z1 hL hrowL hgood hP hSA
                      obtain ⟨tick, phase⟩ := r
                      obtain ⟨ptick, pphase⟩ := p
                      simp only at *
                      go_wp2_with fail
                      go_quiet ((go_at_call 26; exact (cT _).mono fun e w' h => ⟨h.1, _, h.2⟩))
                      go_wp2_with (go_at_call 26; refine (cP _).mono ?_; rintro e w1 ⟨rfl, rfl⟩)
                      go_roundg (c.rows.length - (q + 1))
                      case measure => omega
                      case rel => exact ⟨q + 1, by omega, by go_num, ⟨hK.1, Below.drewN hK.2 _⟩, tN⟩
            · have hqe : q = c.rows.length := by omega
              have hRA := hR.out
              rw [hqe, List.take_length] at hRA
              have hC := Lib.hid (check_tail hn2 hSA.out hm2 hRA)
              clear hRA hqe hR hSA hH hm2 hn2
              have hC9 : tailF c = 9 → checkF c = (9, 0) := fun h => by rw [hC.out, h]
              have hC0 : tailF c = 0 → checkF c = (0, 0) := fun h => by rw [hC.out, h]
              have cI := fun w => inK_any c.index 1 1099511627776 w
              cases hI : inK c.index 1 1099511627776 with
              | false =>
                rw [hI] at cI
                have hbad := Lib.hid (hC9 (tail_index hI))
                clear hI hC hC9 hC0
                go_wp2_with (go_at_call 26; refine (cI _).mono ?_; rintro e w1 ⟨rfl, rfl⟩)
                go_ret2
                rw [hbad.out]
                exact ⟨rfl, hK.2⟩
              | true =>
                rw [hI] at cI
                clear hC
                go_wp2_with (go_at_call 26; refine (cI _).mono ?_; rintro e w1 ⟨rfl, rfl⟩)
                clear x0 x1 x2 x3 x4 x5 x6 x7 cI
                go_loopg [7] 3 (fun j p7 wr => ∃ z : Int, (0 ≤ z ∧ z + j = 3) ∧ p7 = .int .i64 z ∧ (Blk wr W.heap.size 27 (cCfg sa sc ra rc c) ∧ Below W.heap.size W wr) ∧ Hid (fallsU c z))
                case atStart => exact ⟨0, ⟨by omega, by omega⟩, rfl, hK, Lib.hid ⟨fun h => absurd h (by decide), fun h => absurd h (by decide), fun h => absurd h (by decide)⟩⟩
                case round =>
                  clear hK hj hq
                  obtain ⟨z, hz, rfl, hK, hU⟩ := hrel
                  obtain ⟨x0, x1, x2, x3, x4, x5, x6, x7⟩ := Cfg.cells hK.1
                  have h4 : z = 0 ∨ z = 1 ∨ z = 2 ∨ z = 3 := by omega
                  rcases h4 with h4 | h4 | h4 | h4
                  · obtain rfl : z = 0 := by omega
                    have cF : ∀ n, Calls Try.prog 26 #[.int .i64 c.f0, .int .i64 1, .int .i64 9999] (wr.drewN n) fun e w' => e = .returned (.bool (inK c.f0 1 9999)) ∧ w' = wr.drewN n := fun n => (inK_any _ _ _ _).mono fun e w' h => ⟨h.1, h.2.symm⟩
                    cases hb : inK c.f0 1 9999 with
                    | false =>
                      rw [hb] at cF
                      have hbad := Lib.hid (hC9 (tail_falls (by unfold fallsB; rw [hb]; simp)))
                      clear hb hC9 hC0 hU
                      go_wp2_with fail
                      go_quiet ((go_at_call 26; exact (cF _).mono fun e w' h => ⟨h.1, _, h.2⟩))
                      go_wp2_with fail
                      go_ret2
                      rw [hbad.out]
                      exact ⟨rfl, Below.drewN hK.2 _⟩
                    | true =>
                      rw [hb] at cF
                      have hn := Lib.hid (show fallsU c 1 from ⟨fun _ => hb, fun h => absurd h (by decide), fun h => absurd h (by decide)⟩)
                      clear hb hC9 hC0 hU
                      go_wp2_with fail
                      go_quiet ((go_at_call 26; exact (cF _).mono fun e w' h => ⟨h.1, _, h.2⟩))
                      go_wp2_with fail
                      go_roundg 2
                      case measure => omega
                      case rel => exact ⟨1, ⟨by omega, by omega⟩, rfl, ⟨hK.1, Below.drewN hK.2 _⟩, hn⟩
                  · obtain rfl : z = 1 := by omega
                    have cF : ∀ n, Calls Try.prog 26 #[.int .i64 c.f1, .int .i64 1, .int .i64 9999] (wr.drewN n) fun e w' => e = .returned (.bool (inK c.f1 1 9999)) ∧ w' = wr.drewN n := fun n => (inK_any _ _ _ _).mono fun e w' h => ⟨h.1, h.2.symm⟩
                    cases hb : inK c.f1 1 9999 with
                    | false =>
                      rw [hb] at cF
                      have hbad := Lib.hid (hC9 (tail_falls (by unfold fallsB; rw [hb]; simp)))
                      clear hb hC9 hC0 hU
                      go_wp2_with fail
                      go_quiet ((go_at_call 26; exact (cF _).mono fun e w' h => ⟨h.1, _, h.2⟩))
                      go_wp2_with fail
                      go_ret2
                      rw [hbad.out]
                      exact ⟨rfl, Below.drewN hK.2 _⟩
                    | true =>
                      rw [hb] at cF
                      cases hl : decide (c.f0 < c.f1) with
                      | false =>
                        have hle : decide (c.f1 ≤ c.f0) = true := by simp at hl ⊢; exact hl
                        have hbad := Lib.hid (hC9 (tail_falls (by unfold fallsB; rw [hl]; simp)))
                        clear hb hC9 hC0 hU hl
                        go_wp2_with fail
                        go_quiet ((go_at_call 26; exact (cF _).mono fun e w' h => ⟨h.1, _, h.2⟩))
                        go_wp2_with fail
                        go_ret2
                        rw [hbad.out]
                        exact ⟨rfl, Below.drewN hK.2 _⟩
                      | true =>
                        have hle : decide (c.f1 ≤ c.f0) = false := by simp at hl ⊢; exact hl
                        have hn := Lib.hid (show fallsU c 2 from ⟨fun _ => hU.out.1 (by decide), fun _ => ⟨hb, hl⟩, fun h => absurd h (by decide)⟩)
                        clear hb hC9 hC0 hU hl
                        go_wp2_with fail
                        go_quiet ((go_at_call 26; exact (cF _).mono fun e w' h => ⟨h.1, _, h.2⟩))
                        go_wp2_with fail
                        go_roundg 1
                        case measure => omega
                        case rel => exact ⟨2, ⟨by omega, by omega⟩, rfl, ⟨hK.1, Below.drewN hK.2 _⟩, hn⟩
                  · obtain rfl : z = 2 := by omega
                    have cF : ∀ n, Calls Try.prog 26 #[.int .i64 c.f2, .int .i64 1, .int .i64 9999] (wr.drewN n) fun e w' => e = .returned (.bool (inK c.f2 1 9999)) ∧ w' = wr.drewN n := fun n => (inK_any _ _ _ _).mono fun e w' h => ⟨h.1, h.2.symm⟩
                    cases hb : inK c.f2 1 9999 with
                    | false =>
                      rw [hb] at cF
                      have hbad := Lib.hid (hC9 (tail_falls (by unfold fallsB; rw [hb]; simp)))
                      clear hb hC9 hC0 hU
                      go_wp2_with fail
                      go_quiet ((go_at_call 26; exact (cF _).mono fun e w' h => ⟨h.1, _, h.2⟩))
                      go_wp2_with fail
                      go_ret2
                      rw [hbad.out]
                      exact ⟨rfl, Below.drewN hK.2 _⟩
                    | true =>
                      rw [hb] at cF
                      cases hl : decide (c.f1 < c.f2) with
                      | false =>
                        have hle : decide (c.f2 ≤ c.f1) = true := by simp at hl ⊢; exact hl
                        have hbad := Lib.hid (hC9 (tail_falls (by unfold fallsB; rw [hl]; simp)))
                        clear hb hC9 hC0 hU hl
                        go_wp2_with fail
                        go_quiet ((go_at_call 26; exact (cF _).mono fun e w' h => ⟨h.1, _, h.2⟩))
                        go_wp2_with fail
                        go_ret2
                        rw [hbad.out]
                        exact ⟨rfl, Below.drewN hK.2 _⟩
                      | true =>
                        have hle : decide (c.f2 ≤ c.f1) = false := by simp at hl ⊢; exact hl
                        have hn := Lib.hid (show fallsU c 3 from ⟨fun _ => hU.out.1 (by decide), fun _ => hU.out.2.1 (by decide), fun _ => ⟨hb, hl⟩⟩)
                        clear hb hC9 hC0 hU hl
                        go_wp2_with fail
                        go_quiet ((go_at_call 26; exact (cF _).mono fun e w' h => ⟨h.1, _, h.2⟩))
                        go_wp2_with fail
                        go_roundg 0
                        case measure => omega
                        case rel => exact ⟨3, ⟨by omega, by omega⟩, rfl, ⟨hK.1, Below.drewN hK.2 _⟩, hn⟩
                  · obtain rfl : z = 3 := by omega
                    have hfal : fallsB c = true := by
                      obtain ⟨u1, u2, u3⟩ := hU.out
                      unfold fallsB
                      rw [u1 (by decide), (u2 (by decide)).1, (u2 (by decide)).2, (u3 (by decide)).1, (u3 (by decide)).2]
                      rfl
                    have cA := fun w => ticks_any c.h0 w
                    have cB := fun w => ticks_any c.h1 w
                    have hC9' : haltsB c = false → Hid (checkF c = (9, 0)) := fun h => Lib.hid (hC9 (tail_halts h))
                    have hC0' : haltsB c = true → Hid (checkF c = (0, 0)) := fun h => Lib.hid (hC0 (tail_ok hI hfal h))
                    unfold haltsB at hC9' hC0'
                    clear hC9 hC0 hU hI hfal
                    generalize inK c.h0 1 1099511627776 = k0 at *
                    generalize inK c.h1 1 1099511627776 = k1 at *
                    cases k0 with
                    | false =>
                      have hh := hC9' rfl
                      clear hC9' hC0'
                      go_wp2_with (go_at_call 27; (with_reducible refine (cA _).mono ?_); rintro e w1 ⟨rfl, rfl⟩)
                      go_ret2
                      rw [hh.out]
                      exact ⟨rfl, hK.2⟩
                    | true =>
                      cases k1 with
                      | false =>
                        have hh := hC9' rfl
                        clear hC9' hC0'
                        go_wp2_with (first
                          | (go_at_call 27; (with_reducible refine (cA _).mono ?_); rintro e w1 ⟨rfl, rfl⟩)
                          | (go_at_call 27; (with_reducible refine (cB _).mono ?_); rintro e w1 ⟨rfl, rfl⟩))
                        go_ret2
                        rw [hh.out]
                        exact ⟨rfl, hK.2⟩
                      | true =>
                        have hh := hC0' rfl
                        clear hC9' hC0'
                        go_wp2_with (first
                          | (go_at_call 27; (with_reducible refine (cA _).mono ?_); rintro e w1 ⟨rfl, rfl⟩)
                          | (go_at_call 27; (with_reducible refine (cB _).mono ?_); rintro e w1 ⟨rfl, rfl⟩))
                        go_ret2
                        rw [hh.out]
                        exact ⟨rfl, hK.2⟩
end Go.Proofs.Ytbkiipeoabbiiaa
