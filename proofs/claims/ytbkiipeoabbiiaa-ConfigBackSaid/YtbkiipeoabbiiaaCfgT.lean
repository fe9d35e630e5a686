/-
  The contract of package config's Check.
-/
import Derived.Test.YtbkiipeoabbiiaaCfgQ
import Derived.Test.YtbkiipeoabbiiaaCfgR
import Derived.Test.YtbkiipeoabbiiaaCfgK
namespace Go.Proofs.Ytbkiipeoabbiiaa
open Go.RowKit
def earlyT (p : Option Int) : Int := match p with
  | none => 0
  | some t => t + 1
theorem rowE_F (p : Option Int) (r : Rowp) (h : ∀ t, p = some t → 0 ≤ t) : rowE (earlyT p) r = rowF p r := by
  unfold rowE rowF allK earlyT rowL
  cases p with
  | none => simp only [List.all_cons, List.all_nil, Bool.and_true]; cases inK r.tick 0 1125899906842624 <;> cases inK r.phase 0 2 <;> rfl
  | some t =>
    have ht := h t rfl
    simp only [List.all_cons, List.all_nil, Bool.and_true]
    by_cases h1 : r.tick ≤ t
    · have e1 : inK r.tick (t + 1) 1125899906842624 = false := by unfold inK; simp; omega
      simp [e1, h1]
    · have e1 : inK r.tick (t + 1) 1125899906842624 = inK r.tick 0 1125899906842624 := by
        unfold inK
        have : decide (t + 1 ≤ r.tick) = true := by simp; omega
        rw [this]
        have : decide (0 ≤ r.tick) = true := by simp; omega
        rw [this]
      simp only [e1, decide_eq_false h1]
      cases inK r.tick 0 1125899906842624 <;> cases inK r.phase 0 2 <;> simp
theorem ahead_nonneg {l : List Rowp} {q : Nat} (h : (roF (l.take q) none 0).1 = 0) : ∀ t, aheadT l q = some t → 0 ≤ t := by
  intro t ht
  cases q with
  | zero => cases ht
  | succ q =>
    simp only [aheadT, Option.map_eq_some_iff] at ht
    obtain ⟨x, hx, rfl⟩ := ht
    exact (roF_range _ _ _ h x (List.mem_of_getElem? (l := l.take (q + 1)) (i := q) (by rw [List.getElem?_take_of_lt (by omega)]; exact hx))).1.1
theorem ahead_next {l : List Rowp} {q : Nat} {r : Rowp} (h : l[q]? = some r) : earlyT (aheadT l (q + 1)) = r.tick + 1 := by
  simp only [aheadT, h, Option.map_some, earlyT]
theorem roF_tick {l : List Rowp} {q : Nat} {r : Rowp} (hr : l[q]? = some r) (h : (roF (l.take (q + 1)) none 0).1 = 0) : 0 ≤ r.tick ∧ r.tick ≤ 1125899906842624 :=
  (roF_range _ _ _ h r (List.mem_of_getElem? (l := l.take (q + 1)) (i := q) (by rw [List.getElem?_take_of_lt (by omega)]; exact hr))).1
theorem len_allK (m : Int) (n : Nat) : allK 1 m [(n : Int)] = decide (1 ≤ n ∧ (n : Int) ≤ m) := by
  unfold allK inK
  simp
  have : (1 ≤ (n : Int)) ↔ 1 ≤ n := by omega
  simp [this]
set_option maxRecDepth 8000 in
set_option maxHeartbeats 4000000 in
theorem check_any (sa : Option Addr) (sc : Nat) (ra : Option Addr) (rc : Nat) (c : Cfg) (hF : c.Fit) (W : World) (hH : Holds W sa sc ra rc c) :
    Calls Try.prog 9 #[vCfg sa sc ra rc c] W fun e w' => Checked W w' e (checkF c) := by
  have hb0 := fun o => Below.alK (Below.refl W.heap.size W) o
  have hBox : Blk (W.alloc (.cells (cCfg sa sc ra rc c) 27)) W.heap.size 27 (cCfg sa sc ra rc c) := Blk.new _ _ _
  have l1 := hH.syms.len
  have l2 := hH.syms.top
  have l3 := hH.rows.len
  have l4 := hH.rows.top
  unfold maxLen at l2 l4
  have cN : ∀ (b cap : Nat) (w : World), Blk w b 3 #[.int .i64 (c.syms.length : Int)] → Calls Try.prog 23 #[.int .i64 1, .int .i64 8, .slice (some ⟨b, 0, none⟩) 1 cap] w fun e w' => e = .returned (.bool (decide (1 ≤ c.syms.length ∧ (c.syms.length : Int) ≤ 8))) ∧ w = w' := fun b cap w h => by
    rw [← len_allK]; exact withinI_row 1 8 [(c.syms.length : Int)] 1 (by simp) rfl b cap w rfl h
  have cM : ∀ (b cap : Nat) (w : World), Blk w b 3 #[.int .i64 (c.rows.length : Int)] → Calls Try.prog 23 #[.int .i64 1, .int .i64 20, .slice (some ⟨b, 0, none⟩) 1 cap] w fun e w' => e = .returned (.bool (decide (1 ≤ c.rows.length ∧ (c.rows.length : Int) ≤ 20))) ∧ w = w' := fun b cap w h => by
    rw [← len_allK]; exact withinI_row 1 20 [(c.rows.length : Int)] 1 (by simp) rfl b cap w rfl h
  by_cases hn : c.syms.length < 1 ∨ 8 < c.syms.length
  · rw [check_syms hn]
    rw [show decide (1 ≤ c.syms.length ∧ (c.syms.length : Int) ≤ 8) = false by simp; omega] at cN
    go_enter Try.func9, Try.ntmps9
    obtain ⟨x0, x1, x2, x3, x4, x5, x6, x7⟩ := Cfg.cells hBox
    clear hH cM
    go_wp2_with (go_at_call 23; (refine (cN _ _ _ (Blk.new' (by simp))).mono ?_); rintro e w1 ⟨rfl, rfl⟩)
    go_ret2
    exact ⟨rfl, (hb0 _).alloc (by simp) _⟩
  · have hn2 : 1 ≤ c.syms.length ∧ c.syms.length ≤ 8 := by omega
    rw [show decide (1 ≤ c.syms.length ∧ (c.syms.length : Int) ≤ 8) = true by simp; omega] at cN
    go_enter Try.func9, Try.ntmps9
    obtain ⟨x0, x1, x2, x3, x4, x5, x6, x7⟩ := Cfg.cells hBox
    go_wp2_with (go_at_call 23; (refine (cN _ _ _ (Blk.new' (by simp))).mono ?_); rintro e w1 ⟨rfl, rfl⟩)
    clear x0 x1 x2 x3 x4 x5 x6 x7 cN
    have keep : ∀ wr, Blk wr W.heap.size 27 (cCfg sa sc ra rc c) ∧ Below W.heap.size W wr → ∀ w', Below wr.heap.size wr w' → Blk w' W.heap.size 27 (cCfg sa sc ra rc c) ∧ Below W.heap.size W w' := fun wr h w' hb => ⟨h.1.below hb h.1.lt, h.2.trans (hb.mono h.2.size)⟩
    have keepA : ∀ wr, Blk wr W.heap.size 27 (cCfg sa sc ra rc c) ∧ Below W.heap.size W wr → ∀ o w', Below (wr.alloc o).heap.size (wr.alloc o) w' → Blk w' W.heap.size 27 (cCfg sa sc ra rc c) ∧ Below W.heap.size W w' := fun wr h o w' hb => keep _ ⟨h.1.alloc o, h.2.alloc h.2.size o⟩ w' hb
    go_loopg [20] c.syms.length (fun j p20 wr => ∃ q : Nat, q + j = c.syms.length ∧ p20 = .int .i64 (q : Int) ∧ (Blk wr W.heap.size 27 (cCfg sa sc ra rc c) ∧ Below W.heap.size W wr) ∧ Hid (∀ x ∈ c.syms.take q, symF x = 0))
    case atStart => exact ⟨0, by omega, rfl, ⟨hBox.alloc _, (hb0 _).alloc (by simp) _⟩, by simp [Hid]⟩
    case round =>
      obtain ⟨q, hq, rfl, hK, hS⟩ := hrel
      obtain ⟨x0, x1, x2, x3, x4, x5, x6, x7⟩ := Cfg.cells hK.1
      by_cases hj : q < c.syms.length
      · obtain ⟨s, hs⟩ : ∃ s, c.syms[q]? = some s := ⟨c.syms[q], List.getElem?_eq_getElem hj⟩
        obtain ⟨b, off, rfl, y0, y1, y2, y3, y4, y5, y6, y7, y8, y9, ya, yb, yc, yd, ye, yf⟩ := (hH.syms.below hK.2).get hs
        have cS := fun w => symbol_any s (hF.syms s (List.mem_of_getElem? hs)) w
        have tB := fun h : symF s ≠ 0 => check_sym hn2 hs hS.out h
        have tN := fun h : symF s = 0 => syms_next hs hS.out h
        replace y0 : wr.cell? ⟨b, off + q * 16, none⟩ = some (.int .i64 s.grid) := y0
        clear hs hS hH hBox hF cM
        generalize symF s = f at cS tB tN
        obtain ⟨grid, refp, stat, dyn, win, move, lim, pau, ext, mext, col, wid, self, slots, levels, short⟩ := s
        simp only at y0 y1 y2 y3 y4 y5 y6 y7 y8 y9 ya yb yc yd ye yf
        by_cases hf : f = 0
        · have tN2 := Lib.hid (tN hf)
          subst hf
          clear tB tN
          replace cS : ∀ w, Calls Try.prog 11 #[vSymb ⟨grid, refp, stat, dyn, win, move, lim, pau, ext, mext, col, wid, self, slots, levels, short⟩] w fun e w' => e = .returned (.int .i64 0) ∧ Below w.heap.size w w' := cS
          go_wp2_with (go_at_call 11; refine (cS _).mono ?_; rintro e w1 ⟨rfl, hb1⟩; have hK1 := keepA _ hK _ _ hb1)
          go_roundg (c.syms.length - (q + 1))
          case measure => omega
          case rel => exact ⟨q + 1, by omega, by go_num, hK1, tN2⟩
        · have tB2 := tB hf
          clear tB tN
          have q1 : ((f : Int) != 0) = true := by simp; omega
          clear hf
          go_wp2_with (go_at_call 11; refine (cS _).mono ?_; rintro e w1 ⟨rfl, hb1⟩; have hK1 := keepA _ hK _ _ hb1)
          go_ret2
          rw [tB2]
          exact ⟨rfl, hK1.2⟩
      · have hqe : q = c.syms.length := by omega
        have hSA := hS.out
        rw [hqe, List.take_length] at hSA
        clear hS hqe
        by_cases hm : c.rows.length < 1 ∨ 20 < c.rows.length
        · have hC := check_rows hn2 hSA hm
          rw [show decide (1 ≤ c.rows.length ∧ (c.rows.length : Int) ≤ 20) = false by simp; omega] at cM
          clear hSA hH
          go_wp2_with (go_at_call 23; (refine (cM _ _ _ (Blk.new' (by simp))).mono ?_); rintro e w1 ⟨rfl, rfl⟩)
          go_ret2
          rw [hC]
          exact ⟨rfl, hK.2.alloc hK.2.size _⟩
        · have hm2 : 1 ≤ c.rows.length ∧ c.rows.length ≤ 20 := by omega
          rw [show decide (1 ≤ c.rows.length ∧ (c.rows.length : Int) ≤ 20) = true by simp; omega] at cM
          replace hSA := Lib.hid hSA
          have hlt := hK.1.lt
          go_wp2_with (go_at_call 23; (refine (cM _ _ _ (Blk.new' (by simp))).mono ?_); rintro e w1 ⟨rfl, rfl⟩)
          clear x0 x1 x2 x3 x4 x5 x6 x7 cM hlt
          go_loopg [7, 41] c.rows.length (fun j p7 p41 wr => ∃ (q : Nat) (E : Int), q + j = c.rows.length ∧ p41 = .int .i64 (q : Int) ∧ p7 = .int .i64 E ∧ Hid (E = earlyT (aheadT c.rows q)) ∧ (Blk wr W.heap.size 27 (cCfg sa sc ra rc c) ∧ Below W.heap.size W wr) ∧ Hid ((roF (c.rows.take q) none 0).1 = 0))
          case atStart => exact ⟨0, 0, by omega, rfl, rfl, Lib.hid rfl, ⟨hK.1.alloc _, hK.2.alloc hK.2.size _⟩, by simp [Hid, roF]⟩
          case round =>
            clear hK hj hq hBox
            obtain ⟨q, E, hq, rfl, rfl, hE, hK, hR⟩ := hrel
            obtain ⟨x0, x1, x2, x3, x4, x5, x6, x7⟩ := Cfg.cells hK.1
            by_cases hj : q < c.rows.length
            · obtain ⟨r, hr⟩ : ∃ r, c.rows[q]? = some r := ⟨c.rows[q], List.getElem?_eq_getElem hj⟩
              obtain ⟨b, off, rfl, y0, y1⟩ := (hH.rows.below hK.2).get hr
              replace y0 : wr.cell? ⟨b, off + q * 2, none⟩ = some (.int .i64 r.tick) := y0
              have cT := fun w => row_any r E w
              have hfE : rowE E r = rowF (aheadT c.rows q) r := by rw [hE.out]; exact rowE_F _ _ (ahead_nonneg hR.out)
              rw [hfE] at cT
              have tB := fun f h => check_row (f := f) hn2 hSA.out hm2 hr hR.out h
              have tN := fun h : rowF (aheadT c.rows q) r = 0 => roF_next hr hR.out h
              have tI := fun h : rowF (aheadT c.rows q) r = 0 => roF_tick hr (tN h)
              have hA := Lib.hid (ahead_next hr)
              clear hr hR hSA hH hE hfE hF hm2 hn2
              by_cases hf : rowF (aheadT c.rows q) r = 0
              · obtain ⟨i1, i2⟩ := tI hf
                have tN2 := Lib.hid (tN hf)
                rw [hf] at cT
                clear hf tB tN tI
                obtain ⟨tick, phase⟩ := r
                simp only at y0 y1 i1 i2 hA
                replace cT : ∀ w, Calls Try.prog 24 #[vRowp ⟨tick, phase⟩, .int .i64 E] w fun e w' => e = .returned (.int .i64 0) ∧ Below w.heap.size w w' := cT
                have kA := keepA _ hK (.cells #[.int .i64 tick, .int .i64 phase] 49)
                have hX : ∀ w', Below (wr.alloc (.cells #[.int .i64 tick, .int .i64 phase] 49)).heap.size (wr.alloc (.cells #[.int .i64 tick, .int .i64 phase] 49)) w' → w'.cell? ⟨wr.heap.size, 0, none⟩ = some (.int .i64 tick) := fun w' hb => ((Blk.new wr 49 #[.int .i64 tick, .int .i64 phase]).below hb (by simp)).cell_eq 0 _ rfl
                go_wp2_with (go_at_call 24; refine (cT _).mono ?_; rintro e w1 ⟨rfl, hb1⟩; have hK1 := kA _ hb1; have hX1 := hX _ hb1; clear kA hX)
                go_roundg (c.rows.length - (q + 1))
                case measure => omega
                case rel => exact ⟨q + 1, tick + 1, by omega, by go_num, rfl, Lib.hid (by rw [hA.out]), hK1, tN2⟩
              · have tB2 := Lib.hid (tB _ rfl hf)
                generalize rowF (aheadT c.rows q) r = f at *
                have q1 : ((f : Int) != 0) = true := by simp; omega
                clear hf tB tN tI hA
                obtain ⟨tick, phase⟩ := r
                simp only at y0 y1
                replace cT : ∀ w, Calls Try.prog 24 #[vRowp ⟨tick, phase⟩, .int .i64 E] w fun e w' => e = .returned (.int .i64 f) ∧ Below w.heap.size w w' := cT
                go_wp2_with (go_at_call 24; refine (cT _).mono ?_; rintro e w1 ⟨rfl, hb1⟩; have hK1 := keepA _ hK _ _ hb1)
                go_ret2
                rw [tB2.out]
                exact ⟨rfl, hK1.2⟩
            · have hqe : q = c.rows.length := by omega
              have hRA := hR.out
              rw [hqe, List.take_length] at hRA
              have hC := Lib.hid (check_tail hn2 hSA.out hm2 hRA)
              have cK := fun w => market_any sa sc ra rc c w
              generalize tailF c = f at cK hC
              clear hRA hqe hR hE hSA hH hm2 hn2 hF
              go_wp2_with (go_at_call 25; refine (cK _).mono ?_; rintro e w1 ⟨rfl, hb1⟩; have hK1 := keep _ hK _ hb1)
              go_ret2
              rw [hC.out]
              exact ⟨rfl, hK1.2⟩
end Go.Proofs.Ytbkiipeoabbiiaa
