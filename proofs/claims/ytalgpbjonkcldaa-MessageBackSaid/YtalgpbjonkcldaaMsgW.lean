/-
  The contract of package message's Decode, for all bytes.
-/
import Derived.Test.YtalgpbjonkcldaaMsgQ
namespace Go.Proofs.Ytalgpbjonkcldaa
open Go.RowKit
theorem wrapS_small {n : Nat} (h : n < 9223372036854775808) : wrapS n = (n : Int) := by
  unfold wrapS
  rw [IntKind.wrap_i64]
  omega
theorem wrapS_big {n : Nat} (h : 9223372036854775808 ≤ n) (h2 : n < 18446744073709551616) : wrapS n < 0 := by
  unfold wrapS
  rw [IntKind.wrap_i64]
  omega
theorem inM_wrap {n : Nat} (h : n < 18446744073709551616) : inM (wrapS n) 0 4611686018427387904 = inM (n : Int) 0 4611686018427387904 := by
  by_cases h1 : n < 9223372036854775808
  · rw [wrapS_small h1]
  · have h2 := wrapS_big (Nat.le_of_not_lt h1) h
    unfold inM
    rw [decide_eq_false (show ¬ (0 : Int) ≤ wrapS n by omega), decide_eq_false (show ¬ (n : Int) ≤ 4611686018427387904 by omega), Bool.false_and, Bool.and_false]
theorem wrapS_in {n : Nat} (h : n < 18446744073709551616) (h2 : inM (n : Int) 0 4611686018427387904 = true) : wrapS n = (n : Int) := by
  have := (inM_true.1 h2).2
  exact wrapS_small (by omega)
theorem right_wrap {rs : List Res} (h : FitL fmtM rs) : rightM (ofW rs) = rightM (ofM rs) ∧ (rightM (ofM rs) = true → ofW rs = ofM rs) := by
  unfold fmtM at h
  obtain ⟨k, rs, rfl, fk, h⟩ := h.consM
  obtain ⟨s, rs, rfl, fs, h⟩ := h.consM
  obtain ⟨c, rs, rfl, fc, h⟩ := h.consM
  obtain ⟨q, rs, rfl, fq, h⟩ := h.consM
  obtain ⟨t, rs, rfl, ft, h⟩ := h.consM
  obtain ⟨i, rs, rfl, fi, h⟩ := h.consM
  obtain ⟨o, rs, rfl, fo, h⟩ := h.consM
  obtain ⟨p, rs, rfl, fp, h⟩ := h.consM
  obtain ⟨y, rs, rfl, fy, h⟩ := h.consM
  obtain rfl := h.nilM
  obtain ⟨q1, -⟩ := fq.2.2 rfl
  obtain ⟨t1, -⟩ := ft.2.2 rfl
  simp only [ofW, ofM]
  constructor
  · unfold rightM
    simp only [inM_wrap q1, inM_wrap t1]
  · intro hr
    unfold rightM at hr
    simp only [Bool.and_eq_true] at hr
    rw [wrapS_in q1 hr.1.1.1.2, wrapS_in t1 hr.1.1.2]
theorem decW (b : List Nat) (hb : ∀ x ∈ b, x < 256) : decM b = if (rdL fmtM b 0).2.2 ≠ 0 then (Msg.zero, (rdL fmtM b 0).2.2) else if rightM (ofW (rdL fmtM b 0).1) = true ∧ (rdL fmtM b 0).2.1 = [] then (ofW (rdL fmtM b 0).1, 0) else (Msg.zero, 4) := by
  unfold decM
  by_cases hf : (rdL fmtM b 0).2.2 = 0
  · obtain ⟨-, hfit⟩ := rdL_back _ fmtM_nums _ hb hf
    obtain ⟨e1, e2⟩ := right_wrap hfit
    have h0 : ¬ ((rdL fmtM b 0).2.2 ≠ 0) := fun h => h hf
    rw [if_neg h0, if_neg h0, e1]
    by_cases hr : rightM (ofM (rdL fmtM b 0).1) = true ∧ (rdL fmtM b 0).2.1 = []
    · rw [if_pos hr, if_pos hr, e2 hr.1]
    · rw [if_neg hr, if_neg hr]
  · rw [if_pos hf, if_pos hf]
set_option maxRecDepth 4000 in
set_option maxHeartbeats 1000000 in
theorem mdecode_any (k cap : Nat) (ao : Option Addr) (b : List Nat) (hlen : b.length ≤ 2000000) (W : World) (hB : Bt W k ao cap b) :
    Calls Try.prog 14 #[.slice ao b.length cap] W fun e w' => e = .returned (.tuple #[vMsg (decM b).1, .int .i64 ((decM b).2 : Int)]) ∧ Below W.heap.size W w' := by
  have cR := fun g w h => mread_any g 0 b w h
  have hB0 := hB.alloc (.cells #[.int .i64 0, .int .i64 0, .int .i64 0, .int .i64 0, .int .i64 0, .int .i64 0, .int .i64 0, .int .i64 0, .int .i64 0] 23)
  have cN := newReader_any k cap ao b hlen _ hB0
  rw [decW b hB.lt]
  clear hB hB0 hlen
  generalize rdL fmtM b 0 = q at cR ⊢
  obtain ⟨rs, ys, f⟩ := q
  simp only at cR ⊢
  generalize ofW rs = c at cR ⊢
  have hz : (W.alloc (.cells #[.int .i64 0, .int .i64 0, .int .i64 0, .int .i64 0, .int .i64 0, .int .i64 0, .int .i64 0, .int .i64 0, .int .i64 0] 23)).heap.size = W.heap.size + 1 := by simp
  have hres : Blk (W.alloc (.cells #[.int .i64 0, .int .i64 0, .int .i64 0, .int .i64 0, .int .i64 0, .int .i64 0, .int .i64 0, .int .i64 0, .int .i64 0] 23)) W.heap.size 23 #[.int .i64 0, .int .i64 0, .int .i64 0, .int .i64 0, .int .i64 0, .int .i64 0, .int .i64 0, .int .i64 0, .int .i64 0] := Blk.new _ _ _
  have hbel : Below W.heap.size W (W.alloc (.cells #[.int .i64 0, .int .i64 0, .int .i64 0, .int .i64 0, .int .i64 0, .int .i64 0, .int .i64 0, .int .i64 0, .int .i64 0] 23)) := (Below.refl _ _).alloc (Nat.le_refl _) _
  replace hz := Lib.hid hz
  generalize hW0 : W.alloc (.cells #[.int .i64 0, .int .i64 0, .int .i64 0, .int .i64 0, .int .i64 0, .int .i64 0, .int .i64 0, .int .i64 0, .int .i64 0] 23) = W0 at cN hz hres hbel
  replace hW0 := Lib.hid hW0
  -- behind the reader: all but the result
  have hN : ∀ w1 g, Below W0.heap.size W0 w1 → W0.heap.size ≤ g → Blk w1 W.heap.size 23 (cMsg Msg.zero) ∧ Below W.heap.size W w1 ∧ W.heap.size ≠ g ∧ W.heap.size ≤ g := fun w1 g hb hg => by
    have := hz.out
    exact ⟨hres.below hb (by omega), hbel.trans (hb.mono (by omega)), by omega, by omega⟩
  have hM : ∀ w1 w2 g, Blk w1 W.heap.size 23 (cMsg Msg.zero) ∧ Below W.heap.size W w1 ∧ W.heap.size ≠ g ∧ W.heap.size ≤ g → Frm (fun b => b = g) w1 w2 → Blk w2 W.heap.size 23 (cMsg Msg.zero) ∧ Below W.heap.size W w2 ∧ W.heap.size < w2.heap.size := fun w1 w2 g h hf => by
    obtain ⟨h1, h2, h3, h4⟩ := h
    have h5 := h1.frm hf (by omega)
    exact ⟨h5, h2.trans (hf.below h2.size (by rintro b rfl; omega)), h5.lt⟩
  have hsub := hW0.out
  subst hsub
  clear hW0 hres hbel hz
  obtain ⟨kind, sym, seq, tick, id, other, price, qty, code⟩ := c
  simp only [vMsg, cMsg] at cR
  by_cases hf : f = 0
  · subst hf
    rw [if_neg (by simp)]
    cases hr : rightM ⟨kind, sym, seq, tick, id, other, price, qty, code⟩ with
    | false =>
      have cG := mright_false hr
      rw [if_neg (by simp)]
      clear hr
      go_enter Try.func14, Try.ntmps14
      go_wp2_with (first
      | (go_at_call 28; refine cN.mono ?_; rintro e w1 ⟨g, rfl, hR1, hb1, hg1⟩; have hG := hN _ _ hb1 hg1; clear hN hb1 hg1 cN)
      | (go_at_call 29; refine (cR _ _ hR1).mono ?_; rintro e w2 ⟨rfl, hR2, hf2⟩; obtain ⟨hres, hbel, hlt⟩ := hM _ _ _ hG hf2; replace hres := hres.alloc (.cells #[.int .i64 kind, .int .i64 sym, .int .i64 seq, .int .i64 tick, .int .i64 id, .int .i64 other, .int .i64 price, .int .i64 qty, .int .i64 code] 23); have hcmd : Blk (w2.alloc (.cells #[.int .i64 kind, .int .i64 sym, .int .i64 seq, .int .i64 tick, .int .i64 id, .int .i64 other, .int .i64 price, .int .i64 qty, .int .i64 code] 23)) w2.heap.size 23 (cMsg ⟨kind, sym, seq, tick, id, other, price, qty, code⟩) := Blk.new _ _ _; replace hbel := hbel.alloc (Nat.le_of_lt hlt) (.cells #[.int .i64 kind, .int .i64 sym, .int .i64 seq, .int .i64 tick, .int .i64 id, .int .i64 other, .int .i64 price, .int .i64 qty, .int .i64 code] 23); have hR3 := hR2.below ((Below.refl _ _).alloc (Nat.le_refl _) (.cells #[.int .i64 kind, .int .i64 sym, .int .i64 seq, .int .i64 tick, .int .i64 id, .int .i64 other, .int .i64 price, .int .i64 qty, .int .i64 code] 23)); clear hM hG hf2 hR1 cR hR2; obtain ⟨y0, y1, y2, y3, y4, y5, y6, y7, y8⟩ := Msg.cells hres; have yf := hres.free)
      | (go_at_call 30; (with_reducible refine (fault_any _ _ _ _ hR3).mono ?_); rintro e w3 ⟨rfl, rfl⟩)
      | (go_at_call 10; (with_reducible refine (cG _).mono ?_); rintro e w4 ⟨rfl, hb4⟩; have hlt4 : W.heap.size ≤ (w2.alloc (.cells #[.int .i64 kind, .int .i64 sym, .int .i64 seq, .int .i64 tick, .int .i64 id, .int .i64 other, .int .i64 price, .int .i64 qty, .int .i64 code] 23)).heap.size := hbel.size; replace hres := hres.below hb4 (by simp; omega); replace hcmd := hcmd.below hb4 (by simp); replace hR3 := hR3.below hb4; replace hbel := hbel.trans (hb4.mono hlt4); clear hb4 hlt4; clear y0 y1 y2 y3 y4 y5 y6 y7 y8 yf; obtain ⟨y0, y1, y2, y3, y4, y5, y6, y7, y8⟩ := Msg.cells hres; have yf := hres.free; obtain ⟨x0, x1, x2, x3, x4, x5, x6, x7, x8⟩ := Msg.cells hcmd))
      refine bodyPost_ret (v := .tuple #[vMsg Msg.zero, .int .i64 4]) ?_ rfl ⟨rfl, Msg.below hbel (Nat.le_refl _) _ _ _ _ _ _ _ _ _⟩
      simp [results, Try.results14, go_sem, y0, y1, y2, y3, y4, y5, y6, y7, y8, Msg.zero]
    | true =>
      have cG := mright_true hr
      clear hr
      cases ys with
      | nil =>
        have cL : ∀ w g, Rr w g [] 0 → Calls Try.prog 31 #[.pointer (some ⟨g, 0, none⟩)] w fun e w' => e = .returned (.int .i64 0) ∧ w = w' := fun w g h => left_any g 0 [] w h
        rw [if_pos ⟨rfl, rfl⟩]
        go_enter Try.func14, Try.ntmps14
        go_wp2_with (first
      | (go_at_call 28; refine cN.mono ?_; rintro e w1 ⟨g, rfl, hR1, hb1, hg1⟩; have hG := hN _ _ hb1 hg1; clear hN hb1 hg1 cN)
      | (go_at_call 29; refine (cR _ _ hR1).mono ?_; rintro e w2 ⟨rfl, hR2, hf2⟩; obtain ⟨hres, hbel, hlt⟩ := hM _ _ _ hG hf2; replace hres := hres.alloc (.cells #[.int .i64 kind, .int .i64 sym, .int .i64 seq, .int .i64 tick, .int .i64 id, .int .i64 other, .int .i64 price, .int .i64 qty, .int .i64 code] 23); have hcmd : Blk (w2.alloc (.cells #[.int .i64 kind, .int .i64 sym, .int .i64 seq, .int .i64 tick, .int .i64 id, .int .i64 other, .int .i64 price, .int .i64 qty, .int .i64 code] 23)) w2.heap.size 23 (cMsg ⟨kind, sym, seq, tick, id, other, price, qty, code⟩) := Blk.new _ _ _; replace hbel := hbel.alloc (Nat.le_of_lt hlt) (.cells #[.int .i64 kind, .int .i64 sym, .int .i64 seq, .int .i64 tick, .int .i64 id, .int .i64 other, .int .i64 price, .int .i64 qty, .int .i64 code] 23); have hR3 := hR2.below ((Below.refl _ _).alloc (Nat.le_refl _) (.cells #[.int .i64 kind, .int .i64 sym, .int .i64 seq, .int .i64 tick, .int .i64 id, .int .i64 other, .int .i64 price, .int .i64 qty, .int .i64 code] 23)); clear hM hG hf2 hR1 cR hR2; obtain ⟨y0, y1, y2, y3, y4, y5, y6, y7, y8⟩ := Msg.cells hres; have yf := hres.free)
      | (go_at_call 30; (with_reducible refine (fault_any _ _ _ _ hR3).mono ?_); rintro e w3 ⟨rfl, rfl⟩)
      | (go_at_call 10; (with_reducible refine (cG _).mono ?_); rintro e w4 ⟨rfl, hb4⟩; have hlt4 : W.heap.size ≤ (w2.alloc (.cells #[.int .i64 kind, .int .i64 sym, .int .i64 seq, .int .i64 tick, .int .i64 id, .int .i64 other, .int .i64 price, .int .i64 qty, .int .i64 code] 23)).heap.size := hbel.size; replace hres := hres.below hb4 (by simp; omega); replace hcmd := hcmd.below hb4 (by simp); replace hR3 := hR3.below hb4; replace hbel := hbel.trans (hb4.mono hlt4); clear hb4 hlt4; clear y0 y1 y2 y3 y4 y5 y6 y7 y8 yf; obtain ⟨y0, y1, y2, y3, y4, y5, y6, y7, y8⟩ := Msg.cells hres; have yf := hres.free; obtain ⟨x0, x1, x2, x3, x4, x5, x6, x7, x8⟩ := Msg.cells hcmd)
      | (go_at_call 31; (with_reducible refine (cL _ _ hR3).mono ?_); rintro e w5 ⟨rfl, rfl⟩))
        refine bodyPost_ret (v := .tuple #[vMsg ⟨kind, sym, seq, tick, id, other, price, qty, code⟩, .int .i64 0]) ?_ rfl ⟨rfl, Msg.below hbel (Nat.le_refl _) _ _ _ _ _ _ _ _ _⟩
        simp [results, Try.results14, go_sem, y0, y1, y2, y3, y4, y5, y6, y7, y8, Msg.zero]
      | cons y ys =>
        have cL := fun w g h => left_any g 0 (y :: ys) w h
        have h5 : 0 < (y :: ys).length := by simp
        rw [if_neg (by simp)]
        generalize (y :: ys).length = l at cL h5
        generalize (y :: ys) = zs at cL cR
        go_enter Try.func14, Try.ntmps14
        go_wp2_with (first
      | (go_at_call 28; refine cN.mono ?_; rintro e w1 ⟨g, rfl, hR1, hb1, hg1⟩; have hG := hN _ _ hb1 hg1; clear hN hb1 hg1 cN)
      | (go_at_call 29; refine (cR _ _ hR1).mono ?_; rintro e w2 ⟨rfl, hR2, hf2⟩; obtain ⟨hres, hbel, hlt⟩ := hM _ _ _ hG hf2; replace hres := hres.alloc (.cells #[.int .i64 kind, .int .i64 sym, .int .i64 seq, .int .i64 tick, .int .i64 id, .int .i64 other, .int .i64 price, .int .i64 qty, .int .i64 code] 23); have hcmd : Blk (w2.alloc (.cells #[.int .i64 kind, .int .i64 sym, .int .i64 seq, .int .i64 tick, .int .i64 id, .int .i64 other, .int .i64 price, .int .i64 qty, .int .i64 code] 23)) w2.heap.size 23 (cMsg ⟨kind, sym, seq, tick, id, other, price, qty, code⟩) := Blk.new _ _ _; replace hbel := hbel.alloc (Nat.le_of_lt hlt) (.cells #[.int .i64 kind, .int .i64 sym, .int .i64 seq, .int .i64 tick, .int .i64 id, .int .i64 other, .int .i64 price, .int .i64 qty, .int .i64 code] 23); have hR3 := hR2.below ((Below.refl _ _).alloc (Nat.le_refl _) (.cells #[.int .i64 kind, .int .i64 sym, .int .i64 seq, .int .i64 tick, .int .i64 id, .int .i64 other, .int .i64 price, .int .i64 qty, .int .i64 code] 23)); clear hM hG hf2 hR1 cR hR2; obtain ⟨y0, y1, y2, y3, y4, y5, y6, y7, y8⟩ := Msg.cells hres; have yf := hres.free)
      | (go_at_call 30; (with_reducible refine (fault_any _ _ _ _ hR3).mono ?_); rintro e w3 ⟨rfl, rfl⟩)
      | (go_at_call 10; (with_reducible refine (cG _).mono ?_); rintro e w4 ⟨rfl, hb4⟩; have hlt4 : W.heap.size ≤ (w2.alloc (.cells #[.int .i64 kind, .int .i64 sym, .int .i64 seq, .int .i64 tick, .int .i64 id, .int .i64 other, .int .i64 price, .int .i64 qty, .int .i64 code] 23)).heap.size := hbel.size; replace hres := hres.below hb4 (by simp; omega); replace hcmd := hcmd.below hb4 (by simp); replace hR3 := hR3.below hb4; replace hbel := hbel.trans (hb4.mono hlt4); clear hb4 hlt4; clear y0 y1 y2 y3 y4 y5 y6 y7 y8 yf; obtain ⟨y0, y1, y2, y3, y4, y5, y6, y7, y8⟩ := Msg.cells hres; have yf := hres.free; obtain ⟨x0, x1, x2, x3, x4, x5, x6, x7, x8⟩ := Msg.cells hcmd)
      | (go_at_call 31; (with_reducible refine (cL _ _ hR3).mono ?_); rintro e w5 ⟨rfl, rfl⟩))
        refine bodyPost_ret (v := .tuple #[vMsg Msg.zero, .int .i64 4]) ?_ rfl ⟨rfl, Msg.below hbel (Nat.le_refl _) _ _ _ _ _ _ _ _ _⟩
        simp [results, Try.results14, go_sem, y0, y1, y2, y3, y4, y5, y6, y7, y8, Msg.zero]
  · rw [if_pos hf]
    have hf2 : ((f : Int) != 0) = true := by simp; omega
    have hf3 : ((f : Int) == 0) = false := by simp; omega
    clear hf
    go_enter Try.func14, Try.ntmps14
    go_wp2_with (first
      | (go_at_call 28; refine cN.mono ?_; rintro e w1 ⟨g, rfl, hR1, hb1, hg1⟩; have hG := hN _ _ hb1 hg1; clear hN hb1 hg1 cN)
      | (go_at_call 29; refine (cR _ _ hR1).mono ?_; rintro e w2 ⟨rfl, hR2, hf2⟩; obtain ⟨hres, hbel, hlt⟩ := hM _ _ _ hG hf2; obtain ⟨y0, y1, y2, y3, y4, y5, y6, y7, y8⟩ := Msg.cells hres; have yf := hres.free; have hres0 := hres; have hbel0 := hbel; replace hres := hres.alloc (.cells #[.int .i64 kind, .int .i64 sym, .int .i64 seq, .int .i64 tick, .int .i64 id, .int .i64 other, .int .i64 price, .int .i64 qty, .int .i64 code] 23); have hcmd : Blk (w2.alloc (.cells #[.int .i64 kind, .int .i64 sym, .int .i64 seq, .int .i64 tick, .int .i64 id, .int .i64 other, .int .i64 price, .int .i64 qty, .int .i64 code] 23)) w2.heap.size 23 (cMsg ⟨kind, sym, seq, tick, id, other, price, qty, code⟩) := Blk.new _ _ _; replace hbel := hbel.alloc (Nat.le_of_lt hlt) (.cells #[.int .i64 kind, .int .i64 sym, .int .i64 seq, .int .i64 tick, .int .i64 id, .int .i64 other, .int .i64 price, .int .i64 qty, .int .i64 code] 23); have hR3 := hR2.below ((Below.refl _ _).alloc (Nat.le_refl _) (.cells #[.int .i64 kind, .int .i64 sym, .int .i64 seq, .int .i64 tick, .int .i64 id, .int .i64 other, .int .i64 price, .int .i64 qty, .int .i64 code] 23)); clear hM hG hf2 hR1 cR hR2)
      | (go_at_call 30; (with_reducible refine (fault_any _ _ _ _ hR3).mono ?_); rintro e w3 ⟨rfl, rfl⟩))
    refine bodyPost_ret (v := .tuple #[vMsg Msg.zero, .int .i64 (f : Int)]) ?_ rfl ⟨rfl, ?_⟩
    · obtain ⟨z0, z1, z2, z3, z4, z5, z6, z7, z8⟩ := Msg.cells ((Msg.lay hres0 0 0 0 0 0 0 0 0 0).alloc (.cells #[.int .i64 kind, .int .i64 sym, .int .i64 seq, .int .i64 tick, .int .i64 id, .int .i64 other, .int .i64 price, .int .i64 qty, .int .i64 code] 23))
      simp [results, Try.results14, go_sem, z0, z1, z2, z3, z4, z5, z6, z7, z8, Msg.zero]
    · have hnb := Msg.below hbel0 (Nat.le_refl _) (.int .i64 0) (.int .i64 0) (.int .i64 0) (.int .i64 0) (.int .i64 0) (.int .i64 0) (.int .i64 0) (.int .i64 0) (.int .i64 0)
      exact hnb.alloc hnb.size _

end Go.Proofs.Ytalgpbjonkcldaa
