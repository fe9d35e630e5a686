/-
  OctetsReads: what is read of any bytes, by any calls, one behind the other, and where it ends.
-/
import Derived.Test.YtniccdnjaaepcaaOPuts
namespace Go.Proofs.Ytniccdnjaaepcaa
open Go.RowKit

theorem stepR_size (K S : Int) (xs : List Nat) (f : Nat) : (stepR K S xs f).size ≤ xs.length := by
  unfold stepR
  split
  · exact rd_size K S xs
  · exact Nat.zero_le _
theorem slice_drop (ao : Option Addr) (cap r : Nat) (bs : List Nat) : Value.slice ao (bs.length - r) cap = Value.slice ao (bs.drop r).length cap := by rw [List.length_drop]
theorem Bt.past {w w' : World} {k g f cap : Nat} {ao : Option Addr} {xs rs : List Nat} (h : Bt w k ao cap xs) (hR : Rr w g rs f) (hf : Frm (fun b => b = g) w w') : Bt w' k ao cap xs := by
  obtain ⟨_, _, _, hb, _, _⟩ := hR
  refine h.part hb (fun i x e => ?_) hf
  match i, e with
  | 0, e => simp at e
  | 1, e => simp at e
  | i + 2, e => simp at e
theorem Rr.alloc {w : World} {g f : Nat} {xs : List Nat} (h : Rr w g xs f) (o : Obj) : Rr (w.alloc o) g xs f := h.below ((Below.refl _ _).alloc (Nat.le_refl _) _)
theorem Rr.lt {w : World} {g f : Nat} {xs : List Nat} (h : Rr w g xs f) : g < w.heap.size := by obtain ⟨_, _, _, hb, _, _⟩ := h; exact hb.lt
set_option maxRecDepth 4000 in
set_option maxHeartbeats 1000000 in
theorem reads_any (kb0 cap0 : Nat) (ao0 : Option Addr) (xs : List Nat) (ao : Option Addr) (cap : Nat) (ps : List Prt) (W : World) (hX : Bt W kb0 ao0 cap0 xs) (hP : Pl W ao cap ps) :
    Calls Try.prog 4 #[.slice ao0 xs.length cap0, .slice ao ps.length cap] W fun e w' => e = .returned (.bool true) ∧ Below W.heap.size W w' := by
  have hlen := hP.len
  have hmax := hP.top
  unfold maxLen at hmax
  have hlx := hX.len
  have hmx := hX.top
  unfold maxLen at hmx
  have cL := light_any ao cap ps W hP
  have cA := alive3_any
  by_cases hx : xs.length ≤ 200
  · have cN := newReader_any kb0 cap0 ao0 xs (by omega) W hX
    go_enter Try.func4, Try.ntmps4
    go_wp2_with (first | (go_at_call 7; refine cL.mono ?_; rintro e w1 ⟨⟨r, rfl, hr⟩, rfl⟩; cases r) | (go_at_call 8; refine (cA _).mono ?_; rintro e w2 ⟨rfl, hb⟩) | (go_at_call 13; refine cN.mono ?_; rintro e w1 ⟨g, rfl, hR0, hb0, hg0⟩))
    · go_ret
      exact ⟨rfl, hb⟩
    · obtain ⟨h40, h60⟩ : Light ps := by simpa using hr
      clear cL hr cN
      go_loopg [0, 7, 8, 9, 10, 11] ps.length (fun j p0 p7 p8 _ _ _ wr => ∃ (q kb cb : Nat) (ab : Option Addr) (bs : List Nat) (f : Nat), q + j = ps.length ∧ p8 = .int .i64 (q : Int) ∧ p7 = .int .i64 (f : Int) ∧ p0 = .slice ab bs.length cb ∧ bs.length ≤ 200 ∧ Bt W kb ab cb bs ∧ Rr wr g bs f ∧ Below W.heap.size W wr)
      case atStart => exact ⟨0, kb0, cap0, ao0, xs, 0, by omega, rfl, rfl, rfl, hx, hX, hR0, hb0⟩
      case round =>
        obtain ⟨q, kb, cb, ab, bs, f, hq, rfl, rfl, rfl, hbs, hB, hR, hbel⟩ := hrel
        have hlb := hB.len
        have hmb := hB.top
        unfold maxLen at hmb
        by_cases hj : q < ps.length
        · obtain ⟨p, hp⟩ : ∃ p, ps[q]? = some p := ⟨ps[q], List.getElem?_eq_getElem hj⟩
          obtain ⟨b, off, k, ro, rc, rfl, hfit, hget⟩ := hP.get hp
          have hsz := stepR_size p.kind p.size bs f
          have cG := fun w h => got_any p hfit.z ro rc g f bs (by omega) w h
          have cZ := fun w => gotNil_any p ro rc w
          unfold pv at cG cZ
          by_cases hf : f = 0
          · subst hf
            have cR : ∀ w, Bt w kb ab cb bs → Calls Try.prog 14 #[.slice ab bs.length cb, pv p ro rc] w fun e w' => ∃ ao' cap' k', e = .returned (rv (stepR p.kind p.size bs 0) ao' cap') ∧ Bt w' k' ao' cap' (stepR p.kind p.size bs 0).raw ∧ Below w.heap.size w w' := fun w h => read_any p ro rc kb cb ab bs w h
            unfold pv at cR
            generalize stepR p.kind p.size bs 0 = r at cG cR hsz
            obtain ⟨r1, r2, r3, r4, r5⟩ := r
            unfold gv at cG
            unfold rv at cR
            simp only at cG cR hsz
            have hgl := hR.lt
            have hc0 := fun o => hget _ (hbel.alloc hbel.size o)
            obtain ⟨-, c0, c1, c2, c3, c4⟩ := hc0 (.cells z5 40)
            have hc1 : ∀ w1, Below (wr.alloc (.cells z5 40)).heap.size (wr.alloc (.cells z5 40)) w1 → Blk w1 wr.heap.size 40 z5 ∧ Below W.heap.size W w1 ∧ Rr w1 g bs 0 := fun w1 hb =>
              ⟨(Blk.new _ _ _).below hb (by simp), (hbel.alloc hbel.size _).trans (hb.mono (by have := hbel.size; simp; omega)), (hR.alloc _).below hb⟩
            have hwr := hbel.size
            clear hp hc0
            unfold z5 at c0 c1 c2 c3 c4
            go_wp2_with (first
              | (go_at_call 14; refine (cR _ ((hB.below hbel).alloc _)).mono ?_; rintro e w1 ⟨aw, cw, kw, rfl, hBw, hb1⟩; obtain ⟨m1, hbel1, hR1⟩ := hc1 _ hb1; have m2 := five_set m1 (.int .u64 (r1 : Int)) (.int .i64 r2) (.slice aw r3.length cw) (.int .i64 (r4 : Int)) (.int .i64 (r5 : Int)); obtain ⟨x0, x1, x2, x3, x4, x5⟩ := five_cells m2; obtain ⟨d0, d1, d2, d3, d4, d5⟩ := five_cells m1; have hbel2 := five_below hbel1 hwr (.int .u64 (r1 : Int)) (.int .i64 r2) (.slice aw r3.length cw) (.int .i64 (r4 : Int)) (.int .i64 (r5 : Int)); obtain ⟨-, e0, e1, e2, e3, e4⟩ := hget _ hbel2; have hR2 := hR1.part m1 z5_bytes (show g ≠ wr.heap.size by omega) (five_frm w1 wr.heap.size (.int .u64 (r1 : Int)) (.int .i64 r2) (.slice aw r3.length cw) (.int .i64 (r4 : Int)) (.int .i64 (r5 : Int))); have hBw2 := hBw.part m1 z5_bytes (five_frm w1 wr.heap.size (.int .u64 (r1 : Int)) (.int .i64 r2) (.slice aw r3.length cw) (.int .i64 (r4 : Int)) (.int .i64 (r5 : Int))); clear c0 c1 c2 c3 c4)
              | (go_at_call 15; (with_reducible refine (cG _ hR2).mono ?_); rintro e w3 ⟨ax, cx, kx, rfl, hBx, hR3, hF3⟩; have m3 := m2.frm hF3 (by omega); have hBw3 := hBw2.past hR2 hF3; have hbel3 := hbel2.trans (hF3.below hbel2.size (by rintro b rfl; omega)); obtain ⟨-, y0, y1, y2, y3, y4⟩ := hget _ (hbel3.alloc hbel3.size (.cells #[.int .u64 (r1 : Int), .int .i64 r2, .slice ax r3.length cx, .int .i64 0, .int .i64 0] 40)); clear x0 x1 x2 x3 x4 x5 d0 d1 d2 d3 d4 d5 e0 e1 e2 e3 e4 hR2 hBw2 hBw hR1 m1 m2 hbel1 hbel2 hb1)
              | (go_at_call 15; refine (cZ _).mono ?_; rintro e w4 ⟨ay, cy, rfl, hb4⟩; have mw4 := (m3.alloc (.cells #[.int .u64 (r1 : Int), .int .i64 r2, .slice ax r3.length cx, .int .i64 0, .int .i64 0] 40)).below hb4 (by have := m3.lt; simp; omega); have mx4 := (Blk.new w3 40 #[.int .u64 (r1 : Int), .int .i64 r2, .slice ax r3.length cx, .int .i64 0, .int .i64 0]).below hb4 (by simp); have R4 := ((hR3.alloc (.cells #[.int .u64 (r1 : Int), .int .i64 r2, .slice ax r3.length cx, .int .i64 0, .int .i64 0] 40)).below hb4).alloc (.cells #[.int .u64 0, .int .i64 0, .slice ay 0 cy, .int .i64 0, .int .i64 0] 40); have hBw4 := ((hBw3.alloc (.cells #[.int .u64 (r1 : Int), .int .i64 r2, .slice ax r3.length cx, .int .i64 0, .int .i64 0] 40)).below hb4).alloc (.cells #[.int .u64 0, .int .i64 0, .slice ay 0 cy, .int .i64 0, .int .i64 0] 40); have hBx4 := ((hBx.alloc (.cells #[.int .u64 (r1 : Int), .int .i64 r2, .slice ax r3.length cx, .int .i64 0, .int .i64 0] 40)).below hb4).alloc (.cells #[.int .u64 0, .int .i64 0, .slice ay 0 cy, .int .i64 0, .int .i64 0] 40); have hbel4 := (hbel3.alloc hbel3.size (.cells #[.int .u64 (r1 : Int), .int .i64 r2, .slice ax r3.length cx, .int .i64 0, .int .i64 0] 40)).trans (hb4.mono (by have := hbel3.size; simp; omega)); have hbel5 := hbel4.alloc hbel4.size (.cells #[.int .u64 0, .int .i64 0, .slice ay 0 cy, .int .i64 0, .int .i64 0] 40); obtain ⟨p0, p1, p2, p3, p4, p5⟩ := five_alloc mw4; obtain ⟨q0, q1, q2, q3, q4, q5⟩ := five_alloc mx4; clear m3 hBw3 hbel3 y0 y1 y2 y3 y4 hb4 hR3 hF3 hBx)
              | (go_at_call 11; refine (same_len rfl rfl _ hBx4 hBw4).mono ?_; rintro e w5 ⟨rfl, rfl⟩)
              | (go_at_call 16; refine (fault_any _ _ _ _ R4).mono ?_; rintro e w5 ⟨rfl, rfl⟩)
              | (go_at_call 17; refine (left_any _ _ _ _ R4).mono ?_; rintro e w5 ⟨rfl, rfl⟩))
            all_goals go_roundg (ps.length - (q + 1))
            all_goals first
              | (show _ < _; omega)
              | exact ⟨q + 1, kb, _, _, bs.drop r4, r5, by omega, by go_num, rfl, slice_drop _ _ _ _, by rw [List.length_drop]; omega, hB.drop hsz, R4, hbel5⟩
              | exact ⟨q + 1, kb, _, _, bs.drop r4, r5, by omega, by go_num, rfl, slice_drop _ _ _ _, by rw [List.length_drop]; omega, hB.dropAll (Eq.symm ‹cb = r4›) hsz, R4, hbel5⟩
              | (have h5 : r5 = 0 := by assumption
                 rw [h5] at R4
                 exact ⟨q + 1, kb, _, _, bs.drop r4, 0, by omega, by go_num, rfl, slice_drop _ _ _ _, by rw [List.length_drop]; omega, hB.drop hsz, R4, hbel5⟩)
              | (have h5 : r5 = 0 := by assumption
                 rw [h5] at R4
                 exact ⟨q + 1, kb, _, _, bs.drop r4, 0, by omega, by go_num, rfl, slice_drop _ _ _ _, by rw [List.length_drop]; omega, hB.dropAll (Eq.symm ‹cb = r4›) hsz, R4, hbel5⟩)
          · rw [step_fault hf] at cG hsz
            unfold gv at cG
            simp only at cG hsz
            have t0 : ((f : Int) == 0) = false := by simp; omega
            have hgl := hR.lt
            have hwr := hbel.size
            have hbel2 := hbel.alloc hwr (.cells z5 40)
            have hR2 := hR.alloc (.cells z5 40)
            have m2 := Blk.new wr 40 z5
            have hBw2 := Bt.nil (wr.alloc (.cells z5 40)) 0
            have hgs : g ≠ wr.heap.size := by omega
            obtain ⟨-, c0, c1, c2, c3, c4⟩ := hget _ hbel2
            clear hp
            unfold z5 at c0 c1 c2 c3 c4 hbel2 hR2 m2 hBw2
            go_wp2_with
              (first
              | (go_at_call 15; (with_reducible refine (cG _ hR2).mono ?_); rintro e w3 ⟨ax, cx, kx, rfl, hBx, hR3, hF3⟩; have m3 := m2.frm hF3 (by omega); have hBw3 := hBw2.past hR2 hF3; have hbel3 := hbel2.trans (hF3.below hbel2.size (by rintro b rfl; omega)); obtain ⟨-, y0, y1, y2, y3, y4⟩ := hget _ (hbel3.alloc hbel3.size (.cells #[.int .u64 0, .int .i64 0, .slice ax 0 cx, .int .i64 0, .int .i64 0] 40)); clear c0 c1 c2 c3 c4 hR2 hBw2 m2)
              | (go_at_call 15; refine (cZ _).mono ?_; rintro e w4 ⟨ay, cy, rfl, hb4⟩; have mw4 := (m3.alloc (.cells #[.int .u64 0, .int .i64 0, .slice ax 0 cx, .int .i64 0, .int .i64 0] 40)).below hb4 (by have := m3.lt; simp; omega); have mx4 := (Blk.new w3 40 #[.int .u64 0, .int .i64 0, .slice ax 0 cx, .int .i64 0, .int .i64 0]).below hb4 (by simp); have R4 := ((hR3.alloc (.cells #[.int .u64 0, .int .i64 0, .slice ax 0 cx, .int .i64 0, .int .i64 0] 40)).below hb4).alloc (.cells #[.int .u64 0, .int .i64 0, .slice ay 0 cy, .int .i64 0, .int .i64 0] 40); have hBw4 := ((hBw3.alloc (.cells #[.int .u64 0, .int .i64 0, .slice ax 0 cx, .int .i64 0, .int .i64 0] 40)).below hb4).alloc (.cells #[.int .u64 0, .int .i64 0, .slice ay 0 cy, .int .i64 0, .int .i64 0] 40); have hBx4 := ((hBx.alloc (.cells #[.int .u64 0, .int .i64 0, .slice ax 0 cx, .int .i64 0, .int .i64 0] 40)).below hb4).alloc (.cells #[.int .u64 0, .int .i64 0, .slice ay 0 cy, .int .i64 0, .int .i64 0] 40); have hbel4 := (hbel3.alloc hbel3.size (.cells #[.int .u64 0, .int .i64 0, .slice ax 0 cx, .int .i64 0, .int .i64 0] 40)).trans (hb4.mono (by have := hbel3.size; simp; omega)); have hbel5 := hbel4.alloc hbel4.size (.cells #[.int .u64 0, .int .i64 0, .slice ay 0 cy, .int .i64 0, .int .i64 0] 40); obtain ⟨p0, p1, p2, p3, p4, p5⟩ := five_alloc mw4; obtain ⟨q0, q1, q2, q3, q4, q5⟩ := five_alloc mx4; clear m3 hBw3 hbel3 y0 y1 y2 y3 y4 hb4 hR3 hF3 hBx)
              | (go_at_call 11; refine (same_len rfl rfl _ hBx4 hBw4).mono ?_; rintro e w5 ⟨rfl, rfl⟩)
              | (go_at_call 16; refine (fault_any _ _ _ _ R4).mono ?_; rintro e w5 ⟨rfl, rfl⟩)
              | (go_at_call 17; refine (left_any _ _ _ _ R4).mono ?_; rintro e w5 ⟨rfl, rfl⟩))
            all_goals go_roundg (ps.length - (q + 1))
            all_goals first
              | (show _ < _; omega)
              | exact ⟨q + 1, kb, _, _, bs, f, by omega, by go_num, rfl, rfl, hbs, hB, R4, hbel5⟩
        · have hqe : q = ps.length := by omega
          subst hqe
          clear hB hR hP hX
          go_wp2_with (first
            | (go_at_call 17; refine (left_nil _).mono ?_; rintro e w5 ⟨rfl, rfl⟩)
            | (go_at_call 16; refine (fault_nil _).mono ?_; rintro e w5 ⟨rfl, rfl⟩)
            | (go_at_call 8; refine (cA _).mono ?_; rintro e w6 ⟨rfl, hb6⟩; have hbel6 := hbel.trans (hb6.mono hbel.size)))
          go_ret
          exact ⟨rfl, hbel6⟩
  · go_enter Try.func4, Try.ntmps4
    go_wp2_with (first | (go_at_call 7; refine cL.mono ?_; rintro e w1 ⟨⟨r, rfl, hr⟩, rfl⟩; cases r) | (go_at_call 8; refine (cA _).mono ?_; rintro e w2 ⟨rfl, hb⟩))
    all_goals go_ret
    all_goals exact ⟨rfl, hb⟩
end Go.Proofs.Ytniccdnjaaepcaa
