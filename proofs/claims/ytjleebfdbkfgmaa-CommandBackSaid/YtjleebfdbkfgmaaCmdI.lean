/-
  The contract of package command's Decode, for all bytes.
-/
import Derived.Test.YtjleebfdbkfgmaaCmdH
namespace Go.Proofs.Ytjleebfdbkfgmaa
open Go.RowKit
theorem read_any5 (x : Nat) (h1 : 1 ≤ x) (h3 : x ≤ 3) (g : Nat) (t : List Nat) (W : World) (hR : Rr W g (x :: t) 0) :
    Calls Try.prog 24 #[.pointer (some ⟨g, 0, none⟩)] W fun e w' => e = .returned (cv (ofR (rdL (fmtC x) (x :: t) 0).1)) ∧ Rr w' g (rdL (fmtC x) (x :: t) 0).2.1 (rdL (fmtC x) (x :: t) 0).2.2 ∧ Frm (fun b => b = g) W w' := by
  have hx : x = 1 ∨ x = 2 ∨ x = 3 := by omega
  rcases hx with rfl | rfl | rfl
  · exact read_new g t W hR
  · exact read_cancel g t W hR
  · exact read_replace g t W hR
theorem cc_zero : (cc Cmd.zero) = #[.int .i64 0, .int .i64 0, .int .i64 0, .int .i64 0, .int .i64 0, .int .i64 0, .int .i64 0, .int .i64 0, .int .i64 0] := rfl
theorem decode_empty (cap : Nat) (ao : Option Addr) (W : World) :
    Calls Try.prog 13 #[.slice ao 0 cap] W fun e w' => e = .returned (.tuple #[cv Cmd.zero, .int .i64 3]) ∧ Below W.heap.size W w' := by
  go_enter Try.func13, Try.ntmps13
  go_wp2
  refine bodyPost_ret (v := .tuple #[cv Cmd.zero, .int .i64 3]) ?_ rfl ⟨rfl, (Below.refl _ _).alloc (Nat.le_refl _) _⟩
  simp [results, Try.results13, go_sem, Cmd.zero]
theorem decode_kind (k cap : Nat) (ao : Option Addr) (x : Nat) (t : List Nat) (hx : x < 1 ∨ 3 < x) (W : World) (hB : Bt W k ao cap (x :: t)) :
    Calls Try.prog 13 #[.slice ao (x :: t).length cap] W fun e w' => e = .returned (.tuple #[cv Cmd.zero, .int .i64 4]) ∧ Below W.heap.size W w' := by
  have cK := fun w => kind_any (x : Int) w
  have hk : kindB (x : Int) = false := by simp [kindB]; omega
  rw [hk] at cK
  clear hk hx
  have hx8 : (x : Int) < 256 := by have := hB.lt x (by simp); omega
  obtain ⟨off, rfl, hc⟩ := (hB.alloc (.cells #[.int .i64 0, .int .i64 0, .int .i64 0, .int .i64 0, .int .i64 0, .int .i64 0, .int .i64 0, .int .i64 0, .int .i64 0] 23)).open (by simp)
  have c0 : (W.alloc (.cells #[.int .i64 0, .int .i64 0, .int .i64 0, .int .i64 0, .int .i64 0, .int .i64 0, .int .i64 0, .int .i64 0, .int .i64 0] 23)).cell? ⟨k, off, none⟩ = some (.int .u8 (x : Int)) := hc 0 x rfl
  clear hc hB
  obtain ⟨m, hm⟩ : ∃ m, m = (x :: t).length := ⟨_, rfl⟩
  have h0 : 0 < m := by rw [hm]; simp
  have hq : ((m : Int) == 0) = false := by simp; omega
  rw [← hm]
  clear hm
  go_enter Try.func13, Try.ntmps13
  go_wp2_with (go_at_call 20; refine (cK _).mono ?_; rintro e w1 ⟨rfl, rfl⟩)
  refine bodyPost_ret (v := .tuple #[cv Cmd.zero, .int .i64 4]) ?_ rfl ⟨rfl, (Below.refl _ _).alloc (Nat.le_refl _) _⟩
  simp [results, Try.results13, go_sem, Cmd.zero]
theorem nine_below {B : Nat} {W w : World} {b : Nat} (h : Below B W w) (hb : B ≤ b) (v0 v1 v2 v3 v4 v5 v6 v7 v8 : Value) :
    Below B W (((((((((w.setCell ⟨b, 0, none⟩ v0).setCell ⟨b, 1, none⟩ v1).setCell ⟨b, 2, none⟩ v2).setCell ⟨b, 3, none⟩ v3).setCell ⟨b, 4, none⟩ v4).setCell ⟨b, 5, none⟩ v5).setCell ⟨b, 6, none⟩ v6).setCell ⟨b, 7, none⟩ v7).setCell ⟨b, 8, none⟩ v8) := by
  have h0 := h.setCell (p := ⟨b, 0, none⟩) hb v0
  have h1 := h0.setCell (p := ⟨b, 1, none⟩) hb v1
  have h2 := h1.setCell (p := ⟨b, 2, none⟩) hb v2
  have h3 := h2.setCell (p := ⟨b, 3, none⟩) hb v3
  have h4 := h3.setCell (p := ⟨b, 4, none⟩) hb v4
  have h5 := h4.setCell (p := ⟨b, 5, none⟩) hb v5
  have h6 := h5.setCell (p := ⟨b, 6, none⟩) hb v6
  have h7 := h6.setCell (p := ⟨b, 7, none⟩) hb v7
  exact h7.setCell (p := ⟨b, 8, none⟩) hb v8
theorem nine_blk {w : World} {b : Nat} {T : TypeId} {c : Cmd} (h : Blk w b T (cc c)) (v0 v1 v2 v3 v4 v5 v6 v7 v8 : Int) :
    Blk (((((((((w.setCell ⟨b, 0, none⟩ (.int .i64 v0)).setCell ⟨b, 1, none⟩ (.int .i64 v1)).setCell ⟨b, 2, none⟩ (.int .i64 v2)).setCell ⟨b, 3, none⟩ (.int .i64 v3)).setCell ⟨b, 4, none⟩ (.int .i64 v4)).setCell ⟨b, 5, none⟩ (.int .i64 v5)).setCell ⟨b, 6, none⟩ (.int .i64 v6)).setCell ⟨b, 7, none⟩ (.int .i64 v7)).setCell ⟨b, 8, none⟩ (.int .i64 v8)) b T (cc ⟨v0, v1, v2, v3, v4, v5, v6, v7, v8⟩) := by
  have h0 : Blk _ b T (cc ⟨v0, c.sym, c.id, c.owner, c.side, c.typ, c.price, c.qty, c.flags⟩) := h.set 0 (.int .i64 v0)
  have h1 : Blk _ b T (cc ⟨v0, v1, c.id, c.owner, c.side, c.typ, c.price, c.qty, c.flags⟩) := h0.set 1 (.int .i64 v1)
  have h2 : Blk _ b T (cc ⟨v0, v1, v2, c.owner, c.side, c.typ, c.price, c.qty, c.flags⟩) := h1.set 2 (.int .i64 v2)
  have h3 : Blk _ b T (cc ⟨v0, v1, v2, v3, c.side, c.typ, c.price, c.qty, c.flags⟩) := h2.set 3 (.int .i64 v3)
  have h4 : Blk _ b T (cc ⟨v0, v1, v2, v3, v4, c.typ, c.price, c.qty, c.flags⟩) := h3.set 4 (.int .i64 v4)
  have h5 : Blk _ b T (cc ⟨v0, v1, v2, v3, v4, v5, c.price, c.qty, c.flags⟩) := h4.set 5 (.int .i64 v5)
  have h6 : Blk _ b T (cc ⟨v0, v1, v2, v3, v4, v5, v6, c.qty, c.flags⟩) := h5.set 6 (.int .i64 v6)
  have h7 : Blk _ b T (cc ⟨v0, v1, v2, v3, v4, v5, v6, v7, c.flags⟩) := h6.set 7 (.int .i64 v7)
  have h8 : Blk _ b T (cc ⟨v0, v1, v2, v3, v4, v5, v6, v7, v8⟩) := h7.set 8 (.int .i64 v8)
  exact h8
set_option maxRecDepth 4000 in
set_option maxHeartbeats 1000000 in
theorem decode_in (k cap : Nat) (ao : Option Addr) (x : Nat) (t : List Nat) (h1 : 1 ≤ x) (h3 : x ≤ 3) (hlen : (x :: t).length ≤ 2000000) (W : World) (hB : Bt W k ao cap (x :: t)) :
    Calls Try.prog 13 #[.slice ao (x :: t).length cap] W fun e w' => e = .returned (.tuple #[cv (decK x (x :: t)).1, .int .i64 ((decK x (x :: t)).2 : Int)]) ∧ Below W.heap.size W w' := by
  have cK := fun w => kind_any (x : Int) w
  have hk : kindB (x : Int) = true := by simp [kindB]; omega
  rw [hk] at cK
  have cR := fun g w h => read_any5 x h1 h3 g t w h
  have hB0 := hB.alloc (.cells #[.int .i64 0, .int .i64 0, .int .i64 0, .int .i64 0, .int .i64 0, .int .i64 0, .int .i64 0, .int .i64 0, .int .i64 0] 23)
  have cN := newReader_any k cap ao (x :: t) hlen _ hB0
  unfold decK
  generalize rdL (fmtC x) (x :: t) 0 = q at cR ⊢
  obtain ⟨rs, ys, f⟩ := q
  simp only at cR ⊢
  generalize ofR rs = c at cR ⊢
  clear hk hlen h1
  have hx8 : (x : Int) < 256 := by omega
  clear h3
  obtain ⟨off, rfl, hc⟩ := hB0.open (by simp)
  have c0 : (W.alloc (.cells #[.int .i64 0, .int .i64 0, .int .i64 0, .int .i64 0, .int .i64 0, .int .i64 0, .int .i64 0, .int .i64 0, .int .i64 0] 23)).cell? ⟨k, off, none⟩ = some (.int .u8 (x : Int)) := hc 0 x rfl
  clear hc hB hB0
  obtain ⟨m, hm⟩ : ∃ m, m = (x :: t).length := ⟨_, rfl⟩
  have h0 : 0 < m := by rw [hm]; simp
  have hq : ((m : Int) == 0) = false := by simp; omega
  rw [← hm] at cN ⊢
  clear hm
  have hz : (W.alloc (.cells #[.int .i64 0, .int .i64 0, .int .i64 0, .int .i64 0, .int .i64 0, .int .i64 0, .int .i64 0, .int .i64 0, .int .i64 0] 23)).heap.size = W.heap.size + 1 := by simp
  have hres : Blk (W.alloc (.cells #[.int .i64 0, .int .i64 0, .int .i64 0, .int .i64 0, .int .i64 0, .int .i64 0, .int .i64 0, .int .i64 0, .int .i64 0] 23)) W.heap.size 23 #[.int .i64 0, .int .i64 0, .int .i64 0, .int .i64 0, .int .i64 0, .int .i64 0, .int .i64 0, .int .i64 0, .int .i64 0] := Blk.new _ _ _
  have hbel : Below W.heap.size W (W.alloc (.cells #[.int .i64 0, .int .i64 0, .int .i64 0, .int .i64 0, .int .i64 0, .int .i64 0, .int .i64 0, .int .i64 0, .int .i64 0] 23)) := (Below.refl _ _).alloc (Nat.le_refl _) _
  replace hz := Lib.hid hz
  generalize hW0 : W.alloc (.cells #[.int .i64 0, .int .i64 0, .int .i64 0, .int .i64 0, .int .i64 0, .int .i64 0, .int .i64 0, .int .i64 0, .int .i64 0] 23) = W0 at cN c0 hz hres hbel
  replace hW0 := Lib.hid hW0
  -- behind the reader: all but the result
  have hN : ∀ w1 g, Below W0.heap.size W0 w1 → W0.heap.size ≤ g → Blk w1 W.heap.size 23 (cc Cmd.zero) ∧ Below W.heap.size W w1 ∧ W.heap.size ≠ g ∧ W.heap.size ≤ g := fun w1 g hb hg => by
    have := hz.out
    exact ⟨hres.below hb (by omega), hbel.trans (hb.mono (by omega)), by omega, by omega⟩
  have hM : ∀ w1 w2 g, Blk w1 W.heap.size 23 (cc Cmd.zero) ∧ Below W.heap.size W w1 ∧ W.heap.size ≠ g ∧ W.heap.size ≤ g → Frm (fun b => b = g) w1 w2 → Blk w2 W.heap.size 23 (cc Cmd.zero) ∧ Below W.heap.size W w2 ∧ W.heap.size < w2.heap.size := fun w1 w2 g h hf => by
    obtain ⟨h1, h2, h3, h4⟩ := h
    have h5 := h1.frm hf (by omega)
    exact ⟨h5, h2.trans (hf.below h2.size (by rintro b rfl; omega)), h5.lt⟩
  have hsub := hW0.out
  subst hsub
  clear hW0 hres hbel hz
  obtain ⟨kind, sym, id, owner, side, typ, price, qty, flags⟩ := c
  simp only [cv, cc] at cR
  by_cases hf : f = 0
  · subst hf
    rw [if_neg (by simp)]
    cases hr : rightB ⟨kind, sym, id, owner, side, typ, price, qty, flags⟩ with
    | false =>
      have cG := right_false hr
      rw [if_neg (by simp)]
      clear hr
      go_enter Try.func13, Try.ntmps13
      go_wp2_with (first
      | (go_at_call 20; (with_reducible refine (cK _).mono ?_); rintro e w0 ⟨rfl, rfl⟩)
      | (go_at_call 23; refine cN.mono ?_; rintro e w1 ⟨g, rfl, hR1, hb1, hg1⟩; have hG := hN _ _ hb1 hg1; clear hN hb1 hg1 cN c0 cK)
      | (go_at_call 24; refine (cR _ _ hR1).mono ?_; rintro e w2 ⟨rfl, hR2, hf2⟩; obtain ⟨hres, hbel, hlt⟩ := hM _ _ _ hG hf2; replace hres := hres.alloc (.cells #[.int .i64 kind, .int .i64 sym, .int .i64 id, .int .i64 owner, .int .i64 side, .int .i64 typ, .int .i64 price, .int .i64 qty, .int .i64 flags] 23); have hcmd : Blk (w2.alloc (.cells #[.int .i64 kind, .int .i64 sym, .int .i64 id, .int .i64 owner, .int .i64 side, .int .i64 typ, .int .i64 price, .int .i64 qty, .int .i64 flags] 23)) w2.heap.size 23 (cc ⟨kind, sym, id, owner, side, typ, price, qty, flags⟩) := Blk.new _ _ _; replace hbel := hbel.alloc (Nat.le_of_lt hlt) (.cells #[.int .i64 kind, .int .i64 sym, .int .i64 id, .int .i64 owner, .int .i64 side, .int .i64 typ, .int .i64 price, .int .i64 qty, .int .i64 flags] 23); have hR3 := hR2.below ((Below.refl _ _).alloc (Nat.le_refl _) (.cells #[.int .i64 kind, .int .i64 sym, .int .i64 id, .int .i64 owner, .int .i64 side, .int .i64 typ, .int .i64 price, .int .i64 qty, .int .i64 flags] 23)); clear hM hG hf2 hR1 cR hR2; obtain ⟨y0, y1, y2, y3, y4, y5, y6, y7, y8⟩ := cells9 hres; have yf := hres.free)
      | (go_at_call 25; (with_reducible refine (fault_any _ _ _ _ hR3).mono ?_); rintro e w3 ⟨rfl, rfl⟩)
      | (go_at_call 10; (with_reducible refine (cG _).mono ?_); rintro e w4 ⟨rfl, hb4⟩; have hlt4 : W.heap.size ≤ (w2.alloc (.cells #[.int .i64 kind, .int .i64 sym, .int .i64 id, .int .i64 owner, .int .i64 side, .int .i64 typ, .int .i64 price, .int .i64 qty, .int .i64 flags] 23)).heap.size := hbel.size; replace hres := hres.below hb4 (by simp; omega); replace hcmd := hcmd.below hb4 (by simp); replace hR3 := hR3.below hb4; replace hbel := hbel.trans (hb4.mono hlt4); clear hb4 hlt4; clear y0 y1 y2 y3 y4 y5 y6 y7 y8 yf; obtain ⟨y0, y1, y2, y3, y4, y5, y6, y7, y8⟩ := cells9 hres; have yf := hres.free; obtain ⟨x0, x1, x2, x3, x4, x5, x6, x7, x8⟩ := cells9 hcmd))
      refine bodyPost_ret (v := .tuple #[cv Cmd.zero, .int .i64 4]) ?_ rfl ⟨rfl, nine_below hbel (Nat.le_refl _) _ _ _ _ _ _ _ _ _⟩
      simp [results, Try.results13, go_sem, y0, y1, y2, y3, y4, y5, y6, y7, y8, Cmd.zero]
    | true =>
      have cG := right_true hr
      clear hr
      cases ys with
      | nil =>
        have cL : ∀ w g, Rr w g [] 0 → Calls Try.prog 26 #[.pointer (some ⟨g, 0, none⟩)] w fun e w' => e = .returned (.int .i64 0) ∧ w = w' := fun w g h => left_any g 0 [] w h
        rw [if_pos ⟨rfl, rfl⟩]
        go_enter Try.func13, Try.ntmps13
        go_wp2_with (first
      | (go_at_call 20; (with_reducible refine (cK _).mono ?_); rintro e w0 ⟨rfl, rfl⟩)
      | (go_at_call 23; refine cN.mono ?_; rintro e w1 ⟨g, rfl, hR1, hb1, hg1⟩; have hG := hN _ _ hb1 hg1; clear hN hb1 hg1 cN c0 cK)
      | (go_at_call 24; refine (cR _ _ hR1).mono ?_; rintro e w2 ⟨rfl, hR2, hf2⟩; obtain ⟨hres, hbel, hlt⟩ := hM _ _ _ hG hf2; replace hres := hres.alloc (.cells #[.int .i64 kind, .int .i64 sym, .int .i64 id, .int .i64 owner, .int .i64 side, .int .i64 typ, .int .i64 price, .int .i64 qty, .int .i64 flags] 23); have hcmd : Blk (w2.alloc (.cells #[.int .i64 kind, .int .i64 sym, .int .i64 id, .int .i64 owner, .int .i64 side, .int .i64 typ, .int .i64 price, .int .i64 qty, .int .i64 flags] 23)) w2.heap.size 23 (cc ⟨kind, sym, id, owner, side, typ, price, qty, flags⟩) := Blk.new _ _ _; replace hbel := hbel.alloc (Nat.le_of_lt hlt) (.cells #[.int .i64 kind, .int .i64 sym, .int .i64 id, .int .i64 owner, .int .i64 side, .int .i64 typ, .int .i64 price, .int .i64 qty, .int .i64 flags] 23); have hR3 := hR2.below ((Below.refl _ _).alloc (Nat.le_refl _) (.cells #[.int .i64 kind, .int .i64 sym, .int .i64 id, .int .i64 owner, .int .i64 side, .int .i64 typ, .int .i64 price, .int .i64 qty, .int .i64 flags] 23)); clear hM hG hf2 hR1 cR hR2; obtain ⟨y0, y1, y2, y3, y4, y5, y6, y7, y8⟩ := cells9 hres; have yf := hres.free)
      | (go_at_call 25; (with_reducible refine (fault_any _ _ _ _ hR3).mono ?_); rintro e w3 ⟨rfl, rfl⟩)
      | (go_at_call 10; (with_reducible refine (cG _).mono ?_); rintro e w4 ⟨rfl, hb4⟩; have hlt4 : W.heap.size ≤ (w2.alloc (.cells #[.int .i64 kind, .int .i64 sym, .int .i64 id, .int .i64 owner, .int .i64 side, .int .i64 typ, .int .i64 price, .int .i64 qty, .int .i64 flags] 23)).heap.size := hbel.size; replace hres := hres.below hb4 (by simp; omega); replace hcmd := hcmd.below hb4 (by simp); replace hR3 := hR3.below hb4; replace hbel := hbel.trans (hb4.mono hlt4); clear hb4 hlt4; clear y0 y1 y2 y3 y4 y5 y6 y7 y8 yf; obtain ⟨y0, y1, y2, y3, y4, y5, y6, y7, y8⟩ := cells9 hres; have yf := hres.free; obtain ⟨x0, x1, x2, x3, x4, x5, x6, x7, x8⟩ := cells9 hcmd)
      | (go_at_call 26; (with_reducible refine (cL _ _ hR3).mono ?_); rintro e w5 ⟨rfl, rfl⟩))
        refine bodyPost_ret (v := .tuple #[cv ⟨kind, sym, id, owner, side, typ, price, qty, flags⟩, .int .i64 0]) ?_ rfl ⟨rfl, nine_below hbel (Nat.le_refl _) _ _ _ _ _ _ _ _ _⟩
        simp [results, Try.results13, go_sem, y0, y1, y2, y3, y4, y5, y6, y7, y8, Cmd.zero]
      | cons y ys =>
        have cL := fun w g h => left_any g 0 (y :: ys) w h
        have h5 : 0 < (y :: ys).length := by simp
        rw [if_neg (by simp)]
        generalize (y :: ys).length = l at cL h5
        generalize (y :: ys) = zs at cL cR
        go_enter Try.func13, Try.ntmps13
        go_wp2_with (first
      | (go_at_call 20; (with_reducible refine (cK _).mono ?_); rintro e w0 ⟨rfl, rfl⟩)
      | (go_at_call 23; refine cN.mono ?_; rintro e w1 ⟨g, rfl, hR1, hb1, hg1⟩; have hG := hN _ _ hb1 hg1; clear hN hb1 hg1 cN c0 cK)
      | (go_at_call 24; refine (cR _ _ hR1).mono ?_; rintro e w2 ⟨rfl, hR2, hf2⟩; obtain ⟨hres, hbel, hlt⟩ := hM _ _ _ hG hf2; replace hres := hres.alloc (.cells #[.int .i64 kind, .int .i64 sym, .int .i64 id, .int .i64 owner, .int .i64 side, .int .i64 typ, .int .i64 price, .int .i64 qty, .int .i64 flags] 23); have hcmd : Blk (w2.alloc (.cells #[.int .i64 kind, .int .i64 sym, .int .i64 id, .int .i64 owner, .int .i64 side, .int .i64 typ, .int .i64 price, .int .i64 qty, .int .i64 flags] 23)) w2.heap.size 23 (cc ⟨kind, sym, id, owner, side, typ, price, qty, flags⟩) := Blk.new _ _ _; replace hbel := hbel.alloc (Nat.le_of_lt hlt) (.cells #[.int .i64 kind, .int .i64 sym, .int .i64 id, .int .i64 owner, .int .i64 side, .int .i64 typ, .int .i64 price, .int .i64 qty, .int .i64 flags] 23); have hR3 := hR2.below ((Below.refl _ _).alloc (Nat.le_refl _) (.cells #[.int .i64 kind, .int .i64 sym, .int .i64 id, .int .i64 owner, .int .i64 side, .int .i64 typ, .int .i64 price, .int .i64 qty, .int .i64 flags] 23)); clear hM hG hf2 hR1 cR hR2; obtain ⟨y0, y1, y2, y3, y4, y5, y6, y7, y8⟩ := cells9 hres; have yf := hres.free)
      | (go_at_call 25; (with_reducible refine (fault_any _ _ _ _ hR3).mono ?_); rintro e w3 ⟨rfl, rfl⟩)
      | (go_at_call 10; (with_reducible refine (cG _).mono ?_); rintro e w4 ⟨rfl, hb4⟩; have hlt4 : W.heap.size ≤ (w2.alloc (.cells #[.int .i64 kind, .int .i64 sym, .int .i64 id, .int .i64 owner, .int .i64 side, .int .i64 typ, .int .i64 price, .int .i64 qty, .int .i64 flags] 23)).heap.size := hbel.size; replace hres := hres.below hb4 (by simp; omega); replace hcmd := hcmd.below hb4 (by simp); replace hR3 := hR3.below hb4; replace hbel := hbel.trans (hb4.mono hlt4); clear hb4 hlt4; clear y0 y1 y2 y3 y4 y5 y6 y7 y8 yf; obtain ⟨y0, y1, y2, y3, y4, y5, y6, y7, y8⟩ := cells9 hres; have yf := hres.free; obtain ⟨x0, x1, x2, x3, x4, x5, x6, x7, x8⟩ := cells9 hcmd)
      | (go_at_call 26; (with_reducible refine (cL _ _ hR3).mono ?_); rintro e w5 ⟨rfl, rfl⟩))
        refine bodyPost_ret (v := .tuple #[cv Cmd.zero, .int .i64 4]) ?_ rfl ⟨rfl, nine_below hbel (Nat.le_refl _) _ _ _ _ _ _ _ _ _⟩
        simp [results, Try.results13, go_sem, y0, y1, y2, y3, y4, y5, y6, y7, y8, Cmd.zero]
  · rw [if_pos hf]
    have hf2 : ((f : Int) != 0) = true := by simp; omega
    have hf3 : ((f : Int) == 0) = false := by simp; omega
    clear hf
    go_enter Try.func13, Try.ntmps13
    go_wp2_with (first
      | (go_at_call 20; (with_reducible refine (cK _).mono ?_); rintro e w0 ⟨rfl, rfl⟩)
      | (go_at_call 23; refine cN.mono ?_; rintro e w1 ⟨g, rfl, hR1, hb1, hg1⟩; have hG := hN _ _ hb1 hg1; clear hN hb1 hg1 cN c0 cK)
      | (go_at_call 24; refine (cR _ _ hR1).mono ?_; rintro e w2 ⟨rfl, hR2, hf2⟩; obtain ⟨hres, hbel, hlt⟩ := hM _ _ _ hG hf2; obtain ⟨y0, y1, y2, y3, y4, y5, y6, y7, y8⟩ := cells9 hres; have yf := hres.free; have hres0 := hres; have hbel0 := hbel; replace hres := hres.alloc (.cells #[.int .i64 kind, .int .i64 sym, .int .i64 id, .int .i64 owner, .int .i64 side, .int .i64 typ, .int .i64 price, .int .i64 qty, .int .i64 flags] 23); have hcmd : Blk (w2.alloc (.cells #[.int .i64 kind, .int .i64 sym, .int .i64 id, .int .i64 owner, .int .i64 side, .int .i64 typ, .int .i64 price, .int .i64 qty, .int .i64 flags] 23)) w2.heap.size 23 (cc ⟨kind, sym, id, owner, side, typ, price, qty, flags⟩) := Blk.new _ _ _; replace hbel := hbel.alloc (Nat.le_of_lt hlt) (.cells #[.int .i64 kind, .int .i64 sym, .int .i64 id, .int .i64 owner, .int .i64 side, .int .i64 typ, .int .i64 price, .int .i64 qty, .int .i64 flags] 23); have hR3 := hR2.below ((Below.refl _ _).alloc (Nat.le_refl _) (.cells #[.int .i64 kind, .int .i64 sym, .int .i64 id, .int .i64 owner, .int .i64 side, .int .i64 typ, .int .i64 price, .int .i64 qty, .int .i64 flags] 23)); clear hM hG hf2 hR1 cR hR2)
      | (go_at_call 25; (with_reducible refine (fault_any _ _ _ _ hR3).mono ?_); rintro e w3 ⟨rfl, rfl⟩))
    refine bodyPost_ret (v := .tuple #[cv Cmd.zero, .int .i64 (f : Int)]) ?_ rfl ⟨rfl, ?_⟩
    · obtain ⟨z0, z1, z2, z3, z4, z5, z6, z7, z8⟩ := cells9 ((nine_blk hres0 0 0 0 0 0 0 0 0 0).alloc (.cells #[.int .i64 kind, .int .i64 sym, .int .i64 id, .int .i64 owner, .int .i64 side, .int .i64 typ, .int .i64 price, .int .i64 qty, .int .i64 flags] 23))
      simp [results, Try.results13, go_sem, z0, z1, z2, z3, z4, z5, z6, z7, z8, Cmd.zero]
    · have hnb := nine_below hbel0 (Nat.le_refl _) (.int .i64 0) (.int .i64 0) (.int .i64 0) (.int .i64 0) (.int .i64 0) (.int .i64 0) (.int .i64 0) (.int .i64 0) (.int .i64 0)
      exact hnb.alloc hnb.size _
end Go.Proofs.Ytjleebfdbkfgmaa
