/-
  act: Find; the whole.
-/
import Derived.Test.YthlpnlmjpdcbiaaLbo
import Derived.Deep.LoopGhost
namespace Go.Proofs.Ythlpnlmjpdcbiaa
open Go.RowKit
set_option linter.unusedSimpArgs false
/-- What the document's loop has found behind so many levels. -/
def Ld.wv (s : Ld) (p : Int) (i : Nat) : Lvl := match s.find p with
  | some j => if j < i then s.at j else .zero
  | none => .zero
def Ld.ws (s : Ld) (p : Int) (i : Nat) : Bool := match s.find p with
  | some j => decide (j < i)
  | none => false
theorem Ld.wv_zero (s : Ld) (p : Int) : s.wv p 0 = .zero ∧ s.ws p 0 = false := by
  unfold Ld.wv Ld.ws
  cases s.find p <;> simp
theorem Ld.wv_all (s : Ld) (p : Int) : s.wv p s.L.length = s.findV p ∧ s.ws p s.L.length = (s.find p).isSome := by
  unfold Ld.wv Ld.ws Ld.findV
  cases hf : s.find p with
  | none => simp
  | some j =>
    obtain ⟨x, hx, -⟩ := Ld.find_some hf
    have := (List.getElem?_eq_some_iff.1 hx).1
    simp [this]
theorem Ld.wv_yes {s : Ld} (hu : s.L.Pairwise fun a b => a.price ≠ b.price) {i : Nat} {y : Lvl} (hy : s.L[i]? = some y) : s.wv y.price (i + 1) = y ∧ s.ws y.price (i + 1) = true := by
  have hf : s.find y.price = some i := Ld.find_at hy rfl fun j z hj hz => uniP_lt hu hj hz hy
  unfold Ld.wv Ld.ws
  simp [hf, Ld.at_eq hy]
theorem Ld.wv_no {s : Ld} {p : Int} {i : Nat} {y : Lvl} (hy : s.L[i]? = some y) (hp : y.price ≠ p) : s.wv p (i + 1) = s.wv p i ∧ s.ws p (i + 1) = s.ws p i := by
  unfold Ld.wv Ld.ws
  cases hf : s.find p with
  | none => simp
  | some j =>
    obtain ⟨x, hx, hxp, -⟩ := Ld.find_some hf
    have hji : j ≠ i := by
      rintro rfl
      rw [hx] at hy
      cases hy
      exact hp hxp
    by_cases g : j < i
    · simp [g, show j < i + 1 by omega]
    · simp [g, show ¬ j < i + 1 by omega]
section
variable {w0 W : World} {S0 : Nat → Prop} {g r : Nat} {s : Ld} {k : Nat}
set_option maxRecDepth 8000 in
set_option maxHeartbeats 4000000 in
theorem act2_any (h : Bl w0 S0 g r s s W) (hu : s.L.Pairwise fun a b => a.price ≠ b.price) (m : Lac) (h0 : m.kind = 2) :
    Calls Try.prog 11 #[.pointer (some ⟨g, 0, none⟩), .pointer (some ⟨r, 0, none⟩), vLac m] W fun e w' => e = .returned (.bool true) ∧ Bl w0 S0 g r s s w' := by
  obtain ⟨S, k1, hk1⟩ := act_box h m
  obtain ⟨W1, hW1⟩ : ∃ W1, W1 = W.alloc (.cells (cLac m) 34) := ⟨_, rfl⟩
  rw [← hW1] at k1 hk1
  have bx := fun s' t' w' k => (hk1 s' t' w' k).1
  have fin := fun s' t' w' k => (hk1 s' t' w' k).2
  obtain ⟨kind, price, qty, gone⟩ := m
  obtain rfl : kind = 2 := h0
  obtain ⟨hz1, hz2⟩ := s.wv_zero price
  obtain ⟨ha1, ha2⟩ := s.wv_all price
  have hyes : ∀ (i : Nat) (y : Lvl), s.L[i]? = some y → y.price = price → s.wv price (i + 1) = y ∧ s.ws price (i + 1) = true := fun i y hy e => by subst e; exact Ld.wv_yes hu hy
  have hno : ∀ (i : Nat) (y : Lvl), s.L[i]? = some y → y.price ≠ price → s.wv price (i + 1) = s.wv price i ∧ s.ws price (i + 1) = s.ws price i := fun i y hy e => Ld.wv_no hy e
  have cF := qFind k1 price
  rw [← ha1, ← ha2] at cF
  have hsm : s.most ≤ 200 ∧ s.L.length ≤ 200 := by
    obtain ⟨Sp, Sr, -, ⟨ko, ao, cap, h2⟩, -⟩ := h.both
    have := h2.most
    have := h2.len
    omega
  clear ha1 ha2 hu
  generalize s.wv price = wv at *
  generalize s.ws price = ws at *
  try simp only at cF hyes hno
  simp only [cLac] at hW1
  have b1 := bx _ _ _ k1
  obtain ⟨x0, x1, x2, x3⟩ := Lac.cells b1
  simp only at x0 x1 x2 x3
  clear hk1 h b1
  obtain ⟨n, hn⟩ : ∃ n, n = s.L.length := ⟨_, rfl⟩
  rw [← hn] at cF
  obtain ⟨fv, hfv⟩ : ∃ fv, fv = wv n := ⟨_, rfl⟩
  rw [← hfv] at cF
  have hbz : ∀ w2, Bl W1 S g r s s w2 → ∃ w4, w4 = (w2.alloc (.cells (cLvl fv) 40)).alloc (.cells (cLvl Lvl.zero) 44) ∧ Bl W1 S g r s s w4 ∧ Blk w4 w2.heap.size 40 (cLvl fv) ∧ Blk w4 (w2.heap.size + 1) 44 (cLvl Lvl.zero) ∧ (∃ Sp Sr, PL w4 g Sp s ∧ RL w4 r Sr s ∧ (∀ b, Sp b → ¬ Sr b) ∧ (∀ b, Sp b ∨ Sr b → S b ∨ W1.heap.size ≤ b) ∧ (∀ b, Sp b ∨ Sr b → b < w2.heap.size)) ∧ Blk w4 W.heap.size 34 (cLac ⟨2, price, qty, gone⟩) ∧ W1.heap.size ≤ w2.heap.size := by
    intro w2 k2
    have hb2 : Below w2.heap.size w2 ((w2.alloc (.cells (cLvl fv) 40)).alloc (.cells (cLvl Lvl.zero) 44)) := ((Below.refl _ _).alloc (Nat.le_refl _) _).alloc (by simp) _
    obtain ⟨Sp, Sr, h1, h2, h3, h4⟩ := k2.both
    exact ⟨_, rfl, k2.below hb2, (Blk.new _ _ _).alloc _, Blk.new' (by simp), ⟨Sp, Sr, h1.below hb2, h2.below hb2, h3, h4, fun b e => by rcases e with e | e; exact h1.lt b e; exact h2.lt b e⟩, bx _ _ _ (k2.below hb2), k2.frm.size⟩
  replace hyes := Lib.hid hyes
  replace hno := Lib.hid hno
  have hn200 : n ≤ 200 := by rw [hn]; exact hsm.2
  replace hn := Lib.hid hn
  replace hfv := Lib.hid hfv
  replace hbz := Lib.hid hbz
  have hWs : W.heap.size < W1.heap.size := by rw [hW1]; simp
  go_enter Try.func11, Try.ntmps11
  go_wp2_with (first
    | (rw [← hW1]; clear hW1)
    | (go_at_call 20; (with_reducible refine cF.mono ?_); rintro e w2 ⟨rfl, k2⟩; clear x0 x1 x2 x3 cF k1))
  obtain ⟨w4, hw4, k4, hb15, hb17, ⟨Sp, Sr, h1, h2, h3, h4, h5⟩, hbx, hW2⟩ := hbz.out _ k2
  simp only [cLvl, Lvl.zero] at hw4
  rw [← hw4]
  clear hw4 hbz k2
  obtain ⟨ko, ao, cap, h2⟩ := h2
  have hl4 : w2.heap.size + 1 < w4.heap.size := hb17.lt
  generalize hB : w2.heap.size = B at *
  clear hB
  have hfr : ∀ w, Frm (fun b => b = B + 1) w4 w → RlB w r Sr ko ao cap s ∧ Blk w W.heap.size 34 (cLac ⟨2, price, qty, gone⟩) ∧ Blk w B 40 (cLvl fv) ∧ Bl W1 S g r s s w := by
    intro w hf
    refine ⟨h2.frm hf (fun b e hs => by have := h5 b (.inr hs); omega), blk_frm hbx hf (by omega), blk_frm hb15 hf (by omega), ?_⟩
    refine ⟨k4.frm.trans hf (fun b e => .inr (by omega)), Sp, Sr, h1.frm hf (fun b e hs => by have := h5 b (.inl hs); omega), ⟨ko, ao, cap, h2.frm hf (fun b e hs => by have := h5 b (.inr hs); omega)⟩, h3, h4⟩
  have hst : Hid (Blk w4 (B + 1) 44 (cLvl (wv 0)) ∧ Frm (fun b => b = B + 1) w4 w4) := Lib.hid ⟨by rw [hz1]; exact hb17, Frm.refl _ _⟩
  replace hfr := Lib.hid hfr
  replace hz2 := Lib.hid hz2
  clear k4 h1 h2 h3 h4 h5 hb15 hb17 hbx hz1
  go_loopg [18, 19] n (fun j p18 p19 wr => ∃ i : Nat, i + j = n ∧ p19 = .int .i64 (i : Int) ∧ p18 = .bool (ws i) ∧ Hid (Blk wr (B + 1) 44 (cLvl (wv i)) ∧ Frm (fun b => b = B + 1) w4 wr))
  case atStart => exact ⟨0, by omega, rfl, by rw [hz2.out], hst⟩
  case round =>
    obtain ⟨i, hi, rfl, rfl, hI⟩ := hrel
    obtain ⟨hR, hX, hFv, hBl⟩ := hfr.out _ hI.out.2
    have c2 := hR.c2
    rw [← hn.out] at c2
    by_cases hin : i < n
    · obtain ⟨y, hy⟩ : ∃ y, s.L[i]? = some y := ⟨_, List.getElem?_eq_getElem (by rw [← hn.out]; exact hin)⟩
      obtain ⟨b, off, rfl, y0, y1, y2, y3⟩ := hR.lvls.get hy
      replace y0 : wr.cell? ⟨b, off + i * 4, none⟩ = some (.int .i64 y.price) := y0
      obtain ⟨x0, x1, x2, x3⟩ := Lac.cells hX
      have hi2 : (i : Int) < (n : Int) := by omega
      obtain ⟨z0, z1, z2, z3⟩ := Lvl.cells hI.out.1
      have fz := hI.out.1.free
      by_cases hp : y.price = price
      · obtain ⟨e1, e2⟩ := hyes.out i y hy hp
        have hnx : ∀ m, Hid (Blk (((((wr.drewN m).setCell ⟨B + 1, 0, none⟩ (.int .i64 y.price)).setCell ⟨B + 1, 1, none⟩ (.int .i64 y.qty)).setCell ⟨B + 1, 2, none⟩ (.int .i64 y.orders)).setCell ⟨B + 1, 3, none⟩ (.int .i64 y.queue)) (B + 1) 44 (cLvl (wv (i + 1))) ∧ Frm (fun b => b = B + 1) w4 (((((wr.drewN m).setCell ⟨B + 1, 0, none⟩ (.int .i64 y.price)).setCell ⟨B + 1, 1, none⟩ (.int .i64 y.qty)).setCell ⟨B + 1, 2, none⟩ (.int .i64 y.orders)).setCell ⟨B + 1, 3, none⟩ (.int .i64 y.queue))) := by
          intro m
          rw [e1]
          have hI1 : Blk (wr.drewN m) (B + 1) 44 (cLvl (wv i)) := hI.out.1
          have hI2 : Frm (fun b => b = B + 1) w4 (wr.drewN m) := hI.out.2.trans (Frm.of_below (S := fun _ => False) (belowN (Below.refl _ _) m)) (fun _ f => f.elim)
          exact Lib.hid ⟨Lvl.lay hI1 y.price y.qty y.orders y.queue, Lvl.frm hI2 (.inl rfl) _ _ _ _⟩
        have hd : (y.price == price) = true := by simpa using hp
        have e2h := Lib.hid e2
        obtain ⟨yp, yq, yo, yu⟩ := y
        simp only at *
        generalize wv i = wvi at *
        obtain ⟨v0, v1, v2, v3⟩ := wvi
        simp only at z0 z1 z2 z3
        clear hI hR hX hFv hBl hy hyes hno e1 e2 hst hp
        go_wp2_with fail
        go_quiet (fail)
        go_wp2_with fail
        go_roundg (n - (i + 1))
        case measure => omega
        case rel => exact ⟨i + 1, by omega, by go_num, by rw [e2h.out], hnx nq⟩
      · obtain ⟨e1, e2⟩ := hno.out i y hy hp
        have hnx : ∀ m, Hid (Blk (wr.drewN m) (B + 1) 44 (cLvl (wv (i + 1))) ∧ Frm (fun b => b = B + 1) w4 (wr.drewN m)) := by
          intro m
          rw [e1]
          exact Lib.hid ⟨hI.out.1, hI.out.2.trans (Frm.of_below (S := fun _ => False) (belowN (Below.refl _ _) m)) (fun _ f => f.elim)⟩
        have hd : (y.price == price) = false := by simpa using hp
        have e2h := Lib.hid e2
        obtain ⟨yp, yq, yo, yu⟩ := y
        simp only at *
        clear hI hR hX hFv hBl hy hyes hno e1 e2 hst hp z0 z1 z2 z3
        go_wp2_with fail
        go_quiet (fail)
        go_wp2_with fail
        go_roundg (n - (i + 1))
        case measure => omega
        case rel => exact ⟨i + 1, by omega, by go_num, by rw [e2h.out], hnx nq⟩
    · obtain rfl : i = n := by omega
      obtain ⟨z0, z1, z2, z3⟩ := Lvl.cells hI.out.1
      obtain ⟨q0, q1, q2, q3⟩ := Lvl.cells hFv
      rw [← hfv.out] at z0 z1 z2 z3
      have cS := same_any fv wr
      have hend : ∀ w, Below wr.heap.size wr w → Bl w0 S0 g r s s w := fun w hb => fin _ _ _ (hBl.below hb)
      replace hend := Lib.hid hend
      clear hI hR hX hFv hBl hyes hno hst hfr hfv fin bx
      obtain ⟨v0, v1, v2, v3⟩ := fv
      simp only [vLvl, cLvl] at *
      go_wp2_with (go_at_call 14; (with_reducible refine cS.mono ?_); rintro e w5 ⟨rfl, hb5⟩; clear cS)
      all_goals go_ret
      all_goals exact ⟨by simp, hend.out _ hb5⟩
theorem act_any (h : Bl w0 S0 g r s s W) (hw : s.Wf k) (hk : k ≤ 1000000) (m : Lac) (hm : m.Fit) :
    Calls Try.prog 11 #[.pointer (some ⟨g, 0, none⟩), .pointer (some ⟨r, 0, none⟩), vLac m] W fun e w' => e = .returned (.bool true) ∧ Bl w0 S0 g r (s.act m) (s.act m) w' := by
  unfold Ld.act
  by_cases h0 : m.kind = 0
  · rw [if_pos h0]; exact act0_any h hw hk m hm h0
  · rw [if_neg h0]
    by_cases h1 : m.kind = 1
    · rw [if_pos h1]; exact act1_any h hw hk m h1
    · rw [if_neg h1]
      by_cases h2 : m.kind = 2
      · exact act2_any h hw.uniP m h2
      · exact act3_any h hw m h0 h1 h2
end
end Go.Proofs.Ythlpnlmjpdcbiaa
