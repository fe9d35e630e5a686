/-
  What the laws of ladder ask: order, right.
-/
import Derived.Test.YthlpnlmjpdcbiaaLbp
import Derived.Test.YthlpnlmjpdcbiaaLal
import Derived.Test.YthlpnlmjpdcbiaaLso
namespace Go.Proofs.Ythlpnlmjpdcbiaa
open Go.RowKit
set_option linter.unusedSimpArgs false
section
variable {w0 w w' W : World} {S0 : Nat → Prop} {g r : Nat} {s t : Ld} {k : Nat}
theorem qLen (h : Bl w0 S0 g r s t w) : Calls Try.prog 12 #[.pointer (some ⟨g, 0, none⟩)] w fun e w' => e = .returned (.int .i64 (s.L.length : Nat)) ∧ w' = w := by
  obtain ⟨Sp, Sr, h1, h2, h3, h4⟩ := h.both
  exact plen2_any h1
theorem qRow (h : Bl w0 S0 g r s t w) : ∃ ao cap, w.cell? ⟨r, 2, none⟩ = some (.slice ao t.L.length cap) := by
  obtain ⟨Sp, Sr, h1, ⟨ko, ao, cap, h2⟩, h3, h4⟩ := h.both
  exact ⟨ao, cap, h2.c2⟩
/-- The levels of a side in order. -/
noncomputable def Ld.srt (s : Ld) (hu : s.L.Pairwise fun a b => a.price ≠ b.price) : List Lvl := Classical.choose (Ord.exists (buy := s.buy) hu)
theorem Ld.srt_ord (s : Ld) (hu : s.L.Pairwise fun a b => a.price ≠ b.price) : Ord s.buy s.L (s.srt hu) := Classical.choose_spec (Ord.exists (buy := s.buy) hu)
theorem qBest (h : Bl w0 S0 g r s t w) (hw : s.Wf k) : Calls Try.prog 13 #[.pointer (some ⟨g, 0, none⟩)] w fun e w' => e = .returned (.tuple #[vLvl ((s.srt hw.uniP)[0]?.getD .zero), .bool (decide (0 < s.L.length))]) ∧ Below w.heap.size w w' := by
  obtain ⟨Sp, Sr, h1, h2, h3, h4⟩ := h.both
  exact pbest2_any (s.srt_ord hw.uniP) h1
theorem qSorted (h : Bl w0 S0 g r s t w) (hw : t.Wf k) (w' : World) (hb : Below w.heap.size w w') : Calls Try.prog 15 #[.pointer (some ⟨r, 0, none⟩)] w' fun e w2 => ∃ ao cap, e = .returned (.slice ao t.L.length cap) ∧ Lvls w2 ao cap (t.srt hw.uniP) ∧ Below w'.heap.size w' w2 := by
  obtain ⟨Sp, Sr, h1, ⟨ko, ao, cap, h2⟩, h3, h4⟩ := h.both
  refine (lsorted_any (h2.below hb) hw.uniP).mono ?_
  rintro e w2 ⟨P, ko', cap', ao', rfl, hO, hG⟩
  obtain rfl := hO.uni (t.srt_ord hw.uniP)
  refine ⟨ao', cap', by rw [hO.len], Lvls.of_own hG.ow, hG.bel⟩
theorem Bl.bel {W : World} (h : Bl W (fun _ => False) g r s t w) : Below W.heap.size W w := h.frm.below (Nat.le_refl _) (fun _ f => f.elim)
/-- The two as they begin. -/
theorem Bl.start {w1 w2 : World} {buy : Bool} {n : Nat} {Sp Sr : Nat → Prop} (hb1 : Below W.heap.size W w1) (hP : PL w1 g Sp ⟨buy, n, []⟩) (hSp : ∀ b, Sp b → W.heap.size ≤ b) (hb2 : Below w1.heap.size w1 w2) (hR : RL w2 r Sr ⟨buy, n, []⟩) (hSr : ∀ b, Sr b → w1.heap.size ≤ b) : Bl W (fun _ => False) g r ⟨buy, n, []⟩ ⟨buy, n, []⟩ w2 :=
  ⟨(Frm.of_below hb1).trans (Frm.of_below (S := fun _ => False) hb2) (fun _ f => f.elim), Sp, Sr, hP.below hb2, hR, fun b e e' => by have := hP.lt b e; have := hSr b e'; omega, fun b e => by
    right
    rcases e with e | e
    · exact hSp b e
    · have := hSr b e; have := hb1.size; omega⟩
set_option maxRecDepth 8000 in
set_option maxHeartbeats 1000000 in
theorem right_any (ao : Option Addr) (cap : Nat) (l : List Lac) (W : World) (hL : Lacs W ao cap l) :
    Calls Try.prog 7 #[.slice ao l.length cap] W fun e w' => ∃ R, e = .returned (.bool R) ∧ (R = true → l.length ≤ 120) ∧ w' = W := by
  have hl1 := hL.len
  have hl2 := hL.top
  unfold maxLen at hl2
  by_cases hlen : 120 < l.length
  · go_enter Try.func7, Try.ntmps7
    go_wp2_with fail
    go_ret
    exact ⟨false, rfl, (fun h => by cases h), rfl⟩
  · go_enter Try.func7, Try.ntmps7
    go_wp2_with fail
    go_loopg [3] l.length (fun j p3 wr => ∃ i : Nat, i + j = l.length ∧ p3 = .int .i64 (i : Int) ∧ wr = W)
    case atStart => exact ⟨0, by omega, rfl, rfl⟩
    case round =>
      obtain ⟨i, hi, rfl, rfl⟩ := hrel
      by_cases hil : i < l.length
      · obtain ⟨m, hm⟩ : ∃ m, l[i]? = some m := ⟨_, List.getElem?_eq_getElem hil⟩
        obtain ⟨b, off, rfl, y0, y1, y2, y3⟩ := hL.get hm
        have hi2 : (i : Int) < (l.length : Int) := by omega
        have hd : decide (m.price < -4611686018427387904) = true ∨ (decide (m.price < -4611686018427387904) = false ∧ decide (4611686018427387904 < m.price) = true) ∨ (decide (m.price < -4611686018427387904) = false ∧ decide (4611686018427387904 < m.price) = false) := by
          by_cases g1 : m.price < -4611686018427387904
          · exact .inl (decide_eq_true g1)
          · by_cases g2 : 4611686018427387904 < m.price
            · exact .inr (.inl ⟨decide_eq_false g1, decide_eq_true g2⟩)
            · exact .inr (.inr ⟨decide_eq_false g1, decide_eq_false g2⟩)
        clear hm hL y0 y2 y3
        generalize m.price = mp at *
        rcases hd with d1 | ⟨d1, d2⟩ | ⟨d1, d2⟩
        · go_wp2_with fail
          go_ret
          exact ⟨false, rfl, (fun h => by cases h), rfl⟩
        · go_wp2_with fail
          go_ret
          exact ⟨false, rfl, (fun h => by cases h), rfl⟩
        · go_wp2_with fail
          go_roundg (l.length - (i + 1))
          case measure => omega
          case rel => exact ⟨i + 1, by omega, by go_num, rfl⟩
      · obtain rfl : i = l.length := by omega
        go_wp2_with fail
        go_ret
        exact ⟨true, rfl, fun _ => by omega, rfl⟩
end
end Go.Proofs.Ythlpnlmjpdcbiaa
