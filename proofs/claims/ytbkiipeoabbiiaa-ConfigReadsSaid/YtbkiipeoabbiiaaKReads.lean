/-
  The walk of ConfigReads.
-/
import Derived.Test.YtbkiipeoabbiiaaQt
import Derived.Test.YtbkiipeoabbiiaaCfgD
import Derived.Test.YtbkiipeoabbiiaaCfgH
import Derived.Test.YtbkiipeoabbiiaaCfgM
import Derived.Test.YtbkiipeoabbiiaaPost
namespace Go.Proofs.Ytbkiipeoabbiiaa
open Go.RowKit
set_option maxRecDepth 8000 in
set_option maxHeartbeats 2000000 in
theorem kreads_any (k cap : Nat) (ao : Option Addr) (b : List Nat) (W : World) (hB : Bt W k ao cap b) :
    Calls Try.prog 5 #[.slice ao b.length cap] W fun e w' => e = .returned (.bool true) ∧ Below W.heap.size W w' := by
  have hl := hB.len
  have hm := hB.top
  unfold maxLen at hm
  by_cases h15 : b.length ≤ 1500
  · have cC := cread_any k cap ao b (by omega) W hB
    have cQ := fun w (h : Bt w k ao cap b) => refread_any k cap ao b w h
    generalize readC b = r at cC cQ
    obtain ⟨c, f⟩ := r
    simp only at cC cQ
    have cS := fun sa sc ra rc ta tc ua uc w h g => rcsame_any sa sc ra rc c ta tc ua uc c w h g
    rw [sameC_self] at cS
    go_enter Try.func5, Try.ntmps5
    go_wp2_with (first
      | (go_at_call 20; (with_reducible refine cC.mono ?_); rintro e w1 ⟨sa, sc, ra, rc, rfl, hH1, hb1⟩; have hk1 := Blk.new w1 27 (cCfg sa sc ra rc c); have hB1 := hb1.alloc hb1.size (.cells (cCfg sa sc ra rc c) 27); have hH1' := hH1.below ((Below.refl _ w1).alloc (Nat.le_refl _) (.cells (cCfg sa sc ra rc c) 27)))
      | (go_at_call 21; (with_reducible refine (cQ _ (hB.below hB1)).mono ?_); rintro e w2 ⟨ta, tc, ua, uc, rfl, hG2, hb2⟩; have hk2 := hk1.below hb2 hk1.lt; have hl2 := hk2.lt; obtain ⟨x0, x1, x2, x3, x4, x5, x6, x7⟩ := Cfg.cells hk2; have hB2 := hB1.trans (hb2.mono hB1.size); have hH2 := hH1'.below hb2; have ha2 : Below w2.heap.size w2 (w2.alloc (.cells (cCfg ta tc ua uc c) 27)) := (Below.refl _ w2).alloc (Nat.le_refl _) _)
      | (go_at_call 19; (with_reducible refine (cS _ _ _ _ _ _ _ _ _ (hH2.below ha2) (hG2.below ha2)).mono ?_); rintro e w3 ⟨rfl, hb3⟩)
      | (go_at_call 8; (with_reducible refine (alive7_any _).mono ?_); rintro e w4 ⟨rfl, hb4⟩))
    go_ret
    have h2 := hB2.trans (ha2.mono hB2.size)
    have h3 := h2.trans (hb3.mono h2.size)
    exact ⟨rfl, h3.trans (hb4.mono h3.size)⟩
  · go_enter Try.func5, Try.ntmps5
    go_wp2_with (go_at_call 8; (with_reducible refine (alive7_any _).mono ?_); rintro e w4 ⟨rfl, hb4⟩)
    go_ret
    exact ⟨rfl, hb4⟩
end Go.Proofs.Ytbkiipeoabbiiaa
