/-
  The walk of SessionLasts.
-/
import Derived.Test.YtjcopnhienijjaaSesE
namespace Go.Proofs.Ytjcopnhienijjaa
open Go.RowKit
set_option maxRecDepth 8000 in
set_option maxHeartbeats 1000000 in
theorem slasts_any (ao : Option Addr) (cap : Nat) (l : List Rowp) (hF : ∀ m ∈ l, m.Fit) (f t : Int) (W : World) (hL : Rowps W ao cap l) :
    Calls Try.prog 5 #[.slice ao l.length cap, .int .i64 f, .int .i64 t] W fun e w' => e = .returned (.bool true) ∧ Below W.heap.size W w' := by
  have cL := light_any ao cap l f W hL
  have cV := fun w => alive8_any w
  by_cases hg : Ris l ∧ l.length ≤ 60 ∧ 0 ≤ f
  · obtain ⟨hR, h60, ht⟩ := hg
    obtain ⟨p, hp⟩ := Pas.exists hR f
    obtain ⟨c, hc⟩ := Chg.exists l p hp.le
    obtain ⟨v, hx⟩ := Rs.exists hc.le f
    have cN := fun w hw => lasts_any ao cap l (by omega) f t p c hp hc w hw
    have cM := fun w hw => refLasts_any ao cap l hR f t p c hp hc w hw
    have cA := fun w hw => rest_any ao cap l (by omega) hF f ht p c hp hc v hx w hw
    have cB := fun w hw => refRest_any ao cap l hF f ht p c hp hc v hx w hw
    generalize Ls l p c f t = z at cN cM
    clear hp hx hc
    go_enter Try.func5, Try.ntmps5
    go_wp2_with (first
      | (go_at_call 7; (with_reducible refine cL.mono ?_); rintro e w1 ⟨kk, rfl, -, hb1⟩; have hL1 := hL.below hb1; cases kk)
      | (go_at_call 15; (with_reducible refine (cN _ hL1).mono ?_); rintro e w2 ⟨rfl, hb2⟩; have hL2 := hL1.below hb2)
      | (go_at_call 16; (with_reducible refine (cM _ hL2).mono ?_); rintro e w3 ⟨rfl, rfl⟩)
      | (go_at_call 17; (with_reducible refine (cA _ hL2).mono ?_); rintro e w4 ⟨rfl, hb4⟩; have hL4 := hL2.below hb4)
      | (go_at_call 18; (with_reducible refine (cB _ hL4).mono ?_); rintro e w5 ⟨rfl, rfl⟩)
      | (go_at_call 8; (with_reducible refine (cV _).mono ?_); rintro e w6 ⟨rfl, hb6⟩))
    all_goals go_ret
    all_goals first
      | exact ⟨rfl, hb1.trans (hb6.mono hb1.size)⟩
      | (have h2 := hb1.trans (hb2.mono hb1.size)
         have h4 := h2.trans (hb4.mono h2.size)
         exact ⟨rfl, h4.trans (hb6.mono h4.size)⟩)
  · go_enter Try.func5, Try.ntmps5
    go_wp2_with (first
      | (go_at_call 7; (with_reducible refine cL.mono ?_); rintro e w1 ⟨kk, rfl, hk, hb1⟩; obtain rfl := no_of hk hg)
      | (go_at_call 8; (with_reducible refine (cV _).mono ?_); rintro e w6 ⟨rfl, hb6⟩))
    go_ret
    exact ⟨rfl, hb1.trans (hb6.mono hb1.size)⟩
end Go.Proofs.Ytjcopnhienijjaa
