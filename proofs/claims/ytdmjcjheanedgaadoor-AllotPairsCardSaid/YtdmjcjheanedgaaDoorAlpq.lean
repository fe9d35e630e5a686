/-
  AllotPairs.
-/
import Derived.Test.YtdmjcjheanedgaaDoorAlhq
import Derived.Test.YtdmjcjheanedgaaDoorGHe
import Derived.Test.YtdmjcjheanedgaaDoorMliq
namespace Go.Proofs.YtdmjcjheanedgaaDoor
open Go.RowKit
set_option linter.unusedSimpArgs false
set_option maxRecDepth 8000 in
set_option maxHeartbeats 8000000 in
theorem apairs_any (ao : Option Addr) (cap : Nat) (l : List Ord) (price : Int) (W : World) (hG : Gl W) (hL : Ords W ao cap l) (hF : ∀ m ∈ l, m.Fit) :
    Calls Tryd.prog 3 #[.slice ao l.length cap, .int .i64 price] W fun e w' => e = .returned (.bool true) ∧ Below W.heap.size W w' := by
  have hl1 := hL.len
  have hl2 := hL.top
  unfold maxLen at hl2
  have hl3 : l.length ≤ 9223372036854775807 := by omega
  clear hl1 hl2
  have cA := fun w (h : Gl w) => alive18_any w h
  by_cases h60 : 60 < l.length
  · have d60 : decide ((60 : Int) < (l.length : Int)) = true := decide_eq_true (by omega)
    clear h60
    go_enter Tryd.func3, Tryd.ntmps3
    go_wp2_with (first
      | (go_at_call 6; refine (cA _ hG).mono ?_; rintro e w3 ⟨rfl, hb3⟩; clear cA)
      | fail)
    go_ret
    exact ⟨rfl, hb3⟩
  have d60 : decide ((60 : Int) < (l.length : Int)) = false := decide_eq_false (by omega)
  have cB := books_any ao cap l W hG hL hF (by omega)
  clear hL hF h60 hl3
  generalize bks l = b at *
  have cP := fun g t k w (h : Bb W (fun _ => False) g t k b b w) => bbPairs price h
  have cR : ∀ g t k w, Bb W (fun _ => False) g t k b b w → Calls Tryd.prog 11 #[.pointer (some ⟨t, 0, none⟩), .int .i64 price] w fun e w' => ∃ ao cap, e = .returned (.slice ao (prsL b.L price).length cap) ∧ Prs w' ao cap (prsL b.L price) ∧ Below w.heap.size w w' := fun g t k w h => by
    have hok := h.ok
    obtain ⟨Sp, Sr, -, h2, -⟩ := h.both
    refine (rpairs_any price hok h2).mono ?_
    rintro e w' ⟨ko, cap, ao, he, hg⟩
    exact ⟨ao, cap, he, Prs.of_own hg.ow, hg.bel⟩
  have cK : ∀ g t k w, Bb W (fun _ => False) g t k b b w → ∀ ao cap, Prs w ao cap (prsL b.L price) → Calls Tryd.prog 9 #[.slice ao (prsL b.L price).length cap] w fun e w' => ∃ ao cap, e = .returned (.slice ao (prsL b.L price).length cap) ∧ Prs w' ao cap (prsL b.L price) ∧ Below w.heap.size w w' := fun g t k w h ao cap hP => by
    have hlen := prsL_len h.ok price
    refine (back18_any _ (by omega) hP).mono ?_
    rintro e w' ⟨ko, cap, ao, he, hg⟩
    exact ⟨ao, cap, he, Prs.of_own hg.ow, hg.bel⟩
  have cS := fun w ao ao' cap cap' h1 h2 => same18_any (ao := ao) (ao' := ao') (cap := cap) (cap' := cap') (prsL b.L price) w h1 h2
  have cN := fun w => al_pairs_nil price w
  have cL : ∀ g t k w, Bb W (fun _ => False) g t k b b w → Calls Tryd.prog 12 #[.pointer (some ⟨g, 0, none⟩), .pointer (some ⟨t, 0, none⟩)] w fun e w' => e = .returned (.bool true) ∧ Below w.heap.size w w' := fun g t k w h => by
    obtain ⟨Sp, Sr, h1, h2, -⟩ := h.both
    exact like_any h1 h2
  have fin : ∀ g t k w, Bb W (fun _ => False) g t k b b w → Below W.heap.size W w := fun g t k w h => h.frm.below (Nat.le_refl _) (fun _ f => f.elim)
  generalize prsL b.L price = P at *
  go_enter Tryd.func3, Tryd.ntmps3
  go_wp2_with (first
    | (go_at_call 7; refine cB.mono ?_; rintro e w2 ⟨g, t, rfl, k2⟩; clear cB)
    | (go_at_call 10; (with_reducible refine (cP _ _ _ _ k2).mono ?_); rintro e w3 ⟨ao3, cap3, rfl, hP3, k3, -⟩; clear cP)
    | (go_at_call 9; refine (cK _ _ _ _ k3 _ _ hP3).mono ?_; rintro e w4 ⟨ao4, cap4, rfl, hP4, hb4⟩; clear cK hP3; have k4 := k3.below hb4)
    | (go_at_call 11; refine (cR _ _ _ _ k4).mono ?_; rintro e w5 ⟨ao5, cap5, rfl, hP5, hb5⟩; clear cR; have k5 := k4.below hb5; have hQ5 := hP4.below hb5)
    | (go_at_call 8; refine (cS _ _ _ _ _ hQ5 hP5).mono ?_; rintro e w6 ⟨rfl, hb6⟩; clear cS; have k6 := k5.below hb6)
    | (go_at_call 10; refine (cN _).mono ?_; rintro e w7 ⟨ao7, cap7, rfl, hb7⟩; clear cN; have k7 := k6.below hb7)
    | (go_at_call 12; refine (cL _ _ _ _ k7).mono ?_; rintro e w8 ⟨rfl, hb8⟩; clear cL; have k8 := k7.below hb8; have hbw := fin _ _ _ _ k8)
    | (go_at_call 6; refine (cA _ (hG.below hbw)).mono ?_; rintro e w9 ⟨rfl, hb9⟩; clear cA)
    | fail)
  go_ret
  exact ⟨rfl, hbw.trans (hb9.mono hbw.size)⟩
end Go.Proofs.YtdmjcjheanedgaaDoor
