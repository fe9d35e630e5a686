/-
  FrameTakes, for every two slices of bytes.
-/
import Derived.Test.YtkoehchaehoogaaFrmT
import Derived.Test.YtkoehchaehoogaaPost
namespace Go.Proofs.Ytkoehchaehoogaa
open Go.RowKit

set_option maxHeartbeats 1000000 in
theorem takes_any (k cap : Nat) (ao : Option Addr) (xs : List Nat) (j bcap : Nat) (bo : Option Addr) (ys : List Nat) (W : World) (hA : Bt W k ao cap xs) (hB : Bt W j bo bcap ys) :
    Calls Try.prog 3 #[.slice ao xs.length cap, .slice bo ys.length bcap] W fun e w' => e = .returned (.bool true) ∧ Below W.heap.size W w' := by
  have hlA := hA.len
  have hmA := hA.top
  have hlB := hB.len
  have hmB := hB.top
  unfold maxLen at hmA hmB
  have cA := fun w => alive_any w
  by_cases hs : xs.length ≤ 200 ∧ ys.length ≤ 400
  · obtain ⟨hs1, hs2⟩ := hs
    by_cases hx : xs.length ≤ 64
    · have cT := fun w h => ftake_any j bcap bo ys w h
      have cR := fun w h => rtake_any j bcap bo ys w h
      generalize takeF ys = t at cT cR
      obtain ⟨ps, n, f⟩ := t
      simp only [Took, TookR] at cT cR
      go_enter Try.func3, Try.ntmps3
      go_wp2_with (first
        | (go_at_call 8; refine (fput_ok k cap ao xs hx _ hA).mono ?_; rintro e w1 ⟨ao1, cap1, k1, rfl, hP1, hb1, _⟩; replace hA := hA.below hb1; replace hB := hB.below hb1)
        | (go_at_call 9; refine (rput_ok k cap ao xs hx _ hA).mono ?_; rintro e w2 ⟨ao2, cap2, k2, rfl, hP2, hb2, _⟩; replace hB := hB.below hb2; replace hP1 := hP1.below hb2; have hb12 := hb1.trans (hb2.mono hb1.size))
        | (go_at_call 10; refine (cT _ hB).mono ?_; rintro e w3 ⟨ao3, cap3, k3, rfl, hT3, hb3, _⟩; replace hB := hB.below hb3; replace hP1 := hP1.below hb3; replace hP2 := hP2.below hb3; have hb13 := hb12.trans (hb3.mono hb12.size))
        | (go_at_call 11; refine (cR _ hB).mono ?_; rintro e w4 ⟨ao4, cap4, rfl, hT4, hb4⟩; replace hT3 := hT3.below hb4; replace hP1 := hP1.below hb4; replace hP2 := hP2.below hb4; have hb14 := hb13.trans (hb4.mono hb13.size))
        | (go_at_call 12; refine (same_true _ hP1 hP2 rfl rfl).mono ?_; rintro e w5 ⟨rfl, rfl⟩; clear hP1)
        | (go_at_call 12; refine (same_true _ hT3 hT4 rfl rfl).mono ?_; rintro e w6 ⟨rfl, rfl⟩; clear hT3)
        | (go_at_call 7; refine (cA _).mono ?_; rintro e w7 ⟨rfl, hb7⟩; replace hb14 := hb14.trans (hb7.mono hb14.size)))
      go_ret
      exact ⟨rfl, hb14⟩
    · have cT := fun w h => ftake_any j bcap bo ys w h
      have cR := fun w h => rtake_any j bcap bo ys w h
      generalize takeF ys = t at cT cR
      obtain ⟨ps, n, f⟩ := t
      simp only [Took, TookR] at cT cR
      go_enter Try.func3, Try.ntmps3
      go_wp2_with (first
        | (go_at_call 8; refine (fput_big k cap ao xs (by omega) _ hA).mono ?_; rintro e w1 ⟨rfl, rfl⟩)
        | (go_at_call 9; refine (rput_big k cap ao xs (by omega) _ hA).mono ?_; rintro e w2 ⟨rfl, rfl⟩)
        | (go_at_call 10; refine (cT _ hB).mono ?_; rintro e w3 ⟨ao3, cap3, k3, rfl, hT3, hb3, _⟩; replace hB := hB.below hb3)
        | (go_at_call 11; refine (cR _ hB).mono ?_; rintro e w4 ⟨ao4, cap4, rfl, hT4, hb4⟩; replace hT3 := hT3.below hb4; have hb14 := hb3.trans (hb4.mono hb3.size))
        | (go_at_call 12; refine (same_true _ (Bt.nil _ 0) (Bt.nil _ 0) rfl rfl).mono ?_; rintro e w5 ⟨rfl, rfl⟩)
        | (go_at_call 12; refine (same_true _ hT3 hT4 rfl rfl).mono ?_; rintro e w6 ⟨rfl, rfl⟩; clear hT3)
        | (go_at_call 7; refine (cA _).mono ?_; rintro e w7 ⟨rfl, hb7⟩; replace hb14 := hb14.trans (hb7.mono hb14.size)))
      go_ret
      exact ⟨by simp, hb14⟩
  · go_enter Try.func3, Try.ntmps3
    go_wp2_with (go_at_call 7; refine (cA _).mono ?_; rintro e w7 ⟨rfl, hb7⟩)
    all_goals first
      | (exfalso; omega)
      | (go_ret; exact ⟨rfl, hb7⟩)
end Go.Proofs.Ytkoehchaehoogaa
