/-
  SweepKeeps. (Written by gen/p_swk.py.)
-/
import Derived.Test.YtdpibjnlpdgdeaaDoorSwkaq
import Derived.Test.YtdpibjnlpdgdeaaDoorSwkbq
import Derived.Test.YtdpibjnlpdgdeaaDoorGSa
import Derived.Test.YtdpibjnlpdgdeaaDoorGC
namespace Go.Proofs.YtdpibjnlpdgdeaaDoor
open Go.RowKit
set_option linter.unusedSimpArgs false
set_option maxRecDepth 100000 in
set_option maxHeartbeats 16000000 in
theorem skeeps_any (ao : Option Addr) (cap : Nat) (l : List Ord) (t : Tkr) (ht : t.Fit) (W : World) (hG : Gl W) (hL : Ords W ao cap l) (hF : ∀ m ∈ l, m.Fit) :
    Calls Tryd.prog 4 #[.slice ao l.length cap, vTkr t] W fun e w' => e = .returned (.bool true) ∧ Below W.heap.size W w' := by
  have hl1 := hL.len
  have hl2 := hL.top
  unfold maxLen at hl2
  have hl3 : l.length ≤ 9223372036854775807 := by omega
  clear hl1 hl2
  have cA := fun w (h : Gl w) => alive_any w h
  obtain ⟨W1, hW1⟩ : ∃ W1, W1 = W.alloc (.cells (cTkr t) 34) := ⟨_, rfl⟩
  have hb1 : Below W.heap.size W W1 := by rw [hW1]; exact (Below.refl _ _).alloc (Nat.le_refl _) _
  have hBT : Blk W1 W.heap.size 34 (cTkr t) := by rw [hW1]; exact Blk.new _ _ _
  have hT0 := fun w (h : Below W1.heap.size W1 w) => seven_cells (hBT.below h hBT.lt)
  by_cases h60 : 60 < l.length
  · have d60 : decide ((60 : Int) < (l.length : Int)) = true := decide_eq_true (by omega)
    simp only [cTkr] at hW1
    go_enter Tryd.func4, Tryd.ntmps4
    go_wp2_with (first
      | (go_at_call 5; rw [← hW1]; refine (cA _ (hG.below hb1)).mono ?_; rintro e w2 ⟨rfl, hb2⟩; clear cA)
      | fail)
    go_ret
    exact ⟨rfl, hb1.trans (hb2.mono hb1.size)⟩
  have d60 : decide ((60 : Int) < (l.length : Int)) = false := decide_eq_false (by omega)
  have hl60 : l.length ≤ 60 := by omega
  clear h60 hl3
  obtain ⟨x0, x1, x2, x3, x4, x5, x6⟩ := hT0 W1 (Below.refl _ _)
  by_cases hs : t.side = 0 ∨ t.side = 1
  rotate_left
  · have n0 : (t.side != 0) = true := by simpa using fun e => hs (.inl e)
    have n1 : (t.side != 1) = true := by simpa using fun e => hs (.inr e)
    simp only [cTkr] at hW1
    go_enter Tryd.func4, Tryd.ntmps4
    go_wp2_with (first
      | (go_at_call 5; refine (cA _ (hG.below hb1)).mono ?_; rintro e w2 ⟨rfl, hb2⟩; clear cA)
      | (rw [← hW1]; clear hW1)
      | fail)
    go_ret
    exact ⟨rfl, hb1.trans (hb2.mono hb1.size)⟩
  by_cases hq : t.qty < 1
  · have dq : decide (t.qty < 1) = true := decide_eq_true hq
    clear hq
    simp only [cTkr] at hW1
    rcases hs with e | e <;> rw [e] at x0 hW1 <;> simp only [vTkr, cTkr, e]
    all_goals
      go_enter Tryd.func4, Tryd.ntmps4
      go_wp2_with (first
        | (go_at_call 5; refine (cA _ (hG.below hb1)).mono ?_; rintro e w2 ⟨rfl, hb2⟩; clear cA)
        | (rw [← hW1]; clear hW1)
        | fail)
      go_ret
      exact ⟨rfl, hb1.trans (hb2.mono hb1.size)⟩
  rcases hs with hs | hs
  · exact skeeps_0 ao cap l t ht W hG hL hF hl60 hs hq
  · exact skeeps_1 ao cap l t ht W hG hL hF hl60 hs hq
end Go.Proofs.YtdpibjnlpdgdeaaDoor
