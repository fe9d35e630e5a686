/-
  SweepReaches.
-/
import Derived.Test.YtdpibjnlpdgdeaaDoorGSd
namespace Go.Proofs.YtdpibjnlpdgdeaaDoor
open Go.RowKit
set_option linter.unusedSimpArgs false
set_option maxRecDepth 8000 in
set_option maxHeartbeats 4000000 in
theorem sreaches_any (ao : Option Addr) (cap : Nat) (l : List Ord) (side limit : Int) (W : World) (hG : Gl W) (hL : Ords W ao cap l) (hF : ∀ m ∈ l, m.Fit) :
    Calls Tryd.prog 3 #[.slice ao l.length cap, .int .i64 side, .int .i64 limit] W fun e w' => e = .returned (.bool true) ∧ Below W.heap.size W w' := by
  have hl1 := hL.len
  have hl2 := hL.top
  unfold maxLen at hl2
  have cA := fun w (h : Gl w) => alive_any w h
  have hl3 : l.length ≤ 9223372036854775807 := by omega
  clear hl1 hl2
  by_cases h60 : 60 < l.length
  · have d60 : decide ((60 : Int) < (l.length : Int)) = true := decide_eq_true (by omega)
    go_enter Tryd.func3, Tryd.ntmps3
    go_wp2_with (first
      | (go_at_call 5; refine (cA _ hG).mono ?_; rintro e w2 ⟨rfl, hb2⟩; clear cA)
      | fail)
    go_ret
    exact ⟨rfl, hb2⟩
  have d60 : decide ((60 : Int) < (l.length : Int)) = false := decide_eq_false (by omega)
  have cB := books_any ao cap l W hG hL hF (by omega)
  clear hL hF
  generalize bks l = b at *
  have cP := fun g r w (h : Bb W (fun _ => False) g r l.length b b w) => bbReaches side limit h
  have cR := fun g r w (h : Bb W (fun _ => False) g r l.length b b w) => bbReachesR side limit h h.ok
  have cN := fun w => sw_reaches_nil side limit w
  have fin : ∀ g r w, Bb W (fun _ => False) g r l.length b b w → Below W.heap.size W w := fun g r w h => h.frm.below (Nat.le_refl _) (fun _ f => f.elim)
  generalize swr b side limit = q at *
  clear h60 hl3
  go_enter Tryd.func3, Tryd.ntmps3
  go_wp2_with (first
    | (go_at_call 6; refine cB.mono ?_; rintro e w1 ⟨g, r, rfl, k1⟩; clear cB)
    | (go_at_call 7; (with_reducible refine (cP _ _ _ k1).mono ?_); rintro e w2 ⟨rfl, k2⟩; clear cP)
    | (go_at_call 8; (with_reducible refine (cR _ _ _ k2).mono ?_); rintro e w3 ⟨rfl, k3⟩; clear cR)
    | (go_at_call 7; (with_reducible refine (cN _).mono ?_); rintro e w4 ⟨rfl, hb4⟩; have k4 := k3.below hb4; clear cN)
    | (go_at_call 5; refine (cA _ (hG.below (fin _ _ _ k4))).mono ?_; rintro e w5 ⟨rfl, hb5⟩; have k5 := k4.below hb5; clear cA)
    | fail)
  go_ret
  exact ⟨rfl, fin _ _ _ k5⟩
end Go.Proofs.YtdpibjnlpdgdeaaDoor
