/-
  CommandDecodes, for every slice of bytes.
-/
import Derived.Test.YtjleebfdbkfgmaaCmdK
import Derived.Test.YtjleebfdbkfgmaaPost
namespace Go.Proofs.Ytjleebfdbkfgmaa
open Go.RowKit
set_option maxHeartbeats 1000000 in
theorem cdecodes_any (k cap : Nat) (ao : Option Addr) (xs : List Nat) (W : World) (hB : Bt W k ao cap xs) :
    Calls Try.prog 4 #[.slice ao xs.length cap] W fun e w' => e = .returned (.bool true) ∧ Below W.heap.size W w' := by
  have hlen := hB.len
  have hmax := hB.top
  unfold maxLen at hmax
  have cA := fun w => alive5_any w
  by_cases hs : xs.length ≤ 200
  · have cD := fun w h => decode_any k cap ao xs (by omega) w h
    have cR := fun w h => rdecode_any k cap ao xs w h
    generalize decC xs = d at cD cR
    obtain ⟨c, f⟩ := d
    have hE := fun w => eql_cmd c c w
    rw [eqC_self] at hE
    obtain ⟨kind, sym, id, owner, side, typ, price, qty, flags⟩ := c
    simp only [cv, cc] at cD cR hE
    go_enter Try.func4, Try.ntmps4
    go_wp2_with (first
      | (go_at_call 13; refine (cD _ hB).mono ?_; rintro e w1 ⟨rfl, hb1⟩; have hB1 := hB.below hb1; have h1 : Blk (w1.alloc (.cells (cc ⟨kind, sym, id, owner, side, typ, price, qty, flags⟩) 23)) w1.heap.size 23 (cc ⟨kind, sym, id, owner, side, typ, price, qty, flags⟩) := Blk.new _ _ _)
      | (go_at_call 14; (with_reducible refine (cR _ (hB1.alloc _)).mono ?_); rintro e w2 ⟨rfl, hb2⟩; have h2 := h1.below hb2 (by simp); obtain ⟨x0, x1, x2, x3, x4, x5, x6, x7, x8⟩ := cells9 h2; have hb12 := (hb1.alloc hb1.size _).trans (hb2.mono (by have := hb1.size; simp; omega)); have hlt := h2.lt)
      | (go_at_call 12; refine (cA _).mono ?_; rintro e w3 ⟨rfl, hb3⟩))
    go_ret
    exact ⟨rfl, (hb12.alloc hb12.size _).trans (hb3.mono (by have := hb12.size; simp; omega))⟩
  · go_enter Try.func4, Try.ntmps4
    go_wp2_with (go_at_call 12; refine (cA _).mono ?_; rintro e w7 ⟨rfl, hb7⟩)
    all_goals first
      | (exfalso; omega)
      | (go_ret; exact ⟨rfl, hb7⟩)
end Go.Proofs.Ytjleebfdbkfgmaa
