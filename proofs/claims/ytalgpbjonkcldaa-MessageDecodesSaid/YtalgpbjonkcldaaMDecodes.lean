/-
  MessageDecodes, for every slice of bytes.
-/
import Derived.Test.YtalgpbjonkcldaaMsgK
import Derived.Test.YtalgpbjonkcldaaMsgD
import Derived.Test.YtalgpbjonkcldaaMsgW
import Derived.Test.YtalgpbjonkcldaaPost
namespace Go.Proofs.Ytalgpbjonkcldaa
open Go.RowKit
set_option maxHeartbeats 1000000 in
theorem mdecodes_any (k cap : Nat) (ao : Option Addr) (xs : List Nat) (W : World) (hB : Bt W k ao cap xs) :
    Calls Try.prog 4 #[.slice ao xs.length cap] W fun e w' => e = .returned (.bool true) ∧ Below W.heap.size W w' := by
  have hlen := hB.len
  have hmax := hB.top
  unfold maxLen at hmax
  have cA := fun w => alive6_any w
  by_cases hs : xs.length ≤ 200
  · have cD := fun w h => mdecode_any k cap ao xs (by omega) w h
    have cR := fun w h => refDecodeM_any k cap ao xs w h
    generalize decM xs = d at cD cR
    obtain ⟨c, f⟩ := d
    have hE := fun w => eql_Msg c c w
    rw [eqMsg_self] at hE
    obtain ⟨kind, sym, seq, tick, id, other, price, qty, code⟩ := c
    simp only [vMsg, cMsg] at cD cR hE
    go_enter Try.func4, Try.ntmps4
    go_wp2_with (first
      | (go_at_call 14; refine (cD _ hB).mono ?_; rintro e w1 ⟨rfl, hb1⟩; have hB1 := hB.below hb1; have h1 : Blk (w1.alloc (.cells (cMsg ⟨kind, sym, seq, tick, id, other, price, qty, code⟩) 23)) w1.heap.size 23 (cMsg ⟨kind, sym, seq, tick, id, other, price, qty, code⟩) := Blk.new _ _ _)
      | (go_at_call 15; (with_reducible refine (cR _ (hB1.alloc _)).mono ?_); rintro e w2 ⟨rfl, hb2⟩; have h2 := h1.below hb2 (by simp); obtain ⟨x0, x1, x2, x3, x4, x5, x6, x7, x8⟩ := Msg.cells h2; have hb12 := (hb1.alloc hb1.size _).trans (hb2.mono (by have := hb1.size; simp; omega)); have hlt := h2.lt)
      | (go_at_call 13; refine (cA _).mono ?_; rintro e w3 ⟨rfl, hb3⟩))
    go_ret
    exact ⟨rfl, (hb12.alloc hb12.size _).trans (hb3.mono (by have := hb12.size; simp; omega))⟩
  · go_enter Try.func4, Try.ntmps4
    go_wp2_with (go_at_call 13; refine (cA _).mono ?_; rintro e w7 ⟨rfl, hb7⟩)
    all_goals first
      | (exfalso; omega)
      | (go_ret; exact ⟨rfl, hb7⟩)
end Go.Proofs.Ytalgpbjonkcldaa
