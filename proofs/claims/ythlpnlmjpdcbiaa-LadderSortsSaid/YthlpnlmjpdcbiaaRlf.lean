/-
  The document's levels: New; Take where it is refused.
-/
import Derived.Test.YthlpnlmjpdcbiaaRle
namespace Go.Proofs.Ythlpnlmjpdcbiaa
open Go.RowKit
section
variable {w w' W : World} {r : Nat} {S T : Nat → Prop} {s : Ld} {ko : Option Nat} {ao : Option Addr} {cap : Nat}
set_option maxRecDepth 8000 in
set_option maxHeartbeats 1000000 in
theorem lnewSide_any (side n : Int) (h0 : side ≠ 0) (h1 : side ≠ 1) (W : World) :
    Calls Try.prog 10 #[.int .i64 side, .int .i64 n] W fun e w' => e = .returned (.tuple #[.pointer none, .int .i64 1]) ∧ w' = W := by
  have d0 : (side != 0) = true := by simpa using h0
  have d1 : (side != 1) = true := by simpa using h1
  go_enter Try.func10, Try.ntmps10
  go_wp2_with fail
  all_goals go_ret2
  all_goals exact ⟨rfl, rfl⟩
set_option maxRecDepth 8000 in
set_option maxHeartbeats 1000000 in
theorem lnewRange_any (buy : Bool) (n : Int) (h : n < 1 ∨ 200 < n) (W : World) :
    Calls Try.prog 10 #[.int .i64 (sdI buy), .int .i64 n] W fun e w' => e = .returned (.tuple #[.pointer none, .int .i64 9]) ∧ w' = W := by
  have hd : decide (n < 1) = true ∨ (decide (n < 1) = false ∧ decide (200 < n) = true) := by
    by_cases g : n < 1
    · exact .inl (decide_eq_true g)
    · exact .inr ⟨decide_eq_false g, decide_eq_true (by omega)⟩
  clear h
  cases buy
  all_goals
    simp only [sdI, if_true, Bool.false_eq_true, if_false]
    rcases hd with d0 | ⟨d0, d1⟩
  all_goals
    go_enter Try.func10, Try.ntmps10
    go_wp2_with fail
    all_goals go_ret2
    all_goals exact ⟨rfl, rfl⟩
set_option maxRecDepth 8000 in
set_option maxHeartbeats 1000000 in
theorem lnew_any (buy : Bool) (n : Nat) (h1 : 1 ≤ n) (h2 : n ≤ 200) (W : World) :
    Calls Try.prog 10 #[.int .i64 (sdI buy), .int .i64 (n : Int)] W fun e w' => ∃ r S, e = .returned (.tuple #[.pointer (some ⟨r, 0, none⟩), .int .i64 0]) ∧ RL w' r S ⟨buy, n, []⟩ ∧ Below W.heap.size W w' ∧ ∀ b, S b → W.heap.size ≤ b := by
  have hend : ∃ S, RL (W.alloc (.cells #[.int .i64 (sdI buy), .int .i64 (n : Int), .slice none 0 0] 38)) W.heap.size S ⟨buy, n, []⟩ ∧ Below W.heap.size W (W.alloc (.cells #[.int .i64 (sdI buy), .int .i64 (n : Int), .slice none 0 0] 38)) ∧ ∀ b, S b → W.heap.size ≤ b :=
    ⟨fun b => b = W.heap.size, ⟨none, none, 0, h2, Nat.zero_le _, Blk.new _ _ _, OwG.nil _ _ _, rfl, fun _ e => (by cases e), fun b e => by simp [e]⟩, (Below.refl _ _).alloc (Nat.le_refl _) _, fun b e => by omega⟩
  have d0 : decide ((n : Int) < 1) = false := decide_eq_false (by omega)
  have d1 : decide (200 < (n : Int)) = false := decide_eq_false (by omega)
  have H := Lib.hid hend
  clear hend h1 h2
  cases buy
  all_goals
    simp only [sdI, if_true, Bool.false_eq_true, if_false] at H ⊢
    go_enter Try.func10, Try.ntmps10
    go_wp2_with fail
    go_ret2
    obtain ⟨S, hS⟩ := H.out
    exact ⟨_, S, rfl, hS⟩
set_option maxRecDepth 8000 in
set_option maxHeartbeats 1000000 in
theorem ltakeNo_any (p q : Int) (gone : Bool) (h : RlB W r S ko ao cap s) (hf : s.find p = none) :
    Calls Try.prog 25 #[.pointer (some ⟨r, 0, none⟩), .int .i64 p, .int .i64 q, .bool gone] W fun e w' => e = .returned (.tuple #[.int .i64 0, .int .i64 5]) ∧ w' = W := by
  have cF := lfind_any p h
  simp only [Ld.fI, hf] at cF
  clear h hf
  go_enter Try.func25, Try.ntmps25
  go_wp2_with (go_at_call 36; refine cF.mono ?_; rintro e w1 ⟨rfl, hw1⟩; subst w1; clear cF)
  all_goals go_ret2
  all_goals exact ⟨rfl, rfl⟩
set_option maxRecDepth 8000 in
set_option maxHeartbeats 1000000 in
theorem ltakeRange_any (p q : Int) (gone : Bool) (h : RlB W r S ko ao cap s) {i : Nat} {x : Lvl} (hf : s.find p = some i) (hx : s.L[i]? = some x) (hq : q < 0 ∨ x.qty < q) :
    Calls Try.prog 25 #[.pointer (some ⟨r, 0, none⟩), .int .i64 p, .int .i64 q, .bool gone] W fun e w' => e = .returned (.tuple #[.int .i64 0, .int .i64 9]) ∧ w' = W := by
  have cF := lfind_any p h
  simp only [Ld.fI, hf] at cF
  have hm := h.most
  have hl := h.len
  have hi := (List.getElem?_eq_some_iff.1 hx).1
  have c2 := h.c2
  obtain ⟨k, rfl, rfl, hc⟩ := h.row hx
  obtain ⟨y1, -⟩ := hc _ _ (lcs_get hx 1 (.int .i64 x.qty) rfl)
  have hi2 : (i : Int) < (s.L.length : Int) := by omega
  have hi0 : ¬ (i : Int) < 0 := by omega
  have hd0 : decide ((i : Int) < 0) = false := decide_eq_false hi0
  have hd : decide (q < 0) = true ∨ (decide (q < 0) = false ∧ decide (x.qty < q) = true) := by
    by_cases g : q < 0
    · exact .inl (decide_eq_true g)
    · exact .inr ⟨decide_eq_false g, decide_eq_true (by omega)⟩
  clear h hf hx hc hq
  rcases hd with d0 | ⟨d0, d1⟩
  all_goals
    go_enter Try.func25, Try.ntmps25
    go_wp2_with (go_at_call 36; refine cF.mono ?_; rintro e w1 ⟨rfl, hw1⟩; subst w1; clear cF)
    all_goals go_ret2
    all_goals exact ⟨rfl, rfl⟩
end
end Go.Proofs.Ythlpnlmjpdcbiaa
