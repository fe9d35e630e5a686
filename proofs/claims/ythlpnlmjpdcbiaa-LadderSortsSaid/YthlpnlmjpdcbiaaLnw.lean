/-
  The contracts of the program's New.
-/
import Derived.Test.YthlpnlmjpdcbiaaLap
namespace Go.Proofs.Ythlpnlmjpdcbiaa
open Go.RowKit
section
variable {W : World}
set_option maxRecDepth 8000 in
set_option maxHeartbeats 1000000 in
theorem pnewSide_any (side n : Int) (h0 : side ≠ 0) (h1 : side ≠ 1) (W : World) :
    Calls Try.prog 9 #[.int .i64 side, .int .i64 n] W fun e w' => e = .returned (.tuple #[.pointer none, .int .i64 1]) ∧ w' = W := by
  have d0 : (side != 0) = true := by simpa using h0
  have d1 : (side != 1) = true := by simpa using h1
  go_enter Try.func9, Try.ntmps9
  go_wp2_with fail
  all_goals go_ret2
  all_goals exact ⟨rfl, rfl⟩
set_option maxRecDepth 8000 in
set_option maxHeartbeats 1000000 in
theorem pnewRange_any (buy : Bool) (n : Int) (h : n < 1 ∨ 200 < n) (W : World) :
    Calls Try.prog 9 #[.int .i64 (sdI buy), .int .i64 n] W fun e w' => e = .returned (.tuple #[.pointer none, .int .i64 9]) ∧ w' = W := by
  have hd : decide (n < 1) = true ∨ (decide (n < 1) = false ∧ decide (200 < n) = true) := by
    by_cases g : n < 1
    · exact .inl (decide_eq_true g)
    · exact .inr ⟨decide_eq_false g, decide_eq_true (by omega)⟩
  clear h
  cases buy
  all_goals
    simp only [sdI, if_true, Bool.false_eq_true, if_false]
    rcases hd with d0 | ⟨d0, d1⟩
  all_goals
    go_enter Try.func9, Try.ntmps9
    go_wp2_with fail
    all_goals go_ret2
    all_goals exact ⟨rfl, rfl⟩
set_option maxRecDepth 8000 in
set_option maxHeartbeats 1000000 in
theorem pnew_any (buy : Bool) (n : Nat) (h1 : 1 ≤ n) (h2 : n ≤ 200) (W : World) :
    Calls Try.prog 9 #[.int .i64 (sdI buy), .int .i64 (n : Int)] W fun e w' => ∃ g S F, e = .returned (.tuple #[.pointer (some ⟨g, 0, none⟩), .int .i64 0]) ∧ PmB w' g S none none 0 buy [] F ∧ Bits F (fun q => decide (q < n)) ∧ Below W.heap.size W w' ∧ ∀ b, S b → W.heap.size ≤ b := by
  have hst : PmB (W.alloc (.cells #[.int .i64 (sdI buy), .slice none 0 0, .int .u64 0, .int .u64 0, .int .u64 0, .int .u64 0] 66)) W.heap.size (fun b => b = W.heap.size) none none 0 buy [] [0, 0, 0, 0] :=
    ⟨Nat.zero_le _, rfl, Blk.new _ _ _, OwG.nil _ _ _, rfl, fun _ e => (by cases e), fun b e => by simp [e]⟩
  have hbl : Below W.heap.size W (W.alloc (.cells #[.int .i64 (sdI buy), .slice none 0 0, .int .u64 0, .int .u64 0, .int .u64 0, .int .u64 0] 66)) := (Below.refl _ _).alloc (Nat.le_refl _) _
  have hst' := Lib.hid (And.intro hst hbl)
  have d0 : decide ((n : Int) < 1) = false := decide_eq_false (by omega)
  have d1 : decide (200 < (n : Int)) = false := decide_eq_false (by omega)
  clear hst hbl
  cases buy
  · simp only [sdI, if_true, Bool.false_eq_true, if_false] at hst' ⊢
    go_enter Try.func9, Try.ntmps9
    go_wp2_with fail
    go_loopg [26] n (fun j p26 wr => ∃ (i : Nat) (F : List Nat), i + j = n ∧ p26 = .int .i64 (i : Int) ∧ Hid (PmB wr W.heap.size (fun b => b = W.heap.size) none none 0 false [] F ∧ Bits F (fun q => decide (q < i)) ∧ Below W.heap.size W wr))
    case atStart => exact ⟨0, [0, 0, 0, 0], by omega, rfl, Lib.hid ⟨hst'.out.1, Bits.zero.congr fun q _ => by simp, hst'.out.2⟩⟩
    case round =>
      obtain ⟨i, F, hi, rfl, hI⟩ := hrel
      by_cases hin : i < n
      · have cF := pflip_any i (by omega) hI.out.2.1.lt hI.out.1
        have hnx : ∀ w', PmB w' W.heap.size (fun b => b = W.heap.size) none none 0 false [] (flp F i) ∧ Frm (fun b => b = W.heap.size) wr w' → Hid (PmB w' W.heap.size (fun b => b = W.heap.size) none none 0 false [] (flp F i) ∧ Bits (flp F i) (fun q => decide (q < i + 1)) ∧ Below W.heap.size W w') := by
          rintro w' ⟨k1, k2⟩
          refine Lib.hid ⟨k1, (hI.out.2.1.flip (by omega)).congr fun q _ => ?_, hI.out.2.2.trans (k2.below hI.out.2.2.size (fun k e => by omega))⟩
          by_cases e : q = i
          · subst e; simp
          · rw [if_neg e]
            by_cases e2 : q < i
            · simp [e2]; omega
            · simp [e2]; omega
        have hin2 : (i : Int) < (n : Int) := by omega
        replace hnx := Lib.hid hnx
        clear hI hst'
        go_wp2_with (go_at_call 23; (with_reducible refine cF.mono ?_); rintro e w1 ⟨rfl, hQ⟩; clear cF; have hQ' := hnx.out _ hQ; clear hQ hnx)
        go_roundg (n - (i + 1))
        case measure => omega
        case rel => exact ⟨i + 1, flp F i, by omega, by go_num, hQ'⟩
      · obtain rfl : i = n := by omega
        clear hst'
        go_wp2_with fail
        go_ret2
        exact ⟨_, _, _, rfl, hI.out.1, hI.out.2.1, hI.out.2.2, fun b e => by omega⟩
  · simp only [sdI, if_true, Bool.false_eq_true, if_false] at hst' ⊢
    go_enter Try.func9, Try.ntmps9
    go_wp2_with fail
    go_loopg [26] n (fun j p26 wr => ∃ (i : Nat) (F : List Nat), i + j = n ∧ p26 = .int .i64 (i : Int) ∧ Hid (PmB wr W.heap.size (fun b => b = W.heap.size) none none 0 true [] F ∧ Bits F (fun q => decide (q < i)) ∧ Below W.heap.size W wr))
    case atStart => exact ⟨0, [0, 0, 0, 0], by omega, rfl, Lib.hid ⟨hst'.out.1, Bits.zero.congr fun q _ => by simp, hst'.out.2⟩⟩
    case round =>
      obtain ⟨i, F, hi, rfl, hI⟩ := hrel
      by_cases hin : i < n
      · have cF := pflip_any i (by omega) hI.out.2.1.lt hI.out.1
        have hnx : ∀ w', PmB w' W.heap.size (fun b => b = W.heap.size) none none 0 true [] (flp F i) ∧ Frm (fun b => b = W.heap.size) wr w' → Hid (PmB w' W.heap.size (fun b => b = W.heap.size) none none 0 true [] (flp F i) ∧ Bits (flp F i) (fun q => decide (q < i + 1)) ∧ Below W.heap.size W w') := by
          rintro w' ⟨k1, k2⟩
          refine Lib.hid ⟨k1, (hI.out.2.1.flip (by omega)).congr fun q _ => ?_, hI.out.2.2.trans (k2.below hI.out.2.2.size (fun k e => by omega))⟩
          by_cases e : q = i
          · subst e; simp
          · rw [if_neg e]
            by_cases e2 : q < i
            · simp [e2]; omega
            · simp [e2]; omega
        have hin2 : (i : Int) < (n : Int) := by omega
        replace hnx := Lib.hid hnx
        clear hI hst'
        go_wp2_with (go_at_call 23; (with_reducible refine cF.mono ?_); rintro e w1 ⟨rfl, hQ⟩; clear cF; have hQ' := hnx.out _ hQ; clear hQ hnx)
        go_roundg (n - (i + 1))
        case measure => omega
        case rel => exact ⟨i + 1, flp F i, by omega, by go_num, hQ'⟩
      · obtain rfl : i = n := by omega
        clear hst'
        go_wp2_with fail
        go_ret2
        exact ⟨_, _, _, rfl, hI.out.1, hI.out.2.1, hI.out.2.2, fun b e => by omega⟩
end
end Go.Proofs.Ythlpnlmjpdcbiaa
