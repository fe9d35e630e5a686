/-
  The contracts of package frame's Put and Take, of the document's Put and Take, and of alive, for every input.
-/
import Derived.Test.YtalgpbjonkcldaaOctB
import Derived.Test.YtalgpbjonkcldaaFrmM
namespace Go.Proofs.Ytalgpbjonkcldaa
open Go.RowKit

theorem uint2 (n : Nat) (hn : n < 18446744073709551616) (g k : Nat) (W : World) (hW : Wr W g k []) :
    Calls Try.prog 21 #[.pointer (some ⟨g, 0, none⟩), .int .u64 (n : Int), .int .i64 2] W fun e w' => e = .returned (.pointer (some ⟨g, 0, none⟩)) ∧ Wrote W g k w' (be 2 n) :=
  uint_any n hn 2 (by omega) (by omega) g k [] (by simp) W hW
/-- The frame of what fits. -/
theorem fput_ok (k cap : Nat) (ao : Option Addr) (xs : List Nat) (hx : xs.length ≤ 64) (W : World) (hB : Bt W k ao cap xs) :
    Calls Try.prog 48 #[.slice ao xs.length cap] W fun e w' => ∃ ao' cap' k', e = .returned (.tuple #[.slice ao' (putF xs).length cap', .int .i64 0]) ∧ Bt w' k' ao' cap' (putF xs) ∧ Below W.heap.size W w' ∧ W.heap.size ≤ k' := by
  obtain ⟨W1, hW1⟩ : ∃ W1, W1 = W.alloc (.cells #[.slice none 0 0] 43) := ⟨_, rfl⟩
  have hb1 : Below W.heap.size W W1 := by rw [hW1]; exact (Below.refl _ W).alloc (Nat.le_refl _) _
  have hs1 : W1.heap.size = W.heap.size + 1 := by rw [hW1]; simp
  have hw1 : Wr W1 W.heap.size (W.heap.size + 1) [] := nilWriter (by rw [hW1]; exact Blk.new _ _ _) (by omega)
  have hB1 := hB.below hb1
  have hlt : xs ≠ [] → k < W.heap.size := hB.size
  have cU := uint2 xs.length (by omega) _ _ W1 hw1
  have hp := putF_length xs
  have hp2 : (be 2 xs.length).length + xs.length = (putF xs).length := by rw [putF_length, be_length]
  go_enter Try.func48, Try.ntmps48
  go_wp2_with (first
    | (go_at_call 21; rw [← hW1]; refine cU.mono ?_; rintro e w2 ⟨rfl, k2, hw2, hf2, hk2⟩; have hB2 := hB1.frm hf2 (fun h0 => by have := hlt h0; omega); have hs2 := hf2.size; have cR := raw_any k cap ao xs W.heap.size k2 (be 2 xs.length) (by rw [be_length]; omega) w2 hw2 hB2)
    | (go_at_call 59; refine cR.mono ?_; rintro e w3 ⟨rfl, k3, hw3, hf3, hk3⟩; have hs3 := hf3.size; have cB := bytes_any W.heap.size k3 (be 2 xs.length ++ xs) (by rw [List.length_append, be_length]; omega) w3 hw3)
    | (go_at_call 24; refine cB.mono ?_; rintro e w4 ⟨v, rfl, ao', cap', k', rfl, hB4, hb4, hk4⟩))
  all_goals first
    | (exfalso; omega)
    | go_ret2
  refine ⟨ao', cap', k', (congrArg (fun n => Ending.returned (.tuple #[.slice ao' n cap', .int .i64 0])) hp2 : _), hB4, ?_, by omega⟩
  refine (hb1.trans (hf2.below (by omega) ?_)).trans (Below.trans (hf3.below (by omega) ?_) (hb4.mono (by omega)))
  · rintro b (rfl | rfl) <;> omega
  · rintro b (rfl | rfl) <;> omega
theorem fput_big (k cap : Nat) (ao : Option Addr) (xs : List Nat) (hx : 64 < xs.length) (W : World) (hB : Bt W k ao cap xs) :
    Calls Try.prog 48 #[.slice ao xs.length cap] W fun e w' => e = .returned (.tuple #[.slice none 0 0, .int .i64 9]) ∧ W = w' := by
  have hl := hB.len
  have hm := hB.top
  unfold maxLen at hm
  go_enter Try.func48, Try.ntmps48
  go_wp2_with fail
  all_goals first
    | (exfalso; omega)
    | go_ret2
  exact ⟨rfl, rfl⟩
theorem rput_ok (k cap : Nat) (ao : Option Addr) (xs : List Nat) (hx : xs.length ≤ 64) (W : World) (hB : Bt W k ao cap xs) :
    Calls Try.prog 36 #[.slice ao xs.length cap] W fun e w' => ∃ ao' cap' k', e = .returned (.tuple #[.slice ao' (putF xs).length cap', .int .i64 0]) ∧ Bt w' k' ao' cap' (putF xs) ∧ Below W.heap.size W w' ∧ W.heap.size ≤ k' := by
  have cU : Calls Try.prog 49 #[.int .u64 (xs.length : Int), .int .i64 2] W _ := refUint_own xs.length (by omega) 2 (by omega) (by omega) W
  have hp := putF_length xs
  have hp2 : (be 2 xs.length).length + xs.length = (putF xs).length := by rw [putF_length, be_length]
  have hb2 : (be 2 xs.length).length = 2 := be_length 2 _
  go_enter Try.func36, Try.ntmps36
  go_wp2_with (first
    | (go_at_call 49; refine cU.mono ?_; rintro e w2 ⟨ao2, cap2, k2, rfl, hO2, hbel2, hk2⟩; have hB2 := hB.below hbel2)
    | (at_builtin; refine wpList_app rfl (.tmp 10) (.tmp 11) rfl hO2 hB2 rfl rfl rfl rfl (by omega) ?_; intro ao' cap' k3 w3 ho3 hf3 hk3))
  all_goals first
    | (exfalso; omega)
    | go_ret2
  have hs2 := hbel2.size
  refine ⟨ao', cap', k3, (congrArg (fun n => Ending.returned (.tuple #[.slice ao' n cap', .int .i64 0])) hp2 : _), ho3.bt, hbel2.trans (hf3.below hs2 (by rintro b rfl; exact hk2)), ?_⟩
  · rcases hk3 with rfl | hk3
    · exact hk2
    · omega
theorem rput_big (k cap : Nat) (ao : Option Addr) (xs : List Nat) (hx : 64 < xs.length) (W : World) (hB : Bt W k ao cap xs) :
    Calls Try.prog 36 #[.slice ao xs.length cap] W fun e w' => e = .returned (.tuple #[.slice none 0 0, .int .i64 9]) ∧ W = w' := by
  have hl := hB.len
  have hm := hB.top
  unfold maxLen at hm
  go_enter Try.func36, Try.ntmps36
  go_wp2_with fail
  all_goals first
    | (exfalso; omega)
    | go_ret2
  exact ⟨rfl, rfl⟩
end Go.Proofs.Ytalgpbjonkcldaa
