/-
  The contracts of package command's Decode and of the document's, for all bytes; the statements' alive.
-/
import Derived.Test.YtjleebfdbkfgmaaCmdJ
import Derived.Test.YtjleebfdbkfgmaaOctB
namespace Go.Proofs.Ytjleebfdbkfgmaa
open Go.RowKit
theorem dec_bad {x : Nat} {t : List Nat} (h : x < 1 ∨ 3 < x) : decC (x :: t) = (Cmd.zero, 4) := if_pos h
theorem decode_any (k cap : Nat) (ao : Option Addr) (xs : List Nat) (hl : xs.length ≤ 2000000) (W : World) (hB : Bt W k ao cap xs) :
    Calls Try.prog 13 #[.slice ao xs.length cap] W fun e w' => e = .returned (.tuple #[cv (decC xs).1, .int .i64 ((decC xs).2 : Int)]) ∧ Below W.heap.size W w' := by
  match xs, hl, hB with
  | [], _, _ => exact decode_empty cap ao W
  | x :: t, hl, hB =>
    by_cases hx : x < 1 ∨ 3 < x
    · rw [dec_bad hx]; exact decode_kind k cap ao x t hx W hB
    · rw [dec_in rfl (by omega) (by omega)]; exact decode_in k cap ao x t (by omega) (by omega) hl W hB
theorem rdecode_empty (cap : Nat) (ao : Option Addr) (W : World) :
    Calls Try.prog 14 #[.slice ao 0 cap] W fun e w' => e = .returned (.tuple #[cv Cmd.zero, .int .i64 3]) ∧ Below W.heap.size W w' := by
  go_enter Try.func14, Try.ntmps14
  go_wp2
  refine bodyPost_ret (v := .tuple #[cv Cmd.zero, .int .i64 3]) ?_ rfl ⟨rfl, (Below.refl _ _).alloc (Nat.le_refl _) _⟩
  simp [results, Try.results14, go_sem, Cmd.zero]
theorem rdecode_kind (k cap : Nat) (ao : Option Addr) (x : Nat) (t : List Nat) (hx : x < 1 ∨ 3 < x) (W : World) (hB : Bt W k ao cap (x :: t)) :
    Calls Try.prog 14 #[.slice ao (x :: t).length cap] W fun e w' => e = .returned (.tuple #[cv Cmd.zero, .int .i64 4]) ∧ Below W.heap.size W w' := by
  have hx8 : (x : Int) < 256 := by have := hB.lt x (by simp); omega
  obtain ⟨off, rfl, hc⟩ := (hB.alloc (.cells #[.int .i64 0, .int .i64 0, .int .i64 0, .int .i64 0, .int .i64 0, .int .i64 0, .int .i64 0, .int .i64 0, .int .i64 0] 23)).open (by simp)
  have c0 : (W.alloc (.cells #[.int .i64 0, .int .i64 0, .int .i64 0, .int .i64 0, .int .i64 0, .int .i64 0, .int .i64 0, .int .i64 0, .int .i64 0] 23)).cell? ⟨k, off, none⟩ = some (.int .u8 (x : Int)) := hc 0 x rfl
  clear hc hB
  obtain ⟨m, hm⟩ : ∃ m, m = (x :: t).length := ⟨_, rfl⟩
  have h0 : 0 < m := by rw [hm]; simp
  have hq : ((m : Int) == 0) = false := by simp; omega
  rw [← hm]
  clear hm
  by_cases h1 : x < 1
  · obtain rfl : x = 0 := by omega
    clear hx hx8
    go_enter Try.func14, Try.ntmps14
    go_wp2
    refine bodyPost_ret (v := .tuple #[cv Cmd.zero, .int .i64 4]) ?_ rfl ⟨rfl, (Below.refl _ _).alloc (Nat.le_refl _) _⟩
    simp [results, Try.results14, go_sem, Cmd.zero]
  · have h3 : (3 : Int) < (x : Int) := by omega
    have q1 : decide ((x : Int) < 1) = false := by simp; omega
    have q3 : decide ((3 : Int) < (x : Int)) = true := by simpa using h3
    clear hx h1
    go_enter Try.func14, Try.ntmps14
    go_wp2
    all_goals first
      | (exfalso; omega)
      | (refine bodyPost_ret (v := .tuple #[cv Cmd.zero, .int .i64 4]) ?_ rfl ⟨rfl, (Below.refl _ _).alloc (Nat.le_refl _) _⟩
         simp [results, Try.results14, go_sem, Cmd.zero])
theorem rdecode_any (k cap : Nat) (ao : Option Addr) (xs : List Nat) (W : World) (hB : Bt W k ao cap xs) :
    Calls Try.prog 14 #[.slice ao xs.length cap] W fun e w' => e = .returned (.tuple #[cv (decC xs).1, .int .i64 ((decC xs).2 : Int)]) ∧ Below W.heap.size W w' := by
  match xs, hB with
  | [], _ => exact rdecode_empty cap ao W
  | x :: t, hB =>
    by_cases hx : x < 1 ∨ 3 < x
    · rw [dec_bad hx]; exact rdecode_kind k cap ao x t hx W hB
    · rw [dec_in rfl (by omega) (by omega)]
      have hx3 : x = 1 ∨ x = 2 ∨ x = 3 := by omega
      rcases hx3 with rfl | rfl | rfl
      · exact rdecode_new k cap ao t W hB
      · exact rdecode_cancel k cap ao t W hB
      · exact rdecode_replace k cap ao t W hB
theorem dec_alive : decC [2, 3, 5] = (⟨2, 3, 5, 0, 0, 0, 0, 0, 0⟩, 0) := by
  have hR : Right ⟨2, 3, 5, 0, 0, 0, 0, 0, 0⟩ := ⟨.inr (.inl rfl), by decide, by decide, fun h => (by cases h), fun _ => ⟨rfl, rfl, rfl, rfl⟩, fun _ => ⟨rfl, rfl⟩⟩
  have hF : Cmd.Fit ⟨2, 3, 5, 0, 0, 0, 0, 0, 0⟩ := ⟨⟨by decide, by decide⟩, ⟨by decide, by decide⟩, ⟨by decide, by decide⟩, ⟨by decide, by decide⟩, ⟨by decide, by decide⟩, ⟨by decide, by decide⟩, ⟨by decide, by decide⟩, ⟨by decide, by decide⟩, ⟨by decide, by decide⟩⟩
  have h := dec_form _ hR hF
  have e : formC ⟨2, 3, 5, 0, 0, 0, 0, 0, 0⟩ = [2, 3, 5] := by
    unfold formC
    simp only [show ((5 : Int).toNat) = 5 from rfl, num_small (show 5 < 128 by decide)]
    rfl
  rw [e] at h
  exact h
theorem alive5_any (W : World) : Calls Try.prog 12 #[] W fun e w' => e = .returned (.bool true) ∧ Below W.heap.size W w' := by
  have hO := (Ow.new W #[.int .u8 2, .int .u8 3, .int .u8 5] [2, 3, 5] rfl (Nat.le_refl 3) (by show 3 ≤ maxLen; unfold maxLen; omega) (by simp)).bt
  have cD := decode_any _ 3 _ [2, 3, 5] (by simp) _ hO
  rw [dec_alive] at cD
  have cD2 : Calls Try.prog 13 #[.slice (some ⟨W.heap.size, 0, none⟩) 3 3] (W.alloc (.cells #[.int .u8 2, .int .u8 3, .int .u8 5] 5)) fun e w' => e = .returned (.tuple #[.agg #[.int .i64 2, .int .i64 3, .int .i64 5, .int .i64 0, .int .i64 0, .int .i64 0, .int .i64 0, .int .i64 0, .int .i64 0], .int .i64 0]) ∧ Below (W.heap.size + 1) (W.alloc (.cells #[.int .u8 2, .int .u8 3, .int .u8 5] 5)) w' := cD.mono fun e w' h => ⟨h.1, by have := h.2; simpa using this⟩
  have hb := (Below.refl W.heap.size W).alloc (Nat.le_refl _) (.cells #[.int .u8 2, .int .u8 3, .int .u8 5] 5)
  have hE : ∀ w, (binOp .eql 23 (.agg #[.int .i64 2, .int .i64 3, .int .i64 5, .int .i64 0, .int .i64 0, .int .i64 0, .int .i64 0, .int .i64 0, .int .i64 0]) (.agg #[.int .i64 2, .int .i64 3, .int .i64 5, .int .i64 0, .int .i64 0, .int .i64 0, .int .i64 0, .int .i64 0, .int .i64 0])).run Try.prog w = .ok (.bool true) w := fun w => eql_cmd ⟨2, 3, 5, 0, 0, 0, 0, 0, 0⟩ ⟨2, 3, 5, 0, 0, 0, 0, 0, 0⟩ w
  clear cD hO
  go_enter Try.func12, Try.ntmps12
  go_wp2_with (go_at_call 13; refine cD2.mono ?_; rintro e w1 ⟨rfl, hb1⟩; have hb2 := hb.trans (hb1.mono (by omega)))
  go_ret
  exact ⟨rfl, hb2.alloc hb2.size _⟩
end Go.Proofs.Ytjleebfdbkfgmaa
