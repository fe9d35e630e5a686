/-
  The statements' alive of layer 6.
-/
import Derived.Test.YtalgpbjonkcldaaMsgE
import Derived.Test.YtalgpbjonkcldaaOctB
import Derived.Test.YtalgpbjonkcldaaPost
namespace Go.Proofs.Ytalgpbjonkcldaa
open Go.RowKit
theorem form_alive : formM ⟨6, 1, 0, 0, 0, 0, 0, 0, 2⟩ = [6, 1, 2, 0, 0] ++ List.replicate 32 0 := by
  have h1 : num 0 = [0] := num_small (by decide)
  unfold formM
  simp only [Int.toNat_zero, h1]
  decide
set_option maxHeartbeats 1000000 in
theorem alive6_any (W : World) : Calls Try.prog 13 #[] W fun e w' => e = .returned (.bool true) ∧ Below W.heap.size W w' := by
  have cE := fun w => mencode_any ⟨6, 1, 0, 0, 0, 0, 0, 0, 2⟩ ⟨⟨by decide, by decide⟩, ⟨by decide, by decide⟩, ⟨by decide, by decide⟩, ⟨by decide, by decide⟩, ⟨by decide, by decide⟩, ⟨by decide, by decide⟩, ⟨by decide, by decide⟩, ⟨by decide, by decide⟩, ⟨by decide, by decide⟩⟩ w
  have hr : rightM ⟨6, 1, 0, 0, 0, 0, 0, 0, 2⟩ = true := by decide
  have e0 : encMB ⟨6, 1, 0, 0, 0, 0, 0, 0, 2⟩ = formM ⟨6, 1, 0, 0, 0, 0, 0, 0, 2⟩ := if_pos hr
  have e1 : encMF ⟨6, 1, 0, 0, 0, 0, 0, 0, 2⟩ = 0 := if_pos hr
  rw [e0, e1, form_alive] at cE
  have hl : ([6, 1, 2, 0, 0] ++ List.replicate 32 0 : List Nat).length = 37 := by decide
  have g0 : ([6, 1, 2, 0, 0] ++ List.replicate 32 0 : List Nat)[0]? = some 6 := by decide
  have g2 : ([6, 1, 2, 0, 0] ++ List.replicate 32 0 : List Nat)[2]? = some 2 := by decide
  have hne : ([6, 1, 2, 0, 0] ++ List.replicate 32 0 : List Nat) ≠ [] := by decide
  unfold Coded at cE
  rw [hl] at cE
  generalize ([6, 1, 2, 0, 0] ++ List.replicate 32 0 : List Nat) = X at cE g0 g2 hne
  clear hr e0 e1 hl
  have cI := fun w => is_any ⟨3, 1, 0, 0, 0, 0, 0, 0, 0⟩ 3 1 w
  simp only [vMsg, cMsg] at cE cI
  replace cI : ∀ w, Calls Try.prog 12 #[.agg #[.int .i64 3, .int .i64 1, .int .i64 0, .int .i64 0, .int .i64 0, .int .i64 0, .int .i64 0, .int .i64 0, .int .i64 0], .int .i64 3, .int .i64 1] w fun e w' => e = .returned (.bool true) ∧ Below w.heap.size w w' := cI
  go_enter Try.func13, Try.ntmps13
  go_wp2_with (first
    | (go_at_call 7; refine (cE _).mono ?_; rintro e w1 ⟨ao, cap, k, rfl, hX, hb1⟩; obtain ⟨off, rfl, hc⟩ := hX.open hne; have d0 : w1.cell? ⟨k, off, none⟩ = some (.int .u8 6) := hc 0 6 g0; have d2 : w1.cell? ⟨k, off + 2, none⟩ = some (.int .u8 2) := hc 2 2 g2)
    | (go_at_call 12; refine (cI _).mono ?_; rintro e w2 ⟨rfl, hb2⟩))
  go_ret
  exact ⟨rfl, hb1.trans (hb2.mono hb1.size)⟩
end Go.Proofs.Ytalgpbjonkcldaa
