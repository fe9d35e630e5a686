/-
  What waits behind a stream (no Go text).
-/
import Derived.Test.YtalgpbjonkcldaaFrmM
namespace Go.Proofs.Ytalgpbjonkcldaa

/-- What waits behind a stream, and the fault. -/
def left (zs : List Nat) : List Nat × Nat := if (allF zs).2.2 = 4 then ([], 4) else (zs.drop (allF zs).2.1, 0)
theorem run_left3 {zs : List Nat} {pre : List (List Nat)} {i : Nat} (hi : i ≤ zs.length) (h0 : takeF (zs.drop i) = ([], 0, 3)) (h : allF zs = (pre ++ (allF (zs.drop i)).1, i + (allF (zs.drop i)).2.1, (allF (zs.drop i)).2.2)) : (allF zs).1 = pre ∧ left zs = (zs.drop i, 0) := by
  by_cases hz : i < zs.length
  · have e := run_stop hz h0 (by decide) h
    unfold left
    rw [e]
    exact ⟨rfl, rfl⟩
  · have e := run_end (by omega) h
    unfold left
    rw [e]
    exact ⟨rfl, rfl⟩
theorem run_left4 {zs : List Nat} {pre : List (List Nat)} {i : Nat} (hi : i ≤ zs.length) (h0 : takeF (zs.drop i) = ([], 0, 4)) (h : allF zs = (pre ++ (allF (zs.drop i)).1, i + (allF (zs.drop i)).2.1, (allF (zs.drop i)).2.2)) : (allF zs).1 = pre ∧ left zs = ([], 4) := by
  by_cases hz : i < zs.length
  · have e := run_stop hz h0 (by decide) h
    unfold left
    rw [e]
    exact ⟨rfl, rfl⟩
  · rw [List.drop_eq_nil_of_le (by omega)] at h0
    cases h0
end Go.Proofs.Ytalgpbjonkcldaa
