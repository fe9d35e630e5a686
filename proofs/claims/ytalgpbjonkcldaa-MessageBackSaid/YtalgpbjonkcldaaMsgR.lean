/-
  The contracts of the document's Right, form and Encode of messages.
-/
import Derived.Test.YtalgpbjonkcldaaMsgV
import Derived.Test.YtalgpbjonkcldaaOctB
namespace Go.Proofs.Ytalgpbjonkcldaa
open Go.RowKit
theorem inM_any (n lo hi : Int) (w : World) : Calls Try.prog 27 #[.int .i64 n, .int .i64 lo, .int .i64 hi] w fun e w' => e = .returned (.bool (inM n lo hi)) ∧ w = w' := by
  unfold inM
  go_enter Try.func27, Try.ntmps27
  go_wp2
  all_goals go_ret
  all_goals (simp_all; try omega)
set_option maxHeartbeats 1000000 in
theorem refRightM_any (m : Msg) (w : World) : Calls Try.prog 11 #[vMsg m] w fun e w' => e = .returned (.bool (rightM m)) ∧ Below w.heap.size w w' := by
  have hb := fun o => (Below.refl w.heap.size w).alloc (Nat.le_refl _) o
  have c0 := fun w => inM_any m.kind 1 9 w
  have c1 := fun w => inM_any m.sym 0 255 w
  have c2 := fun w => inM_any m.code 0 255 w
  have c3 := fun w => inM_any m.seq 0 4611686018427387904 w
  have c4 := fun w => inM_any m.tick 0 4611686018427387904 w
  have c5 := fun w => inM_any m.id (-1) 4611686018427387904 w
  have c6 := fun w => inM_any m.other (-1) 4611686018427387904 w
  unfold rightM
  simp only [Bool.and_assoc]
  generalize inM m.kind 1 9 = b0 at c0 ⊢
  generalize inM m.sym 0 255 = b1 at c1 ⊢
  generalize inM m.code 0 255 = b2 at c2 ⊢
  generalize inM m.seq 0 4611686018427387904 = b3 at c3 ⊢
  generalize inM m.tick 0 4611686018427387904 = b4 at c4 ⊢
  generalize inM m.id (-1) 4611686018427387904 = b5 at c5 ⊢
  generalize inM m.other (-1) 4611686018427387904 = b6 at c6 ⊢
  obtain ⟨kind, sym, seq, tick, id, other, price, qty, code⟩ := m
  go_enter Try.func11, Try.ntmps11
  go_wp2_with (first
    | (go_at_call 27; (with_reducible refine (c0 _).mono ?_); rintro e w1 ⟨rfl, rfl⟩)
    | (go_at_call 27; (with_reducible refine (c1 _).mono ?_); rintro e w1 ⟨rfl, rfl⟩)
    | (go_at_call 27; (with_reducible refine (c2 _).mono ?_); rintro e w1 ⟨rfl, rfl⟩)
    | (go_at_call 27; (with_reducible refine (c3 _).mono ?_); rintro e w1 ⟨rfl, rfl⟩)
    | (go_at_call 27; (with_reducible refine (c4 _).mono ?_); rintro e w1 ⟨rfl, rfl⟩)
    | (go_at_call 27; (with_reducible refine (c5 _).mono ?_); rintro e w1 ⟨rfl, rfl⟩)
    | (go_at_call 27; (with_reducible refine (c6 _).mono ?_); rintro e w1 ⟨rfl, rfl⟩))
  all_goals go_ret
  all_goals exact ⟨by simp_all, hb _⟩
end Go.Proofs.Ytalgpbjonkcldaa
