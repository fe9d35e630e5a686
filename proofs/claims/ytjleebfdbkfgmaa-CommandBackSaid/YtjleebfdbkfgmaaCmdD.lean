/-
  The contract of the document's Right, for every command.
-/
import Derived.Test.YtjleebfdbkfgmaaCmdC
namespace Go.Proofs.Ytjleebfdbkfgmaa
open Go.RowKit
theorem right_any (c : Cmd) (w : World) : Calls Try.prog 10 #[cv c] w fun e w' => e = .returned (.bool (rightB c)) ∧ Below w.heap.size w w' := by
  by_cases h1 : c.kind = 1
  · exact right_new c h1 w
  · by_cases h3 : c.kind = 3
    · exact right_replace c h3 w
    · exact right_cancel c h1 h3 w
theorem refRight_any (c : Cmd) (w : World) : Calls Try.prog 11 #[cv c] w fun e w' => e = .returned (.bool (rightB c)) ∧ Below w.heap.size w w' := by
  have hb := fun o => (Below.refl w.heap.size w).alloc (Nat.le_refl _) o
  have cS := fun w => in_any c.sym 0 255 w
  have cI := fun w => in_any c.id 0 4611686018427387904 w
  have eR : rightB c = (inB c.sym 0 255 && (inB c.id 0 4611686018427387904 && (kindB c.kind && (if c.kind = 1 then newB c else if c.kind = 2 then restB c && bareB c else restB c)))) := by
    unfold rightB
    simp only [Bool.and_assoc, Bool.and_left_comm]
  rw [eR]
  clear eR
  generalize inB c.sym 0 255 = s at cS ⊢
  generalize inB c.id 0 4611686018427387904 = i at cI ⊢
  cases s
  · obtain ⟨kind, sym, id, owner, side, typ, price, qty, flags⟩ := c
    go_enter Try.func11, Try.ntmps11
    go_wp2_with (go_at_call 22; (with_reducible refine (cS _).mono ?_); rintro e w1 ⟨rfl, rfl⟩)
    all_goals (go_ret; exact ⟨rfl, hb _⟩)
  · cases i
    · obtain ⟨kind, sym, id, owner, side, typ, price, qty, flags⟩ := c
      go_enter Try.func11, Try.ntmps11
      go_wp2_with (first
        | (go_at_call 22; (with_reducible refine (cS _).mono ?_); rintro e w1 ⟨rfl, rfl⟩)
        | (go_at_call 22; (with_reducible refine (cI _).mono ?_); rintro e w1 ⟨rfl, rfl⟩))
      all_goals (go_ret; exact ⟨rfl, hb _⟩)
    · simp only [Bool.true_and]
      by_cases h1 : c.kind = 1
      · have cO := fun w => in_any c.owner 0 1073741824 w
        have cD := fun w => in_any c.side 0 1 w
        have cT := fun w => in_any c.typ 1 5 w
        have cF := fun w => in_any c.flags 0 7 w
        rw [if_pos h1, show kindB c.kind = true by rw [h1]; rfl]
        unfold newB
        simp only [Bool.true_and, Bool.and_assoc]
        generalize inB c.owner 0 1073741824 = o at cO ⊢
        generalize inB c.side 0 1 = d at cD ⊢
        generalize inB c.typ 1 5 = t at cT ⊢
        generalize inB c.flags 0 7 = f at cF ⊢
        obtain ⟨kind, sym, id, owner, side, typ, price, qty, flags⟩ := c
        simp only at h1
        subst h1
        cases o
        all_goals cases d
        all_goals cases t
        all_goals
          go_enter Try.func11, Try.ntmps11
          go_wp2_with (first
            | (go_at_call 22; (with_reducible refine (cS _).mono ?_); rintro e w1 ⟨rfl, rfl⟩)
            | (go_at_call 22; (with_reducible refine (cI _).mono ?_); rintro e w1 ⟨rfl, rfl⟩)
            | (go_at_call 22; (with_reducible refine (cO _).mono ?_); rintro e w1 ⟨rfl, rfl⟩)
            | (go_at_call 22; (with_reducible refine (cD _).mono ?_); rintro e w1 ⟨rfl, rfl⟩)
            | (go_at_call 22; (with_reducible refine (cT _).mono ?_); rintro e w1 ⟨rfl, rfl⟩)
            | (go_at_call 22; (with_reducible refine (cF _).mono ?_); rintro e w1 ⟨rfl, rfl⟩))
          go_ret
          exact ⟨rfl, hb _⟩
      · rw [if_neg h1]
        by_cases h2 : c.kind = 2
        · have e2 : (restB c && bareB c) = eqC c ⟨2, c.sym, c.id, 0, 0, 0, 0, 0, 0⟩ := by
            simp [eqC, restB, bareB, h2, Bool.and_comm, Bool.and_left_comm]
          rw [if_pos h2, show kindB c.kind = true by rw [h2]; rfl, Bool.true_and, e2]
          clear e2 h1
          have cE := fun w => eql_cmd c ⟨2, c.sym, c.id, 0, 0, 0, 0, 0, 0⟩ w
          generalize eqC c ⟨2, c.sym, c.id, 0, 0, 0, 0, 0, 0⟩ = r at cE ⊢
          obtain ⟨kind, sym, id, owner, side, typ, price, qty, flags⟩ := c
          simp only at h2
          subst h2
          go_enter Try.func11, Try.ntmps11
          go_wp2_with (first
            | (go_at_call 22; (with_reducible refine (cS _).mono ?_); rintro e w1 ⟨rfl, rfl⟩)
            | (go_at_call 22; (with_reducible refine (cI _).mono ?_); rintro e w1 ⟨rfl, rfl⟩))
          go_ret
          exact ⟨rfl, hb _⟩
        · rw [if_neg h2]
          by_cases h3 : c.kind = 3
          · have e2 : restB c = eqC c ⟨3, c.sym, c.id, 0, 0, 0, c.price, c.qty, 0⟩ := by
              simp [eqC, restB, h3, Bool.and_comm, Bool.and_left_comm]
            rw [show kindB c.kind = true by rw [h3]; rfl, Bool.true_and, e2]
            clear e2 h1 h2
            have cE := fun w => eql_cmd c ⟨3, c.sym, c.id, 0, 0, 0, c.price, c.qty, 0⟩ w
            generalize eqC c ⟨3, c.sym, c.id, 0, 0, 0, c.price, c.qty, 0⟩ = r at cE ⊢
            obtain ⟨kind, sym, id, owner, side, typ, price, qty, flags⟩ := c
            simp only at h3
            subst h3
            go_enter Try.func11, Try.ntmps11
            go_wp2_with (first
              | (go_at_call 22; (with_reducible refine (cS _).mono ?_); rintro e w1 ⟨rfl, rfl⟩)
              | (go_at_call 22; (with_reducible refine (cI _).mono ?_); rintro e w1 ⟨rfl, rfl⟩))
            go_ret
            exact ⟨rfl, hb _⟩
          · rw [show kindB c.kind = false by simp [kindB, h1, h2, h3], Bool.false_and]
            obtain ⟨kind, sym, id, owner, side, typ, price, qty, flags⟩ := c
            have q1 : (kind == 1) = false := by simpa using h1
            have q2 : (kind == 2) = false := by simpa using h2
            have q3 : (kind == 3) = false := by simpa using h3
            clear h1 h2 h3
            go_enter Try.func11, Try.ntmps11
            go_wp2_with (first
              | (go_at_call 22; (with_reducible refine (cS _).mono ?_); rintro e w1 ⟨rfl, rfl⟩)
              | (go_at_call 22; (with_reducible refine (cI _).mono ?_); rintro e w1 ⟨rfl, rfl⟩))
            go_ret
            exact ⟨rfl, hb _⟩
end Go.Proofs.Ytjleebfdbkfgmaa
