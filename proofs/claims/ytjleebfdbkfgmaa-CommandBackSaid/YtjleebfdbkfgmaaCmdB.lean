/-
  The contracts of package command's Right, for the commands that are not new, and of the document's Right.
-/
import Derived.Test.YtjleebfdbkfgmaaCmdA
import Derived.RegionTactic
namespace Go.Proofs.Ytjleebfdbkfgmaa
open Go.RowKit
theorem right_two (c : Cmd) (h1 : c.kind ≠ 1) (h3 : c.kind ≠ 3) : rightB c = (((kindB c.kind && inB c.sym 0 255) && inB c.id 0 4611686018427387904) && eqC c ⟨c.kind, c.sym, c.id, 0, 0, 0, 0, 0, 0⟩) := by
  unfold rightB
  rw [if_neg h1]
  by_cases h2 : c.kind = 2
  · rw [if_pos h2]
    simp [eqC, restB, bareB, Bool.and_assoc, Bool.and_comm, Bool.and_left_comm]
  · have : kindB c.kind = false := by simp [kindB, h1, h2, h3]
    rw [this]
    simp
theorem right_three (c : Cmd) (h3 : c.kind = 3) : rightB c = (((kindB c.kind && inB c.sym 0 255) && inB c.id 0 4611686018427387904) && eqC c ⟨c.kind, c.sym, c.id, 0, 0, 0, c.price, c.qty, 0⟩) := by
  unfold rightB
  rw [if_neg (by omega), if_neg (by omega)]
  simp [eqC, restB, Bool.and_assoc, Bool.and_comm, Bool.and_left_comm]
theorem right_cancel (c : Cmd) (hk1 : c.kind ≠ 1) (hk3 : c.kind ≠ 3) (w : World) :
    Calls Try.prog 10 #[cv c] w fun e w' => e = .returned (.bool (rightB c)) ∧ Below w.heap.size w w' := by
  rw [right_two c hk1 hk3]
  obtain ⟨kind, sym, id, owner, side, typ, price, qty, flags⟩ := c
  have q1 : (kind == 1) = false := by simpa using hk1
  have q3 : (kind == 3) = false := by simpa using hk3
  clear hk1 hk3
  have hz := Lib.hid (show w.heap.size + 1 = (w.alloc (.cells (cc ⟨kind, sym, id, owner, side, typ, price, qty, flags⟩) 23)).heap.size by simp)
  have cE := fun w => eql_cmd ⟨kind, sym, id, owner, side, typ, price, qty, flags⟩ ⟨kind, sym, id, 0, 0, 0, 0, 0, 0⟩ w
  generalize eqC ⟨kind, sym, id, owner, side, typ, price, qty, flags⟩ ⟨kind, sym, id, 0, 0, 0, 0, 0, 0⟩ = r at cE ⊢
  have cK := fun w => kind_any kind w
  obtain ⟨p0, h0⟩ : ∃ p, kindB kind = p := ⟨_, rfl⟩
  obtain ⟨p1, h1⟩ : ∃ p, (p0 && inB sym 0 255) = p := ⟨_, rfl⟩
  obtain ⟨p2, h2⟩ : ∃ p, (p1 && inB id 0 4611686018427387904) = p := ⟨_, rfl⟩
  rw [h0] at cK ⊢
  rw [h1, h2]
  have c1 := fun W hb => checkC_any sym 0 255 (w.heap.size + 1) p0 p1 W h1 hb
  have c2 := fun W hb => checkC_any id 0 4611686018427387904 (w.heap.size + 1) p1 p2 W h2 hb
  clear h0 h1 h2
  cases p2
  all_goals
    go_enter Try.func10, Try.ntmps10
    go_wp2_with (first
      | (go_at_call 20; refine (cK _).mono ?_; rintro e w1 ⟨rfl, rfl⟩)
      | (go_at_call 21; (with_reducible refine (c1 _ (Blk.new' hz.out)).mono ?_); rintro e w1 ⟨rfl, rfl⟩; clear c1)
      | (go_at_call 21; (with_reducible refine (c2 _ (Blk.new' hz.out)).mono ?_); rintro e w1 ⟨rfl, rfl⟩; clear c2))
    go_ret
    exact ⟨rfl, (((Below.refl _ _).alloc (Nat.le_refl _) _).alloc (by simp) _).alloc (by simp; omega) _⟩
end Go.Proofs.Ytjleebfdbkfgmaa
