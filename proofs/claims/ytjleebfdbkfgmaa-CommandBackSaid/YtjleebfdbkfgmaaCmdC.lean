/-
  The contract of package command's Right for every command, and of the document's.
-/
import Derived.Test.YtjleebfdbkfgmaaCmdB
namespace Go.Proofs.Ytjleebfdbkfgmaa
open Go.RowKit
theorem right_replace (c : Cmd) (hk3 : c.kind = 3) (w : World) :
    Calls Try.prog 10 #[cv c] w fun e w' => e = .returned (.bool (rightB c)) ∧ Below w.heap.size w w' := by
  rw [right_three c hk3]
  obtain ⟨kind, sym, id, owner, side, typ, price, qty, flags⟩ := c
  simp only at hk3
  subst hk3
  have hz := Lib.hid (show w.heap.size + 1 = (w.alloc (.cells (cc ⟨3, sym, id, owner, side, typ, price, qty, flags⟩) 23)).heap.size by simp)
  have cE := fun w => eql_cmd ⟨3, sym, id, owner, side, typ, price, qty, flags⟩ ⟨3, sym, id, 0, 0, 0, price, qty, 0⟩ w
  generalize eqC ⟨3, sym, id, owner, side, typ, price, qty, flags⟩ ⟨3, sym, id, 0, 0, 0, price, qty, 0⟩ = r at cE ⊢
  have cK := fun w => kind_any 3 w
  have hk : kindB 3 = true := rfl
  obtain ⟨p1, h1⟩ : ∃ p, (true && inB sym 0 255) = p := ⟨_, rfl⟩
  obtain ⟨p2, h2⟩ : ∃ p, (p1 && inB id 0 4611686018427387904) = p := ⟨_, rfl⟩
  rw [hk] at cK ⊢
  rw [h1, h2]
  have c1 := fun W hb => checkC_any sym 0 255 (w.heap.size + 1) true p1 W h1 hb
  have c2 := fun W hb => checkC_any id 0 4611686018427387904 (w.heap.size + 1) p1 p2 W h2 hb
  clear hk h1 h2
  go_enter Try.func10, Try.ntmps10
  go_wp2_with (first
    | (go_at_call 20; refine (cK _).mono ?_; rintro e w1 ⟨rfl, rfl⟩)
    | (go_at_call 21; (with_reducible refine (c1 _ (Blk.new' hz.out)).mono ?_); rintro e w1 ⟨rfl, rfl⟩; clear c1)
    | (go_at_call 21; (with_reducible refine (c2 _ (Blk.new' hz.out)).mono ?_); rintro e w1 ⟨rfl, rfl⟩; clear c2))
  go_region
  all_goals
    cases p2
    all_goals
      go_wp2
      go_ret
      exact ⟨rfl, ((((Below.refl _ _).alloc (Nat.le_refl _) _).alloc (by simp) _).alloc (by simp; omega) _).drew⟩
end Go.Proofs.Ytjleebfdbkfgmaa
