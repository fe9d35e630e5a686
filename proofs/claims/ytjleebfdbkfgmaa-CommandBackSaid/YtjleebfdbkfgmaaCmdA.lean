/-
  Commands as Go's values: laid, read whole, compared; the contracts of package command's kind, Right and Has, and of the document's Right.
-/
import Derived.Test.YtjleebfdbkfgmaaCmd
import Derived.Test.YtjleebfdbkfgmaaChain
import Derived.Laws.StructEq
import Derived.Lib.Hide
namespace Go.Proofs.Ytjleebfdbkfgmaa
open Go.RowKit
abbrev cc (c : Cmd) : Array Value := #[.int .i64 c.kind, .int .i64 c.sym, .int .i64 c.id, .int .i64 c.owner, .int .i64 c.side, .int .i64 c.typ, .int .i64 c.price, .int .i64 c.qty, .int .i64 c.flags]
abbrev cv (c : Cmd) : Value := .agg (cc c)
/-- Whether two commands are the same. -/
def eqC (c d : Cmd) : Bool := c.kind == d.kind && c.sym == d.sym && c.id == d.id && c.owner == d.owner && c.side == d.side && c.typ == d.typ && c.price == d.price && c.qty == d.qty && c.flags == d.flags
theorem eqC_true {c d : Cmd} : eqC c d = true ↔ c = d := by
  cases c; cases d; simp [eqC, and_assoc]
theorem eqC_self (c : Cmd) : eqC c c = true := eqC_true.2 rfl
theorem eqIn_cmd (c d : Cmd) (w : World) : (Op.equalIn 10000 23 (cv c) (cv d)).run Try.prog w = .ok (eqC c d) w := by
  have hu := Try.underlying23
  have hf : Try.prog.underlying 23 = some (.struct (Try.prog.fieldsOf 23)) := by rw [Program.fieldsOf, hu]
  have u3 := Try.underlying3
  have u2 := Try.underlying2
  rw [show (10000 : Nat) = 9999 + 1 from rfl, run_equalIn_agg w 9999 _ _ _ hf (by kernel_rfl), Program.fieldsOf, hu]
  simp only [Op.eqFields]
  unfold eqC
  simp [go_sem, part]
  clear hu hf u3 u2
  repeat' split
  all_goals simp [*]
theorem eql_cmd (c d : Cmd) (w : World) : (binOp .eql 23 (cv c) (cv d)).run Try.prog w = .ok (.bool (eqC c d)) w := by
  rw [run_eql_struct, eqIn_cmd]; rfl
theorem neq_cmd (c d : Cmd) (w : World) : (binOp .neq 23 (cv c) (cv d)).run Try.prog w = .ok (.bool (!eqC c d)) w := by
  rw [run_neq_struct, eqIn_cmd]; rfl
theorem kind_any (n : Int) (w : World) : Calls Try.prog 20 #[.int .i64 n] w fun e w' => e = .returned (.bool (kindB n)) ∧ w = w' := by
  unfold kindB
  go_enter Try.func20, Try.ntmps20
  go_wp2
  all_goals go_ret
  all_goals simp_all
theorem in_any (n lo hi : Int) (w : World) : Calls Try.prog 22 #[.int .i64 n, .int .i64 lo, .int .i64 hi] w fun e w' => e = .returned (.bool (inB n lo hi)) ∧ w = w' := by
  unfold inB
  go_enter Try.func22, Try.ntmps22
  go_wp2
  all_goals go_ret
  all_goals (simp_all; try omega)
theorem checkC_any (n lo hi : Int) (q : Nat) (k r : Bool) (W : World) (hr : (k && inB n lo hi) = r) (hb : Blk W q 4 #[.bool k]) :
    Calls Try.prog 21 #[.int .i64 n, .int .i64 lo, .int .i64 hi, .pointer (some ⟨q, 0, none⟩)] W fun e w' => e = .returned (.tuple #[]) ∧ w' = W.setCell ⟨q, 0, none⟩ (.bool r) := by
  unfold inB at hr
  have c0 := hb.cell_eq 0 (.bool k) rfl
  have c1 := hb.free 0
  cases k
  · subst hr
    go_enter Try.func21, Try.ntmps21
    go_wp2
    go_end0
    exact ⟨rfl, rfl⟩
  · by_cases h1 : lo ≤ n
    · have e1 : decide (lo ≤ n) = true := by simpa using h1
      rw [e1, Bool.true_and, Bool.true_and] at hr
      go_enter Try.func21, Try.ntmps21
      go_wp2
      go_end0
      exact ⟨rfl, rfl⟩
    · have e1 : decide (lo ≤ n) = false := by simpa using h1
      rw [e1, Bool.false_and, Bool.and_false] at hr
      subst hr
      go_enter Try.func21, Try.ntmps21
      go_wp2
      go_end0
      exact ⟨rfl, rfl⟩
theorem has_any (c : Cmd) (n : Int) (w : World) : Calls Try.prog 8 #[cv c, .int .i64 n] w fun e w' => e = .returned (.bool (bits .and .i64 c.flags n == n)) ∧ Below w.heap.size w w' := by
  go_enter Try.func8, Try.ntmps8
  go_wp2
  go_ret
  exact ⟨rfl, (Below.refl _ _).alloc (Nat.le_refl _) _⟩
theorem right_new (c : Cmd) (hk : c.kind = 1) (w : World) :
    Calls Try.prog 10 #[cv c] w fun e w' => e = .returned (.bool (rightB c)) ∧ Below w.heap.size w w' := by
  obtain ⟨kind, sym, id, owner, side, typ, price, qty, flags⟩ := c
  simp only at hk
  subst hk
  have eR : rightB ⟨1, sym, id, owner, side, typ, price, qty, flags⟩ = ((((((true && inB sym 0 255) && inB id 0 4611686018427387904) && inB owner 0 1073741824) && inB side 0 1) && inB typ 1 5) && inB flags 0 7) := by
    simp [rightB, kindB, newB, Bool.and_assoc]
  rw [eR]
  clear eR
  have hz : w.heap.size + 1 = (w.alloc (.cells (cc ⟨1, sym, id, owner, side, typ, price, qty, flags⟩) 23)).heap.size := by simp
  have e1 : (true && inB sym 0 255) = (true && inB sym 0 255) := rfl
  have hk : kindB 1 = true := rfl
  have cK := fun w => kind_any 1 w
  rw [hk] at cK
  clear hk
  obtain ⟨p1, h1⟩ : ∃ p, (true && inB sym 0 255) = p := ⟨_, rfl⟩
  obtain ⟨p2, h2⟩ : ∃ p, (p1 && inB id 0 4611686018427387904) = p := ⟨_, rfl⟩
  obtain ⟨p3, h3⟩ : ∃ p, (p2 && inB owner 0 1073741824) = p := ⟨_, rfl⟩
  obtain ⟨p4, h4⟩ : ∃ p, (p3 && inB side 0 1) = p := ⟨_, rfl⟩
  obtain ⟨p5, h5⟩ : ∃ p, (p4 && inB typ 1 5) = p := ⟨_, rfl⟩
  obtain ⟨p6, h6⟩ : ∃ p, (p5 && inB flags 0 7) = p := ⟨_, rfl⟩
  rw [h1, h2, h3, h4, h5, h6]
  have c1 := fun W hb => checkC_any sym 0 255 (w.heap.size + 1) true p1 W h1 hb
  have c2 := fun W hb => checkC_any id 0 4611686018427387904 (w.heap.size + 1) p1 p2 W h2 hb
  have c3 := fun W hb => checkC_any owner 0 1073741824 (w.heap.size + 1) p2 p3 W h3 hb
  have c4 := fun W hb => checkC_any side 0 1 (w.heap.size + 1) p3 p4 W h4 hb
  have c5 := fun W hb => checkC_any typ 1 5 (w.heap.size + 1) p4 p5 W h5 hb
  have c6 := fun W hb => checkC_any flags 0 7 (w.heap.size + 1) p5 p6 W h6 hb
  replace hz := Lib.hid hz
  clear e1 h1 h2 h3 h4 h5 h6
  go_enter Try.func10, Try.ntmps10
  go_wp2_with (first
    | (go_at_call 20; refine (cK _).mono ?_; rintro e w1 ⟨rfl, rfl⟩)
    | (go_at_call 21; (with_reducible refine (c1 _ (Blk.new' hz.out)).mono ?_); rintro e w1 ⟨rfl, rfl⟩; clear c1)
    | (go_at_call 21; (with_reducible refine (c2 _ (Blk.new' hz.out)).mono ?_); rintro e w1 ⟨rfl, rfl⟩; clear c2)
    | (go_at_call 21; (with_reducible refine (c3 _ (Blk.new' hz.out)).mono ?_); rintro e w1 ⟨rfl, rfl⟩; clear c3)
    | (go_at_call 21; (with_reducible refine (c4 _ (Blk.new' hz.out)).mono ?_); rintro e w1 ⟨rfl, rfl⟩; clear c4)
    | (go_at_call 21; (with_reducible refine (c5 _ (Blk.new' hz.out)).mono ?_); rintro e w1 ⟨rfl, rfl⟩; clear c5)
    | (go_at_call 21; (with_reducible refine (c6 _ (Blk.new' hz.out)).mono ?_); rintro e w1 ⟨rfl, rfl⟩; clear c6))
  go_ret
  exact ⟨rfl, ((Below.refl _ _).alloc (Nat.le_refl _) _).alloc (by simp) _⟩
end Go.Proofs.Ytjleebfdbkfgmaa
