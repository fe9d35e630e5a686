/-
  Loads and stores of whole arrays of bits in a statement whose order Go leaves open.
-/
import Derived.Test.YteljjjdejjkgfaaRegSq
import Derived.Test.YteljjjdejjkgfaaArrq
namespace Go.Proofs.Yteljjjdejjkgfaa
open Go.RowKit
/-- The load of a whole array of bits. -/
theorem yieldsS_load28 {md : Region.Mode} {ops : Array Oper} {S : Array Bool → World → Prop} {i : Nat} {o : Oper} {a : Act} {x : Operand} {g : Nat} {f : Nat → Bool} (hk : ∀ L w, S L w → S (L.setIfInBounds i true) w) (hw : Region.wanted o (yielded ops a.tmps) = true) (ho : o.op = .load 70 x)
    (hx : a.eval x = .pointer (some ⟨g, 0, none⟩)) (hS : ∀ L w, S L w → Blk w g 70 (arr f)) : YieldsS Try.prog md ops S i o (.agg (arr f)) a :=
  yieldsS_run hk hw fun L w h => by
    unfold execOp
    simp only [ho, hx, Instr.loadAt, Instr.sureAddr, Sem.run_bind, Sem.run_pure, Result.andThen_ok, res28 w g f (hS L w h)]
theorem yieldsS_load28r {md : Region.Mode} {ops : Array Oper} {S : Array Bool → World → Prop} {i : Nat} {o : Oper} {a : Act} {x : Operand} {g : Nat} {f : Nat → Bool} (hk : ∀ L w, i ∈ Region.ready md ops L → S L w → S (L.setIfInBounds i true) w) (hw : Region.wanted o (yielded ops a.tmps) = true) (ho : o.op = .load 70 x)
    (hx : a.eval x = .pointer (some ⟨g, 0, none⟩)) (hS : ∀ L w, i ∈ Region.ready md ops L → S L w → Blk w g 70 (arr f)) : YieldsS Try.prog md ops S i o (.agg (arr f)) a :=
  yieldsS_runr hk hw fun L w hL h => by
    unfold execOp
    simp only [ho, hx, Instr.loadAt, Instr.sureAddr, Sem.run_bind, Sem.run_pure, Result.andThen_ok, res28 w g f (hS L w hL h)]
/-- The store of a whole array of bits. -/
theorem yieldsS_store28 {md : Region.Mode} {ops : Array Oper} {S : Array Bool → World → Prop} {i : Nat} {o : Oper} {a : Act} {x y : Operand} {g : Nat} {f : Nat → Bool} (hw : Region.wanted o (yielded ops a.tmps) = true) (ho : o.op = .store 70 x y)
    (hx : a.eval x = .pointer (some ⟨g, 0, none⟩)) (hy : a.eval y = .agg (arr f)) (hS : ∀ L w, i ∈ Region.ready md ops L → S L w → (∃ old, Blk w g 70 (arr old)) ∧ S (L.setIfInBounds i true) (w.setRow g (arr f))) : YieldsS Try.prog md ops S i o undef a :=
  .inl ⟨hw, fun L w hL h => by
    obtain ⟨⟨old, hb⟩, hS'⟩ := hS L w hL h
    have hr := run_storeVar_row (P := Try.prog) w g 70 70 (arr old) (arr f) hb (by rw [arr_size]; exact size28) (by rw [arr_size, arr_size]) (arr_one f)
    refine .inr (.inl ⟨rfl, w.setRow g (arr f), ?_, hS'⟩)
    unfold execOp
    simp only [ho, hx, hy, Instr.storeAt, Instr.sureAddr, Sem.run_bind, Sem.run_pure, Result.andThen_ok, hr]⟩
theorem st28_op {ops : Array Oper} {Q : Exit → Act → World → Prop} {K : Act → World → Prop} {o : Oper} {a : Act} {w : World} {x y : Operand} (ho : o.op = .store 70 x y)
    (g : Nat) (f old : Nat → Bool) (hx : a.eval x = .pointer (some ⟨g, 0, none⟩)) (hy : a.eval y = .agg (arr f)) (hg : Blk w g 70 (arr old))
    (h : K (a.put o.dst undef) (w.setRow g (arr f))) (_ : ops = ops) : o.wp Try.prog a w K Q :=
  wp_store_row _ x y ho g (arr f) hx hy _ _ hg (by rw [arr_size]; exact size28) (by rw [arr_size, arr_size]) (arr_one f) h
theorem ld28_op {ops : Array Oper} {Q : Exit → Act → World → Prop} {K : Act → World → Prop} {o : Oper} {a : Act} {w : World} {x : Operand} (ho : o.op = .load 70 x)
    (g : Nat) (f : Nat → Bool) (hx : a.eval x = .pointer (some ⟨g, 0, none⟩)) (hg : Blk w g 70 (arr f)) (h : K (a.put o.dst (.agg (arr f))) w) (_ : ops = ops) : o.wp Try.prog a w K Q :=
  wp_load_row _ x ho g hx _ _ _ _ hg under28 rfl (by rw [arr_size]; exact size28) h
/-- Which operation has come up, behind one more. -/
theorem getD_next {L : Array Bool} {i j : Nat} (h : i ≠ j) : (L.setIfInBounds i true).getD j false = L.getD j false := by
  simp [Array.getElem?_setIfInBounds_ne h]
theorem getD_self {L : Array Bool} {i : Nat} (h : i < L.size) : (L.setIfInBounds i true).getD i false = true := by
  simp [h]
end Go.Proofs.Yteljjjdejjkgfaa
