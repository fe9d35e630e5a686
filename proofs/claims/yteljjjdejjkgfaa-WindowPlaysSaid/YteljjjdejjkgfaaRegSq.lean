/-
  A law for a statement whose order Go leaves open, and whose operations, its calls and stores too, each yield one value in every world that meets a condition S, and hand the condition on: whatever order is taken, the end is the same. So one order is walked, not all. S may speak of which operations have come up (what a store has laid by then).
-/
import Derived.OrdersHeld
import Derived.WalkKit
namespace Go.Proofs.Yteljjjdejjkgfaa
section
variable {P : Program} {ops : Array Oper} {Q : Exit → Act → World → Prop} {md : Region.Mode} {S : Array Bool → World → Prop}

/-- In every world that meets S operation i's run yields v, at once or by a call, and S holds behind it. -/
def RunS (P : Program) (md : Region.Mode) (ops : Array Oper) (S : Array Bool → World → Prop) (i : Nat) (r : Sem Next) (v : Value) : Prop :=
  ∀ L w, i ∈ Region.ready md ops L → S L w → (∃ w', r.run P w = .ok (.value v) w' ∧ S (L.setIfInBounds i true) w') ∨ (v = undef ∧ ∃ w', r.run P w = .ok .skip w' ∧ S (L.setIfInBounds i true) w') ∨
    ∃ f args, r.run P w = .ok (.enter f args) w ∧ Calls P f args w fun e w' => e = .returned v ∧ S (L.setIfInBounds i true) w'
def YieldsS (P : Program) (md : Region.Mode) (ops : Array Oper) (S : Array Bool → World → Prop) (i : Nat) (o : Oper) (v : Value) (a : Act) : Prop :=
  (Region.wanted o (yielded ops a.tmps) = true ∧ RunS P md ops S i (execOp a.eval o) v) ∨ (Region.wanted o (yielded ops a.tmps) = false ∧ v = undef ∧ ∀ L w, S L w → S (L.setIfInBounds i true) w)
theorem YieldsS.wpOp {i : Nat} {o : Oper} {v : Value} {a : Act} (hi : ops[i]? = some o) (hy : YieldsS P md ops S i o v a)
    {K : Act → World → Prop} {L : Array Bool} {w : World} (hL : i ∈ Region.ready md ops L) (hS : S L w) (h : ∀ w', S (L.setIfInBounds i true) w' → K (a.put o.dst v) w') : wpOp P ops Q i K a w := by
  unfold Go.wpOp
  simp only [hi]
  rcases hy with ⟨hw, hv⟩ | ⟨hw, rfl, hk⟩
  · simp only [hw, if_true]
    refine .inl ?_
    rcases hv L w hL hS with ⟨w', hr, hS'⟩ | ⟨rfl, w', hr, hS'⟩ | ⟨f, args, hr, hc⟩
    · simp only [Oper.wp, hr, Oper.upon]; exact h w' hS'
    · simp only [Oper.wp, hr, Oper.upon]; exact h w' hS'
    · simp only [Oper.wp, hr, Oper.upon]
      refine Calls.mono hc fun e w'' he => ?_
      obtain ⟨rfl, hS'⟩ := he
      exact h w'' hS'
  · simp only [hw, Bool.false_eq_true, if_false]; exact h w (hk L w hS)
theorem YieldsS.of_same {i : Nat} {o : Oper} {v : Value} {a a' : Act} (hy : YieldsS P md ops S i o v a) (he : execOp a'.eval o = execOp a.eval o)
    (hw : Region.wanted o (yielded ops a'.tmps) = Region.wanted o (yielded ops a.tmps)) : YieldsS P md ops S i o v a' := by
  unfold YieldsS at *
  rw [he, hw]
  exact hy
/-- Every way on from here. -/
def AllS (P : Program) (md : Region.Mode) (ops : Array Oper) (Q : Exit → Act → World → Prop) (S : Array Bool → World → Prop) : Nat → Array Bool → Act → Prop
  | 0, listed, a => Region.ready md ops listed = [] ∧ ∀ w, S listed w → Q .normal a w
  | fuel + 1, listed, a => (Region.ready md ops listed = [] → ∀ w, S listed w → Q .normal a w) ∧
    ∀ j ∈ Region.ready md ops listed, ∃ oj vj, ops[j]? = some oj ∧ YieldsS P md ops S j oj vj a ∧ AllS P md ops Q S fuel (listed.setIfInBounds j true) (a.put oj.dst vj)
theorem AllS.any : ∀ (fuel : Nat) (listed : Array Bool) (a : Act), AllS P md ops Q S fuel listed a → ∀ w, S listed w → wpAny P md ops Q fuel listed a w
  | 0, _, _, h, w, hS => ⟨h.1, h.2 w hS⟩
  | fuel + 1, listed, a, h, w, hS => ⟨fun e => h.1 e w hS, fun j hj => by
      obtain ⟨oj, vj, hoj, hy, hall⟩ := h.2 j hj
      exact hy.wpOp hoj hj hS fun w' hS' => AllS.any fuel _ _ hall w' hS'⟩
theorem allS_first {i : Nat} {oi : Oper} {v : Value} (hi : ops[i]? = some oi) (hsel : ∀ (j : Nat) (o : Oper) cs b, ops[j]? = some o → o.op ≠ .select cs b) :
    ∀ (fuel : Nat) (listed : Array Bool) (a : Act),
      (∀ j oj, ops[j]? = some oj → j ≠ i → listed.getD j true = false → (∀ e ∈ oj.after, Region.binds md e = true → e.on ≠ i) → oi.apart ops oj = true) →
      i ∈ Region.ready md ops listed → YieldsS P md ops S i oi v a →
      AllS P md ops Q S fuel (listed.setIfInBounds i true) (a.put oi.dst v) → AllS P md ops Q S (fuel + 1) listed a := by
  intro fuel
  induction fuel with
  | zero =>
    intro listed a _ hr hy H
    refine ⟨fun e => (by rw [e] at hr; cases hr), fun j hj => ?_⟩
    by_cases hji : j = i
    · subst hji; exact ⟨oi, v, hi, hy, H⟩
    · have := ready_mono hj hji
      rw [H.1] at this
      cases this
  | succ fuel ih =>
    intro listed a hfree hr hy H
    refine ⟨fun e => (by rw [e] at hr; cases hr), fun j hj => ?_⟩
    by_cases hji : j = i
    · subst hji; exact ⟨oi, v, hi, hy, H⟩
    · obtain ⟨oj, vj, hoj', hyj, hall'⟩ := H.2 j (ready_mono hj hji)
      obtain ⟨hjun, oj2, hoj, hall⟩ := mem_ready.1 hj
      obtain rfl : oj = oj2 := by rw [hoj] at hoj'; injection hoj' with e; exact e.symm
      have hnot : ∀ e ∈ oj.after, Region.binds md e = true → e.on ≠ i := fun e he hb heq => by
        have h1 := hall e he hb
        have h0 := (mem_ready.1 hr).1
        rw [heq] at h1
        rcases Nat.lt_or_ge i listed.size with h' | h'
        · simp [h'] at h0 h1; rw [h0] at h1; cases h1
        · simp [Array.getElem?_eq_none h'] at h1
      obtain ⟨h1, h2, h3⟩ := Oper.apart_spec (hfree j oj hoj hji hjun hnot)
      have hfree' : ∀ k ok, ops[k]? = some ok → k ≠ i → (listed.setIfInBounds j true).getD k true = false →
          (∀ e ∈ ok.after, Region.binds md e = true → e.on ≠ i) → oi.apart ops ok = true := fun k ok hk hki hun hno => by
        refine hfree k ok hk hki ?_ hno
        by_cases hjk : j = k
        · subst hjk; exact hjun
        · rw [getD_set_ne true hjk] at hun; exact hun
      refine ⟨oj, vj, hoj, hyj.of_same ?_ ?_, ih (listed.setIfInBounds j true) (a.put oj.dst vj) hfree' (ready_mono hr (Ne.symm hji)) (hy.of_same ?_ ?_) ?_⟩
      · exact (execOp_put oj (fun cs b => hsel j oj cs b hoj) a oi.dst v h1).symm
      · exact (wanted_put oj a oi.dst v h1).symm
      · exact execOp_put oi (fun cs b => hsel i oi cs b hi) a oj.dst vj h3
      · exact wanted_put oi a oj.dst vj h3
      · rw [Array.setIfInBounds_comm _ _ hji, ← Act.put_comm a v vj h2]
        exact hall'
/-- The first operation that has not come up, in the text's order. -/
def nextI (listed : Array Bool) : Option Nat := (List.range listed.size).find? fun i => !listed.getD i true
/-- Take the next operation in the text's order. -/
theorem AllS.next {i : Nat} {oi : Oper} {d : Option Tmp} {v : Value} {fuel : Nat} {listed : Array Bool} {a : Act} (_hn : nextI listed = some i) (hi : ops[i]? = some oi) (hd : oi.dst = d)
    (hc : (Region.noSelect ops && Region.free md ops listed i && (Region.ready md ops listed).contains i) = true) (hy : YieldsS P md ops S i oi v a)
    (h : AllS P md ops Q S fuel (listed.setIfInBounds i true) (a.put d v)) : AllS P md ops Q S (fuel + 1) listed a := by
  simp only [Bool.and_eq_true] at hc
  obtain ⟨⟨h3, h4⟩, h5⟩ := hc
  subst hd
  exact allS_first hi (Region.noSelect_spec h3) fuel listed a (Region.free_spec hi h4) (by simpa using h5) hy h
/-- All have come up. -/
theorem AllS.done {listed : Array Bool} {a : Act} (hr : Region.ready md ops listed = []) (h : ∀ w, S listed w → Q .normal a w) : AllS P md ops Q S 0 listed a := ⟨hr, h⟩
/-- The beginning. -/
theorem wp_region_S {id : Nat} {a : Act} {w : World} (hm : P.follows .mixedOrders = true) (hS : S (Array.replicate ops.size false) w.drew)
    (h : AllS P .any ops Q S ops.size (Array.replicate ops.size false) a) : (Code.region id ops true).wp P Q a w :=
  wp_region_any hm (AllS.any _ _ _ h _ hS)
/-- A call, by its contract. -/
theorem yieldsS_call {i : Nat} {o : Oper} {v : Value} {a : Act} {f : FuncId} {args : Array Value} (hw : Region.wanted o (yielded ops a.tmps) = true)
    (hr : ∀ w, (execOp a.eval o).run P w = .ok (.enter f args) w) (hc : ∀ L w, S L w → Calls P f args w fun e w' => e = .returned v ∧ S (L.setIfInBounds i true) w') : YieldsS P md ops S i o v a :=
  .inl ⟨hw, fun L w _ hS => .inr (.inr ⟨f, args, hr w, hc L w hS⟩)⟩
/-- What reads, or reckons. -/
theorem yieldsS_run {i : Nat} {o : Oper} {v : Value} {a : Act} (hk : ∀ L w, S L w → S (L.setIfInBounds i true) w) (hw : Region.wanted o (yielded ops a.tmps) = true) (h : ∀ L w, S L w → (execOp a.eval o).run P w = .ok (.value v) w) : YieldsS P md ops S i o v a :=
  .inl ⟨hw, fun L w _ hS => .inl ⟨w, h L w hS, hk L w hS⟩⟩
/-- What reads where it may come up. -/
theorem yieldsS_runr {i : Nat} {o : Oper} {v : Value} {a : Act} (hk : ∀ L w, i ∈ Region.ready md ops L → S L w → S (L.setIfInBounds i true) w) (hw : Region.wanted o (yielded ops a.tmps) = true)
    (h : ∀ L w, i ∈ Region.ready md ops L → S L w → (execOp a.eval o).run P w = .ok (.value v) w) : YieldsS P md ops S i o v a :=
  .inl ⟨hw, fun L w hL hS => .inl ⟨w, h L w hL hS, hk L w hL hS⟩⟩
/-- What may come up has not come up. -/
theorem ready_not {L : Array Bool} {i : Nat} (h : i ∈ Region.ready md ops L) : L.getD i false = false := by
  have h0 := (mem_ready.1 h).1
  rcases Nat.lt_or_ge i L.size with h' | h'
  · simp [h'] at h0 ⊢; exact h0
  · simp [Array.getElem?_eq_none h'] at h0
/-- What it waits for has come up. -/
theorem ready_dep {L : Array Bool} {i j : Nat} (h : i ∈ Region.ready md ops L) (hd : (match ops[i]? with | some o => o.after.any fun e => Region.binds md e && e.on == j | none => false) = true) : L.getD j false = true := by
  obtain ⟨-, o, ho, hall⟩ := mem_ready.1 h
  rw [ho] at hd
  obtain ⟨e, he, hb⟩ := Array.any_eq_true'.1 hd
  simp only [Bool.and_eq_true, beq_iff_eq] at hb
  have := hall e he hb.1
  rw [hb.2] at this
  exact this
end
end Go.Proofs.Yteljjjdejjkgfaa
