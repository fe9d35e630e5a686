/-
  A law for a statement whose order Go leaves open, and whose operations, its calls too, each yield one value in every world that meets a condition S and leave a world that meets S: whatever order is taken, the end is the same. So one order is walked, not all. One operation that waits for all others may do whatever it does.
-/
import Derived.OrdersHeld
import Derived.WalkKit
namespace Go.Proofs.Ytdenijkcjgjpkaa
section
variable {P : Program} {ops : Array Oper} {Q : Exit → Act → World → Prop} {md : Region.Mode} {S : World → Prop}

/-- In every world that meets S the run yields v, at once or by a call, and leaves a world that meets S. -/
def RunS (P : Program) (S : World → Prop) (r : Sem Next) (v : Value) : Prop :=
  ∀ w, S w → (∃ w', r.run P w = .ok (.value v) w' ∧ S w') ∨ ∃ f args, r.run P w = .ok (.enter f args) w ∧ Calls P f args w fun e w' => e = .returned v ∧ S w'
def YieldsS (P : Program) (ops : Array Oper) (S : World → Prop) (o : Oper) (v : Value) (a : Act) : Prop :=
  (Region.wanted o (yielded ops a.tmps) = true ∧ RunS P S (execOp a.eval o) v) ∨ (Region.wanted o (yielded ops a.tmps) = false ∧ v = undef)
theorem YieldsS.wpOp {i : Nat} {o : Oper} {v : Value} {a : Act} (hi : ops[i]? = some o) (hy : YieldsS P ops S o v a)
    {K : Act → World → Prop} {w : World} (hS : S w) (h : ∀ w', S w' → K (a.put o.dst v) w') : wpOp P ops Q i K a w := by
  unfold Go.wpOp
  simp only [hi]
  rcases hy with ⟨hw, hv⟩ | ⟨hw, rfl⟩
  · simp only [hw, if_true]
    refine .inl ?_
    rcases hv w hS with ⟨w', hr, hS'⟩ | ⟨f, args, hr, hc⟩
    · simp only [Oper.wp, hr, Oper.upon]; exact h w' hS'
    · simp only [Oper.wp, hr, Oper.upon]
      refine Calls.mono hc fun e w'' he => ?_
      obtain ⟨rfl, hS'⟩ := he
      exact h w'' hS'
  · simp only [hw, Bool.false_eq_true, if_false]; exact h w hS
theorem YieldsS.of_same {o : Oper} {v : Value} {a a' : Act} (hy : YieldsS P ops S o v a) (he : execOp a'.eval o = execOp a.eval o)
    (hw : Region.wanted o (yielded ops a'.tmps) = Region.wanted o (yielded ops a.tmps)) : YieldsS P ops S o v a' := by
  unfold YieldsS at *
  rw [he, hw]
  exact hy
/-- Every way on from here, but for operation t, which waits for all others. -/
def AllS (P : Program) (md : Region.Mode) (ops : Array Oper) (Q : Exit → Act → World → Prop) (S : World → Prop) (t : Nat) : Nat → Array Bool → Act → Prop
  | 0, listed, a => (∀ j ∈ Region.ready md ops listed, j = t) ∧ ∀ w, S w → wpAny P md ops Q 0 listed a w
  | fuel + 1, listed, a => ((∀ j ∈ Region.ready md ops listed, j = t) ∧ ∀ w, S w → wpAny P md ops Q (fuel + 1) listed a w) ∨
    (Region.ready md ops listed ≠ [] ∧ ∀ j ∈ Region.ready md ops listed, ∃ oj vj, ops[j]? = some oj ∧ YieldsS P ops S oj vj a ∧ AllS P md ops Q S t fuel (listed.setIfInBounds j true) (a.put oj.dst vj))
theorem AllS.any {t : Nat} : ∀ (fuel : Nat) (listed : Array Bool) (a : Act), AllS P md ops Q S t fuel listed a → ∀ w, S w → wpAny P md ops Q fuel listed a w
  | 0, _, _, h, w, hS => h.2 w hS
  | fuel + 1, listed, a, h, w, hS => by
    rcases h with h | ⟨hne, h⟩
    · exact h.2 w hS
    · refine ⟨fun e => absurd e hne, fun j hj => ?_⟩
      obtain ⟨oj, vj, hoj, hy, hall⟩ := h j hj
      exact hy.wpOp hoj hS fun w' hS' => AllS.any fuel _ _ hall w' hS'
/-- Operation t waits for all others (or there is no operation t). -/
def lastOp (md : Region.Mode) (ops : Array Oper) (t : Nat) : Bool :=
  (List.range ops.size).all fun j => j == t || (match ops[t]? with | some o => o.after.any fun e => Region.binds md e && e.on == j | none => true)
theorem lastOp_spec {t : Nat} (h : lastOp md ops t = true) {listed : Array Bool} (ht : t ∈ Region.ready md ops listed) {j : Nat} (hj : j ∈ Region.ready md ops listed) : j = t := by
  obtain ⟨-, o, ho, hall⟩ := mem_ready.1 ht
  obtain ⟨hj0, oj, hoj, -⟩ := mem_ready.1 hj
  have hlt : j < ops.size := (Array.getElem?_eq_some_iff.1 hoj).1
  have h1 := List.all_eq_true.1 h j (List.mem_range.2 hlt)
  rcases Bool.or_eq_true _ _ ▸ h1 with h2 | h2
  · simpa using h2
  · rw [ho] at h2
    obtain ⟨e, he, hb⟩ := Array.any_eq_true'.1 h2
    simp only [Bool.and_eq_true, beq_iff_eq] at hb
    have := hall e he hb.1
    rw [hb.2] at this
    rcases Nat.lt_or_ge j listed.size with h' | h'
    · simp [h'] at this hj0; rw [hj0] at this; cases this
    · simp [Array.getElem?_eq_none h'] at this
theorem allS_first {i : Nat} {oi : Oper} {v : Value} {t : Nat} (ht : lastOp md ops t = true) (hit : i ≠ t) (hi : ops[i]? = some oi) (hsel : ∀ (j : Nat) (o : Oper) cs b, ops[j]? = some o → o.op ≠ .select cs b) :
    ∀ (fuel : Nat) (listed : Array Bool) (a : Act),
      (∀ j oj, ops[j]? = some oj → j ≠ i → listed.getD j true = false → (∀ e ∈ oj.after, Region.binds md e = true → e.on ≠ i) → oi.apart ops oj = true) →
      i ∈ Region.ready md ops listed → YieldsS P ops S oi v a →
      AllS P md ops Q S t fuel (listed.setIfInBounds i true) (a.put oi.dst v) → AllS P md ops Q S t (fuel + 1) listed a := by
  intro fuel
  have stuck : ∀ (listed : Array Bool) (j : Nat), i ∈ Region.ready md ops listed → j ∈ Region.ready md ops listed → j ≠ i → (∀ j ∈ Region.ready md ops (listed.setIfInBounds i true), j = t) → False := by
    intro listed j hr hj hji hT
    have e1 := hT j (ready_mono hj hji)
    subst e1
    exact hit (lastOp_spec ht hj hr)
  induction fuel with
  | zero =>
    intro listed a _ hr hy H
    refine Or.inr ⟨fun e => (by rw [e] at hr; cases hr), fun j hj => ?_⟩
    by_cases hji : j = i
    · subst hji; exact ⟨oi, v, hi, hy, H⟩
    · exact (stuck listed j hr hj hji H.1).elim
  | succ fuel ih =>
    intro listed a hfree hr hy H
    refine Or.inr ⟨fun e => (by rw [e] at hr; cases hr), fun j hj => ?_⟩
    by_cases hji : j = i
    · subst hji; exact ⟨oi, v, hi, hy, H⟩
    · rcases H with H | ⟨-, H⟩
      · exact (stuck listed j hr hj hji H.1).elim
      · obtain ⟨oj, vj, hoj', hyj, hall'⟩ := H j (ready_mono hj hji)
        obtain ⟨hjun, oj2, hoj, hall⟩ := mem_ready.1 hj
        obtain rfl : oj = oj2 := by rw [hoj] at hoj'; injection hoj' with e; exact e.symm
        have hnot : ∀ e ∈ oj.after, Region.binds md e = true → e.on ≠ i := fun e he hb heq => by
          have h1 := hall e he hb
          have h0 := (mem_ready.1 hr).1
          rw [heq] at h1
          rcases Nat.lt_or_ge i listed.size with h' | h'
          · simp [h'] at h0 h1; rw [h0] at h1; cases h1
          · simp [Array.getElem?_eq_none h'] at h1
        obtain ⟨h1, h2, h3⟩ := Oper.apart_spec (hfree j oj hoj hji hjun hnot)
        have hfree' : ∀ k ok, ops[k]? = some ok → k ≠ i → (listed.setIfInBounds j true).getD k true = false →
            (∀ e ∈ ok.after, Region.binds md e = true → e.on ≠ i) → oi.apart ops ok = true := fun k ok hk hki hun hno => by
          refine hfree k ok hk hki ?_ hno
          by_cases hjk : j = k
          · subst hjk; exact hjun
          · rw [getD_set_ne true hjk] at hun; exact hun
        refine ⟨oj, vj, hoj, hyj.of_same ?_ ?_, ih (listed.setIfInBounds j true) (a.put oj.dst vj) hfree' (ready_mono hr (Ne.symm hji)) (hy.of_same ?_ ?_) ?_⟩
        · exact (execOp_put oj (fun cs b => hsel j oj cs b hoj) a oi.dst v h1).symm
        · exact (wanted_put oj a oi.dst v h1).symm
        · exact execOp_put oi (fun cs b => hsel i oi cs b hi) a oj.dst vj h3
        · exact wanted_put oi a oj.dst vj h3
        · rw [Array.setIfInBounds_comm _ _ hji, ← Act.put_comm a v vj h2]
          exact hall'
/-- Take operation i. -/
theorem AllS.take {i : Nat} {oi : Oper} {v : Value} {t fuel : Nat} {listed : Array Bool} {a : Act} (ht : lastOp md ops t = true) (hit : i ≠ t) (hi : ops[i]? = some oi)
    (hs : Region.noSelect ops = true) (hf : Region.free md ops listed i = true) (hr : (Region.ready md ops listed).contains i = true) (hy : YieldsS P ops S oi v a)
    (h : AllS P md ops Q S t fuel (listed.setIfInBounds i true) (a.put oi.dst v)) : AllS P md ops Q S t (fuel + 1) listed a :=
  allS_first ht hit hi (Region.noSelect_spec hs) fuel listed a (Region.free_spec hi hf) (by simpa using hr) hy h
/-- The first operation that has not come up, in the text's order. -/
def nextI (listed : Array Bool) : Option Nat := (List.range listed.size).find? fun i => !listed.getD i true
/-- Take the next operation in the text's order. -/
theorem AllS.next {i : Nat} {oi : Oper} {d : Option Tmp} {v : Value} {t fuel : Nat} {listed : Array Bool} {a : Act} (_hn : nextI listed = some i) (hi : ops[i]? = some oi) (hd : oi.dst = d)
    (hc : (lastOp md ops t && (i != t) && Region.noSelect ops && Region.free md ops listed i && (Region.ready md ops listed).contains i) = true) (hy : YieldsS P ops S oi v a)
    (h : AllS P md ops Q S t fuel (listed.setIfInBounds i true) (a.put d v)) : AllS P md ops Q S t (fuel + 1) listed a := by
  simp only [Bool.and_eq_true, bne_iff_ne] at hc
  obtain ⟨⟨⟨⟨h1, h2⟩, h3⟩, h4⟩, h5⟩ := hc
  subst hd
  exact AllS.take h1 h2 hi h3 h4 h5 hy h
/-- All have come up. -/
theorem AllS.done {t : Nat} {listed : Array Bool} {a : Act} (hr : Region.ready md ops listed = []) (h : ∀ w, S w → Q .normal a w) : AllS P md ops Q S t 0 listed a :=
  ⟨fun j hj => (by rw [hr] at hj; cases hj), fun w hS => ⟨hr, h w hS⟩⟩
/-- Operation t, behind all others. -/
theorem AllS.last {t : Nat} {listed : Array Bool} {a : Act} (hr : Region.ready md ops listed = [t]) (hr' : Region.ready md ops (listed.setIfInBounds t true) = [])
    (h : ∀ w, S w → wpOp P ops Q t (Q .normal) a w) : AllS P md ops Q S t 1 listed a :=
  Or.inl (And.intro (fun j hj => (by rw [hr] at hj; simpa using hj)) (fun w hS => And.intro (fun e => (by rw [hr] at e; cases e)) (fun j hj => by
    rw [hr] at hj
    obtain rfl : j = t := by simpa using hj
    exact wpOp_mono (fun a' w' hq => ⟨hr', hq⟩) (h w hS))))
/-- The beginning. -/
theorem wp_region_S {id t : Nat} {a : Act} {w : World} (hm : P.follows .mixedOrders = true) (hS : S w.drew)
    (h : AllS P .any ops Q S t ops.size (Array.replicate ops.size false) a) : (Code.region id ops true).wp P Q a w :=
  wp_region_any hm (AllS.any _ _ _ h _ hS)
/-- A call, by its contract. -/
theorem yieldsS_call {o : Oper} {v : Value} {a : Act} {f : FuncId} {args : Array Value} (hw : Region.wanted o (yielded ops a.tmps) = true)
    (hr : ∀ w, (execOp a.eval o).run P w = .ok (.enter f args) w) (hc : ∀ w, S w → Calls P f args w fun e w' => e = .returned v ∧ S w') : YieldsS P ops S o v a :=
  .inl ⟨hw, fun w hS => .inr ⟨f, args, hr w, hc w hS⟩⟩
/-- What reads, or reckons. -/
theorem yieldsS_pure {o : Oper} {v : Value} {a : Act} (h : YieldsIf P ops S o v a) : YieldsS P ops S o v a :=
  h.imp (fun ⟨hw, hv⟩ => ⟨hw, fun w hS => .inl ⟨w, hv w hS, hS⟩⟩) id
theorem yieldsS_run {o : Oper} {v : Value} {a : Act} (hw : Region.wanted o (yielded ops a.tmps) = true) (h : ∀ w, S w → (execOp a.eval o).run P w = .ok (.value v) w) : YieldsS P ops S o v a :=
  .inl ⟨hw, fun w hS => .inl ⟨w, h w hS, hS⟩⟩
end
end Go.Proofs.Ytdenijkcjgjpkaa
