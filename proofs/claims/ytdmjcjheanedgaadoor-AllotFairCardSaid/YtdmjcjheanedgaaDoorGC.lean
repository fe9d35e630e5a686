/-
  A law for a statement whose order Go leaves open, and whose operations, its calls and stores too, each yield one value in every world that meets a condition S, and hand the condition on: whatever order is taken, the end is the same. So one order is walked, not all. S may speak of which operations have come up (what a store has laid by then).
  A statement whose order Go leaves open and that holds two calls which write: how far it has come is told by which of the two have come up. (No Go text.)
  A law for a statement whose order Go leaves open: what only reads is taken first, in the text's order; what makes or writes memory comes up in whatever order. S says of the world what is read, as long as (by what has come up) it may still be read: so a store at the end may turn what was read. (No Go text.)
-/
import Derived.OrdersHeld
import Derived.WalkKit
import Derived.RegionTactic
import Derived.Deep.RegionHeld3
namespace Go.Proofs.YtdmjcjheanedgaaDoor
section
variable {P : Program} {ops : Array Oper} {Q : Exit → Act → World → Prop} {md : Region.Mode} {S : Array Bool → World → Prop}

/-- In every world that meets S operation i's run yields v, at once or by a call, and S holds behind it. -/
def RunS (P : Program) (md : Region.Mode) (ops : Array Oper) (S : Array Bool → World → Prop) (i : Nat) (r : Sem Next) (v : Value) : Prop :=
  ∀ L w, i ∈ Region.ready md ops L → S L w → (∃ w', r.run P w = .ok (.value v) w' ∧ S (L.setIfInBounds i true) w') ∨ (v = undef ∧ ∃ w', r.run P w = .ok .skip w' ∧ S (L.setIfInBounds i true) w') ∨
    ∃ f args, r.run P w = .ok (.enter f args) w ∧ Calls P f args w fun e w' => e = .returned v ∧ S (L.setIfInBounds i true) w'
def YieldsS (P : Program) (md : Region.Mode) (ops : Array Oper) (S : Array Bool → World → Prop) (i : Nat) (o : Oper) (v : Value) (a : Act) : Prop :=
  (Region.wanted o (yielded ops a.tmps) = true ∧ RunS P md ops S i (execOp a.eval o) v) ∨ (Region.wanted o (yielded ops a.tmps) = false ∧ v = undef ∧ ∀ L w, S L w → S (L.setIfInBounds i true) w)
theorem YieldsS.wpOp {i : Nat} {o : Oper} {v : Value} {a : Act} (hi : ops[i]? = some o) (hy : YieldsS P md ops S i o v a)
    {K : Act → World → Prop} {L : Array Bool} {w : World} (hL : i ∈ Region.ready md ops L) (hS : S L w) (h : ∀ w', S (L.setIfInBounds i true) w' → K (a.put o.dst v) w') : wpOp P ops Q i K a w := by
  unfold Go.wpOp
  simp only [hi]
  rcases hy with ⟨hw, hv⟩ | ⟨hw, rfl, hk⟩
  · simp only [hw, if_true]
    refine .inl ?_
    rcases hv L w hL hS with ⟨w', hr, hS'⟩ | ⟨rfl, w', hr, hS'⟩ | ⟨f, args, hr, hc⟩
    · simp only [Oper.wp, hr, Oper.upon]; exact h w' hS'
    · simp only [Oper.wp, hr, Oper.upon]; exact h w' hS'
    · simp only [Oper.wp, hr, Oper.upon]
      refine Calls.mono hc fun e w'' he => ?_
      obtain ⟨rfl, hS'⟩ := he
      exact h w'' hS'
  · simp only [hw, Bool.false_eq_true, if_false]; exact h w (hk L w hS)
theorem YieldsS.of_same {i : Nat} {o : Oper} {v : Value} {a a' : Act} (hy : YieldsS P md ops S i o v a) (he : execOp a'.eval o = execOp a.eval o)
    (hw : Region.wanted o (yielded ops a'.tmps) = Region.wanted o (yielded ops a.tmps)) : YieldsS P md ops S i o v a' := by
  unfold YieldsS at *
  rw [he, hw]
  exact hy
/-- Every way on from here. -/
def AllS (P : Program) (md : Region.Mode) (ops : Array Oper) (Q : Exit → Act → World → Prop) (S : Array Bool → World → Prop) : Nat → Array Bool → Act → Prop
  | 0, listed, a => Region.ready md ops listed = [] ∧ ∀ w, S listed w → Q .normal a w
  | fuel + 1, listed, a => (Region.ready md ops listed = [] → ∀ w, S listed w → Q .normal a w) ∧
    ∀ j ∈ Region.ready md ops listed, ∃ oj vj, ops[j]? = some oj ∧ YieldsS P md ops S j oj vj a ∧ AllS P md ops Q S fuel (listed.setIfInBounds j true) (a.put oj.dst vj)
theorem AllS.any : ∀ (fuel : Nat) (listed : Array Bool) (a : Act), AllS P md ops Q S fuel listed a → ∀ w, S listed w → wpAny P md ops Q fuel listed a w
  | 0, _, _, h, w, hS => ⟨h.1, h.2 w hS⟩
  | fuel + 1, listed, a, h, w, hS => ⟨fun e => h.1 e w hS, fun j hj => by
      obtain ⟨oj, vj, hoj, hy, hall⟩ := h.2 j hj
      exact hy.wpOp hoj hj hS fun w' hS' => AllS.any fuel _ _ hall w' hS'⟩
theorem allS_first {i : Nat} {oi : Oper} {v : Value} (hi : ops[i]? = some oi) (hsel : ∀ (j : Nat) (o : Oper) cs b, ops[j]? = some o → o.op ≠ .select cs b) :
    ∀ (fuel : Nat) (listed : Array Bool) (a : Act),
      (∀ j oj, ops[j]? = some oj → j ≠ i → listed.getD j true = false → (∀ e ∈ oj.after, Region.binds md e = true → e.on ≠ i) → oi.apart ops oj = true) →
      i ∈ Region.ready md ops listed → YieldsS P md ops S i oi v a →
      AllS P md ops Q S fuel (listed.setIfInBounds i true) (a.put oi.dst v) → AllS P md ops Q S (fuel + 1) listed a := by
  intro fuel
  induction fuel with
  | zero =>
    intro listed a _ hr hy H
    refine ⟨fun e => (by rw [e] at hr; cases hr), fun j hj => ?_⟩
    by_cases hji : j = i
    · subst hji; exact ⟨oi, v, hi, hy, H⟩
    · have := ready_mono hj hji
      rw [H.1] at this
      cases this
  | succ fuel ih =>
    intro listed a hfree hr hy H
    refine ⟨fun e => (by rw [e] at hr; cases hr), fun j hj => ?_⟩
    by_cases hji : j = i
    · subst hji; exact ⟨oi, v, hi, hy, H⟩
    · obtain ⟨oj, vj, hoj', hyj, hall'⟩ := H.2 j (ready_mono hj hji)
      obtain ⟨hjun, oj2, hoj, hall⟩ := mem_ready.1 hj
      obtain rfl : oj = oj2 := by rw [hoj] at hoj'; injection hoj' with e; exact e.symm
      have hnot : ∀ e ∈ oj.after, Region.binds md e = true → e.on ≠ i := fun e he hb heq => by
        have h1 := hall e he hb
        have h0 := (mem_ready.1 hr).1
        rw [heq] at h1
        rcases Nat.lt_or_ge i listed.size with h' | h'
        · simp [h'] at h0 h1; rw [h0] at h1; cases h1
        · simp [Array.getElem?_eq_none h'] at h1
      obtain ⟨h1, h2, h3⟩ := Oper.apart_spec (hfree j oj hoj hji hjun hnot)
      have hfree' : ∀ k ok, ops[k]? = some ok → k ≠ i → (listed.setIfInBounds j true).getD k true = false →
          (∀ e ∈ ok.after, Region.binds md e = true → e.on ≠ i) → oi.apart ops ok = true := fun k ok hk hki hun hno => by
        refine hfree k ok hk hki ?_ hno
        by_cases hjk : j = k
        · subst hjk; exact hjun
        · rw [getD_set_ne true hjk] at hun; exact hun
      refine ⟨oj, vj, hoj, hyj.of_same ?_ ?_, ih (listed.setIfInBounds j true) (a.put oj.dst vj) hfree' (ready_mono hr (Ne.symm hji)) (hy.of_same ?_ ?_) ?_⟩
      · exact (execOp_put oj (fun cs b => hsel j oj cs b hoj) a oi.dst v h1).symm
      · exact (wanted_put oj a oi.dst v h1).symm
      · exact execOp_put oi (fun cs b => hsel i oi cs b hi) a oj.dst vj h3
      · exact wanted_put oi a oj.dst vj h3
      · rw [Array.setIfInBounds_comm _ _ hji, ← Act.put_comm a v vj h2]
        exact hall'
/-- The first operation that has not come up, in the text's order. -/
def nextI (listed : Array Bool) : Option Nat := (List.range listed.size).find? fun i => !listed.getD i true
/-- Take the next operation in the text's order. -/
theorem AllS.next {i : Nat} {oi : Oper} {d : Option Tmp} {v : Value} {fuel : Nat} {listed : Array Bool} {a : Act} (_hn : nextI listed = some i) (hi : ops[i]? = some oi) (hd : oi.dst = d)
    (hc : (Region.noSelect ops && Region.free md ops listed i && (Region.ready md ops listed).contains i) = true) (hy : YieldsS P md ops S i oi v a)
    (h : AllS P md ops Q S fuel (listed.setIfInBounds i true) (a.put d v)) : AllS P md ops Q S (fuel + 1) listed a := by
  simp only [Bool.and_eq_true] at hc
  obtain ⟨⟨h3, h4⟩, h5⟩ := hc
  subst hd
  exact allS_first hi (Region.noSelect_spec h3) fuel listed a (Region.free_spec hi h4) (by simpa using h5) hy h
/-- All have come up. -/
theorem AllS.done {listed : Array Bool} {a : Act} (hr : Region.ready md ops listed = []) (h : ∀ w, S listed w → Q .normal a w) : AllS P md ops Q S 0 listed a := ⟨hr, h⟩
/-- The beginning. -/
theorem wp_region_S {id : Nat} {a : Act} {w : World} (hm : P.follows .mixedOrders = true) (hS : S (Array.replicate ops.size false) w.drew)
    (h : AllS P .any ops Q S ops.size (Array.replicate ops.size false) a) : (Code.region id ops true).wp P Q a w :=
  wp_region_any hm (AllS.any _ _ _ h _ hS)
/-- A call, by its contract. -/
theorem yieldsS_call {i : Nat} {o : Oper} {v : Value} {a : Act} {f : FuncId} {args : Array Value} (hw : Region.wanted o (yielded ops a.tmps) = true)
    (hr : ∀ w, (execOp a.eval o).run P w = .ok (.enter f args) w) (hc : ∀ L w, S L w → Calls P f args w fun e w' => e = .returned v ∧ S (L.setIfInBounds i true) w') : YieldsS P md ops S i o v a :=
  .inl ⟨hw, fun L w _ hS => .inr (.inr ⟨f, args, hr w, hc L w hS⟩)⟩
/-- What reads, or reckons. -/
theorem yieldsS_run {i : Nat} {o : Oper} {v : Value} {a : Act} (hk : ∀ L w, S L w → S (L.setIfInBounds i true) w) (hw : Region.wanted o (yielded ops a.tmps) = true) (h : ∀ L w, S L w → (execOp a.eval o).run P w = .ok (.value v) w) : YieldsS P md ops S i o v a :=
  .inl ⟨hw, fun L w _ hS => .inl ⟨w, h L w hS, hk L w hS⟩⟩
/-- What may come up has not come up. -/
theorem ready_not {L : Array Bool} {i : Nat} (h : i ∈ Region.ready md ops L) : L.getD i false = false := by
  have h0 := (mem_ready.1 h).1
  rcases Nat.lt_or_ge i L.size with h' | h'
  · simp [h'] at h0 ⊢; exact h0
  · simp [Array.getElem?_eq_none h'] at h0
/-- What it waits for has come up. -/
theorem ready_dep {L : Array Bool} {i j : Nat} (h : i ∈ Region.ready md ops L) (hd : (match ops[i]? with | some o => o.after.any fun e => Region.binds md e && e.on == j | none => false) = true) : L.getD j false = true := by
  obtain ⟨-, o, ho, hall⟩ := mem_ready.1 h
  rw [ho] at hd
  obtain ⟨e, he, hb⟩ := Array.any_eq_true'.1 hd
  simp only [Bool.and_eq_true, beq_iff_eq] at hb
  have := hall e he hb.1
  rw [hb.2] at this
  exact this
end
end Go.Proofs.YtdmjcjheanedgaaDoor
namespace Go.Proofs.YtdmjcjheanedgaaDoor
open Go.RowKit
theorem getD_ne2 {L : Array Bool} {i j : Nat} (h : i ≠ j) : (L.setIfInBounds i true).getD j false = L.getD j false := by
  simp [Array.getElem?_setIfInBounds_ne h]
theorem getD_self2 {L : Array Bool} {i : Nat} (h : i < L.size) : (L.setIfInBounds i true).getD i false = true := by
  simp [h]
theorem getD_none2 (n i : Nat) : (Array.replicate n false).getD i false = false := by
  rcases Nat.lt_or_ge i n with h | h
  · simp [h]
  · simp [Array.getElem?_eq_none (xs := Array.replicate n false) (i := i) (by simpa using h)]
/-- A call that may come up where it is ready. -/
theorem yieldsS_callq {P : Program} {md : Region.Mode} {ops : Array Oper} {S : Array Bool → World → Prop} {i : Nat} {o : Oper} {v : Value} {a : Act} {f : FuncId} {args : Array Value} (hw : Region.wanted o (yielded ops a.tmps) = true)
    (hr : ∀ w, (execOp a.eval o).run P w = .ok (.enter f args) w) (hc : ∀ L w, i ∈ Region.ready md ops L → S L w → Calls P f args w fun e w' => e = .returned v ∧ S (L.setIfInBounds i true) w') : YieldsS P md ops S i o v a :=
  .inl ⟨hw, fun L w hL hS => .inr (.inr ⟨f, args, hr w, hc L w hL hS⟩)⟩
/-- Operations i and j are calls; J: what holds where the first has come up or not, the second or not. -/
structure Duo (n i j : Nat) (J : Bool → Bool → World → Prop) (L : Array Bool) (w : World) : Prop where
  size : L.size = n
  at' : J (L.getD i false) (L.getD j false) w
section
variable {n i j : Nat} {J : Bool → Bool → World → Prop} {L : Array Bool} {w : World} {md : Region.Mode} {ops : Array Oper} {P : Program} {f : FuncId} {args : Array Value} {v : Value}
theorem Duo.start (n i j : Nat) (h : J false false w) : Duo n i j J (Array.replicate n false) w := ⟨by simp, by rw [getD_none2, getD_none2]; exact h⟩
theorem Duo.other (h : Duo n i j J L w) {k : Nat} (hi : k ≠ i) (hj : k ≠ j) : Duo n i j J (L.setIfInBounds k true) w :=
  ⟨by rw [Array.size_setIfInBounds]; exact h.size, by rw [getD_ne2 hi, getD_ne2 hj]; exact h.at'⟩
theorem Duo.fst (h : Duo n i j J L w) (hr : i ∈ Region.ready md ops L) (hin : i < n) (hij : i ≠ j) (hc : ∀ b w, J false b w → Calls P f args w fun e w' => e = .returned v ∧ J true b w') :
    Calls P f args w fun e w' => e = .returned v ∧ Duo n i j J (L.setIfInBounds i true) w' := by
  have h0 := ready_not hr
  have hw := h.at'
  rw [h0] at hw
  refine (hc _ w hw).mono fun e w' h' => ⟨h'.1, by rw [Array.size_setIfInBounds]; exact h.size, ?_⟩
  rw [getD_self2 (by rw [h.size]; exact hin), getD_ne2 hij]
  exact h'.2
theorem Duo.fin (h : Duo n i j J L w) (hi : L.getD i false = true) (hj : L.getD j false = true) : J true true w := by
  have := h.at'
  rwa [hi, hj] at this
end
end Go.Proofs.YtdmjcjheanedgaaDoor
namespace Go.Proofs.YtdmjcjheanedgaaDoor
section
variable {P : Program} {ops : Array Oper} {Q : Exit → Act → World → Prop} {md : Region.Mode} {S : Array Bool → World → Prop}
def wpAnyL (P : Program) (md : Region.Mode) (ops : Array Oper) (Q : Exit → Act → World → Prop) (S : Array Bool → World → Prop) : Nat → Array Bool → Act → World → Prop
  | 0, L, a, w => Region.ready md ops L = [] ∧ Q .normal a w
  | fuel + 1, L, a, w => (Region.ready md ops L = [] → Q .normal a w) ∧
    ∀ i ∈ Region.ready md ops L, wpOp P ops Q i (fun a' w' => S (L.setIfInBounds i true) w' ∧ wpAnyL P md ops Q S fuel (L.setIfInBounds i true) a' w') a w
theorem wpAny_of_L : ∀ (fuel : Nat) (L : Array Bool) (a : Act) (w : World), wpAnyL P md ops Q S fuel L a w → wpAny P md ops Q fuel L a w
  | 0, _, _, _, h => h
  | fuel + 1, _, _, _, h => ⟨h.1, fun i hi => wpOp_mono (fun a' w' h' => wpAny_of_L fuel _ a' w' h'.2) (h.2 i hi)⟩
/-- What has come up had all that it waits for. -/
def Closed (md : Region.Mode) (ops : Array Oper) (L : Array Bool) : Prop :=
  ∀ j o, ops[j]? = some o → L.getD j false = true → ∀ e ∈ o.after, Region.binds md e = true → L.getD e.on false = true
theorem Closed.set {L : Array Bool} {j : Nat} (h : Closed md ops L) (hj : j ∈ Region.ready md ops L) : Closed md ops (L.setIfInBounds j true) := by
  obtain ⟨-, oj, hoj, hall⟩ := mem_ready.1 hj
  intro k o ho hk e he hb
  by_cases hjk : j = k
  · subst hjk
    rw [hoj] at ho
    cases ho
    exact getD_set_true (hall e he hb)
  · rw [getD_set_ne false hjk] at hk
    exact getD_set_true (h k o ho hk e he hb)
theorem Closed.start (n : Nat) : Closed md ops (Array.replicate n false) := by
  intro j o _ hj
  rcases Nat.lt_or_ge j n with h | h
  · simp [h] at hj
  · simp [Array.getElem?_eq_none (xs := Array.replicate n false) (i := j) (by simpa using h)] at hj
/-- What waits for what has not come up has not come up. -/
theorem Closed.not {L : Array Bool} {i j : Nat} (h : Closed md ops L) (hd : (match ops[j]? with | some o => o.after.any fun e => Region.binds md e && e.on == i | none => false) = true) (hi : L.getD i false = false) : L.getD j false = false := by
  cases hj : L.getD j false with
  | false => rfl
  | true =>
    cases ho : ops[j]? with
    | none => rw [ho] at hd; cases hd
    | some o =>
      rw [ho] at hd
      obtain ⟨e, he, hb⟩ := Array.any_eq_true'.1 hd
      simp only [Bool.and_eq_true, beq_iff_eq] at hb
      have := h j o ho hj e he hb.1
      rw [hb.2, hi] at this
      cases this
/-- A world in which operation i may come up. -/
def Wi (md : Region.Mode) (ops : Array Oper) (S : Array Bool → World → Prop) (i : Nat) (w : World) : Prop := ∃ L, i ∈ Region.ready md ops L ∧ Closed md ops L ∧ S L w
theorem wpAnyL_first {i : Nat} {oi : Oper} {v : Value} (hi : ops[i]? = some oi) (hsel : ∀ (j : Nat) (o : Oper) cs b, ops[j]? = some o → o.op ≠ .select cs b)
    (hQ : ∀ c a w, Q (.panic c) (a.put oi.dst v) w → Q (.panic c) a w) (h1 : ∀ L w, S (L.setIfInBounds i true) w → S L w) (h2 : ∀ L w, S L w → S (L.setIfInBounds i true) w) :
    ∀ (fuel : Nat) (L : Array Bool) (a : Act) (w : World),
      (∀ j oj, ops[j]? = some oj → j ≠ i → L.getD j true = false → (∀ e ∈ oj.after, Region.binds md e = true → e.on ≠ i) → oi.apart ops oj = true) →
      i ∈ Region.ready md ops L → Closed md ops L → YieldsIf P ops (Wi md ops S i) oi v a → S L w →
      wpAnyL P md ops Q S fuel (L.setIfInBounds i true) (a.put oi.dst v) w → wpAnyL P md ops Q S (fuel + 1) L a w := by
  intro fuel
  induction fuel with
  | zero =>
    intro L a w _ hr hcl hy hS H
    refine ⟨fun h => (by rw [h] at hr; cases hr), fun j hj => ?_⟩
    by_cases hji : j = i
    · subst hji; exact hy.wpOp hi ⟨L, hr, hcl, hS⟩ ⟨h2 _ _ hS, H⟩
    · have := ready_mono hj hji
      rw [H.1] at this
      cases this
  | succ fuel ih =>
    intro L a w hfree hr hcl hy hS H
    refine ⟨fun h => (by rw [h] at hr; cases hr), fun j hj => ?_⟩
    by_cases hji : j = i
    · subst hji; exact hy.wpOp hi ⟨L, hr, hcl, hS⟩ ⟨h2 _ _ hS, H⟩
    · have hw := H.2 j (ready_mono hj hji)
      obtain ⟨hjun, oj, hoj, hall⟩ := mem_ready.1 hj
      have hnot : ∀ e ∈ oj.after, Region.binds md e = true → e.on ≠ i := fun e he hb heq => by
        have g1 := hall e he hb
        have g0 := (mem_ready.1 hr).1
        rw [heq] at g1
        rcases Nat.lt_or_ge i L.size with h' | h'
        · simp [h'] at g0 g1; rw [g0] at g1; cases g1
        · simp [Array.getElem?_eq_none h'] at g1
      have hp := wpOp_putIf hoj (hfree j oj hoj hji hjun hnot) (fun cs b => hsel i oi cs b hi) (fun cs b => hsel j oj cs b hoj) hQ hy hw
      have hfree' : ∀ k ok, ops[k]? = some ok → k ≠ i → (L.setIfInBounds j true).getD k true = false → (∀ e ∈ ok.after, Region.binds md e = true → e.on ≠ i) → oi.apart ops ok = true := fun k ok hk hki hun hno => by
        refine hfree k ok hk hki ?_ hno
        by_cases hjk : j = k
        · subst hjk; exact hjun
        · rw [getD_set_ne true hjk] at hun; exact hun
      refine wpOp_mono (fun a' w' g => ?_) hp
      obtain ⟨g1, g2, g3⟩ := g
      rw [Array.setIfInBounds_comm _ _ (Ne.symm hji)] at g2 g3
      exact ⟨h1 _ _ g2, ih (L.setIfInBounds j true) a' w' hfree' (ready_mono hr (Ne.symm hji)) (hcl.set hj) g1 (h1 _ _ g2) g3⟩
/-- A walk's state. -/
def GoL (P : Program) (md : Region.Mode) (ops : Array Oper) (Q : Exit → Act → World → Prop) (S : Array Bool → World → Prop) (fuel : Nat) (L : Array Bool) (a : Act) (w : World) : Prop :=
  Closed md ops L → S L w → wpAnyL P md ops Q S fuel L a w
/-- The next one, in the text's order, of those that only read. -/
theorem GoL.take {i : Nat} {oi : Oper} {d : Option Tmp} {v : Value} {fuel : Nat} {L : Array Bool} {a : Act} {w : World} (hi : ops[i]? = some oi) (hd : oi.dst = d)
    (hc : (Region.noSelect ops && Region.free md ops L i && (Region.ready md ops L).contains i) = true) (hQ : ∀ c a w, Q (.panic c) (a.put oi.dst v) w → Q (.panic c) a w)
    (h1 : ∀ L w, S (L.setIfInBounds i true) w ↔ S L w) (hw : Region.wanted oi (yielded ops a.tmps) = true) (hy : ∀ w, Wi md ops S i w → (execOp a.eval oi).run P w = .ok (.value v) w)
    (h : GoL P md ops Q S fuel (L.setIfInBounds i true) (a.put d v) w) : GoL P md ops Q S (fuel + 1) L a w := by
  simp only [Bool.and_eq_true] at hc
  obtain ⟨⟨h3, h4⟩, h5⟩ := hc
  subst hd
  have hr : i ∈ Region.ready md ops L := by simpa using h5
  intro hcl hS
  exact wpAnyL_first hi (Region.noSelect_spec h3) hQ (fun L w => (h1 L w).1) (fun L w => (h1 L w).2) fuel L a w (Region.free_spec hi h4) hr hcl (.inl ⟨hw, hy⟩) hS (h (hcl.set hr) ((h1 L w).2 hS))
/-- One of those that make or write memory. -/
def OnL (P : Program) (md : Region.Mode) (ops : Array Oper) (Q : Exit → Act → World → Prop) (S : Array Bool → World → Prop) (fuel : Nat) (L : Array Bool) (a : Act) (w : World) (rs : List Nat) : Prop :=
  ∀ i ∈ rs, wpOp P ops Q i (fun a' w' => S (L.setIfInBounds i true) w' ∧ GoL P md ops Q S fuel (L.setIfInBounds i true) a' w') a w
theorem OnL.nil {fuel : Nat} {L : Array Bool} {a : Act} {w : World} : OnL P md ops Q S fuel L a w [] := fun _ h => by cases h
theorem OnL.cons {fuel : Nat} {L : Array Bool} {a : Act} {w : World} {i : Nat} {o : Oper} {rs : List Nat} (ho : ops[i]? = some o)
    (h : ∀ K' : Act → World → Prop, (∀ a w, S (L.setIfInBounds i true) w → GoL P md ops Q S fuel (L.setIfInBounds i true) a w → K' a w) → if Region.wanted o (yielded ops a.tmps) = true then Oper.wp P o a w K' Q else K' (a.put o.dst undef) w)
    (hs : OnL P md ops Q S fuel L a w rs) : OnL P md ops Q S fuel L a w (i :: rs) := fun j hj => by
  rcases List.mem_cons.1 hj with rfl | hj
  · exact wpOp_step ho fun K' hK => h K' fun a w hS hG => hK a w ⟨hS, hG⟩
  · exact hs j hj
theorem GoL.on {rs : List Nat} {fuel : Nat} {L : Array Bool} {a : Act} {w : World} (hr : Region.ready md ops L = rs) (hne : rs ≠ []) (h : OnL P md ops Q S fuel L a w rs) : GoL P md ops Q S (fuel + 1) L a w := by
  intro hcl _
  refine ⟨fun h0 => absurd (hr ▸ h0) hne, fun i hi => wpOp_mono (fun a' w' g => ⟨g.1, g.2 (hcl.set hi) g.1⟩) (h i (hr ▸ hi))⟩
/-- What is not asked for is passed by. -/
theorem GoL.skip {i : Nat} {oi : Oper} {d : Option Tmp} {fuel : Nat} {L : Array Bool} {a : Act} {w : World} (hi : ops[i]? = some oi) (hd : oi.dst = d)
    (hc : (Region.noSelect ops && Region.free md ops L i && (Region.ready md ops L).contains i) = true) (hQ : ∀ c a w, Q (.panic c) (a.put oi.dst undef) w → Q (.panic c) a w)
    (h1 : ∀ L w, S (L.setIfInBounds i true) w ↔ S L w) (hw : Region.wanted oi (yielded ops a.tmps) = false)
    (h : GoL P md ops Q S fuel (L.setIfInBounds i true) (a.put d undef) w) : GoL P md ops Q S (fuel + 1) L a w := by
  simp only [Bool.and_eq_true] at hc
  obtain ⟨⟨h3, h4⟩, h5⟩ := hc
  subst hd
  have hr : i ∈ Region.ready md ops L := by simpa using h5
  intro hcl hS
  exact wpAnyL_first hi (Region.noSelect_spec h3) hQ (fun L w => (h1 L w).1) (fun L w => (h1 L w).2) fuel L a w (Region.free_spec hi h4) hr hcl (.inr ⟨hw, rfl⟩) hS (h (hcl.set hr) ((h1 L w).2 hS))
theorem Wi.at' {i : Nat} {w : World} {C : World → Prop} (h : Wi md ops (fun _ w => C w) i w) : C w := by
  obtain ⟨_, -, -, h⟩ := h
  exact h
theorem GoL.done {fuel : Nat} {L : Array Bool} {a : Act} {w : World} (hr : Region.ready md ops L = []) (h : Q .normal a w) : GoL P md ops Q S fuel L a w := by
  intro _ _
  cases fuel with
  | zero => exact ⟨hr, h⟩
  | succ f => exact ⟨fun _ => h, by rw [hr]; simp⟩
theorem GoL.start {id : Nat} {a : Act} {w : World} (hm : P.follows .mixedOrders = true) (hS : S (Array.replicate ops.size false) w.drew)
    (h : GoL P .any ops (NoPanic Q) S ops.size (Array.replicate ops.size false) a w.drew) : (Code.region id ops true).wp P Q a w :=
  wp_region_noPanic (wp_region_any hm (wpAny_of_L _ _ _ _ (h (Closed.start _) hS)))
end
end Go.Proofs.YtdmjcjheanedgaaDoor
