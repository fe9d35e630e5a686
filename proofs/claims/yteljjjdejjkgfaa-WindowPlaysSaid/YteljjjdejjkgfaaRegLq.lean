/-
  A law for a statement whose order Go leaves open: what only reads is taken first, in the text's order; what makes or writes memory comes up in whatever order. S says of the world what is read, as long as (by what has come up) it may still be read: so a store at the end may turn what was read. (No Go text.)
-/
import Derived.OrdersHeld
import Derived.RegionTactic
import Derived.WalkKit
import Derived.Deep.RegionHeld3
namespace Go.Proofs.Yteljjjdejjkgfaa
section
variable {P : Program} {ops : Array Oper} {Q : Exit → Act → World → Prop} {md : Region.Mode} {S : Array Bool → World → Prop}
def wpAnyL (P : Program) (md : Region.Mode) (ops : Array Oper) (Q : Exit → Act → World → Prop) (S : Array Bool → World → Prop) : Nat → Array Bool → Act → World → Prop
  | 0, L, a, w => Region.ready md ops L = [] ∧ Q .normal a w
  | fuel + 1, L, a, w => (Region.ready md ops L = [] → Q .normal a w) ∧
    ∀ i ∈ Region.ready md ops L, wpOp P ops Q i (fun a' w' => S (L.setIfInBounds i true) w' ∧ wpAnyL P md ops Q S fuel (L.setIfInBounds i true) a' w') a w
theorem wpAny_of_L : ∀ (fuel : Nat) (L : Array Bool) (a : Act) (w : World), wpAnyL P md ops Q S fuel L a w → wpAny P md ops Q fuel L a w
  | 0, _, _, _, h => h
  | fuel + 1, _, _, _, h => ⟨h.1, fun i hi => wpOp_mono (fun a' w' h' => wpAny_of_L fuel _ a' w' h'.2) (h.2 i hi)⟩
/-- What has come up had all that it waits for. -/
def Closed (md : Region.Mode) (ops : Array Oper) (L : Array Bool) : Prop :=
  ∀ j o, ops[j]? = some o → L.getD j false = true → ∀ e ∈ o.after, Region.binds md e = true → L.getD e.on false = true
theorem Closed.set {L : Array Bool} {j : Nat} (h : Closed md ops L) (hj : j ∈ Region.ready md ops L) : Closed md ops (L.setIfInBounds j true) := by
  obtain ⟨-, oj, hoj, hall⟩ := mem_ready.1 hj
  intro k o ho hk e he hb
  by_cases hjk : j = k
  · subst hjk
    rw [hoj] at ho
    cases ho
    exact getD_set_true (hall e he hb)
  · rw [getD_set_ne false hjk] at hk
    exact getD_set_true (h k o ho hk e he hb)
theorem Closed.start (n : Nat) : Closed md ops (Array.replicate n false) := by
  intro j o _ hj
  rcases Nat.lt_or_ge j n with h | h
  · simp [h] at hj
  · simp [Array.getElem?_eq_none (xs := Array.replicate n false) (i := j) (by simpa using h)] at hj
/-- What waits for what has not come up has not come up. -/
theorem Closed.not {L : Array Bool} {i j : Nat} (h : Closed md ops L) (hd : (match ops[j]? with | some o => o.after.any fun e => Region.binds md e && e.on == i | none => false) = true) (hi : L.getD i false = false) : L.getD j false = false := by
  cases hj : L.getD j false with
  | false => rfl
  | true =>
    cases ho : ops[j]? with
    | none => rw [ho] at hd; cases hd
    | some o =>
      rw [ho] at hd
      obtain ⟨e, he, hb⟩ := Array.any_eq_true'.1 hd
      simp only [Bool.and_eq_true, beq_iff_eq] at hb
      have := h j o ho hj e he hb.1
      rw [hb.2, hi] at this
      cases this
/-- A world in which operation i may come up. -/
def Wi (md : Region.Mode) (ops : Array Oper) (S : Array Bool → World → Prop) (i : Nat) (w : World) : Prop := ∃ L, i ∈ Region.ready md ops L ∧ Closed md ops L ∧ S L w
theorem wpAnyL_first {i : Nat} {oi : Oper} {v : Value} (hi : ops[i]? = some oi) (hsel : ∀ (j : Nat) (o : Oper) cs b, ops[j]? = some o → o.op ≠ .select cs b)
    (hQ : ∀ c a w, Q (.panic c) (a.put oi.dst v) w → Q (.panic c) a w) (h1 : ∀ L w, S (L.setIfInBounds i true) w → S L w) (h2 : ∀ L w, S L w → S (L.setIfInBounds i true) w) :
    ∀ (fuel : Nat) (L : Array Bool) (a : Act) (w : World),
      (∀ j oj, ops[j]? = some oj → j ≠ i → L.getD j true = false → (∀ e ∈ oj.after, Region.binds md e = true → e.on ≠ i) → oi.apart ops oj = true) →
      i ∈ Region.ready md ops L → Closed md ops L → YieldsIf P ops (Wi md ops S i) oi v a → S L w →
      wpAnyL P md ops Q S fuel (L.setIfInBounds i true) (a.put oi.dst v) w → wpAnyL P md ops Q S (fuel + 1) L a w := by
  intro fuel
  induction fuel with
  | zero =>
    intro L a w _ hr hcl hy hS H
    refine ⟨fun h => (by rw [h] at hr; cases hr), fun j hj => ?_⟩
    by_cases hji : j = i
    · subst hji; exact hy.wpOp hi ⟨L, hr, hcl, hS⟩ ⟨h2 _ _ hS, H⟩
    · have := ready_mono hj hji
      rw [H.1] at this
      cases this
  | succ fuel ih =>
    intro L a w hfree hr hcl hy hS H
    refine ⟨fun h => (by rw [h] at hr; cases hr), fun j hj => ?_⟩
    by_cases hji : j = i
    · subst hji; exact hy.wpOp hi ⟨L, hr, hcl, hS⟩ ⟨h2 _ _ hS, H⟩
    · have hw := H.2 j (ready_mono hj hji)
      obtain ⟨hjun, oj, hoj, hall⟩ := mem_ready.1 hj
      have hnot : ∀ e ∈ oj.after, Region.binds md e = true → e.on ≠ i := fun e he hb heq => by
        have g1 := hall e he hb
        have g0 := (mem_ready.1 hr).1
        rw [heq] at g1
        rcases Nat.lt_or_ge i L.size with h' | h'
        · simp [h'] at g0 g1; rw [g0] at g1; cases g1
        · simp [Array.getElem?_eq_none h'] at g1
      have hp := wpOp_putIf hoj (hfree j oj hoj hji hjun hnot) (fun cs b => hsel i oi cs b hi) (fun cs b => hsel j oj cs b hoj) hQ hy hw
      have hfree' : ∀ k ok, ops[k]? = some ok → k ≠ i → (L.setIfInBounds j true).getD k true = false → (∀ e ∈ ok.after, Region.binds md e = true → e.on ≠ i) → oi.apart ops ok = true := fun k ok hk hki hun hno => by
        refine hfree k ok hk hki ?_ hno
        by_cases hjk : j = k
        · subst hjk; exact hjun
        · rw [getD_set_ne true hjk] at hun; exact hun
      refine wpOp_mono (fun a' w' g => ?_) hp
      obtain ⟨g1, g2, g3⟩ := g
      rw [Array.setIfInBounds_comm _ _ (Ne.symm hji)] at g2 g3
      exact ⟨h1 _ _ g2, ih (L.setIfInBounds j true) a' w' hfree' (ready_mono hr (Ne.symm hji)) (hcl.set hj) g1 (h1 _ _ g2) g3⟩
/-- A walk's state. -/
def GoL (P : Program) (md : Region.Mode) (ops : Array Oper) (Q : Exit → Act → World → Prop) (S : Array Bool → World → Prop) (fuel : Nat) (L : Array Bool) (a : Act) (w : World) : Prop :=
  Closed md ops L → S L w → wpAnyL P md ops Q S fuel L a w
/-- The next one, in the text's order, of those that only read. -/
theorem GoL.take {i : Nat} {oi : Oper} {d : Option Tmp} {v : Value} {fuel : Nat} {L : Array Bool} {a : Act} {w : World} (hi : ops[i]? = some oi) (hd : oi.dst = d)
    (hc : (Region.noSelect ops && Region.free md ops L i && (Region.ready md ops L).contains i) = true) (hQ : ∀ c a w, Q (.panic c) (a.put oi.dst v) w → Q (.panic c) a w)
    (h1 : ∀ L w, S (L.setIfInBounds i true) w ↔ S L w) (hw : Region.wanted oi (yielded ops a.tmps) = true) (hy : ∀ w, Wi md ops S i w → (execOp a.eval oi).run P w = .ok (.value v) w)
    (h : GoL P md ops Q S fuel (L.setIfInBounds i true) (a.put d v) w) : GoL P md ops Q S (fuel + 1) L a w := by
  simp only [Bool.and_eq_true] at hc
  obtain ⟨⟨h3, h4⟩, h5⟩ := hc
  subst hd
  have hr : i ∈ Region.ready md ops L := by simpa using h5
  intro hcl hS
  exact wpAnyL_first hi (Region.noSelect_spec h3) hQ (fun L w => (h1 L w).1) (fun L w => (h1 L w).2) fuel L a w (Region.free_spec hi h4) hr hcl (.inl ⟨hw, hy⟩) hS (h (hcl.set hr) ((h1 L w).2 hS))
/-- One of those that make or write memory. -/
def OnL (P : Program) (md : Region.Mode) (ops : Array Oper) (Q : Exit → Act → World → Prop) (S : Array Bool → World → Prop) (fuel : Nat) (L : Array Bool) (a : Act) (w : World) (rs : List Nat) : Prop :=
  ∀ i ∈ rs, wpOp P ops Q i (fun a' w' => S (L.setIfInBounds i true) w' ∧ GoL P md ops Q S fuel (L.setIfInBounds i true) a' w') a w
theorem OnL.nil {fuel : Nat} {L : Array Bool} {a : Act} {w : World} : OnL P md ops Q S fuel L a w [] := fun _ h => by cases h
theorem OnL.cons {fuel : Nat} {L : Array Bool} {a : Act} {w : World} {i : Nat} {o : Oper} {rs : List Nat} (ho : ops[i]? = some o)
    (h : ∀ K' : Act → World → Prop, (∀ a w, S (L.setIfInBounds i true) w → GoL P md ops Q S fuel (L.setIfInBounds i true) a w → K' a w) → if Region.wanted o (yielded ops a.tmps) = true then Oper.wp P o a w K' Q else K' (a.put o.dst undef) w)
    (hs : OnL P md ops Q S fuel L a w rs) : OnL P md ops Q S fuel L a w (i :: rs) := fun j hj => by
  rcases List.mem_cons.1 hj with rfl | hj
  · exact wpOp_step ho fun K' hK => h K' fun a w hS hG => hK a w ⟨hS, hG⟩
  · exact hs j hj
theorem GoL.on {rs : List Nat} {fuel : Nat} {L : Array Bool} {a : Act} {w : World} (hr : Region.ready md ops L = rs) (hne : rs ≠ []) (h : OnL P md ops Q S fuel L a w rs) : GoL P md ops Q S (fuel + 1) L a w := by
  intro hcl _
  refine ⟨fun h0 => absurd (hr ▸ h0) hne, fun i hi => wpOp_mono (fun a' w' g => ⟨g.1, g.2 (hcl.set hi) g.1⟩) (h i (hr ▸ hi))⟩
/-- What is not asked for is passed by. -/
theorem GoL.skip {i : Nat} {oi : Oper} {d : Option Tmp} {fuel : Nat} {L : Array Bool} {a : Act} {w : World} (hi : ops[i]? = some oi) (hd : oi.dst = d)
    (hc : (Region.noSelect ops && Region.free md ops L i && (Region.ready md ops L).contains i) = true) (hQ : ∀ c a w, Q (.panic c) (a.put oi.dst undef) w → Q (.panic c) a w)
    (h1 : ∀ L w, S (L.setIfInBounds i true) w ↔ S L w) (hw : Region.wanted oi (yielded ops a.tmps) = false)
    (h : GoL P md ops Q S fuel (L.setIfInBounds i true) (a.put d undef) w) : GoL P md ops Q S (fuel + 1) L a w := by
  simp only [Bool.and_eq_true] at hc
  obtain ⟨⟨h3, h4⟩, h5⟩ := hc
  subst hd
  have hr : i ∈ Region.ready md ops L := by simpa using h5
  intro hcl hS
  exact wpAnyL_first hi (Region.noSelect_spec h3) hQ (fun L w => (h1 L w).1) (fun L w => (h1 L w).2) fuel L a w (Region.free_spec hi h4) hr hcl (.inr ⟨hw, rfl⟩) hS (h (hcl.set hr) ((h1 L w).2 hS))
theorem wpAnyL_imp {S' : Array Bool → World → Prop} (hi : ∀ L w, S' L w → S L w) : ∀ (fuel : Nat) (L : Array Bool) (a : Act) (w : World), wpAnyL P md ops Q S' fuel L a w → wpAnyL P md ops Q S fuel L a w
  | 0, _, _, _, h => h
  | fuel + 1, _, _, _, h => ⟨h.1, fun i hr => wpOp_mono (fun a' w' h' => ⟨hi _ _ h'.1, wpAnyL_imp hi fuel _ a' w' h'.2⟩) (h.2 i hr)⟩
/-- From here on more is known. -/
theorem GoL.to {S' : Array Bool → World → Prop} {fuel : Nat} {L : Array Bool} {a : Act} {w : World} (hi : ∀ L w, S' L w → S L w) (hS : S' L w) (h : GoL P md ops Q S' fuel L a w) : GoL P md ops Q S fuel L a w :=
  fun hcl _ => wpAnyL_imp hi _ _ _ _ (h hcl hS)
theorem Wi.at' {i : Nat} {w : World} {C : World → Prop} (h : Wi md ops (fun _ w => C w) i w) : C w := by
  obtain ⟨_, -, -, h⟩ := h
  exact h
theorem GoL.done {fuel : Nat} {L : Array Bool} {a : Act} {w : World} (hr : Region.ready md ops L = []) (h : Q .normal a w) : GoL P md ops Q S fuel L a w := by
  intro _ _
  cases fuel with
  | zero => exact ⟨hr, h⟩
  | succ f => exact ⟨fun _ => h, by rw [hr]; simp⟩
theorem GoL.start {id : Nat} {a : Act} {w : World} (hm : P.follows .mixedOrders = true) (hS : S (Array.replicate ops.size false) w.drew)
    (h : GoL P .any ops (NoPanic Q) S ops.size (Array.replicate ops.size false) a w.drew) : (Code.region id ops true).wp P Q a w :=
  wp_region_noPanic (wp_region_any hm (wpAny_of_L _ _ _ _ (h (Closed.start _) hS)))
end
end Go.Proofs.Yteljjjdejjkgfaa
