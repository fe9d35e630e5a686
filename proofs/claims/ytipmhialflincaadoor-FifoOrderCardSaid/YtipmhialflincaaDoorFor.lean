/-
  One queue, in plain lists; who is still in it. (No Go text.)
-/
import Derived.Test.YtipmhialflincaaDoorFia
namespace Go.Proofs.YtipmhialflincaaDoor
open Go.RowKit
def Fq.one (q : List Nat) : Fq := ⟨20, [q]⟩
theorem Fq.one_get {q p : List Nat} {i : Nat} (h : (Fq.one q).L[i]? = some p) : i = 0 ∧ p = q := by
  cases i with
  | zero => simp [Fq.one] at h; exact ⟨rfl, h.symm⟩
  | succ i => simp [Fq.one] at h
theorem Fq.one_find (q : List Nat) (x : Nat) : (Fq.one q).findI (x : Int) = if x ∈ q then some (0, q.idxOf x) else none := by
  rw [Fq.findI_nat]
  unfold Fq.find Fq.one findL findL
  rfl
theorem Fq.one_qi (q : List Nat) : (Fq.one q).qi 0 = q := by simp [Fq.qi, Fq.one]
theorem Fq.one_ofB (q : List Nat) (x : Nat) : (Fq.one q).ofB (x : Int) = decide (x ∈ q) := by
  unfold Fq.ofB
  rw [Fq.one_find]
  by_cases h : x ∈ q <;> simp [h]
theorem Fq.one_pushB (q : List Nat) {x : Nat} (hx : x < 20) : (Fq.one q).pushB 0 (x : Int) = decide (x ∉ q) := by
  unfold Fq.pushB
  rw [Fq.one_find]
  have h1 : (Fq.one q).hasQ 0 = true := by simp [Fq.hasQ, Fq.one]
  have h2 : (Fq.one q).hasN (x : Int) = true := by rw [Fq.hasN_nat]; exact decide_eq_true hx
  rw [h1, h2]
  by_cases h : x ∈ q <;> simp [h]
theorem Fq.one_push (q : List Nat) {x : Nat} (hx : x < 20) : (Fq.one q).pushS 0 (x : Int) = Fq.one (if x ∈ q then q else q ++ [x]) := by
  unfold Fq.pushS
  rw [Fq.one_pushB q hx, Fq.one_qi]
  by_cases h : x ∈ q
  · simp [h]
  · simp [h, Fq.put, Fq.one]
theorem erase_filter {q : List Nat} (hq : q.Nodup) (x : Nat) : q.eraseIdx (q.idxOf x) = q.filter (fun y => !(y == x)) := by
  induction q with
  | nil => rfl
  | cons a t ih =>
    rw [List.nodup_cons] at hq
    by_cases h : a = x
    · subst h
      rw [List.idxOf_cons_self, List.eraseIdx_cons_zero, List.filter_cons_of_neg (by simp)]
      rw [List.filter_eq_self.2]
      intro y hy
      have : y ≠ a := by rintro rfl; exact hq.1 hy
      simp [this]
    · have e : (a :: t).idxOf x = t.idxOf x + 1 := by rw [List.idxOf_cons, show (a == x) = false by simpa using h]; rfl
      rw [e, List.eraseIdx_cons_succ, List.filter_cons_of_pos (by simp [h]), ih hq.2]
theorem Fq.one_rem {q : List Nat} (hq : q.Nodup) (x : Nat) : (Fq.one q).remS (x : Int) = Fq.one (q.filter (fun y => !(y == x))) := by
  unfold Fq.remS
  rw [Fq.one_find]
  by_cases h : x ∈ q
  · rw [if_pos h]
    simp only
    rw [← erase_filter hq]
    simp [Fq.put, Fq.one]
  · rw [if_neg h]
    simp only
    rw [List.filter_eq_self.2]
    intro y hy
    have : y ≠ x := by rintro rfl; exact h hy
    simp [this]
theorem Fq.one_pop {a : Nat} {t : List Nat} (hq : (a :: t).Nodup) : (Fq.one (a :: t)).frontB 0 = true ∧ (Fq.one (a :: t)).frontV 0 = (a : Int) ∧ (Fq.one (a :: t)).popS 0 = Fq.one t := by
  have h1 : (Fq.one (a :: t)).frontB 0 = true := by unfold Fq.frontB; rw [Fq.one_qi]; rfl
  have h2 : (Fq.one (a :: t)).frontV 0 = (a : Int) := by unfold Fq.frontV; rw [Fq.one_qi]; rfl
  refine ⟨h1, h2, ?_⟩
  unfold Fq.popS
  rw [if_pos h1, h2, Fq.one_rem hq]
  rw [List.nodup_cons] at hq
  rw [List.filter_cons_of_neg (by simp), List.filter_eq_self.2]
  intro y hy
  have : y ≠ a := by rintro rfl; exact hq.1 hy
  simp [this]
theorem Fq.one_nil : (Fq.one []).frontB 0 = false ∧ (Fq.one []).frontV 0 = 0 ∧ (Fq.one []).popS 0 = Fq.one [] := by
  have h1 : (Fq.one []).frontB 0 = false := rfl
  exact ⟨h1, rfl, by unfold Fq.popS; rw [h1]; rfl⟩
theorem nodup_push {q : List Nat} (hq : q.Nodup) (x : Nat) : (if x ∈ q then q else q ++ [x]).Nodup := by
  by_cases h : x ∈ q
  · rw [if_pos h]; exact hq
  · rw [if_neg h]
    rw [List.nodup_append]
    refine ⟨hq, by simp, fun a ha b hb => ?_⟩
    simp at hb
    subst hb
    rintro rfl
    exact h ha
/-- Which numbers are in: the cells of a slice of bools. -/
structure Inb (c : Array Value) (q : List Nat) : Prop where
  size : c.size = 20
  at' : ∀ x, x < 20 → c[x]? = some (.bool (decide (x ∈ q)))
theorem Inb.set {c : Array Value} {q q' : List Nat} (h : Inb c q) {x : Nat} (hx : x < 20) {b : Bool} (hb : b = decide (x ∈ q')) (ho : ∀ y, y ≠ x → (y ∈ q' ↔ y ∈ q)) : Inb (c.setIfInBounds x (.bool b)) q' := by
  refine ⟨by simp [h.size], fun y hy => ?_⟩
  rw [Array.getElem?_setIfInBounds]
  by_cases e : x = y
  · subst e
    rw [if_pos rfl, if_pos (by rw [h.size]; exact hx), hb]
  · rw [if_neg e, h.at' y hy]
    have := ho y (fun e' => e e'.symm)
    simp [this]
end Go.Proofs.YtipmhialflincaaDoor
