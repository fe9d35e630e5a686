/-
  The rows of an index, in plain lists: in the order in which they came, and a symbol's by their IDs. (No Go text.)
-/
import Derived.Test.YtbfidpngpdaieaaIn64
namespace Go.Proofs.Ytbfidpngpdaieaa
structure Ixr where
  sym : Int
  id : Int
  slot : Int
deriving DecidableEq
def Ixr.zero : Ixr := ⟨0, 0, 0⟩
structure Ixr.Fit (m : Ixr) : Prop where
  sym : In64 m.sym
  id : In64 m.id
  slot : In64 m.slot
/-- Where a key is. -/
def ixf (l : List Ixr) (s d : Int) : Option Nat := l.findIdx? fun x => x.sym == s && x.id == d
def ixI (l : List Ixr) (s d : Int) : Int := match ixf l s d with
  | some i => i
  | none => -1
theorem ixf_some {l : List Ixr} {s d : Int} {i : Nat} (h : ixf l s d = some i) : ∃ t, l[i]? = some ⟨s, d, t⟩ ∧ ∀ (j : Nat) (y : Ixr), j < i → l[j]? = some y → ¬ (y.sym = s ∧ y.id = d) := by
  obtain ⟨hi, h1, h2⟩ := List.findIdx?_eq_some_iff_getElem.1 h
  obtain ⟨e1, e2⟩ : l[i].sym = s ∧ l[i].id = d := by simpa using h1
  refine ⟨l[i].slot, by rw [List.getElem?_eq_getElem hi, ← e1, ← e2], fun j y hj hy => ?_⟩
  obtain ⟨lj, rfl⟩ := List.getElem?_eq_some_iff.1 hy
  have := h2 j hj
  simpa using this
theorem ixf_none {l : List Ixr} {s d : Int} (h : ixf l s d = none) : ∀ x ∈ l, ¬ (x.sym = s ∧ x.id = d) := by
  intro x hx
  have := List.findIdx?_eq_none_iff.1 h x hx
  simpa using this
theorem ixf_at {l : List Ixr} {s d : Int} {i : Nat} {x : Ixr} (hx : l[i]? = some x) (e : x.sym = s ∧ x.id = d) (hn : ∀ (j : Nat) (y : Ixr), j < i → l[j]? = some y → ¬ (y.sym = s ∧ y.id = d)) : ixf l s d = some i := by
  obtain ⟨hi, rfl⟩ := List.getElem?_eq_some_iff.1 hx
  refine List.findIdx?_eq_some_iff_getElem.2 ⟨hi, by simpa using e, fun j hj => ?_⟩
  have := hn j l[j] hj (List.getElem?_eq_getElem (by omega))
  simpa using this
theorem ixf_no {l : List Ixr} {s d : Int} (h : ∀ x ∈ l, ¬ (x.sym = s ∧ x.id = d)) : ixf l s d = none := by
  refine List.findIdx?_eq_none_iff.2 fun x hx => ?_
  have := h x hx
  simpa using this
/-- The slot of a key, as the index answers. -/
def ixg (l : List Ixr) (s d : Int) : Option Int := (ixf l s d).map fun i => (l[i]?.getD .zero).slot
theorem ixg_some {l : List Ixr} {s d t : Int} : ixg l s d = some t ↔ ∃ i, ixf l s d = some i ∧ l[i]? = some ⟨s, d, t⟩ := by
  unfold ixg
  cases h : ixf l s d with
  | none => simp
  | some i =>
    obtain ⟨t', ht, -⟩ := ixf_some h
    simp [ht]
theorem ixg_none {l : List Ixr} {s d : Int} : ixg l s d = none ↔ ixf l s d = none := by
  unfold ixg
  cases ixf l s d <;> simp
/-- No key twice. -/
def Ixu (l : List Ixr) : Prop := l.Pairwise fun a b => ¬ (a.sym = b.sym ∧ a.id = b.id)
theorem Ixu.uni {l : List Ixr} (h : Ixu l) {i j : Nat} {x y : Ixr} (hi : l[i]? = some x) (hj : l[j]? = some y) (e : x.sym = y.sym ∧ x.id = y.id) : i = j := by
  obtain ⟨li, rfl⟩ := List.getElem?_eq_some_iff.1 hi
  obtain ⟨lj, rfl⟩ := List.getElem?_eq_some_iff.1 hj
  rcases Nat.lt_trichotomy i j with g | g | g
  · exact absurd e (List.pairwise_iff_getElem.1 h i j li lj g)
  · exact g
  · exact absurd ⟨e.1.symm, e.2.symm⟩ (List.pairwise_iff_getElem.1 h j i lj li g)
theorem Ixu.mem {l : List Ixr} (h : Ixu l) {x : Ixr} : x ∈ l ↔ ixg l x.sym x.id = some x.slot := by
  constructor
  · intro hx
    obtain ⟨i, hi⟩ := List.mem_iff_getElem?.1 hx
    refine ixg_some.2 ⟨i, ixf_at hi ⟨rfl, rfl⟩ fun j y hj hy e => ?_, hi⟩
    have := h.uni hy hi e
    omega
  · intro hx
    obtain ⟨i, -, hi⟩ := ixg_some.1 hx
    exact List.mem_of_getElem? hi
theorem ixg_key {l : List Ixr} (h : Ixu l) {s d t : Int} : ixg l s d = some t ↔ (⟨s, d, t⟩ : Ixr) ∈ l := (h.mem (x := ⟨s, d, t⟩)).symm
theorem Ixu.nil : Ixu [] := List.Pairwise.nil
theorem Ixu.put {l : List Ixr} (h : Ixu l) {s d t : Int} (hf : ixf l s d = none) : Ixu (l ++ [⟨s, d, t⟩]) := by
  refine List.pairwise_append.2 ⟨h, List.pairwise_singleton _ _, fun a ha b hb => ?_⟩
  rw [List.mem_singleton.1 hb]
  exact ixf_none hf a ha
theorem Ixu.erase {l : List Ixr} (h : Ixu l) (i : Nat) : Ixu (l.eraseIdx i) := List.Pairwise.sublist (List.eraseIdx_sublist _ _) h
theorem Ixu.filter {l : List Ixr} (h : Ixu l) (p : Ixr → Bool) : Ixu (l.filter p) := List.Pairwise.sublist List.filter_sublist h
/-! What the acts answer, and what they leave. -/
def ixPut (l : List Ixr) (s d t : Int) : List Ixr := if (ixf l s d).isSome then l else l ++ [⟨s, d, t⟩]
def ixDrop (l : List Ixr) (s d : Int) : List Ixr := match ixf l s d with
  | some i => l.eraseIdx i
  | none => l
def ixIs (l : List Ixr) (s : Int) : List Ixr := l.filter fun x => x.sym == s
def ixClr (l : List Ixr) (s : Int) : List Ixr := l.filter fun x => x.sym != s
theorem ixPut_u {l : List Ixr} (h : Ixu l) (s d t : Int) : Ixu (ixPut l s d t) := by
  unfold ixPut
  cases hf : ixf l s d with
  | none => exact h.put hf
  | some i => exact h
theorem ixDrop_u {l : List Ixr} (h : Ixu l) (s d : Int) : Ixu (ixDrop l s d) := by
  unfold ixDrop
  cases hf : ixf l s d with
  | none => exact h
  | some i => exact h.erase i
theorem ixPut_len (l : List Ixr) (s d t : Int) : (ixPut l s d t).length ≤ l.length + 1 := by
  unfold ixPut
  split <;> simp
theorem ixDrop_len (l : List Ixr) (s d : Int) : (ixDrop l s d).length ≤ l.length := by
  unfold ixDrop
  cases ixf l s d with
  | none => exact Nat.le_refl _
  | some i => exact (List.eraseIdx_sublist _ _).length_le
theorem ixClr_len (l : List Ixr) (s : Int) : (ixClr l s).length ≤ l.length := List.length_filter_le _ _
/-- Erased by its place: all but it. -/
theorem Ixu.mem_erase {l : List Ixr} (h : Ixu l) {i : Nat} {x : Ixr} (hx : l[i]? = some x) {y : Ixr} : y ∈ l.eraseIdx i ↔ y ∈ l ∧ ¬ (y.sym = x.sym ∧ y.id = x.id) := by
  rw [List.mem_eraseIdx_iff_getElem?]
  constructor
  · rintro ⟨j, hj, hy⟩
    exact ⟨List.mem_of_getElem? hy, fun e => hj (h.uni hy hx e)⟩
  · rintro ⟨hy, hn⟩
    obtain ⟨j, hj⟩ := List.mem_iff_getElem?.1 hy
    refine ⟨j, fun e => ?_, hj⟩
    subst e
    rw [hx] at hj
    cases hj
    exact hn ⟨rfl, rfl⟩
/-! A symbol's rows by their IDs. -/
/-- A row among rows that rise: behind all of lesser IDs. -/
def ixAt (q : List Ixr) (d : Int) : Nat := (q.takeWhile fun y => decide (y.id < d)).length
def ixIns (q : List Ixr) (x : Ixr) : List Ixr := q.take (ixAt q x.id) ++ x :: q.drop (ixAt q x.id)
def ixOfTo (l : List Ixr) (s : Int) : Nat → List Ixr
  | 0 => []
  | n + 1 => match l[n]? with
    | some x => if x.sym = s then ixIns (ixOfTo l s n) x else ixOfTo l s n
    | none => ixOfTo l s n
def ixOf (l : List Ixr) (s : Int) : List Ixr := ixOfTo l s l.length
theorem ixIns_perm (q : List Ixr) (x : Ixr) : (ixIns q x).Perm (x :: q) := by
  unfold ixIns
  refine List.perm_middle.trans ?_
  rw [List.take_append_drop]
theorem ixIns_len (q : List Ixr) (x : Ixr) : (ixIns q x).length = q.length + 1 := (ixIns_perm q x).length_eq
theorem ixOfTo_perm (l : List Ixr) (s : Int) : ∀ n, (ixOfTo l s n).Perm ((l.take n).filter fun x => x.sym == s)
  | 0 => by simp [ixOfTo]
  | n + 1 => by
    unfold ixOfTo
    rw [List.take_add_one, List.filter_append]
    cases hx : l[n]? with
    | none => simpa using ixOfTo_perm l s n
    | some x =>
      by_cases e : x.sym = s
      · dsimp only; rw [if_pos e]
        have : [x].filter (fun x => x.sym == s) = [x] := by simp [e]
        rw [Option.toList_some, this]
        refine (ixIns_perm _ x).trans ?_
        refine ((ixOfTo_perm l s n).cons x).trans ?_
        exact List.perm_append_comm (l₁ := [x])
      · dsimp only; rw [if_neg e]
        have : [x].filter (fun x => x.sym == s) = [] := by simp [e]
        rw [Option.toList_some, this, List.append_nil]
        exact ixOfTo_perm l s n
theorem ixOf_perm (l : List Ixr) (s : Int) : (ixOf l s).Perm (ixIs l s) := by
  have := ixOfTo_perm l s l.length
  rwa [List.take_length] at this
theorem ixOfTo_len (l : List Ixr) (s : Int) (n : Nat) : (ixOfTo l s n).length ≤ n := by
  rw [(ixOfTo_perm l s n).length_eq]
  refine Nat.le_trans (List.length_filter_le _ _) ?_
  rw [List.length_take]
  exact Nat.min_le_left _ _
/-- Rising by IDs. -/
abbrev Ixm (q : List Ixr) : Prop := q.Pairwise fun a b => a.id < b.id
theorem ixAt_spec {q : List Ixr} (h : Ixm q) (d : Int) : ∀ (j : Nat) (y : Ixr), q[j]? = some y → (j < ixAt q d ↔ y.id < d) := by
  induction q with
  | nil => intro j y hy; simp at hy
  | cons z t ih =>
    intro j y hy
    have h1 := List.pairwise_cons.1 h
    unfold ixAt
    rw [List.takeWhile_cons]
    by_cases hz : z.id < d
    · rw [if_pos (by simpa using hz)]
      cases j with
      | zero => cases hy; simp [hz]
      | succ j =>
        have := ih h1.2 j y hy
        unfold ixAt at this
        simp only [List.length_cons]
        omega
    · rw [if_neg (by simpa using hz)]
      cases j with
      | zero => cases hy; simp; omega
      | succ j =>
        have := h1.1 y (List.mem_of_getElem? (i := j) hy)
        simp
        omega
theorem ixAt_le (q : List Ixr) (d : Int) : ixAt q d ≤ q.length := (List.takeWhile_sublist _).length_le
theorem ixIns_mono {q : List Ixr} (h : Ixm q) {x : Ixr} (hn : ∀ y ∈ q, y.id ≠ x.id) : Ixm (ixIns q x) := by
  have hs := ixAt_spec h x.id
  unfold ixIns
  have hlo : ∀ y ∈ q.take (ixAt q x.id), y.id < x.id := by
    intro y hy
    obtain ⟨j, hj⟩ := List.mem_iff_getElem?.1 hy
    rw [List.getElem?_take] at hj
    split at hj
    · next g => exact (hs j y hj).1 g
    · cases hj
  have hhi : ∀ y ∈ q.drop (ixAt q x.id), x.id < y.id := by
    intro y hy
    obtain ⟨j, hj⟩ := List.mem_iff_getElem?.1 hy
    rw [List.getElem?_drop] at hj
    have h1 := hs _ y hj
    have h2 := hn y (List.mem_of_getElem? hj)
    omega
  refine List.pairwise_append.2 ⟨List.Pairwise.sublist (List.take_sublist _ _) h, List.pairwise_cons.2 ⟨hhi, List.Pairwise.sublist (List.drop_sublist _ _) h⟩, fun a ha b hb => ?_⟩
  rcases List.mem_cons.1 hb with rfl | hb
  · exact hlo a ha
  · exact Int.lt_trans (hlo a ha) (hhi b hb)
theorem ixOfTo_mono {l : List Ixr} (h : Ixu l) (s : Int) : ∀ n, Ixm (ixOfTo l s n)
  | 0 => List.Pairwise.nil
  | n + 1 => by
    unfold ixOfTo
    cases hx : l[n]? with
    | none => exact ixOfTo_mono h s n
    | some x =>
      by_cases e : x.sym = s
      · dsimp only; rw [if_pos e]
        refine ixIns_mono (ixOfTo_mono h s n) fun y hy ee => ?_
        have hy := (ixOfTo_perm l s n).mem_iff.1 hy
        rw [List.mem_filter] at hy
        obtain ⟨h1, h2⟩ := hy
        obtain ⟨j, hj⟩ := List.mem_iff_getElem?.1 h1
        rw [List.getElem?_take] at hj
        split at hj
        · next hjn =>
          have := h.uni hj hx ⟨by simpa [e] using h2, ee⟩
          omega
        · cases hj
      · dsimp only; rw [if_neg e]
        exact ixOfTo_mono h s n
theorem ixOf_mono {l : List Ixr} (h : Ixu l) (s : Int) : Ixm (ixOf l s) := ixOfTo_mono h s _
theorem ixOf_mem {l : List Ixr} {s : Int} {x : Ixr} : x ∈ ixOf l s ↔ x ∈ l ∧ x.sym = s := by
  rw [(ixOf_perm l s).mem_iff]
  simp [ixIs]
/-- What rises and has the same rows is the same. -/
theorem Ixm.uni {p q : List Ixr} (hp : Ixm p) (hq : Ixm q) (h : p.Perm q) : p = q :=
  List.Perm.eq_of_pairwise (le := fun a b => a.id < b.id) (fun a b _ _ h1 h2 => by omega) hp hq h
end Go.Proofs.Ytbfidpngpdaieaa
