/-
  Slots for orders, in plain lists: which are taken, which were dropped; and the cells in which the program keeps them. (No Go text.)
-/
import Derived.Test.YtbkdakabpmpiiaaOrdV
namespace Go.Proofs.Ytbkdakabpmpiiaa
open Go.RowKit
/-- n slots: what stands in each, which are taken, the dropped ones (the last one last), the first that was never taken. -/
structure Ar where
  n : Nat
  O : List Ord
  T : List Bool
  D : List Nat
  nx : Nat
def Ar.new (n : Nat) : Ar := ⟨n, List.replicate n Ord.zero, List.replicate n false, [], 0⟩
/-- The free slots, in the order in which they will be taken. -/
def Ar.fr (s : Ar) : List Nat := s.D.reverse ++ List.range' s.nx (s.n - s.nx)
def Ar.has (s : Ar) (i : Nat) : Bool := s.T[i]?.getD false
def Ar.used (s : Ar) : Nat := s.T.count true
structure Ar.Wf (s : Ar) : Prop where
  lenO : s.O.length = s.n
  lenT : s.T.length = s.n
  nx : s.nx ≤ s.n
  nodup : s.fr.Nodup
  mem : ∀ i, i ∈ s.fr ↔ s.T[i]? = some false
  cnt : s.used + s.fr.length = s.n
def Ar.put (s : Ar) (i : Nat) (o : Ord) : Ar := ⟨s.n, s.O.set i o, s.T.set i true, s.D.dropLast, if s.D = [] then s.nx + 1 else s.nx⟩
/-- The slot that is taken next. -/
def Ar.next (s : Ar) : Option Nat := if s.D = [] then (if s.nx < s.n then some s.nx else none) else s.D.getLast?
def Ar.drop (s : Ar) (i : Nat) : Ar := ⟨s.n, s.O, s.T.set i false, s.D ++ [i], s.nx⟩
def Ar.set (s : Ar) (i : Nat) (o : Ord) : Ar := ⟨s.n, s.O.set i o, s.T, s.D, s.nx⟩
theorem count_set {l : List Bool} {i : Nat} {a b : Bool} (h : l[i]? = some a) : (l.set i b).count true + (if a = true then 1 else 0) = l.count true + (if b = true then 1 else 0) := by
  induction l generalizing i with
  | nil => simp at h
  | cons x t ih =>
    cases i with
    | zero =>
      obtain rfl : x = a := by simpa using h
      rw [List.set_cons_zero, List.count_cons, List.count_cons]
      simp only [beq_iff_eq]
      omega
    | succ i =>
      have := ih (i := i) (by simpa using h)
      rw [List.set_cons_succ, List.count_cons, List.count_cons]
      omega
theorem Ar.has_true {s : Ar} {i : Nat} : s.has i = true ↔ s.T[i]? = some true := by
  unfold Ar.has
  cases h : s.T[i]? with
  | none => simp
  | some b => simp
theorem Ar.new_wf (n : Nat) : (Ar.new n).Wf := by
  refine ⟨by simp [Ar.new], by simp [Ar.new], by simp [Ar.new], ?_, ?_, ?_⟩
  · simp [Ar.fr, Ar.new, List.nodup_range']
  · intro i
    simp only [Ar.fr, Ar.new, List.reverse_nil, List.nil_append, List.mem_range'_1, List.getElem?_replicate]
    constructor
    · intro h; rw [if_pos (by omega)]
    · intro h; split at h
      · omega
      · cases h
  · simp [Ar.used, Ar.fr, Ar.new, List.count_replicate]
theorem Ar.next_none {s : Ar} (hw : s.Wf) (h : s.next = none) : s.fr = [] ∧ s.used = s.n ∧ s.D = [] ∧ s.nx = s.n := by
  have hc := hw.cnt
  have hn := hw.nx
  unfold Ar.next at h
  split at h
  · rename_i hd
    split at h
    · cases h
    · have : s.fr = [] := by simp [Ar.fr, hd]; omega
      rw [this] at hc
      simp at hc
      exact ⟨this, hc, hd, by omega⟩
  · rename_i hd
    exact absurd (List.getLast?_eq_none_iff.1 h) hd
theorem Ar.next_some {s : Ar} {i : Nat} (_ : s.Wf) (o : Ord) (h : s.next = some i) : s.fr = i :: (s.put i o).fr := by
  unfold Ar.next at h
  unfold Ar.fr Ar.put
  split at h
  · rename_i hd
    split at h
    · simp only [Option.some.injEq] at h
      subst h
      rw [if_pos hd, hd]
      simp only [List.reverse_nil, List.nil_append, List.dropLast_nil]
      rw [show s.n - s.nx = (s.n - (s.nx + 1)) + 1 by omega, List.range'_succ]
    · cases h
  · rename_i hd
    rw [if_neg hd]
    obtain ⟨h0, h1⟩ := List.getLast?_eq_some_iff.1 h
    rw [h1]
    simp
theorem Ar.next_lt {s : Ar} {i : Nat} (hw : s.Wf) (h : s.next = some i) : s.T[i]? = some false ∧ i < s.n := by
  have h1 := Ar.next_some hw Ord.zero h
  have h2 := (hw.mem i).1 (by rw [h1]; simp)
  refine ⟨h2, ?_⟩
  have := (List.getElem?_eq_some_iff.1 h2).1
  have := hw.lenT
  omega
theorem Ar.put_wf {s : Ar} {i : Nat} (hw : s.Wf) (o : Ord) (h : s.next = some i) : (s.put i o).Wf := by
  have h1 := Ar.next_some hw o h
  obtain ⟨h2, h3⟩ := Ar.next_lt hw h
  have hnd := hw.nodup
  rw [h1, List.nodup_cons] at hnd
  refine ⟨by simp [Ar.put, hw.lenO], by simp [Ar.put, hw.lenT], ?_, hnd.2, ?_, ?_⟩
  · have := hw.nx
    show (if s.D = [] then s.nx + 1 else s.nx) ≤ s.n
    unfold Ar.next at h
    split
    · rename_i hd
      rw [if_pos hd] at h
      split at h
      · omega
      · cases h
    · exact hw.nx
  · intro j
    have hm := hw.mem j
    rw [h1, List.mem_cons] at hm
    show j ∈ (s.put i o).fr ↔ (s.T.set i true)[j]? = some false
    rw [List.getElem?_set]
    by_cases hj : i = j
    · subst hj
      rw [if_pos rfl]
      constructor
      · intro h; exact absurd h hnd.1
      · intro h; split at h <;> simp at h
    · rw [if_neg hj, ← hm]
      constructor
      · intro h; exact .inr h
      · rintro (h | h)
        · exact absurd h.symm hj
        · exact h
  · have hc := hw.cnt
    rw [h1, List.length_cons] at hc
    have := count_set (b := true) h2
    simp only [Bool.false_eq_true, if_false, if_true] at this
    show (s.T.set i true).count true + _ = s.n
    unfold Ar.used at hc
    omega
theorem Ar.drop_fr (s : Ar) (i : Nat) : (s.drop i).fr = i :: s.fr := by simp [Ar.fr, Ar.drop]
theorem Ar.drop_wf {s : Ar} {i : Nat} (hw : s.Wf) (h : s.has i = true) : (s.drop i).Wf := by
  have h := Ar.has_true.1 h
  refine ⟨hw.lenO, by simp [Ar.drop, hw.lenT], hw.nx, ?_, ?_, ?_⟩
  · rw [Ar.drop_fr, List.nodup_cons]
    refine ⟨fun hm => ?_, hw.nodup⟩
    rw [hw.mem, h] at hm
    cases hm
  · intro j
    rw [Ar.drop_fr, List.mem_cons, hw.mem]
    show _ ↔ (s.T.set i false)[j]? = some false
    rw [List.getElem?_set]
    by_cases hj : i = j
    · subst hj
      rw [if_pos rfl, if_pos (List.getElem?_eq_some_iff.1 h).1]
      simp
    · rw [if_neg hj]
      constructor
      · rintro (h | h)
        · exact absurd h.symm hj
        · exact h
      · exact .inr
  · have hc := hw.cnt
    rw [Ar.drop_fr, List.length_cons]
    have := count_set (b := false) h
    simp only [Bool.false_eq_true, if_false, if_true] at this
    show (s.T.set i false).count true + _ = s.n
    unfold Ar.used at hc
    omega
theorem Ar.set_wf {s : Ar} {i : Nat} (hw : s.Wf) (o : Ord) : (s.set i o).Wf :=
  ⟨by simp [Ar.set, hw.lenO], hw.lenT, hw.nx, hw.nodup, hw.mem, hw.cnt⟩
theorem Ar.has_lt {s : Ar} {i : Nat} (hw : s.Wf) (h : s.has i = true) : i < s.n := by
  have := (List.getElem?_eq_some_iff.1 (Ar.has_true.1 h)).1
  have := hw.lenT
  omega
theorem Ar.get_some {s : Ar} {i : Nat} (hw : s.Wf) (h : i < s.n) : ∃ o, s.O[i]? = some o := ⟨s.O[i]'(by rw [hw.lenO]; exact h), List.getElem?_eq_getElem _⟩
theorem Ar.has_not {s : Ar} {i : Nat} (hw : s.Wf) (h : i < s.n) (hf : s.has i = false) : s.T[i]? = some false := by
  have hl : i < s.T.length := by rw [hw.lenT]; exact h
  unfold Ar.has at hf
  rw [List.getElem?_eq_getElem hl] at hf ⊢
  simp at hf
  rw [hf]
/-- The chain of free slots: f is the first one, the cell behind a slot's order leads to the next one. -/
def Ch (c : Array Value) : Int → List Nat → Prop
  | f, [] => 0 ≤ f ∧ f ≤ 500
  | f, x :: r => f = (x : Int) ∧ ∃ y, c[x * 8 + 7]? = some (.int .i64 y) ∧ Ch c y r
theorem Ch.frame {c c' : Array Value} {f : Int} {l : List Nat} (h : Ch c f l) (hc : ∀ x ∈ l, c'[x * 8 + 7]? = c[x * 8 + 7]?) : Ch c' f l := by
  induction l generalizing f with
  | nil => exact h
  | cons x r ih =>
    obtain ⟨h1, y, h2, h3⟩ := h
    exact ⟨h1, y, by rw [hc x (by simp)]; exact h2, ih h3 (fun z hz => hc z (List.mem_cons_of_mem _ hz))⟩
theorem Ch.nn {c : Array Value} {f : Int} {l : List Nat} (h : Ch c f l) : 0 ≤ f := by
  cases l with
  | nil => exact h.1
  | cons x r => obtain ⟨h1, -⟩ := h; omega
theorem Ch.top {c : Array Value} {f : Int} {l : List Nat} (h : Ch c f l) (hl : ∀ x ∈ l, x ≤ 500) : f ≤ 500 := by
  cases l with
  | nil => exact h.2
  | cons x r => obtain ⟨h1, -⟩ := h; have := hl x (by simp); omega
theorem Ch.get {c : Array Value} {f : Int} {l : List Nat} (h : Ch c f l) {x : Nat} (hx : x ∈ l) : ∃ y : Int, c[x * 8 + 7]? = some (.int .i64 y) ∧ 0 ≤ y := by
  induction l generalizing f with
  | nil => simp at hx
  | cons z r ih =>
    obtain ⟨h1, y, h2, h3⟩ := h
    rcases List.mem_cons.1 hx with rfl | hx
    · exact ⟨y, h2, h3.nn⟩
    · exact ih h3 hx
/-- The cells of an arena: 500 slots of an order and a number; how many there are, how many are taken, the first free one. -/
structure Arn (c : Array Value) (s : Ar) : Prop where
  wf : s.Wf
  small : s.n ≤ 500
  size : c.size = 4003
  cn : c[4000]? = some (.int .i64 (s.n : Int))
  cu : c[4001]? = some (.int .i64 (s.used : Int))
  ord : ∀ i o, s.T[i]? = some true → s.O[i]? = some o → ∀ (j : Nat) (v : Value), (cOrd o)[j]? = some v → c[i * 8 + j]? = some v
  tk : ∀ i, s.T[i]? = some true → c[i * 8 + 7]? = some (.int .i64 (-1))
  ch : ∃ f, c[4002]? = some (.int .i64 f) ∧ Ch c f s.fr
/-- Is the slot of this number taken: its cell says so. -/
theorem Arn.link {c : Array Value} {s : Ar} (h : Arn c s) {i : Nat} (hi : i < s.n) : ∃ y : Int, c[i * 8 + 7]? = some (.int .i64 y) ∧ (y == -1) = s.has i := by
  cases hh : s.has i with
  | true => exact ⟨-1, h.tk i (Ar.has_true.1 hh), rfl⟩
  | false =>
    obtain ⟨f, -, hc⟩ := h.ch
    obtain ⟨y, h1, h2⟩ := hc.get ((h.wf.mem i).2 (Ar.has_not h.wf hi hh))
    exact ⟨y, h1, by simp; omega⟩
def Ar.hasI (s : Ar) (x : Int) : Bool := decide (0 ≤ x) && s.has x.toNat
theorem Ar.hasI_nat (s : Ar) (i : Nat) : s.hasI (i : Int) = s.has i := by simp [Ar.hasI]
theorem Ar.hasI_neg (s : Ar) {x : Int} (h : x < 0) : s.hasI x = false := by
  unfold Ar.hasI
  rw [decide_eq_false (by omega)]
  rfl
theorem Ar.has_ge {s : Ar} (hw : s.Wf) {i : Nat} (h : s.n ≤ i) : s.has i = false := by
  unfold Ar.has
  rw [List.getElem?_eq_none (by rw [hw.lenT]; exact h)]
  rfl
end Go.Proofs.Ytbkdakabpmpiiaa
