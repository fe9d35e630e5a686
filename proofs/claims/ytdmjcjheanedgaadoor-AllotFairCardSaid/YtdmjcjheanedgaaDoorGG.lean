/-
  The levels of a side, in plain lists: in the order in which they were made, and from the best one on. (No Go text.)
  What is done to the levels of a side, and what it answers, in plain lists. (No Go text.)
  Which queues are free, as bits of four words. (No Go text.)
  damper/damperref11.Level: a struct of 4 ints as Go's values: laid, read whole, compared, as an argument, in slices. (Written by gen/struct.py.)
-/
import Derived.Test.YtdmjcjheanedgaaDoorGA
import Derived.Test.YtdmjcjheanedgaaDoorGB
import Derived.Laws.StructEq
import Derived.Lib.Hide
import Derived.ProofKit
import Derived.OpenShut
import Derived.Deep.Slices
namespace Go.Proofs.YtdmjcjheanedgaaDoor
structure Lvl where
  price : Int
  qty : Int
  orders : Int
  queue : Int
deriving DecidableEq
def Lvl.zero : Lvl := ⟨0, 0, 0, 0⟩
structure Lvl.Fit (m : Lvl) : Prop where
  price : In64 m.price
  qty : In64 m.qty
  orders : In64 m.orders
  queue : In64 m.queue
/-- Whether a price is better than another one. -/
def btr (buy : Bool) (a b : Int) : Bool := if buy then decide (b < a) else decide (a < b)
theorem btr_irr (buy : Bool) (a : Int) : btr buy a a = false := by cases buy <;> simp [btr]
theorem btr_asym {buy : Bool} {a b : Int} (h : btr buy a b = true) : btr buy b a = false := by cases buy <;> simp [btr] at h ⊢ <;> omega
theorem btr_trans {buy : Bool} {a b c : Int} (h : btr buy a b = true) (k : btr buy b c = true) : btr buy a c = true := by cases buy <;> simp [btr] at h k ⊢ <;> omega
theorem btr_or {buy : Bool} {a b : Int} (h : btr buy a b = false) : a = b ∨ btr buy b a = true := by cases buy <;> simp [btr] at h ⊢ <;> omega
/-- A side: how many levels there may be, and its levels, in the order in which they were made. -/
structure Ld where
  buy : Bool
  most : Nat
  L : List Lvl
/-- k: as many orders a level can have. -/
structure Ld.Wf (k : Nat) (s : Ld) : Prop where
  len : s.L.length ≤ s.most
  price : ∀ x ∈ s.L, 1 ≤ x.price ∧ x.price < 9223372036854775808
  qty : ∀ x ∈ s.L, 0 ≤ x.qty ∧ x.qty < 9223372036854775808
  orders : ∀ x ∈ s.L, 1 ≤ x.orders ∧ x.orders ≤ k
  queue : ∀ x ∈ s.L, 0 ≤ x.queue ∧ x.queue < s.most
  uniP : s.L.Pairwise fun a b => a.price ≠ b.price
  uniQ : s.L.Pairwise fun a b => a.queue ≠ b.queue
/-- Levels from the best one on. -/
abbrev Std (buy : Bool) (P : List Lvl) : Prop := P.Pairwise fun a b => btr buy a.price b.price = true
/-- The same levels, from the best one on. -/
structure Sord (buy : Bool) (L P : List Lvl) : Prop where
  perm : P.Perm L
  std : Std buy P
theorem Sord.nil (buy : Bool) : Sord buy [] [] := ⟨.refl _, .nil⟩
theorem Sord.uni {buy : Bool} {L P Q : List Lvl} (h : Sord buy L P) (k : Sord buy L Q) : P = Q := by
  refine List.Perm.eq_of_pairwise (le := fun a b => btr buy a.price b.price = true) ?_ h.std k.std (h.perm.trans k.perm.symm)
  intro a b _ _ h1 h2
  rw [btr_asym h1] at h2
  cases h2
theorem Sord.len {buy : Bool} {L P : List Lvl} (h : Sord buy L P) : P.length = L.length := h.perm.length_eq
theorem Sord.mem {buy : Bool} {L P : List Lvl} (h : Sord buy L P) {x : Lvl} : x ∈ P ↔ x ∈ L := h.perm.mem_iff
theorem Std.get_lt {buy : Bool} {P : List Lvl} (h : Std buy P) {i j : Nat} {x y : Lvl} (hi : P[i]? = some x) (hj : P[j]? = some y) (hij : i < j) : btr buy x.price y.price = true := by
  obtain ⟨li, rfl⟩ := List.getElem?_eq_some_iff.1 hi
  obtain ⟨lj, rfl⟩ := List.getElem?_eq_some_iff.1 hj
  exact List.pairwise_iff_getElem.1 h i j li lj hij
theorem Std.take {buy : Bool} {P : List Lvl} (h : Std buy P) (k : Nat) : Std buy (P.take k) := h.sublist (List.take_sublist k P)
theorem Std.drop {buy : Bool} {P : List Lvl} (h : Std buy P) (k : Nat) : Std buy (P.drop k) := h.sublist (List.drop_sublist k P)
/-- A new level at its place. -/
theorem Std.ins {buy : Bool} {P : List Lvl} (h : Std buy P) {x : Lvl} {k : Nat} (h1 : ∀ y ∈ P.take k, btr buy y.price x.price = true) (h2 : ∀ y ∈ P.drop k, btr buy x.price y.price = true) : Std buy (P.take k ++ x :: P.drop k) := by
  refine List.pairwise_append.2 ⟨h.take k, List.pairwise_cons.2 ⟨h2, h.drop k⟩, ?_⟩
  intro a ha b hb
  rcases List.mem_cons.1 hb with rfl | hb
  · exact h1 a ha
  · exact btr_trans (h1 a ha) (h2 b hb)
theorem Sord.ins {buy : Bool} {L P : List Lvl} (h : Sord buy L P) {x : Lvl} {k : Nat} (h1 : ∀ y ∈ P.take k, btr buy y.price x.price = true) (h2 : ∀ y ∈ P.drop k, btr buy x.price y.price = true) : Sord buy (L ++ [x]) (P.take k ++ x :: P.drop k) := by
  refine ⟨?_, h.std.ins h1 h2⟩
  refine List.perm_middle.trans ?_
  rw [List.take_append_drop]
  exact (h.perm.cons x).trans (List.perm_append_singleton x L).symm
/-- A list without the element at a place, and the element ahead. -/
theorem perm_erase {α : Type} {P : List α} {k : Nat} {x : α} (hk : P[k]? = some x) : P.Perm (x :: P.eraseIdx k) := by
  obtain ⟨lk, rfl⟩ := List.getElem?_eq_some_iff.1 hk
  rw [List.eraseIdx_eq_take_drop_succ]
  have e : P = P.take k ++ P[k] :: P.drop (k + 1) := by
    rw [← List.drop_eq_getElem_cons lk, List.take_append_drop]
  exact (List.Perm.of_eq e).trans List.perm_middle
theorem perm_set {α : Type} {P : List α} {k : Nat} {x y : α} (hk : P[k]? = some x) : (P.set k y).Perm (y :: P.eraseIdx k) := by
  obtain ⟨lk, rfl⟩ := List.getElem?_eq_some_iff.1 hk
  rw [List.eraseIdx_eq_take_drop_succ, List.set_eq_take_append_cons_drop, if_pos lk]
  exact List.perm_middle
theorem Sord.erase {buy : Bool} {L P : List Lvl} (h : Sord buy L P) {x : Lvl} {i k : Nat} (hi : L[i]? = some x) (hk : P[k]? = some x) : Sord buy (L.eraseIdx i) (P.eraseIdx k) :=
  ⟨((perm_erase hk).symm.trans (h.perm.trans (perm_erase hi))).cons_inv, h.std.sublist (List.eraseIdx_sublist P k)⟩
theorem Sord.set {buy : Bool} {L P : List Lvl} (h : Sord buy L P) {x y : Lvl} {i k : Nat} (hi : L[i]? = some x) (hk : P[k]? = some x) (e : y.price = x.price) : Sord buy (L.set i y) (P.set k y) := by
  refine ⟨?_, ?_⟩
  · exact (perm_set hk).trans ((((perm_erase hk).symm.trans (h.perm.trans (perm_erase hi))).cons_inv.cons y).trans (perm_set hi).symm)
  · refine List.pairwise_iff_getElem.2 fun a b la lb hab => ?_
    simp only [List.length_set] at la lb
    have g := List.pairwise_iff_getElem.1 h.std a b la lb hab
    obtain ⟨lk, rfl⟩ := List.getElem?_eq_some_iff.1 hk
    simp only [List.getElem_set]
    by_cases ha : k = a
    · subst ha
      have hb : ¬ k = b := by omega
      simp only [if_true, if_neg hb, e]
      exact g
    · by_cases hb : k = b
      · subst hb
        simp only [if_neg ha, if_true, e]
        exact g
      · simp only [if_neg ha, if_neg hb]
        exact g
/-- The place of a price: those before are better, what is there or behind is not. -/
def plc (buy : Bool) (P : List Lvl) (p : Int) : Nat := (P.takeWhile fun x => btr buy x.price p).length
theorem take_tw {α : Type} (f : α → Bool) : ∀ (l : List α), l.take (l.takeWhile f).length = l.takeWhile f ∧ l.drop (l.takeWhile f).length = l.dropWhile f
  | [] => ⟨rfl, rfl⟩
  | a :: l => by
    cases h : f a with
    | false => simp [h]
    | true => simp [h, take_tw f l]
theorem plc_le (buy : Bool) (P : List Lvl) (p : Int) : plc buy P p ≤ P.length := (List.takeWhile_sublist _).length_le
theorem plc_before {buy : Bool} {P : List Lvl} {p : Int} : ∀ y ∈ P.take (plc buy P p), btr buy y.price p = true := by
  intro y hy
  unfold plc at hy
  rw [(take_tw _ P).1] at hy
  exact (List.all_eq_true.1 List.all_takeWhile) y hy
theorem plc_lt {buy : Bool} {P : List Lvl} {p : Int} {i : Nat} {y : Lvl} (h : i < plc buy P p) (hi : P[i]? = some y) : btr buy y.price p = true :=
  plc_before y (List.mem_of_getElem? (i := i) (by rw [List.getElem?_take, if_pos h, hi]))
theorem plc_at {buy : Bool} {P : List Lvl} {p : Int} {y : Lvl} (hi : P[plc buy P p]? = some y) : btr buy y.price p = false := by
  have e := (take_tw (fun x : Lvl => btr buy x.price p) P).2
  have h : (P.drop (plc buy P p))[0]? = some y := by rw [List.getElem?_drop]; simpa using hi
  unfold plc at h
  rw [e] at h
  cases hd : P.dropWhile (fun x : Lvl => btr buy x.price p) with
  | nil => rw [hd] at h; cases h
  | cons z t =>
    rw [hd] at h
    have := List.head?_dropWhile_not (fun x : Lvl => btr buy x.price p) P
    rw [hd] at this
    cases h
    simpa using this
theorem Std.plc_after {buy : Bool} {P : List Lvl} (h : Std buy P) {p : Int} {i : Nat} {y : Lvl} (hi : P[i]? = some y) (hk : plc buy P p ≤ i) : btr buy y.price p = false := by
  obtain ⟨li, -⟩ := List.getElem?_eq_some_iff.1 hi
  have g : P[plc buy P p]? = some P[plc buy P p] := List.getElem?_eq_getElem (by omega)
  have e := plc_at g
  rcases Nat.eq_or_lt_of_le hk with k | k
  · subst k
    exact plc_at hi
  · have := h.get_lt g hi k
    cases hb : btr buy y.price p with
    | false => rfl
    | true => rw [btr_trans this hb] at e; cases e
/-- A number that is at the place of a price (for a search that halves). -/
theorem plc_uni {buy : Bool} {P : List Lvl} {p : Int} {k : Nat} (hk : k ≤ P.length) (h1 : ∀ i y, i < k → P[i]? = some y → btr buy y.price p = true) (h2 : ∀ y, P[k]? = some y → btr buy y.price p = false) : plc buy P p = k := by
  have hl := plc_le buy P p
  rcases Nat.lt_trichotomy (plc buy P p) k with g | g | g
  · have e : P[plc buy P p]? = some P[plc buy P p] := List.getElem?_eq_getElem (by omega)
    have a := h1 _ _ g e
    rw [plc_at e] at a
    cases a
  · exact g
  · have e : P[k]? = some P[k] := List.getElem?_eq_getElem (by omega)
    have a := plc_lt g e
    rw [h2 _ e] at a
    cases a
/-- The level of a price stands at the place of its price. -/
theorem Std.plc_of {buy : Bool} {P : List Lvl} (h : Std buy P) {k : Nat} {x : Lvl} (hk : P[k]? = some x) : plc buy P x.price = k := by
  refine plc_uni (by obtain ⟨l, -⟩ := List.getElem?_eq_some_iff.1 hk; omega) (fun i y hi hy => h.get_lt hy hk hi) (fun y hy => ?_)
  rw [hk] at hy
  cases hy
  exact btr_irr _ _
theorem Std.plc_none {buy : Bool} {P : List Lvl} (h : Std buy P) {p : Int} (hn : ∀ x ∈ P, x.price ≠ p) : ∀ y ∈ P.drop (plc buy P p), btr buy p y.price = true := by
  intro y hy
  obtain ⟨j, hj⟩ := List.mem_iff_getElem?.1 hy
  rw [List.getElem?_drop] at hj
  rcases btr_or (h.plc_after hj (Nat.le_add_right _ _)) with e | e
  · exact absurd e (hn y (List.mem_of_getElem? hj))
  · exact e
/-- A new level at the place of its price. -/
theorem Sord.put {buy : Bool} {L P : List Lvl} (h : Sord buy L P) {x : Lvl} (hn : ∀ y ∈ L, y.price ≠ x.price) : Sord buy (L ++ [x]) (P.take (plc buy P x.price) ++ x :: P.drop (plc buy P x.price)) :=
  h.ins plc_before (h.std.plc_none fun y hy => hn y (h.mem.1 hy))
/-- The levels one by one laid into an ordered list, as an insertion sort does it. -/
theorem Sord.more {buy : Bool} {L P : List Lvl} {i : Nat} {x : Lvl} (h : Sord buy (L.take i) P) (hi : L[i]? = some x) (hn : ∀ j y, j < i → L[j]? = some y → y.price ≠ x.price) : Sord buy (L.take (i + 1)) (P.take (plc buy P x.price) ++ x :: P.drop (plc buy P x.price)) := by
  have e : L.take (i + 1) = L.take i ++ [x] := by rw [List.take_add_one, hi]; rfl
  rw [e]
  refine h.put fun y hy => ?_
  obtain ⟨j, hj⟩ := List.mem_iff_getElem?.1 hy
  rw [List.getElem?_take] at hj
  split at hj
  · exact hn j y (by assumption) hj
  · cases hj
theorem uniP_lt {L : List Lvl} (h : L.Pairwise fun a b => a.price ≠ b.price) {j i : Nat} {x y : Lvl} (hij : j < i) (hj : L[j]? = some y) (hi : L[i]? = some x) : y.price ≠ x.price := by
  obtain ⟨li, rfl⟩ := List.getElem?_eq_some_iff.1 hi
  obtain ⟨lj, rfl⟩ := List.getElem?_eq_some_iff.1 hj
  exact List.pairwise_iff_getElem.1 h j i lj li hij
/-- There is such an order. -/
theorem Sord.exists {buy : Bool} {L : List Lvl} (h : L.Pairwise fun a b => a.price ≠ b.price) : ∃ P, Sord buy L P := by
  have : ∀ n, n ≤ L.length → ∃ P, Sord buy (L.take n) P := by
    intro n
    induction n with
    | zero => intro _; exact ⟨[], by simpa using Sord.nil buy⟩
    | succ n ih =>
      intro hn
      obtain ⟨P, hP⟩ := ih (by omega)
      have hg : L[n]? = some L[n] := List.getElem?_eq_getElem (by omega)
      exact ⟨_, hP.more hg fun j y hj hy => uniP_lt h hj hy hg⟩
  obtain ⟨P, hP⟩ := this L.length (Nat.le_refl _)
  exact ⟨P, by simpa using hP⟩

/-! The level of a price. -/
def Ld.find (s : Ld) (p : Int) : Option Nat := s.L.findIdx? fun x => x.price == p
theorem Ld.find_some {s : Ld} {p : Int} {i : Nat} (h : s.find p = some i) : ∃ x, s.L[i]? = some x ∧ x.price = p ∧ ∀ j y, j < i → s.L[j]? = some y → y.price ≠ p := by
  obtain ⟨hl, h1, h2⟩ := List.findIdx?_eq_some_iff_getElem.1 h
  refine ⟨s.L[i], List.getElem?_eq_getElem hl, by simpa using h1, fun j y hj hy => ?_⟩
  obtain ⟨lj, rfl⟩ := List.getElem?_eq_some_iff.1 hy
  simpa using h2 j hj
theorem Ld.find_none {s : Ld} {p : Int} (h : s.find p = none) : ∀ x ∈ s.L, x.price ≠ p := by
  intro x hx
  simpa using List.findIdx?_eq_none_iff.1 h x hx
theorem Ld.find_no {s : Ld} {p : Int} (h : ∀ x ∈ s.L, x.price ≠ p) : s.find p = none :=
  List.findIdx?_eq_none_iff.2 fun x hx => by simpa using h x hx
/-- In the ordered list the level of a price stands at the price's place, if there is one. -/
theorem Sord.found {s : Ld} {P : List Lvl} (h : Sord s.buy s.L P) {p : Int} {i : Nat} (hf : s.find p = some i) : ∃ x, s.L[i]? = some x ∧ x.price = p ∧ P[plc s.buy P p]? = some x := by
  obtain ⟨x, hx, rfl, -⟩ := Ld.find_some hf
  obtain ⟨k, hk⟩ := List.mem_iff_getElem?.1 (h.mem.2 (List.mem_of_getElem? hx))
  exact ⟨x, hx, rfl, by rw [h.std.plc_of hk]; exact hk⟩
theorem Sord.unfound {s : Ld} {P : List Lvl} (h : Sord s.buy s.L P) {p : Int} (hf : s.find p = none) : ∀ x, P[plc s.buy P p]? = some x → x.price ≠ p :=
  fun _ hx => Ld.find_none hf _ (h.mem.1 (List.mem_of_getElem? hx))

/-! The least queue that no level has. -/
def Free (L : List Lvl) (q : Nat) : Prop := (∀ x ∈ L, x.queue ≠ q) ∧ ∀ p : Nat, p < q → ∃ x ∈ L, x.queue = p
theorem Free.uni {L : List Lvl} {q r : Nat} (h : Free L q) (k : Free L r) : q = r := by
  rcases Nat.lt_trichotomy q r with g | g | g
  · obtain ⟨x, hx, e⟩ := k.2 q g
    exact absurd e (h.1 x hx)
  · exact g
  · obtain ⟨x, hx, e⟩ := h.2 r g
    exact absurd e (k.1 x hx)
theorem Free.perm {L P : List Lvl} {q : Nat} (h : Free L q) (e : P.Perm L) : Free P q :=
  ⟨fun x hx => h.1 x (e.mem_iff.1 hx), fun p hp => by obtain ⟨x, hx, k⟩ := h.2 p hp; exact ⟨x, e.mem_iff.2 hx, k⟩⟩
/-- As many numbers as there are in the list, at most, lie below a free one. -/
theorem runs_le : ∀ (q : Nat) (L : List Lvl), (∀ p : Nat, p < q → ∃ x ∈ L, x.queue = p) → q ≤ L.length
  | 0, _, _ => Nat.zero_le _
  | q + 1, L, h => by
    obtain ⟨x, hx, e⟩ := h q (Nat.lt_succ_self q)
    obtain ⟨k, hk⟩ := List.mem_iff_getElem?.1 hx
    have hl := (List.getElem?_eq_some_iff.1 hk).1
    have := runs_le q (L.eraseIdx k) fun p hp => by
      obtain ⟨y, hy, e'⟩ := h p (by omega)
      refine ⟨y, ?_, e'⟩
      rcases List.mem_cons.1 ((perm_erase hk).mem_iff.1 hy) with rfl | g
      · omega
      · exact g
    rw [List.length_eraseIdx, if_pos hl] at this
    omega
theorem Free.le {L : List Lvl} {q : Nat} (h : Free L q) : q ≤ L.length := runs_le q L h.2
theorem Free.exists (L : List Lvl) : ∃ q, Free L q := by
  have : ∀ n, (∃ q, Free L q) ∨ ∀ p : Nat, p < n → ∃ x ∈ L, x.queue = p := by
    intro n
    induction n with
    | zero => exact .inr fun p hp => absurd hp (Nat.not_lt_zero p)
    | succ n ih =>
      rcases ih with h | h
      · exact .inl h
      · by_cases hx : ∃ x ∈ L, x.queue = n
        · refine .inr fun p hp => ?_
          rcases Nat.lt_succ_iff_lt_or_eq.1 hp with g | rfl
          · exact h p g
          · exact hx
        · exact .inl ⟨n, fun x hx' e => hx ⟨x, hx', e⟩, h⟩
  rcases this (L.length + 1) with h | h
  · exact h
  · have := runs_le _ _ h
    omega
end Go.Proofs.YtdmjcjheanedgaaDoor
namespace Go.Proofs.YtdmjcjheanedgaaDoor
/-- The least queue that no level has. -/
noncomputable def freeQ (L : List Lvl) : Nat := Classical.choose (Free.exists L)
theorem freeQ_free (L : List Lvl) : Free L (freeQ L) := Classical.choose_spec (Free.exists L)
/-- The level at a place. -/
def Ld.at (s : Ld) (i : Nat) : Lvl := s.L[i]?.getD .zero
theorem Ld.at_eq {s : Ld} {i : Nat} {x : Lvl} (h : s.L[i]? = some x) : s.at i = x := by simp [Ld.at, h]
/-- A level with one more order. -/
def Lvl.add (x : Lvl) (q : Int) : Lvl := ⟨x.price, x.qty + q, x.orders + 1, x.queue⟩
/-- A level with less. -/
def Lvl.sub (x : Lvl) (q : Int) (gone : Bool) : Lvl := ⟨x.price, x.qty - q, if gone then x.orders - 1 else x.orders, x.queue⟩
/-- What Put answers: the queue and the fault. -/
noncomputable def Ld.putR (s : Ld) (p q : Int) : Int × Int :=
  if p < 1 ∨ q < 1 then (0, 9) else
    match s.find p with
    | some i => if (s.at i).qty + q < 9223372036854775808 then ((s.at i).queue, 0) else (0, 2)
    | none => if s.L.length < s.most then ((freeQ s.L : Nat), 0) else (0, 7)
noncomputable def Ld.putS (s : Ld) (p q : Int) : Ld :=
  if p < 1 ∨ q < 1 then s else
    match s.find p with
    | some i => if (s.at i).qty + q < 9223372036854775808 then ⟨s.buy, s.most, s.L.set i ((s.at i).add q)⟩ else s
    | none => if s.L.length < s.most then ⟨s.buy, s.most, s.L ++ [⟨p, q, 1, (freeQ s.L : Nat)⟩]⟩ else s
/-- What Take answers. -/
def Ld.takeR (s : Ld) (p q : Int) : Int × Int :=
  match s.find p with
  | some i => if q < 0 ∨ (s.at i).qty < q then (0, 9) else ((s.at i).queue, 0)
  | none => (0, 5)
def Ld.takeS (s : Ld) (p q : Int) (gone : Bool) : Ld :=
  match s.find p with
  | some i => if q < 0 ∨ (s.at i).qty < q then s else
      if ((s.at i).sub q gone).orders = 0 then ⟨s.buy, s.most, s.L.eraseIdx i⟩ else ⟨s.buy, s.most, s.L.set i ((s.at i).sub q gone)⟩
  | none => s
/-- What Find answers. -/
def Ld.findV (s : Ld) (p : Int) : Lvl := match s.find p with
  | some i => s.at i
  | none => .zero
def Ld.fits (s : Ld) (p : Int) : Bool := (s.find p).isSome || decide (s.L.length < s.most)
/-- All quantities. -/
def sumL : List Lvl → Int
  | [] => 0
  | x :: t => x.qty + sumL t
/-- The quantities of some. -/
def wsum (f : Lvl → Bool) (l : List Lvl) : Int := sumL (l.filter f)
def Ld.worth (s : Ld) (lim : Int) : Int := min (wsum (fun x => !btr s.buy lim x.price) s.L) 4611686018427387904
theorem sumL_perm {a b : List Lvl} (h : a.Perm b) : sumL a = sumL b := by
  induction h with
  | nil => rfl
  | cons x _ ih => simp only [sumL, ih]
  | swap x y l => simp only [sumL]; omega
  | trans _ _ h1 h2 => exact h1.trans h2
theorem wsum_perm {f : Lvl → Bool} {a b : List Lvl} (h : a.Perm b) : wsum f a = wsum f b := sumL_perm (h.filter f)
theorem Sord.worth {s : Ld} {P : List Lvl} (h : Sord s.buy s.L P) (lim : Int) : s.worth lim = min (wsum (fun x => !btr s.buy lim x.price) P) 4611686018427387904 := by
  unfold Ld.worth
  rw [wsum_perm h.perm]
/-! What stays. -/
theorem map_set_same {α β : Type} (f : α → β) {L : List α} {i : Nat} {x y : α} (hi : L[i]? = some x) (e : f y = f x) : (L.set i y).map f = L.map f := by
  refine List.ext_getElem? fun j => ?_
  rw [List.getElem?_map, List.getElem?_map, List.getElem?_set]
  split
  · next h =>
    subst h
    obtain ⟨hl, rfl⟩ := List.getElem?_eq_some_iff.1 hi
    simp [hl, e]
  · rfl
theorem pw_map {β : Type} (f : Lvl → β) (L : List Lvl) : (L.Pairwise fun a b => f a ≠ f b) ↔ (L.map f).Pairwise fun a b => a ≠ b := by rw [List.pairwise_map]
theorem Ld.new_wf (buy : Bool) (most : Nat) : (Ld.mk buy most []).Wf 0 :=
  ⟨Nat.zero_le _, fun _ h => absurd h List.not_mem_nil, fun _ h => absurd h List.not_mem_nil, fun _ h => absurd h List.not_mem_nil, fun _ h => absurd h List.not_mem_nil, .nil, .nil⟩
theorem Ld.Wf.mono {k m : Nat} {s : Ld} (h : s.Wf k) (hk : k ≤ m) : s.Wf m :=
  ⟨h.len, h.price, h.qty, fun x hx => by have := h.orders x hx; omega, h.queue, h.uniP, h.uniQ⟩
theorem Ld.Wf.set {k m : Nat} {s : Ld} (h : s.Wf k) {i : Nat} {x y : Lvl} (hi : s.L[i]? = some x) (e1 : y.price = x.price) (e2 : y.queue = x.queue) (h1 : 0 ≤ y.qty ∧ y.qty < 9223372036854775808) (h2 : 1 ≤ y.orders ∧ y.orders ≤ m) (hk : k ≤ m) : (Ld.mk s.buy s.most (s.L.set i y)).Wf m := by
  have hx := List.mem_of_getElem? hi
  refine ⟨by simpa using h.len, ?_, ?_, ?_, ?_, ?_, ?_⟩
  · intro z hz
    rcases List.mem_or_eq_of_mem_set hz with g | rfl
    · exact h.price z g
    · rw [e1]; exact h.price x hx
  · intro z hz
    rcases List.mem_or_eq_of_mem_set hz with g | rfl
    · exact h.qty z g
    · exact h1
  · intro z hz
    rcases List.mem_or_eq_of_mem_set hz with g | rfl
    · have := h.orders z g; omega
    · exact h2
  · intro z hz
    rcases List.mem_or_eq_of_mem_set hz with g | rfl
    · exact h.queue z g
    · rw [e2]; exact h.queue x hx
  · rw [pw_map (·.price), map_set_same (·.price) hi e1, ← pw_map (·.price)]
    exact h.uniP
  · rw [pw_map (·.queue), map_set_same (·.queue) hi e2, ← pw_map (·.queue)]
    exact h.uniQ
theorem Ld.Wf.erase {k : Nat} {s : Ld} (h : s.Wf k) (i : Nat) : (Ld.mk s.buy s.most (s.L.eraseIdx i)).Wf k := by
  have hm : ∀ {z}, z ∈ s.L.eraseIdx i → z ∈ s.L := fun hz => List.mem_of_mem_eraseIdx hz
  refine ⟨Nat.le_trans (List.eraseIdx_sublist _ _).length_le h.len, fun z hz => h.price z (hm hz), fun z hz => h.qty z (hm hz), fun z hz => h.orders z (hm hz), fun z hz => h.queue z (hm hz), h.uniP.sublist (List.eraseIdx_sublist _ _), h.uniQ.sublist (List.eraseIdx_sublist _ _)⟩
theorem Ld.Wf.app {k : Nat} {s : Ld} (h : s.Wf k) {p q : Int} (hp : 1 ≤ p ∧ p < 9223372036854775808) (hq : 1 ≤ q ∧ q < 9223372036854775808) (hn : ∀ x ∈ s.L, x.price ≠ p) (hl : s.L.length < s.most) : (Ld.mk s.buy s.most (s.L ++ [⟨p, q, 1, (freeQ s.L : Nat)⟩])).Wf (k + 1) := by
  have hf := freeQ_free s.L
  have hle := hf.le
  refine ⟨by simp; omega, ?_, ?_, ?_, ?_, ?_, ?_⟩
  · intro z hz
    rcases List.mem_append.1 hz with g | g
    · exact h.price z g
    · rw [List.mem_singleton.1 g]; exact hp
  · intro z hz
    rcases List.mem_append.1 hz with g | g
    · exact h.qty z g
    · rw [List.mem_singleton.1 g]; exact ⟨by simp only; omega, hq.2⟩
  · intro z hz
    rcases List.mem_append.1 hz with g | g
    · have := h.orders z g; omega
    · rw [List.mem_singleton.1 g]; exact ⟨Int.le_refl _, by simp only; omega⟩
  · intro z hz
    rcases List.mem_append.1 hz with g | g
    · exact h.queue z g
    · rw [List.mem_singleton.1 g]; simp only; omega
  · refine List.pairwise_append.2 ⟨h.uniP, List.pairwise_singleton _ _, fun a ha b hb => ?_⟩
    rw [List.mem_singleton.1 hb]
    exact hn a ha
  · refine List.pairwise_append.2 ⟨h.uniQ, List.pairwise_singleton _ _, fun a ha b hb => ?_⟩
    rw [List.mem_singleton.1 hb]
    exact hf.1 a ha
theorem Ld.Wf.put {k : Nat} {s : Ld} (h : s.Wf k) {p q : Int} (hp : p < 9223372036854775808) (hq : q < 9223372036854775808) : (s.putS p q).Wf (k + 1) := by
  unfold Ld.putS
  split
  · exact h.mono (Nat.le_succ k)
  · next hpq =>
    split
    · next i hi =>
      obtain ⟨x, hx, rfl, -⟩ := Ld.find_some hi
      rw [Ld.at_eq hx]
      have h1 := h.qty x (List.mem_of_getElem? hx)
      have h2 := h.orders x (List.mem_of_getElem? hx)
      split
      · exact h.set hx rfl rfl ⟨by simp only [Lvl.add]; omega, by simp only [Lvl.add]; omega⟩ ⟨by simp only [Lvl.add]; omega, by simp only [Lvl.add]; omega⟩ (Nat.le_succ k)
      · exact h.mono (Nat.le_succ k)
    · next hi =>
      split
      · exact h.app ⟨by omega, hp⟩ ⟨by omega, hq⟩ (Ld.find_none hi) (by assumption)
      · exact h.mono (Nat.le_succ k)
theorem Ld.Wf.take {k : Nat} {s : Ld} (h : s.Wf k) (p q : Int) (gone : Bool) : (s.takeS p q gone).Wf k := by
  unfold Ld.takeS
  split
  · next i hi =>
    obtain ⟨x, hx, rfl, -⟩ := Ld.find_some hi
    rw [Ld.at_eq hx]
    have h1 := h.qty x (List.mem_of_getElem? hx)
    have h2 := h.orders x (List.mem_of_getElem? hx)
    split
    · exact h
    · split
      · exact h.erase i
      · next hq ho =>
        refine h.set hx rfl rfl ⟨by simp only [Lvl.sub]; omega, by simp only [Lvl.sub]; omega⟩ ?_ (Nat.le_refl k)
        cases gone <;> simp [Lvl.sub] at ho ⊢ <;> omega
  · exact h

/-! The same done to the ordered list. -/
theorem Sord.putOld {s : Ld} {P : List Lvl} (h : Sord s.buy s.L P) {p q : Int} {i : Nat} (hf : s.find p = some i) : P[plc s.buy P p]? = some (s.at i) ∧ (s.at i).price = p ∧ Sord s.buy (s.L.set i ((s.at i).add q)) (P.set (plc s.buy P p) ((s.at i).add q)) := by
  obtain ⟨x, hx, e, hk⟩ := h.found hf
  rw [Ld.at_eq hx]
  exact ⟨hk, e, h.set hx hk rfl⟩
theorem Sord.putNew {s : Ld} {P : List Lvl} (h : Sord s.buy s.L P) {p : Int} (hf : s.find p = none) {x : Lvl} (e : x.price = p) : Sord s.buy (s.L ++ [x]) (P.take (plc s.buy P p) ++ x :: P.drop (plc s.buy P p)) := by
  subst e
  exact h.put (Ld.find_none hf)
theorem Sord.takeSet {s : Ld} {P : List Lvl} (h : Sord s.buy s.L P) {p : Int} (q : Int) (gone : Bool) {i : Nat} (hf : s.find p = some i) : Sord s.buy (s.L.set i ((s.at i).sub q gone)) (P.set (plc s.buy P p) ((s.at i).sub q gone)) := by
  obtain ⟨x, hx, e, hk⟩ := h.found hf
  rw [Ld.at_eq hx]
  exact h.set hx hk rfl
theorem Sord.takeDel {s : Ld} {P : List Lvl} (h : Sord s.buy s.L P) {p : Int} {i : Nat} (hf : s.find p = some i) : Sord s.buy (s.L.eraseIdx i) (P.eraseIdx (plc s.buy P p)) := by
  obtain ⟨x, hx, e, hk⟩ := h.found hf
  exact h.erase hx hk
end Go.Proofs.YtdmjcjheanedgaaDoor
namespace Go.Proofs.YtdmjcjheanedgaaDoor
/-- The bit of a queue. -/
def bitq (F : List Nat) (q : Nat) : Bool := ((F[q / 64]?).getD 0).testBit (q % 64)
structure Bits (F : List Nat) (f : Nat → Bool) : Prop where
  len : F.length = 4
  lt : ∀ x ∈ F, x < 18446744073709551616
  at' : ∀ q, q < 256 → bitq F q = f q
theorem Bits.congr {F : List Nat} {f g : Nat → Bool} (h : Bits F f) (e : ∀ q, q < 256 → f q = g q) : Bits F g := ⟨h.len, h.lt, fun q hq => (h.at' q hq).trans (e q hq)⟩
theorem Bits.zero : Bits [0, 0, 0, 0] fun _ => false := by
  refine ⟨rfl, by simp, fun q hq => ?_⟩
  unfold bitq
  have : q / 64 < 4 := by omega
  match h : q / 64, this with
  | 0, _ => simp
  | 1, _ => simp
  | 2, _ => simp
  | 3, _ => simp
/-- One bit turned. -/
def flp (F : List Nat) (q : Nat) : List Nat := F.set (q / 64) ((F[q / 64]?).getD 0 ^^^ 2 ^ (q % 64))
theorem Bits.get {F : List Nat} {f : Nat → Bool} (h : Bits F f) {n : Nat} (hn : n < 4) : ∃ x, F[n]? = some x ∧ x < 18446744073709551616 ∧ ∀ k, k < 64 → x.testBit k = f (n * 64 + k) := by
  have hl := h.len
  refine ⟨F[n], List.getElem?_eq_getElem (by omega), h.lt _ (List.getElem_mem _), fun k hk => ?_⟩
  have := h.at' (n * 64 + k) (by omega)
  unfold bitq at this
  rw [show (n * 64 + k) / 64 = n by omega, show (n * 64 + k) % 64 = k by omega, List.getElem?_eq_getElem (by omega)] at this
  exact this
theorem Bits.flip {F : List Nat} {f : Nat → Bool} (h : Bits F f) {q : Nat} (hq : q < 256) : Bits (flp F q) fun p => if p = q then !f p else f p := by
  obtain ⟨x, hx, hx2, hx3⟩ := h.get (n := q / 64) (by omega)
  have hl := h.len
  have e : flp F q = F.set (q / 64) (x ^^^ 2 ^ (q % 64)) := by unfold flp; rw [hx]; rfl
  rw [e]
  have h64 : (2 : Nat) ^ (q % 64) < 2 ^ 64 := Nat.pow_lt_pow_right (by omega) (by omega)
  refine ⟨by rw [List.length_set]; exact hl, fun y hy => ?_, fun p hp => ?_⟩
  · rcases List.mem_or_eq_of_mem_set hy with g | rfl
    · exact h.lt y g
    · exact Nat.xor_lt_two_pow (n := 64) hx2 h64
  · have hp0 := h.at' p hp
    unfold bitq at hp0 ⊢
    rw [List.getElem?_set]
    by_cases g : q / 64 = p / 64
    · rw [if_pos g, if_pos (by omega)]
      rw [← g, hx] at hp0
      simp only [Option.getD_some] at hp0 ⊢
      rw [Nat.testBit_xor, hp0, Nat.testBit_two_pow]
      by_cases k : p = q
      · subst k; simp
      · rw [if_neg k, decide_eq_false (by omega)]; simp
    · rw [if_neg g, if_neg (by rintro rfl; exact g rfl)]
      exact hp0
theorem zero_of_bits {x : Nat} (h : x < 18446744073709551616) (hb : ∀ k, k < 64 → x.testBit k = false) : x = 0 := by
  refine Nat.eq_of_testBit_eq fun i => ?_
  rw [Nat.zero_testBit]
  rcases Nat.lt_or_ge i 64 with g | g
  · exact hb i g
  · exact Nat.testBit_lt_two_pow (Nat.lt_of_lt_of_le h (Nat.pow_le_pow_right (n := 2) (by omega) g))
theorem bit_and (x k : Nat) : (x >>> k) &&& 1 = if x.testBit k then 1 else 0 := by
  rw [Nat.and_one_is_mod, Nat.testBit_eq_decide_div_mod_eq, Nat.shiftRight_eq_div_pow]
  have := Nat.mod_two_eq_zero_or_one (x / 2 ^ k)
  by_cases g : x / 2 ^ k % 2 = 1
  · simp [g]
  · simp [g]; omega
/-- Which queues are free. -/
def frb (most : Nat) (L : List Lvl) (q : Nat) : Bool := decide (q < most) && !(L.any fun x => x.queue == (q : Int))
theorem frb_perm {most : Nat} {L P : List Lvl} (h : P.Perm L) (q : Nat) : frb most P q = frb most L q := by
  unfold frb
  rw [h.any_eq]
theorem frb_nil (most q : Nat) : frb most [] q = decide (q < most) := by simp [frb]
theorem frb_true {most : Nat} {L : List Lvl} {q : Nat} : frb most L q = true ↔ q < most ∧ ∀ x ∈ L, x.queue ≠ (q : Int) := by simp [frb]
theorem frb_false {most : Nat} {L : List Lvl} {q : Nat} : frb most L q = false ↔ (q < most → ∃ x ∈ L, x.queue = (q : Int)) := by
  constructor
  · intro h hq
    by_cases g : ∃ x ∈ L, x.queue = (q : Int)
    · exact g
    · have : frb most L q = true := frb_true.2 ⟨hq, fun x hx e => g ⟨x, hx, e⟩⟩
      rw [h] at this; cases this
  · intro h
    cases g : frb most L q with
    | false => rfl
    | true =>
      obtain ⟨h1, h2⟩ := frb_true.1 g
      obtain ⟨x, hx, e⟩ := h h1
      exact absurd e (h2 x hx)
/-- There is room: the least free queue. -/
theorem frb_room {most : Nat} {L : List Lvl} (h : L.length < most) : freeQ L < most ∧ frb most L (freeQ L) = true ∧ ∀ p, p < freeQ L → frb most L p = false := by
  have hf := freeQ_free L
  have hl := hf.le
  exact ⟨by omega, frb_true.2 ⟨by omega, hf.1⟩, fun p hp => frb_false.2 fun _ => hf.2 p hp⟩
/-- As many numbers below n as there can be. -/
theorem pigeon : ∀ (n : Nat) (l : List Int), (l.Pairwise fun a b => a ≠ b) → (∀ x ∈ l, 0 ≤ x ∧ x < n) → ∀ q : Nat, q < n → (q : Int) ∉ l → l.length < n
  | 0, _, _, _, q, hq, _ => absurd hq (Nat.not_lt_zero q)
  | n + 1, l, hp, hb, q, hq, hn => by
    by_cases hm : (n : Int) ∈ l
    · obtain ⟨k, hk⟩ := List.mem_iff_getElem?.1 hm
      have hkl := (List.getElem?_eq_some_iff.1 hk).1
      have pe := perm_erase hk
      have pp : ((n : Int) :: l.eraseIdx k).Pairwise fun a b => a ≠ b := (pe.pairwise_iff (fun h => Ne.symm h)).1 hp
      have pc := List.pairwise_cons.1 pp
      have hqn : q < n := by
        rcases Nat.lt_succ_iff_lt_or_eq.1 hq with g | rfl
        · exact g
        · exact absurd hm hn
      have := pigeon n (l.eraseIdx k) pc.2 (fun x hx => by
        have h1 := hb x (List.mem_of_mem_eraseIdx hx)
        have h2 := pc.1 x hx
        omega) q hqn (fun hx => hn (List.mem_of_mem_eraseIdx hx))
      rw [List.length_eraseIdx, if_pos hkl] at this
      omega
    · rcases Nat.lt_succ_iff_lt_or_eq.1 hq with g | rfl
      · have := pigeon n l hp (fun x hx => by
          have h1 := hb x hx
          have h2 : x ≠ n := fun e => hm (e ▸ hx)
          omega) q g hn
        omega
      · have : ∀ (m : Nat) (l : List Int), (l.Pairwise fun a b => a ≠ b) → (∀ x ∈ l, 0 ≤ x ∧ x < m) → l.length ≤ m := by
          intro m
          induction m with
          | zero =>
            intro l _ hb
            match l with
            | [] => exact Nat.le_refl _
            | x :: t => have := hb x (by simp); omega
          | succ m ih =>
            intro l hp hb
            by_cases hm : (m : Int) ∈ l
            · obtain ⟨k, hk⟩ := List.mem_iff_getElem?.1 hm
              have hkl := (List.getElem?_eq_some_iff.1 hk).1
              have pp : ((m : Int) :: l.eraseIdx k).Pairwise fun a b => a ≠ b := ((perm_erase hk).pairwise_iff (fun h => Ne.symm h)).1 hp
              have pc := List.pairwise_cons.1 pp
              have := ih (l.eraseIdx k) pc.2 (fun x hx => by
                have h1 := hb x (List.mem_of_mem_eraseIdx hx)
                have h2 := pc.1 x hx
                omega)
              rw [List.length_eraseIdx, if_pos hkl] at this
              omega
            · have := ih l hp (fun x hx => by
                have h1 := hb x hx
                have h2 : x ≠ m := fun e => hm (e ▸ hx)
                omega)
              omega
        have h1 := this q l hp (fun x hx => by
          have h1 := hb x hx
          have h2 : x ≠ q := fun e => hn (e ▸ hx)
          omega)
        omega
/-- There is no room: no queue is free. -/
theorem frb_full {k : Nat} {s : Ld} (h : s.Wf k) (hl : ¬ s.L.length < s.most) (q : Nat) : frb s.most s.L q = false := by
  refine frb_false.2 fun hq => ?_
  by_cases g : ∃ x ∈ s.L, x.queue = (q : Int)
  · exact g
  · exfalso
    have := pigeon s.most (s.L.map (·.queue)) ((pw_map (·.queue) s.L).1 h.uniQ) (fun x hx => by
      obtain ⟨y, hy, rfl⟩ := List.mem_map.1 hx
      exact h.queue y hy) q hq (fun hx => by
      obtain ⟨y, hy, e⟩ := List.mem_map.1 hx
      exact g ⟨y, hy, e⟩)
    rw [List.length_map] at this
    exact hl this
theorem frb_app {most : Nat} {L : List Lvl} {x : Lvl} {n : Nat} (hx : x.queue = (n : Int)) (h : frb most L n = true) (q : Nat) : frb most (L ++ [x]) q = if q = n then !frb most L q else frb most L q := by
  by_cases g : q = n
  · subst g
    rw [if_pos rfl, h]
    exact frb_false.2 fun _ => ⟨x, by simp, hx⟩
  · rw [if_neg g]
    unfold frb
    rw [List.any_append]
    have : (x.queue == (q : Int)) = false := by rw [hx]; simp; omega
    simp [this]
theorem frb_erase {k : Nat} {s : Ld} (h : s.Wf k) {i : Nat} {x : Lvl} (hi : s.L[i]? = some x) (n : Nat) (hn : x.queue = (n : Int)) (q : Nat) : frb s.most (s.L.eraseIdx i) q = if q = n then !frb s.most s.L q else frb s.most s.L q := by
  have hq := h.queue x (List.mem_of_getElem? hi)
  have pp : (x :: s.L.eraseIdx i).Pairwise fun a b => a.queue ≠ b.queue := ((perm_erase hi).pairwise_iff (fun h => Ne.symm h)).1 h.uniQ
  have pc := List.pairwise_cons.1 pp
  rw [← frb_perm (perm_erase hi).symm q]
  by_cases g : q = n
  · subst g
    rw [if_pos rfl]
    have h1 : frb s.most (x :: s.L.eraseIdx i) q = false := frb_false.2 fun _ => ⟨x, by simp, hn⟩
    rw [h1]
    refine frb_true.2 ⟨by omega, fun y hy e => ?_⟩
    exact pc.1 y hy (hn.trans e.symm)
  · rw [if_neg g]
    unfold frb
    have : (x.queue == (q : Int)) = false := by rw [hn]; simp; omega
    simp [List.any_cons, this]
theorem frb_set {most : Nat} {L : List Lvl} {i : Nat} {x y : Lvl} (hi : L[i]? = some x) (e : y.queue = x.queue) (q : Nat) : frb most (L.set i y) q = frb most L q := by
  unfold frb
  have h : ∀ l : List Lvl, (l.any fun x => x.queue == (q : Int)) = (l.map (·.queue)).any (fun z => z == (q : Int)) := fun l => by rw [List.any_map]; rfl
  rw [h, h, map_set_same (·.queue) hi e]
end Go.Proofs.YtdmjcjheanedgaaDoor
namespace Go.Proofs.YtdmjcjheanedgaaDoor
open Go.RowKit
abbrev cLvl (m : Lvl) : Array Value := #[.int .i64 m.price, .int .i64 m.qty, .int .i64 m.orders, .int .i64 m.queue]
abbrev vLvl (m : Lvl) : Value := .agg (cLvl m)
/-- Whether two are the same. -/
def eqLvl (a b : Lvl) : Bool := a.price == b.price && a.qty == b.qty && a.orders == b.orders && a.queue == b.queue
theorem Lvl.cells {w : World} {b : Nat} {T : TypeId} {m : Lvl} (h : Blk w b T (cLvl m)) : w.cell? ⟨b, 0, none⟩ = some (.int .i64 m.price) ∧ w.cell? ⟨b, 1, none⟩ = some (.int .i64 m.qty) ∧ w.cell? ⟨b, 2, none⟩ = some (.int .i64 m.orders) ∧ w.cell? ⟨b, 3, none⟩ = some (.int .i64 m.queue) :=
  ⟨h.cell_eq 0 _ rfl, h.cell_eq 1 _ rfl, h.cell_eq 2 _ rfl, h.cell_eq 3 _ rfl⟩
theorem Lvl.below {B : Nat} {W w : World} {b : Nat} (h : Below B W w) (hb : B ≤ b) (v0 v1 v2 v3 : Value) : Below B W ((((w.setCell ⟨b, 0, none⟩ v0).setCell ⟨b, 1, none⟩ v1).setCell ⟨b, 2, none⟩ v2).setCell ⟨b, 3, none⟩ v3) := by
  have h0 := h.setCell (p := ⟨b, 0, none⟩) hb v0
  have h1 := h0.setCell (p := ⟨b, 1, none⟩) hb v1
  have h2 := h1.setCell (p := ⟨b, 2, none⟩) hb v2
  have h3 := h2.setCell (p := ⟨b, 3, none⟩) hb v3
  exact h3
theorem Lvl.frm {S : Nat → Prop} {W w : World} {b : Nat} (h : Frm S W w) (hb : S b ∨ W.heap.size ≤ b) (v0 v1 v2 v3 : Value) : Frm S W ((((w.setCell ⟨b, 0, none⟩ v0).setCell ⟨b, 1, none⟩ v1).setCell ⟨b, 2, none⟩ v2).setCell ⟨b, 3, none⟩ v3) := by
  have h0 := h.setCell ⟨b, 0, none⟩ v0 hb
  have h1 := h0.setCell ⟨b, 1, none⟩ v1 hb
  have h2 := h1.setCell ⟨b, 2, none⟩ v2 hb
  have h3 := h2.setCell ⟨b, 3, none⟩ v3 hb
  exact h3
theorem Lvl.lay {w : World} {b : Nat} {T : TypeId} {m : Lvl} (h : Blk w b T (cLvl m)) (v0 v1 v2 v3 : Int) : Blk ((((w.setCell ⟨b, 0, none⟩ (.int .i64 v0)).setCell ⟨b, 1, none⟩ (.int .i64 v1)).setCell ⟨b, 2, none⟩ (.int .i64 v2)).setCell ⟨b, 3, none⟩ (.int .i64 v3)) b T (cLvl ⟨v0, v1, v2, v3⟩) := by
  have h0 : Blk _ b T (cLvl ⟨v0, m.qty, m.orders, m.queue⟩) := h.set 0 (.int .i64 v0)
  have h1 : Blk _ b T (cLvl ⟨v0, v1, m.orders, m.queue⟩) := h0.set 1 (.int .i64 v1)
  have h2 : Blk _ b T (cLvl ⟨v0, v1, v2, m.queue⟩) := h1.set 2 (.int .i64 v2)
  have h3 : Blk _ b T (cLvl ⟨v0, v1, v2, v3⟩) := h2.set 3 (.int .i64 v3)
  exact h3
section
open Go.ChangeShapes Go.WideShapes Go.ChangeAt Go.Deep
variable {H : Type} {enc' : TypeId × Value → H} {w : World} {base : Nat} {spare : Nat → Bool} {held : Bool}
end
/-- A slice of them, to be read. -/
structure Lvls (w : World) (ao : Option Addr) (cap : Nat) (l : List Lvl) : Prop where
  len : l.length ≤ cap
  top : cap ≤ maxLen
  at' : l = [] ∨ ∃ b off, ao = some ⟨b, off, none⟩ ∧ ∀ (i : Nat) (m : Lvl), l[i]? = some m → ∀ (j : Nat) (v : Value), (cLvl m)[j]? = some v → w.cell? ⟨b, off + i * 4 + j, none⟩ = some v
theorem Lvls.nil (w : World) : Lvls w none 0 [] := ⟨Nat.le_refl _, Nat.zero_le _, .inl rfl⟩
theorem Lvls.below {w w' : World} {ao : Option Addr} {cap : Nat} {l : List Lvl} (h : Lvls w ao cap l) (hb : Below w.heap.size w w') : Lvls w' ao cap l := by
  refine ⟨h.len, h.top, ?_⟩
  rcases h.at' with h0 | ⟨b, off, ha, hl⟩
  · exact .inl h0
  · refine .inr ⟨b, off, ha, fun i m hi j v hj => ?_⟩
    have hc := hl i m hi j v hj
    have hlt : b < w.heap.size := World.block_lt_of_cell? w ⟨b, off + i * 4 + j, none⟩ hc
    exact (World.cell?_of_block (a := ⟨b, off + i * 4 + j, none⟩) (hb.block b hlt)).trans hc
/-- One of them. -/
theorem Lvls.get {w : World} {ao : Option Addr} {cap : Nat} {l : List Lvl} (h : Lvls w ao cap l) {i : Nat} {m : Lvl} (hi : l[i]? = some m) :
    ∃ b off, ao = some ⟨b, off, none⟩ ∧ w.cell? ⟨b, off + i * 4 + 0, none⟩ = some (.int .i64 m.price) ∧ w.cell? ⟨b, off + i * 4 + 1, none⟩ = some (.int .i64 m.qty) ∧ w.cell? ⟨b, off + i * 4 + 2, none⟩ = some (.int .i64 m.orders) ∧ w.cell? ⟨b, off + i * 4 + 3, none⟩ = some (.int .i64 m.queue) := by
  rcases h.at' with h0 | ⟨b, off, ha, hl⟩
  · subst h0; simp at hi
  · exact ⟨b, off, ha, hl i m hi 0 _ rfl, hl i m hi 1 _ rfl, hl i m hi 2 _ rfl, hl i m hi 3 _ rfl⟩
/-- What is owned is read. -/
theorem Lvls.of_own {E : TypeId} {w : World} {ko : Option Nat} {ao : Option Addr} {cap : Nat} {l : List Lvl} (h : OwG E 4 w ko ao cap l.length (l.flatMap fun m => (cLvl m).toList)) : Lvls w ao cap l := by
  refine ⟨h.len, h.top, ?_⟩
  by_cases h0 : l = []
  · exact .inl h0
  · have hcell := fun j v hj => h.cell j v hj
    have at1 : ∀ (l : List Lvl) (i : Nat) (m : Lvl), l[i]? = some m → ∀ (j : Nat) (v : Value), (cLvl m)[j]? = some v → (l.flatMap fun m => (cLvl m).toList)[i * 4 + j]? = some v := by
      intro l
      induction l with
      | nil => intro i m hi; simp at hi
      | cons x t ih =>
        intro i m hi j v hj
        have hx : ((cLvl x).toList).length = 4 := rfl
        rw [List.flatMap_cons]
        cases i with
        | zero =>
          obtain rfl : x = m := by simpa using hi
          have hlt : j < 4 := by
            have := (Array.getElem?_eq_some_iff.1 hj).1
            simpa using this
          rw [List.getElem?_append_left (by rw [hx]; omega), Nat.zero_mul, Nat.zero_add]
          simpa using hj
        | succ i =>
          rw [List.getElem?_append_right (by rw [hx]; omega), hx, show (i + 1) * 4 + j - 4 = i * 4 + j by omega]
          exact ih i m (by simpa using hi) j v hj
    cases l with
    | nil => exact absurd rfl h0
    | cons x t =>
      obtain ⟨k, _, hao, _, _⟩ := hcell 0 (.int .i64 x.price) rfl
      refine .inr ⟨k, 0, hao, fun i m hi j v hj => ?_⟩
      obtain ⟨k2, _, hao2, hc, _⟩ := hcell _ _ (at1 _ i m hi j v hj)
      rw [hao] at hao2
      cases hao2
      rw [Nat.zero_add]
      exact hc
section
open Go.ChangeShapes Go.WideShapes Go.ChangeAt Go.Deep
variable {H : Type} {enc' : TypeId × Value → H} {w : World} {base : Nat} {spare : Nat → Bool} {held : Bool}
end
end Go.Proofs.YtdmjcjheanedgaaDoor
