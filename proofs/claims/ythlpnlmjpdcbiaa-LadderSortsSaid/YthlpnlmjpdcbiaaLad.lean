/-
  The levels of a side, in plain lists: in the order in which they were made, and from the best one on. (No Go text.)
-/
import Derived.Test.YthlpnlmjpdcbiaaIn64
namespace Go.Proofs.Ythlpnlmjpdcbiaa
structure Lvl where
  price : Int
  qty : Int
  orders : Int
  queue : Int
deriving DecidableEq
def Lvl.zero : Lvl := ⟨0, 0, 0, 0⟩
structure Lvl.Fit (m : Lvl) : Prop where
  price : In64 m.price
  qty : In64 m.qty
  orders : In64 m.orders
  queue : In64 m.queue
/-- Whether a price is better than another one. -/
def btr (buy : Bool) (a b : Int) : Bool := if buy then decide (b < a) else decide (a < b)
theorem btr_irr (buy : Bool) (a : Int) : btr buy a a = false := by cases buy <;> simp [btr]
theorem btr_asym {buy : Bool} {a b : Int} (h : btr buy a b = true) : btr buy b a = false := by cases buy <;> simp [btr] at h ⊢ <;> omega
theorem btr_trans {buy : Bool} {a b c : Int} (h : btr buy a b = true) (k : btr buy b c = true) : btr buy a c = true := by cases buy <;> simp [btr] at h k ⊢ <;> omega
theorem btr_or {buy : Bool} {a b : Int} (h : btr buy a b = false) : a = b ∨ btr buy b a = true := by cases buy <;> simp [btr] at h ⊢ <;> omega
theorem btr_ne {buy : Bool} {a b : Int} (h : btr buy a b = true) : a ≠ b := by rintro rfl; simp [btr_irr] at h
/-- A side: how many levels there may be, and its levels, in the order in which they were made. -/
structure Ld where
  buy : Bool
  most : Nat
  L : List Lvl
/-- k: as many orders a level can have. -/
structure Ld.Wf (k : Nat) (s : Ld) : Prop where
  len : s.L.length ≤ s.most
  price : ∀ x ∈ s.L, 1 ≤ x.price ∧ x.price < 9223372036854775808
  qty : ∀ x ∈ s.L, 0 ≤ x.qty ∧ x.qty < 9223372036854775808
  orders : ∀ x ∈ s.L, 1 ≤ x.orders ∧ x.orders ≤ k
  queue : ∀ x ∈ s.L, 0 ≤ x.queue ∧ x.queue < s.most
  uniP : s.L.Pairwise fun a b => a.price ≠ b.price
  uniQ : s.L.Pairwise fun a b => a.queue ≠ b.queue
/-- Levels from the best one on. -/
abbrev Std (buy : Bool) (P : List Lvl) : Prop := P.Pairwise fun a b => btr buy a.price b.price = true
/-- The same levels, from the best one on. -/
structure Ord (buy : Bool) (L P : List Lvl) : Prop where
  perm : P.Perm L
  std : Std buy P
theorem Ord.nil (buy : Bool) : Ord buy [] [] := ⟨.refl _, .nil⟩
theorem Ord.uni {buy : Bool} {L P Q : List Lvl} (h : Ord buy L P) (k : Ord buy L Q) : P = Q := by
  refine List.Perm.eq_of_pairwise (le := fun a b => btr buy a.price b.price = true) ?_ h.std k.std (h.perm.trans k.perm.symm)
  intro a b _ _ h1 h2
  rw [btr_asym h1] at h2
  cases h2
theorem Ord.len {buy : Bool} {L P : List Lvl} (h : Ord buy L P) : P.length = L.length := h.perm.length_eq
theorem Ord.mem {buy : Bool} {L P : List Lvl} (h : Ord buy L P) {x : Lvl} : x ∈ P ↔ x ∈ L := h.perm.mem_iff
/-- A price occurs once. -/
theorem Std.get_uni {buy : Bool} {P : List Lvl} (h : Std buy P) {i j : Nat} {x y : Lvl} (hi : P[i]? = some x) (hj : P[j]? = some y) (e : x.price = y.price) : i = j := by
  obtain ⟨li, rfl⟩ := List.getElem?_eq_some_iff.1 hi
  obtain ⟨lj, rfl⟩ := List.getElem?_eq_some_iff.1 hj
  rcases Nat.lt_trichotomy i j with g | g | g
  · exact absurd e (btr_ne (List.pairwise_iff_getElem.1 h i j li lj g))
  · exact g
  · exact absurd e.symm (btr_ne (List.pairwise_iff_getElem.1 h j i lj li g))
theorem Std.get_lt {buy : Bool} {P : List Lvl} (h : Std buy P) {i j : Nat} {x y : Lvl} (hi : P[i]? = some x) (hj : P[j]? = some y) (hij : i < j) : btr buy x.price y.price = true := by
  obtain ⟨li, rfl⟩ := List.getElem?_eq_some_iff.1 hi
  obtain ⟨lj, rfl⟩ := List.getElem?_eq_some_iff.1 hj
  exact List.pairwise_iff_getElem.1 h i j li lj hij
theorem Std.take {buy : Bool} {P : List Lvl} (h : Std buy P) (k : Nat) : Std buy (P.take k) := h.sublist (List.take_sublist k P)
theorem Std.drop {buy : Bool} {P : List Lvl} (h : Std buy P) (k : Nat) : Std buy (P.drop k) := h.sublist (List.drop_sublist k P)
/-- A new level at its place. -/
theorem Std.ins {buy : Bool} {P : List Lvl} (h : Std buy P) {x : Lvl} {k : Nat} (h1 : ∀ y ∈ P.take k, btr buy y.price x.price = true) (h2 : ∀ y ∈ P.drop k, btr buy x.price y.price = true) : Std buy (P.take k ++ x :: P.drop k) := by
  refine List.pairwise_append.2 ⟨h.take k, List.pairwise_cons.2 ⟨h2, h.drop k⟩, ?_⟩
  intro a ha b hb
  rcases List.mem_cons.1 hb with rfl | hb
  · exact h1 a ha
  · exact btr_trans (h1 a ha) (h2 b hb)
theorem Ord.ins {buy : Bool} {L P : List Lvl} (h : Ord buy L P) {x : Lvl} {k : Nat} (h1 : ∀ y ∈ P.take k, btr buy y.price x.price = true) (h2 : ∀ y ∈ P.drop k, btr buy x.price y.price = true) : Ord buy (L ++ [x]) (P.take k ++ x :: P.drop k) := by
  refine ⟨?_, h.std.ins h1 h2⟩
  refine List.perm_middle.trans ?_
  rw [List.take_append_drop]
  exact (h.perm.cons x).trans (List.perm_append_singleton x L).symm
/-- A list without the element at a place, and the element ahead. -/
theorem perm_erase {α : Type} {P : List α} {k : Nat} {x : α} (hk : P[k]? = some x) : P.Perm (x :: P.eraseIdx k) := by
  obtain ⟨lk, rfl⟩ := List.getElem?_eq_some_iff.1 hk
  rw [List.eraseIdx_eq_take_drop_succ]
  have e : P = P.take k ++ P[k] :: P.drop (k + 1) := by
    rw [← List.drop_eq_getElem_cons lk, List.take_append_drop]
  exact (List.Perm.of_eq e).trans List.perm_middle
theorem perm_set {α : Type} {P : List α} {k : Nat} {x y : α} (hk : P[k]? = some x) : (P.set k y).Perm (y :: P.eraseIdx k) := by
  obtain ⟨lk, rfl⟩ := List.getElem?_eq_some_iff.1 hk
  rw [List.eraseIdx_eq_take_drop_succ, List.set_eq_take_append_cons_drop, if_pos lk]
  exact List.perm_middle
theorem Ord.erase {buy : Bool} {L P : List Lvl} (h : Ord buy L P) {x : Lvl} {i k : Nat} (hi : L[i]? = some x) (hk : P[k]? = some x) : Ord buy (L.eraseIdx i) (P.eraseIdx k) :=
  ⟨((perm_erase hk).symm.trans (h.perm.trans (perm_erase hi))).cons_inv, h.std.sublist (List.eraseIdx_sublist P k)⟩
theorem Ord.set {buy : Bool} {L P : List Lvl} (h : Ord buy L P) {x y : Lvl} {i k : Nat} (hi : L[i]? = some x) (hk : P[k]? = some x) (e : y.price = x.price) : Ord buy (L.set i y) (P.set k y) := by
  refine ⟨?_, ?_⟩
  · exact (perm_set hk).trans ((((perm_erase hk).symm.trans (h.perm.trans (perm_erase hi))).cons_inv.cons y).trans (perm_set hi).symm)
  · refine List.pairwise_iff_getElem.2 fun a b la lb hab => ?_
    simp only [List.length_set] at la lb
    have g := List.pairwise_iff_getElem.1 h.std a b la lb hab
    obtain ⟨lk, rfl⟩ := List.getElem?_eq_some_iff.1 hk
    simp only [List.getElem_set]
    by_cases ha : k = a
    · subst ha
      have hb : ¬ k = b := by omega
      simp only [if_true, if_neg hb, e]
      exact g
    · by_cases hb : k = b
      · subst hb
        simp only [if_neg ha, if_true, e]
        exact g
      · simp only [if_neg ha, if_neg hb]
        exact g
/-- The place of a price: those before are better, what is there or behind is not. -/
def plc (buy : Bool) (P : List Lvl) (p : Int) : Nat := (P.takeWhile fun x => btr buy x.price p).length
theorem take_tw {α : Type} (f : α → Bool) : ∀ (l : List α), l.take (l.takeWhile f).length = l.takeWhile f ∧ l.drop (l.takeWhile f).length = l.dropWhile f
  | [] => ⟨rfl, rfl⟩
  | a :: l => by
    cases h : f a with
    | false => simp [h]
    | true => simp [h, take_tw f l]
theorem plc_le (buy : Bool) (P : List Lvl) (p : Int) : plc buy P p ≤ P.length := (List.takeWhile_sublist _).length_le
theorem plc_before {buy : Bool} {P : List Lvl} {p : Int} : ∀ y ∈ P.take (plc buy P p), btr buy y.price p = true := by
  intro y hy
  unfold plc at hy
  rw [(take_tw _ P).1] at hy
  exact (List.all_eq_true.1 List.all_takeWhile) y hy
theorem plc_lt {buy : Bool} {P : List Lvl} {p : Int} {i : Nat} {y : Lvl} (h : i < plc buy P p) (hi : P[i]? = some y) : btr buy y.price p = true :=
  plc_before y (List.mem_of_getElem? (i := i) (by rw [List.getElem?_take, if_pos h, hi]))
theorem plc_at {buy : Bool} {P : List Lvl} {p : Int} {y : Lvl} (hi : P[plc buy P p]? = some y) : btr buy y.price p = false := by
  have e := (take_tw (fun x : Lvl => btr buy x.price p) P).2
  have h : (P.drop (plc buy P p))[0]? = some y := by rw [List.getElem?_drop]; simpa using hi
  unfold plc at h
  rw [e] at h
  cases hd : P.dropWhile (fun x : Lvl => btr buy x.price p) with
  | nil => rw [hd] at h; cases h
  | cons z t =>
    rw [hd] at h
    have := List.head?_dropWhile_not (fun x : Lvl => btr buy x.price p) P
    rw [hd] at this
    cases h
    simpa using this
theorem Std.plc_after {buy : Bool} {P : List Lvl} (h : Std buy P) {p : Int} {i : Nat} {y : Lvl} (hi : P[i]? = some y) (hk : plc buy P p ≤ i) : btr buy y.price p = false := by
  obtain ⟨li, -⟩ := List.getElem?_eq_some_iff.1 hi
  have g : P[plc buy P p]? = some P[plc buy P p] := List.getElem?_eq_getElem (by omega)
  have e := plc_at g
  rcases Nat.eq_or_lt_of_le hk with k | k
  · subst k
    exact plc_at hi
  · have := h.get_lt g hi k
    cases hb : btr buy y.price p with
    | false => rfl
    | true => rw [btr_trans this hb] at e; cases e
/-- A number that is at the place of a price (for a search that halves). -/
theorem plc_uni {buy : Bool} {P : List Lvl} {p : Int} {k : Nat} (hk : k ≤ P.length) (h1 : ∀ i y, i < k → P[i]? = some y → btr buy y.price p = true) (h2 : ∀ y, P[k]? = some y → btr buy y.price p = false) : plc buy P p = k := by
  have hl := plc_le buy P p
  rcases Nat.lt_trichotomy (plc buy P p) k with g | g | g
  · have e : P[plc buy P p]? = some P[plc buy P p] := List.getElem?_eq_getElem (by omega)
    have a := h1 _ _ g e
    rw [plc_at e] at a
    cases a
  · exact g
  · have e : P[k]? = some P[k] := List.getElem?_eq_getElem (by omega)
    have a := plc_lt g e
    rw [h2 _ e] at a
    cases a
/-- The level of a price stands at the place of its price. -/
theorem Std.plc_of {buy : Bool} {P : List Lvl} (h : Std buy P) {k : Nat} {x : Lvl} (hk : P[k]? = some x) : plc buy P x.price = k := by
  refine plc_uni (by obtain ⟨l, -⟩ := List.getElem?_eq_some_iff.1 hk; omega) (fun i y hi hy => h.get_lt hy hk hi) (fun y hy => ?_)
  rw [hk] at hy
  cases hy
  exact btr_irr _ _
theorem Std.plc_none {buy : Bool} {P : List Lvl} (h : Std buy P) {p : Int} (hn : ∀ x ∈ P, x.price ≠ p) : ∀ y ∈ P.drop (plc buy P p), btr buy p y.price = true := by
  intro y hy
  obtain ⟨j, hj⟩ := List.mem_iff_getElem?.1 hy
  rw [List.getElem?_drop] at hj
  rcases btr_or (h.plc_after hj (Nat.le_add_right _ _)) with e | e
  · exact absurd e (hn y (List.mem_of_getElem? hj))
  · exact e
/-- A new level at the place of its price. -/
theorem Ord.put {buy : Bool} {L P : List Lvl} (h : Ord buy L P) {x : Lvl} (hn : ∀ y ∈ L, y.price ≠ x.price) : Ord buy (L ++ [x]) (P.take (plc buy P x.price) ++ x :: P.drop (plc buy P x.price)) :=
  h.ins plc_before (h.std.plc_none fun y hy => hn y (h.mem.1 hy))
/-- The levels one by one laid into an ordered list, as an insertion sort does it. -/
theorem Ord.more {buy : Bool} {L P : List Lvl} {i : Nat} {x : Lvl} (h : Ord buy (L.take i) P) (hi : L[i]? = some x) (hn : ∀ j y, j < i → L[j]? = some y → y.price ≠ x.price) : Ord buy (L.take (i + 1)) (P.take (plc buy P x.price) ++ x :: P.drop (plc buy P x.price)) := by
  have e : L.take (i + 1) = L.take i ++ [x] := by rw [List.take_add_one, hi]; rfl
  rw [e]
  refine h.put fun y hy => ?_
  obtain ⟨j, hj⟩ := List.mem_iff_getElem?.1 hy
  rw [List.getElem?_take] at hj
  split at hj
  · exact hn j y (by assumption) hj
  · cases hj
theorem uniP_lt {L : List Lvl} (h : L.Pairwise fun a b => a.price ≠ b.price) {j i : Nat} {x y : Lvl} (hij : j < i) (hj : L[j]? = some y) (hi : L[i]? = some x) : y.price ≠ x.price := by
  obtain ⟨li, rfl⟩ := List.getElem?_eq_some_iff.1 hi
  obtain ⟨lj, rfl⟩ := List.getElem?_eq_some_iff.1 hj
  exact List.pairwise_iff_getElem.1 h j i lj li hij
/-- There is such an order. -/
theorem Ord.exists {buy : Bool} {L : List Lvl} (h : L.Pairwise fun a b => a.price ≠ b.price) : ∃ P, Ord buy L P := by
  have : ∀ n, n ≤ L.length → ∃ P, Ord buy (L.take n) P := by
    intro n
    induction n with
    | zero => intro _; exact ⟨[], by simpa using Ord.nil buy⟩
    | succ n ih =>
      intro hn
      obtain ⟨P, hP⟩ := ih (by omega)
      have hg : L[n]? = some L[n] := List.getElem?_eq_getElem (by omega)
      exact ⟨_, hP.more hg fun j y hj hy => uniP_lt h hj hy hg⟩
  obtain ⟨P, hP⟩ := this L.length (Nat.le_refl _)
  exact ⟨P, by simpa using hP⟩

/-! The level of a price. -/
def Ld.find (s : Ld) (p : Int) : Option Nat := s.L.findIdx? fun x => x.price == p
theorem Ld.find_some {s : Ld} {p : Int} {i : Nat} (h : s.find p = some i) : ∃ x, s.L[i]? = some x ∧ x.price = p ∧ ∀ j y, j < i → s.L[j]? = some y → y.price ≠ p := by
  obtain ⟨hl, h1, h2⟩ := List.findIdx?_eq_some_iff_getElem.1 h
  refine ⟨s.L[i], List.getElem?_eq_getElem hl, by simpa using h1, fun j y hj hy => ?_⟩
  obtain ⟨lj, rfl⟩ := List.getElem?_eq_some_iff.1 hy
  simpa using h2 j hj
theorem Ld.find_none {s : Ld} {p : Int} (h : s.find p = none) : ∀ x ∈ s.L, x.price ≠ p := by
  intro x hx
  simpa using List.findIdx?_eq_none_iff.1 h x hx
theorem Ld.find_at {s : Ld} {p : Int} {i : Nat} {x : Lvl} (hi : s.L[i]? = some x) (e : x.price = p) (hn : ∀ j y, j < i → s.L[j]? = some y → y.price ≠ p) : s.find p = some i := by
  obtain ⟨hl, rfl⟩ := List.getElem?_eq_some_iff.1 hi
  refine List.findIdx?_eq_some_iff_getElem.2 ⟨hl, by simpa using e, fun j hj => ?_⟩
  simpa using hn j _ hj (List.getElem?_eq_getElem (by omega))
theorem Ld.find_no {s : Ld} {p : Int} (h : ∀ x ∈ s.L, x.price ≠ p) : s.find p = none :=
  List.findIdx?_eq_none_iff.2 fun x hx => by simpa using h x hx
/-- In the ordered list the level of a price stands at the price's place, if there is one. -/
theorem Ord.found {s : Ld} {P : List Lvl} (h : Ord s.buy s.L P) {p : Int} {i : Nat} (hf : s.find p = some i) : ∃ x, s.L[i]? = some x ∧ x.price = p ∧ P[plc s.buy P p]? = some x := by
  obtain ⟨x, hx, rfl, -⟩ := Ld.find_some hf
  obtain ⟨k, hk⟩ := List.mem_iff_getElem?.1 (h.mem.2 (List.mem_of_getElem? hx))
  exact ⟨x, hx, rfl, by rw [h.std.plc_of hk]; exact hk⟩
theorem Ord.unfound {s : Ld} {P : List Lvl} (h : Ord s.buy s.L P) {p : Int} (hf : s.find p = none) : ∀ x, P[plc s.buy P p]? = some x → x.price ≠ p :=
  fun _ hx => Ld.find_none hf _ (h.mem.1 (List.mem_of_getElem? hx))

/-! The least queue that no level has. -/
def Free (L : List Lvl) (q : Nat) : Prop := (∀ x ∈ L, x.queue ≠ q) ∧ ∀ p : Nat, p < q → ∃ x ∈ L, x.queue = p
theorem Free.uni {L : List Lvl} {q r : Nat} (h : Free L q) (k : Free L r) : q = r := by
  rcases Nat.lt_trichotomy q r with g | g | g
  · obtain ⟨x, hx, e⟩ := k.2 q g
    exact absurd e (h.1 x hx)
  · exact g
  · obtain ⟨x, hx, e⟩ := h.2 r g
    exact absurd e (k.1 x hx)
theorem Free.perm {L P : List Lvl} {q : Nat} (h : Free L q) (e : P.Perm L) : Free P q :=
  ⟨fun x hx => h.1 x (e.mem_iff.1 hx), fun p hp => by obtain ⟨x, hx, k⟩ := h.2 p hp; exact ⟨x, e.mem_iff.2 hx, k⟩⟩
/-- As many numbers as there are in the list, at most, lie below a free one. -/
theorem runs_le : ∀ (q : Nat) (L : List Lvl), (∀ p : Nat, p < q → ∃ x ∈ L, x.queue = p) → q ≤ L.length
  | 0, _, _ => Nat.zero_le _
  | q + 1, L, h => by
    obtain ⟨x, hx, e⟩ := h q (Nat.lt_succ_self q)
    obtain ⟨k, hk⟩ := List.mem_iff_getElem?.1 hx
    have hl := (List.getElem?_eq_some_iff.1 hk).1
    have := runs_le q (L.eraseIdx k) fun p hp => by
      obtain ⟨y, hy, e'⟩ := h p (by omega)
      refine ⟨y, ?_, e'⟩
      rcases List.mem_cons.1 ((perm_erase hk).mem_iff.1 hy) with rfl | g
      · omega
      · exact g
    rw [List.length_eraseIdx, if_pos hl] at this
    omega
theorem Free.le {L : List Lvl} {q : Nat} (h : Free L q) : q ≤ L.length := runs_le q L h.2
theorem Free.exists (L : List Lvl) : ∃ q, Free L q := by
  have : ∀ n, (∃ q, Free L q) ∨ ∀ p : Nat, p < n → ∃ x ∈ L, x.queue = p := by
    intro n
    induction n with
    | zero => exact .inr fun p hp => absurd hp (Nat.not_lt_zero p)
    | succ n ih =>
      rcases ih with h | h
      · exact .inl h
      · by_cases hx : ∃ x ∈ L, x.queue = n
        · refine .inr fun p hp => ?_
          rcases Nat.lt_succ_iff_lt_or_eq.1 hp with g | rfl
          · exact h p g
          · exact hx
        · exact .inl ⟨n, fun x hx' e => hx ⟨x, hx', e⟩, h⟩
  rcases this (L.length + 1) with h | h
  · exact h
  · have := runs_le _ _ h
    omega
end Go.Proofs.Ythlpnlmjpdcbiaa
