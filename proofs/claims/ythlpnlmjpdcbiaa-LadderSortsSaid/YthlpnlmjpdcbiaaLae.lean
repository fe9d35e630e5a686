/-
  What is done to the levels of a side, and what it answers, in plain lists. (No Go text.)
-/
import Derived.Test.YthlpnlmjpdcbiaaLad
namespace Go.Proofs.Ythlpnlmjpdcbiaa
/-- The least queue that no level has. -/
noncomputable def freeQ (L : List Lvl) : Nat := Classical.choose (Free.exists L)
theorem freeQ_free (L : List Lvl) : Free L (freeQ L) := Classical.choose_spec (Free.exists L)
theorem Free.eq {L : List Lvl} {q : Nat} (h : Free L q) : freeQ L = q := (freeQ_free L).uni h
theorem freeQ_perm {L P : List Lvl} (h : P.Perm L) : freeQ P = freeQ L := ((freeQ_free L).perm h).eq
/-- The level at a place. -/
def Ld.at (s : Ld) (i : Nat) : Lvl := s.L[i]?.getD .zero
theorem Ld.at_eq {s : Ld} {i : Nat} {x : Lvl} (h : s.L[i]? = some x) : s.at i = x := by simp [Ld.at, h]
/-- A level with one more order. -/
def Lvl.add (x : Lvl) (q : Int) : Lvl := ⟨x.price, x.qty + q, x.orders + 1, x.queue⟩
/-- A level with less. -/
def Lvl.sub (x : Lvl) (q : Int) (gone : Bool) : Lvl := ⟨x.price, x.qty - q, if gone then x.orders - 1 else x.orders, x.queue⟩
/-- What Put answers: the queue and the fault. -/
noncomputable def Ld.putR (s : Ld) (p q : Int) : Int × Int :=
  if p < 1 ∨ q < 1 then (0, 9) else
    match s.find p with
    | some i => if (s.at i).qty + q < 9223372036854775808 then ((s.at i).queue, 0) else (0, 2)
    | none => if s.L.length < s.most then ((freeQ s.L : Nat), 0) else (0, 7)
noncomputable def Ld.putS (s : Ld) (p q : Int) : Ld :=
  if p < 1 ∨ q < 1 then s else
    match s.find p with
    | some i => if (s.at i).qty + q < 9223372036854775808 then ⟨s.buy, s.most, s.L.set i ((s.at i).add q)⟩ else s
    | none => if s.L.length < s.most then ⟨s.buy, s.most, s.L ++ [⟨p, q, 1, (freeQ s.L : Nat)⟩]⟩ else s
/-- What Take answers. -/
def Ld.takeR (s : Ld) (p q : Int) : Int × Int :=
  match s.find p with
  | some i => if q < 0 ∨ (s.at i).qty < q then (0, 9) else ((s.at i).queue, 0)
  | none => (0, 5)
def Ld.takeS (s : Ld) (p q : Int) (gone : Bool) : Ld :=
  match s.find p with
  | some i => if q < 0 ∨ (s.at i).qty < q then s else
      if ((s.at i).sub q gone).orders = 0 then ⟨s.buy, s.most, s.L.eraseIdx i⟩ else ⟨s.buy, s.most, s.L.set i ((s.at i).sub q gone)⟩
  | none => s
/-- What Find answers. -/
def Ld.findV (s : Ld) (p : Int) : Lvl := match s.find p with
  | some i => s.at i
  | none => .zero
def Ld.fits (s : Ld) (p : Int) : Bool := (s.find p).isSome || decide (s.L.length < s.most)
/-- All quantities. -/
def sumL : List Lvl → Int
  | [] => 0
  | x :: t => x.qty + sumL t
/-- The quantities of some. -/
def wsum (f : Lvl → Bool) (l : List Lvl) : Int := sumL (l.filter f)
def Ld.worth (s : Ld) (lim : Int) : Int := min (wsum (fun x => !btr s.buy lim x.price) s.L) 4611686018427387904
theorem sumL_append (a b : List Lvl) : sumL (a ++ b) = sumL a + sumL b := by
  induction a with
  | nil => simp [sumL]
  | cons x t ih => simp only [List.cons_append, sumL, ih]; omega
theorem sumL_perm {a b : List Lvl} (h : a.Perm b) : sumL a = sumL b := by
  induction h with
  | nil => rfl
  | cons x _ ih => simp only [sumL, ih]
  | swap x y l => simp only [sumL]; omega
  | trans _ _ h1 h2 => exact h1.trans h2
theorem sumL_pos {l : List Lvl} (h : ∀ x ∈ l, 0 ≤ x.qty) : 0 ≤ sumL l := by
  induction l with
  | nil => exact Int.le_refl _
  | cons x t ih =>
    have h1 := h x (by simp)
    have h2 := ih fun y hy => h y (by simp [hy])
    simp only [sumL]
    omega
theorem wsum_perm {f : Lvl → Bool} {a b : List Lvl} (h : a.Perm b) : wsum f a = wsum f b := sumL_perm (h.filter f)
theorem wsum_nil (f : Lvl → Bool) : wsum f [] = 0 := rfl
theorem wsum_zero (f : Lvl → Bool) (l : List Lvl) : wsum f (l.take 0) = 0 := rfl
theorem wsum_step {f : Lvl → Bool} {l : List Lvl} {n : Nat} {x : Lvl} (h : l[n]? = some x) : wsum f (l.take (n + 1)) = wsum f (l.take n) + if f x then x.qty else 0 := by
  rw [List.take_add_one, h]
  simp only [wsum, List.filter_append, sumL_append, Option.toList_some]
  cases h : f x <;> simp [sumL, h]
theorem wsum_le {f : Lvl → Bool} {l : List Lvl} (h : ∀ x ∈ l, 0 ≤ x.qty) (n : Nat) : wsum f (l.take n) ≤ wsum f l := by
  have e : wsum f l = wsum f (l.take n) + wsum f (l.drop n) := by
    unfold wsum
    rw [← sumL_append, ← List.filter_append, List.take_append_drop]
  have g : 0 ≤ wsum f (l.drop n) := sumL_pos fun x hx => h x (List.mem_of_mem_drop (List.mem_filter.1 hx).1)
  omega
theorem wsum_pos {f : Lvl → Bool} {l : List Lvl} (h : ∀ x ∈ l, 0 ≤ x.qty) : 0 ≤ wsum f l := sumL_pos fun x hx => h x (List.mem_filter.1 hx).1
/-- In the ordered list the first that does not count ends what counts. -/
theorem wsum_stop {buy : Bool} {P : List Lvl} (h : Std buy P) {lim : Int} {n : Nat} {x : Lvl} (hx : P[n]? = some x) (hf : btr buy lim x.price = true) : wsum (fun x => !btr buy lim x.price) (P.take n) = wsum (fun x => !btr buy lim x.price) P := by
  have e : (P.drop n).filter (fun x => !btr buy lim x.price) = [] := by
    refine List.filter_eq_nil_iff.2 fun y hy => ?_
    obtain ⟨j, hj⟩ := List.mem_iff_getElem?.1 hy
    rw [List.getElem?_drop] at hj
    rcases Nat.eq_zero_or_pos j with rfl | hp
    · rw [Nat.add_zero, hx] at hj
      cases hj
      simp [hf]
    · simp [btr_trans hf (h.get_lt hx hj (by omega))]
  unfold wsum
  conv => rhs; rw [← List.take_append_drop n P, List.filter_append, e, List.append_nil]
theorem Ord.worth {s : Ld} {P : List Lvl} (h : Ord s.buy s.L P) (lim : Int) : s.worth lim = min (wsum (fun x => !btr s.buy lim x.price) P) 4611686018427387904 := by
  unfold Ld.worth
  rw [wsum_perm h.perm]
/-- A sum that leaves an int64 on its way. -/
theorem worth_over {f : Lvl → Bool} {l : List Lvl} (h : ∀ x ∈ l, 0 ≤ x.qty) {n : Nat} {x : Lvl} (hx : l[n]? = some x) (hf : f x = true) (ho : 4611686018427387904 ≤ wsum f (l.take n) + x.qty) : min (wsum f l) 4611686018427387904 = 4611686018427387904 := by
  have h1 := wsum_step (f := f) hx
  rw [hf, if_pos rfl] at h1
  have h2 := wsum_le (f := f) h (n + 1)
  omega

/-! What stays. -/
theorem map_set_same {α β : Type} (f : α → β) {L : List α} {i : Nat} {x y : α} (hi : L[i]? = some x) (e : f y = f x) : (L.set i y).map f = L.map f := by
  refine List.ext_getElem? fun j => ?_
  rw [List.getElem?_map, List.getElem?_map, List.getElem?_set]
  split
  · next h =>
    subst h
    obtain ⟨hl, rfl⟩ := List.getElem?_eq_some_iff.1 hi
    simp [hl, e]
  · rfl
theorem pw_map {β : Type} (f : Lvl → β) (L : List Lvl) : (L.Pairwise fun a b => f a ≠ f b) ↔ (L.map f).Pairwise fun a b => a ≠ b := by rw [List.pairwise_map]
theorem Ld.new_wf (buy : Bool) (most : Nat) : (Ld.mk buy most []).Wf 0 :=
  ⟨Nat.zero_le _, fun _ h => absurd h List.not_mem_nil, fun _ h => absurd h List.not_mem_nil, fun _ h => absurd h List.not_mem_nil, fun _ h => absurd h List.not_mem_nil, .nil, .nil⟩
theorem Ld.Wf.mono {k m : Nat} {s : Ld} (h : s.Wf k) (hk : k ≤ m) : s.Wf m :=
  ⟨h.len, h.price, h.qty, fun x hx => by have := h.orders x hx; omega, h.queue, h.uniP, h.uniQ⟩
theorem Ld.Wf.set {k m : Nat} {s : Ld} (h : s.Wf k) {i : Nat} {x y : Lvl} (hi : s.L[i]? = some x) (e1 : y.price = x.price) (e2 : y.queue = x.queue) (h1 : 0 ≤ y.qty ∧ y.qty < 9223372036854775808) (h2 : 1 ≤ y.orders ∧ y.orders ≤ m) (hk : k ≤ m) : (Ld.mk s.buy s.most (s.L.set i y)).Wf m := by
  have hx := List.mem_of_getElem? hi
  refine ⟨by simpa using h.len, ?_, ?_, ?_, ?_, ?_, ?_⟩
  · intro z hz
    rcases List.mem_or_eq_of_mem_set hz with g | rfl
    · exact h.price z g
    · rw [e1]; exact h.price x hx
  · intro z hz
    rcases List.mem_or_eq_of_mem_set hz with g | rfl
    · exact h.qty z g
    · exact h1
  · intro z hz
    rcases List.mem_or_eq_of_mem_set hz with g | rfl
    · have := h.orders z g; omega
    · exact h2
  · intro z hz
    rcases List.mem_or_eq_of_mem_set hz with g | rfl
    · exact h.queue z g
    · rw [e2]; exact h.queue x hx
  · rw [pw_map (·.price), map_set_same (·.price) hi e1, ← pw_map (·.price)]
    exact h.uniP
  · rw [pw_map (·.queue), map_set_same (·.queue) hi e2, ← pw_map (·.queue)]
    exact h.uniQ
theorem Ld.Wf.erase {k : Nat} {s : Ld} (h : s.Wf k) (i : Nat) : (Ld.mk s.buy s.most (s.L.eraseIdx i)).Wf k := by
  have hm : ∀ {z}, z ∈ s.L.eraseIdx i → z ∈ s.L := fun hz => List.mem_of_mem_eraseIdx hz
  refine ⟨Nat.le_trans (List.eraseIdx_sublist _ _).length_le h.len, fun z hz => h.price z (hm hz), fun z hz => h.qty z (hm hz), fun z hz => h.orders z (hm hz), fun z hz => h.queue z (hm hz), h.uniP.sublist (List.eraseIdx_sublist _ _), h.uniQ.sublist (List.eraseIdx_sublist _ _)⟩
theorem Ld.Wf.app {k : Nat} {s : Ld} (h : s.Wf k) {p q : Int} (hp : 1 ≤ p ∧ p < 9223372036854775808) (hq : 1 ≤ q ∧ q < 9223372036854775808) (hn : ∀ x ∈ s.L, x.price ≠ p) (hl : s.L.length < s.most) : (Ld.mk s.buy s.most (s.L ++ [⟨p, q, 1, (freeQ s.L : Nat)⟩])).Wf (k + 1) := by
  have hf := freeQ_free s.L
  have hle := hf.le
  refine ⟨by simp; omega, ?_, ?_, ?_, ?_, ?_, ?_⟩
  · intro z hz
    rcases List.mem_append.1 hz with g | g
    · exact h.price z g
    · rw [List.mem_singleton.1 g]; exact hp
  · intro z hz
    rcases List.mem_append.1 hz with g | g
    · exact h.qty z g
    · rw [List.mem_singleton.1 g]; exact ⟨by simp only; omega, hq.2⟩
  · intro z hz
    rcases List.mem_append.1 hz with g | g
    · have := h.orders z g; omega
    · rw [List.mem_singleton.1 g]; exact ⟨Int.le_refl _, by simp only; omega⟩
  · intro z hz
    rcases List.mem_append.1 hz with g | g
    · exact h.queue z g
    · rw [List.mem_singleton.1 g]; simp only; omega
  · refine List.pairwise_append.2 ⟨h.uniP, List.pairwise_singleton _ _, fun a ha b hb => ?_⟩
    rw [List.mem_singleton.1 hb]
    exact hn a ha
  · refine List.pairwise_append.2 ⟨h.uniQ, List.pairwise_singleton _ _, fun a ha b hb => ?_⟩
    rw [List.mem_singleton.1 hb]
    exact hf.1 a ha
theorem Ld.Wf.put {k : Nat} {s : Ld} (h : s.Wf k) {p q : Int} (hp : p < 9223372036854775808) (hq : q < 9223372036854775808) : (s.putS p q).Wf (k + 1) := by
  unfold Ld.putS
  split
  · exact h.mono (Nat.le_succ k)
  · next hpq =>
    split
    · next i hi =>
      obtain ⟨x, hx, rfl, -⟩ := Ld.find_some hi
      rw [Ld.at_eq hx]
      have h1 := h.qty x (List.mem_of_getElem? hx)
      have h2 := h.orders x (List.mem_of_getElem? hx)
      split
      · exact h.set hx rfl rfl ⟨by simp only [Lvl.add]; omega, by simp only [Lvl.add]; omega⟩ ⟨by simp only [Lvl.add]; omega, by simp only [Lvl.add]; omega⟩ (Nat.le_succ k)
      · exact h.mono (Nat.le_succ k)
    · next hi =>
      split
      · exact h.app ⟨by omega, hp⟩ ⟨by omega, hq⟩ (Ld.find_none hi) (by assumption)
      · exact h.mono (Nat.le_succ k)
theorem Ld.Wf.take {k : Nat} {s : Ld} (h : s.Wf k) (p q : Int) (gone : Bool) : (s.takeS p q gone).Wf k := by
  unfold Ld.takeS
  split
  · next i hi =>
    obtain ⟨x, hx, rfl, -⟩ := Ld.find_some hi
    rw [Ld.at_eq hx]
    have h1 := h.qty x (List.mem_of_getElem? hx)
    have h2 := h.orders x (List.mem_of_getElem? hx)
    split
    · exact h
    · split
      · exact h.erase i
      · next hq ho =>
        refine h.set hx rfl rfl ⟨by simp only [Lvl.sub]; omega, by simp only [Lvl.sub]; omega⟩ ?_ (Nat.le_refl k)
        cases gone <;> simp [Lvl.sub] at ho ⊢ <;> omega
  · exact h

/-! The same done to the ordered list. -/
theorem Ord.putOld {s : Ld} {P : List Lvl} (h : Ord s.buy s.L P) {p q : Int} {i : Nat} (hf : s.find p = some i) : P[plc s.buy P p]? = some (s.at i) ∧ (s.at i).price = p ∧ Ord s.buy (s.L.set i ((s.at i).add q)) (P.set (plc s.buy P p) ((s.at i).add q)) := by
  obtain ⟨x, hx, e, hk⟩ := h.found hf
  rw [Ld.at_eq hx]
  exact ⟨hk, e, h.set hx hk rfl⟩
theorem Ord.putNew {s : Ld} {P : List Lvl} (h : Ord s.buy s.L P) {p : Int} (hf : s.find p = none) {x : Lvl} (e : x.price = p) : Ord s.buy (s.L ++ [x]) (P.take (plc s.buy P p) ++ x :: P.drop (plc s.buy P p)) := by
  subst e
  exact h.put (Ld.find_none hf)
theorem Ord.takeSet {s : Ld} {P : List Lvl} (h : Ord s.buy s.L P) {p : Int} (q : Int) (gone : Bool) {i : Nat} (hf : s.find p = some i) : Ord s.buy (s.L.set i ((s.at i).sub q gone)) (P.set (plc s.buy P p) ((s.at i).sub q gone)) := by
  obtain ⟨x, hx, e, hk⟩ := h.found hf
  rw [Ld.at_eq hx]
  exact h.set hx hk rfl
theorem Ord.takeDel {s : Ld} {P : List Lvl} (h : Ord s.buy s.L P) {p : Int} {i : Nat} (hf : s.find p = some i) : Ord s.buy (s.L.eraseIdx i) (P.eraseIdx (plc s.buy P p)) := by
  obtain ⟨x, hx, e, hk⟩ := h.found hf
  exact h.erase hx hk
end Go.Proofs.Ythlpnlmjpdcbiaa
