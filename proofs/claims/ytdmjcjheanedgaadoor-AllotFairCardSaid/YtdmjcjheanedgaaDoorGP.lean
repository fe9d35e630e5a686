/-
  The document's book in plain lists: orders in the order in which they were added; what its acts answer and leave; a side's orders by price and time. (No Go text.)
  Plain facts on a side's orders by price and time: their order, that it is one alone, what is left of them. (No Go text.)
  What holds of a book at any time, in plain lists. (No Go text.)
  A book as an arena, an index, ladders and queues hold it: the orders that rest, each with its slot, against the arena and the index; lists that are filtered. (No Go text.)
  The orders that rest, each with its slot, against one side's ladder. (No Go text.)
  The orders that rest, each with its slot, against the queues: side s's queue u is queue u, or lv + u. (No Go text.)
  What a side's ladder and the queues say of the side's orders: their order, the prices, the sums. (No Go text.)
  The book as arena, index, queues and ladders hold it: what each act does to all of them. (No Go text.)
-/
import Derived.Test.YtdmjcjheanedgaaDoorGB
import Derived.Test.YtdmjcjheanedgaaDoorGD
import Derived.Test.YtdmjcjheanedgaaDoorGO
import Derived.Test.YtdmjcjheanedgaaDoorGG
import Derived.Test.YtdmjcjheanedgaaDoorGE
namespace Go.Proofs.YtdmjcjheanedgaaDoor

/-- Which price is better on a side. -/
def bett (side a b : Int) : Bool := (side == 0 && decide (b < a)) || (side == 1 && decide (a < b))
theorem bett_buy (a b : Int) : bett 0 a b = decide (b < a) := by simp [bett]
theorem bett_sell (a b : Int) : bett 1 a b = decide (a < b) := by simp [bett]
theorem bett_irr (side a : Int) : bett side a a = false := by simp [bett]
theorem bett_trans {side a b c : Int} (h1 : bett side a b = true) (h2 : bett side b c = true) : bett side a c = true := by
  simp only [bett, Bool.or_eq_true, Bool.and_eq_true, beq_iff_eq, decide_eq_true_eq] at *
  omega
/-- Not better, twice. -/
theorem bett_ntrans {side a b c : Int} (h1 : bett side a b = false) (h2 : bett side b c = false) : bett side a c = false := by
  simp only [bett, Bool.or_eq_false_iff, Bool.and_eq_false_iff, beq_eq_false_iff_ne, decide_eq_false_iff_not] at *
  omega
theorem bett_asymm {side a b : Int} (h : bett side a b = true) : bett side b a = false := by
  simp only [bett, Bool.or_eq_true, Bool.and_eq_true, beq_iff_eq, decide_eq_true_eq, Bool.or_eq_false_iff, Bool.and_eq_false_iff, beq_eq_false_iff_ne, decide_eq_false_iff_not] at *
  omega
/-- Where an order is. -/
def bkf (L : List Ord) (d : Int) : Option Nat := L.findIdx? fun x => x.id == d
def bkI (L : List Ord) (d : Int) : Int := match bkf L d with
  | some i => i
  | none => -1
theorem bkf_some {L : List Ord} {d : Int} {i : Nat} (h : bkf L d = some i) : ∃ x, L[i]? = some x ∧ x.id = d ∧ ∀ (j : Nat) (y : Ord), j < i → L[j]? = some y → ¬ y.id = d := by
  obtain ⟨hi, h1, h2⟩ := List.findIdx?_eq_some_iff_getElem.1 h
  refine ⟨L[i], List.getElem?_eq_getElem hi, by simpa using h1, fun j y hj hy => ?_⟩
  obtain ⟨lj, rfl⟩ := List.getElem?_eq_some_iff.1 hy
  simpa using h2 j hj
theorem bkf_none {L : List Ord} {d : Int} (h : bkf L d = none) : ∀ x ∈ L, ¬ x.id = d := by
  intro x hx
  simpa using List.findIdx?_eq_none_iff.1 h x hx
theorem bkf_at {L : List Ord} {d : Int} {i : Nat} {x : Ord} (hx : L[i]? = some x) (e : x.id = d) (hn : ∀ (j : Nat) (y : Ord), j < i → L[j]? = some y → ¬ y.id = d) : bkf L d = some i := by
  obtain ⟨hi, rfl⟩ := List.getElem?_eq_some_iff.1 hx
  refine List.findIdx?_eq_some_iff_getElem.2 ⟨hi, by simpa using e, fun j hj => ?_⟩
  simpa using hn j L[j] hj (List.getElem?_eq_getElem (by omega))
theorem bkf_no {L : List Ord} {d : Int} (h : ∀ x ∈ L, ¬ x.id = d) : bkf L d = none := by
  refine List.findIdx?_eq_none_iff.2 fun x hx => ?_
  simpa using h x hx
theorem bkf_lt {L : List Ord} {d : Int} {i : Nat} (h : bkf L d = some i) : i < L.length := by
  obtain ⟨x, hx, -⟩ := bkf_some h
  exact (List.getElem?_eq_some_iff.1 hx).1
/-- The prices of the first n orders of a side, each once. -/
def prTo (L : List Ord) (side : Int) : Nat → List Int
  | 0 => []
  | n + 1 => match L[n]? with
    | some x => if x.side = side ∧ x.price ∉ prTo L side n then prTo L side n ++ [x.price] else prTo L side n
    | none => prTo L side n
def prs (L : List Ord) (side : Int) : List Int := prTo L side L.length
theorem prTo_len (L : List Ord) (side : Int) : ∀ n, (prTo L side n).length ≤ n
  | 0 => Nat.le_refl _
  | n + 1 => by
    have h := prTo_len L side n
    unfold prTo
    cases L[n]? with
    | none => simp only; omega
    | some x =>
      dsimp only
      split
      · simp; omega
      · omega
theorem prTo_nodup (L : List Ord) (side : Int) : ∀ n, (prTo L side n).Nodup
  | 0 => List.nodup_nil
  | n + 1 => by
    have h := prTo_nodup L side n
    unfold prTo
    cases L[n]? with
    | none => exact h
    | some x =>
      dsimp only
      split
      · next g =>
        rw [List.nodup_append]
        refine ⟨h, by simp, fun a ha b hb => ?_⟩
        rw [List.mem_singleton.1 hb]
        rintro rfl
        exact g.2 ha
      · exact h
theorem prTo_mem (L : List Ord) (side p : Int) : ∀ n, p ∈ prTo L side n ↔ ∃ j x, j < n ∧ L[j]? = some x ∧ x.side = side ∧ x.price = p
  | 0 => by simp [prTo]
  | n + 1 => by
    have ih := prTo_mem L side p n
    unfold prTo
    cases hx : L[n]? with
    | none =>
      dsimp only
      rw [ih]
      constructor
      · rintro ⟨j, x, h1, h2⟩; exact ⟨j, x, by omega, h2⟩
      · rintro ⟨j, x, h1, h2, h3⟩
        refine ⟨j, x, ?_, h2, h3⟩
        rcases Nat.lt_succ_iff_lt_or_eq.1 h1 with g | rfl
        · exact g
        · rw [hx] at h2; cases h2
    | some x =>
      dsimp only
      by_cases g : x.side = side ∧ x.price ∉ prTo L side n
      · rw [if_pos g, List.mem_append, ih, List.mem_singleton]
        constructor
        · rintro (⟨j, y, h1, h2⟩ | rfl)
          · exact ⟨j, y, by omega, h2⟩
          · exact ⟨n, x, by omega, hx, g.1, rfl⟩
        · rintro ⟨j, y, h1, h2, h3, h4⟩
          rcases Nat.lt_succ_iff_lt_or_eq.1 h1 with k | rfl
          · exact .inl ⟨j, y, k, h2, h3, h4⟩
          · rw [hx] at h2; cases h2; exact .inr h4.symm
      · rw [if_neg g, ih]
        constructor
        · rintro ⟨j, y, h1, h2⟩; exact ⟨j, y, by omega, h2⟩
        · rintro ⟨j, y, h1, h2, h3, h4⟩
          rcases Nat.lt_succ_iff_lt_or_eq.1 h1 with k | rfl
          · exact ⟨j, y, k, h2, h3, h4⟩
          · rw [hx] at h2
            cases h2
            have : x.price ∈ prTo L side j := by
              refine Classical.not_not.1 fun k => g ⟨h3, k⟩
            rw [h4] at this
            exact ih.1 this
theorem prs_mem {L : List Ord} {side p : Int} : p ∈ prs L side ↔ ∃ x ∈ L, x.side = side ∧ x.price = p := by
  unfold prs
  rw [prTo_mem]
  constructor
  · rintro ⟨j, x, -, h, h1⟩; exact ⟨x, List.mem_of_getElem? h, h1⟩
  · rintro ⟨x, h, h1⟩
    obtain ⟨j, hj⟩ := List.mem_iff_getElem?.1 h
    exact ⟨j, x, (List.getElem?_eq_some_iff.1 hj).1, hj, h1⟩
theorem prs_nodup (L : List Ord) (side : Int) : (prs L side).Nodup := prTo_nodup L side _
/-- A price that is there, or room for one more. -/
def bkFits (levels : Int) (L : List Ord) (side price : Int) : Bool := decide (price ∈ prs L side) || decide (((prs L side).length : Int) < levels)
/-- The book. -/
structure Bk where
  slots : Nat
  levels : Nat
  L : List Ord
def Bk.new (slots levels : Nat) : Bk := ⟨slots, levels, []⟩
def Bk.room (b : Bk) (side price : Int) : Bool := decide (b.L.length < b.slots) && bkFits b.levels b.L side price
/-- What Add answers. -/
def Bk.addF (b : Bk) (o : Ord) : Int :=
  if o.side ≠ 0 ∧ o.side ≠ 1 then 1 else
  if o.price < 1 ∨ 1099511627776 < o.price ∨ o.qty < 1 ∨ 4294967296 < o.qty then 9 else
  if (bkf b.L o.id).isSome then 6 else
  if b.room o.side o.price then 0 else 7
def Bk.add (b : Bk) (o : Ord) : Bk := if b.addF o = 0 then { b with L := b.L ++ [o] } else b
/-- What Remove answers, and leaves. -/
def Bk.remF (b : Bk) (d : Int) : Ord × Int := match bkf b.L d with
  | some i => (b.L[i]?.getD .zero, 0)
  | none => (.zero, 5)
def Bk.rem (b : Bk) (d : Int) : Bk := match bkf b.L d with
  | some i => { b with L := b.L.eraseIdx i }
  | none => b
/-- What Reduce answers, and leaves. -/
def Bk.redF (b : Bk) (d by' : Int) : Ord × Int := match bkf b.L d with
  | some i =>
    let o := b.L[i]?.getD .zero
    if by' < 1 ∨ o.qty < by' then (.zero, 9) else ({ o with qty := o.qty - by' }, 0)
  | none => (.zero, 5)
def Bk.red (b : Bk) (d by' : Int) : Bk := match bkf b.L d with
  | some i =>
    let o := b.L[i]?.getD .zero
    if by' < 1 ∨ o.qty < by' then b else
    if o.qty = by' then { b with L := b.L.eraseIdx i } else { b with L := b.L.set i { o with qty := o.qty - by' } }
  | none => b
def Bk.get (b : Bk) (d : Int) : Option Ord := (bkf b.L d).map fun i => b.L[i]?.getD .zero
/-! A side's orders by price and time. -/
/-- Where an order goes among those that are sorted: behind all that it is not better than. -/
def bkAt (side : Int) (q : List Ord) (p : Int) : Nat := (q.takeWhile fun y => !bett side p y.price).length
def bkIns (side : Int) (q : List Ord) (x : Ord) : List Ord := q.take (bkAt side q x.price) ++ x :: q.drop (bkAt side q x.price)
def bkOfTo (L : List Ord) (side : Int) : Nat → List Ord
  | 0 => []
  | n + 1 => match L[n]? with
    | some x => if x.side = side then bkIns side (bkOfTo L side n) x else bkOfTo L side n
    | none => bkOfTo L side n
def bkOf (L : List Ord) (side : Int) : List Ord := bkOfTo L side L.length
theorem bkAt_le (side : Int) (q : List Ord) (p : Int) : bkAt side q p ≤ q.length := (List.takeWhile_sublist _).length_le
theorem bkIns_perm (side : Int) (q : List Ord) (x : Ord) : (bkIns side q x).Perm (x :: q) := by
  unfold bkIns
  refine List.perm_middle.trans ?_
  rw [List.take_append_drop]
theorem bkAt_lt {side : Int} {q : List Ord} {p : Int} {j : Nat} {y : Ord} (hy : q[j]? = some y) (hj : j < bkAt side q p) : bett side p y.price = false := by
  induction q generalizing j with
  | nil => simp at hy
  | cons z t ih =>
    unfold bkAt at hj
    rw [List.takeWhile_cons] at hj
    split at hj
    · next g =>
      cases j with
      | zero => cases hy; simpa using g
      | succ j => exact ih (by simpa using hy) (by unfold bkAt; simp at hj; omega)
    · simp at hj
theorem bkAt_at {side : Int} {q : List Ord} {p : Int} {y : Ord} (hy : q[bkAt side q p]? = some y) : bett side p y.price = true := by
  induction q with
  | nil => simp [bkAt] at hy
  | cons z t ih =>
    unfold bkAt at hy
    rw [List.takeWhile_cons] at hy
    split at hy
    · next g =>
      exact ih (by unfold bkAt; simpa using hy)
    · next g =>
      simp at hy
      subst hy
      simpa using g
theorem bkOfTo_len (L : List Ord) (side : Int) : ∀ n, (bkOfTo L side n).length ≤ n
  | 0 => Nat.le_refl _
  | n + 1 => by
    have h := bkOfTo_len L side n
    unfold bkOfTo
    cases L[n]? with
    | none => simp only; omega
    | some x =>
      dsimp only
      split
      · rw [(bkIns_perm side _ x).length_eq]; simp; omega
      · omega
theorem bkOfTo_perm (L : List Ord) (side : Int) : ∀ n, (bkOfTo L side n).Perm ((L.take n).filter fun x => x.side == side)
  | 0 => by simp [bkOfTo]
  | n + 1 => by
    unfold bkOfTo
    rw [List.take_add_one, List.filter_append]
    cases hx : L[n]? with
    | none => simpa using bkOfTo_perm L side n
    | some x =>
      by_cases e : x.side = side
      · dsimp only; rw [if_pos e]
        have : [x].filter (fun x => x.side == side) = [x] := by simp [e]
        rw [Option.toList_some, this]
        refine (bkIns_perm side _ x).trans ?_
        refine ((bkOfTo_perm L side n).cons x).trans ?_
        exact List.perm_append_comm (l₁ := [x])
      · dsimp only; rw [if_neg e]
        have : [x].filter (fun x => x.side == side) = [] := by simp [e]
        rw [Option.toList_some, this, List.append_nil]
        exact bkOfTo_perm L side n
theorem bkOf_perm (L : List Ord) (side : Int) : (bkOf L side).Perm (L.filter fun x => x.side == side) := by
  have := bkOfTo_perm L side L.length
  rwa [List.take_length] at this
theorem bkOf_mem {L : List Ord} {side : Int} {x : Ord} : x ∈ bkOf L side ↔ x ∈ L ∧ x.side = side := by
  rw [(bkOf_perm L side).mem_iff]
  simp
end Go.Proofs.YtdmjcjheanedgaaDoor
namespace Go.Proofs.YtdmjcjheanedgaaDoor
/-- No ID twice. -/
def Bku (L : List Ord) : Prop := L.Pairwise fun a b => a.id ≠ b.id
theorem Bku.nil : Bku [] := List.Pairwise.nil
theorem Bku.uni {L : List Ord} (h : Bku L) {i j : Nat} {x y : Ord} (hi : L[i]? = some x) (hj : L[j]? = some y) (e : x.id = y.id) : i = j := by
  obtain ⟨li, rfl⟩ := List.getElem?_eq_some_iff.1 hi
  obtain ⟨lj, rfl⟩ := List.getElem?_eq_some_iff.1 hj
  rcases Nat.lt_trichotomy i j with g | g | g
  · exact absurd e (List.pairwise_iff_getElem.1 h i j li lj g)
  · exact g
  · exact absurd e.symm (List.pairwise_iff_getElem.1 h j i lj li g)
theorem Bku.at' {L : List Ord} (h : Bku L) {i : Nat} {x : Ord} (hi : L[i]? = some x) : bkf L x.id = some i :=
  bkf_at hi rfl fun j y hj hy e => by have := h.uni hy hi e; omega
theorem Bku.snoc {L : List Ord} (h : Bku L) {x : Ord} (hf : bkf L x.id = none) : Bku (L ++ [x]) := by
  refine List.pairwise_append.2 ⟨h, List.pairwise_singleton _ _, fun a ha b hb => ?_⟩
  rw [List.mem_singleton.1 hb]
  exact bkf_none hf a ha
theorem Bku.erase {L : List Ord} (h : Bku L) (i : Nat) : Bku (L.eraseIdx i) := List.Pairwise.sublist (List.eraseIdx_sublist _ _) h
theorem Bku.set {L : List Ord} (h : Bku L) {i : Nat} {x y : Ord} (hx : L[i]? = some x) (e : y.id = x.id) : Bku (L.set i y) := by
  rw [Bku, List.pairwise_iff_getElem]
  intro a b ha hb hab
  simp only [List.length_set] at ha hb
  obtain ⟨li, ei⟩ := List.getElem?_eq_some_iff.1 hx
  have g := List.pairwise_iff_getElem.1 h a b ha hb hab
  rw [List.getElem_set, List.getElem_set]
  by_cases e1 : i = a
  · subst e1
    rw [if_pos rfl, if_neg (by omega), e]
    rw [ei] at g
    exact g
  · rw [if_neg e1]
    by_cases e2 : i = b
    · subst e2
      rw [if_pos rfl, e]
      rw [ei] at g
      exact g
    · rw [if_neg e2]; exact g
/-- Where an order stands, by its ID. -/
def bkx (L : List Ord) (x : Ord) : Nat := (bkf L x.id).getD 0
theorem Bku.x {L : List Ord} (h : Bku L) {i : Nat} {x : Ord} (hi : L[i]? = some x) : bkx L x = i := by simp [bkx, h.at' hi]
/-- One is ahead of another one: by its price, or by its time. -/
def Ahd (L : List Ord) (side : Int) (x y : Ord) : Prop := bett side x.price y.price = true ∨ (bett side y.price x.price = false ∧ bkx L x < bkx L y)
theorem Ahd.not_both {L : List Ord} {side : Int} {x y : Ord} (h1 : Ahd L side x y) (h2 : Ahd L side y x) : False := by
  rcases h1 with h1 | ⟨h1, h3⟩
  · rcases h2 with h2 | ⟨h2, h4⟩
    · rw [bett_asymm h1] at h2; cases h2
    · rw [h2] at h1; cases h1
  · rcases h2 with h2 | ⟨h2, h4⟩
    · rw [h1] at h2; cases h2
    · omega
/-- What is sorted. -/
def Bsd (L : List Ord) (side : Int) (q : List Ord) : Prop := q.Pairwise (Ahd L side)
theorem Bsd.uni {L : List Ord} {side : Int} {p q : List Ord} (hp : Bsd L side p) (hq : Bsd L side q) (h : p.Perm q) : p = q :=
  List.Perm.eq_of_pairwise (le := Ahd L side) (fun _ _ _ _ h1 h2 => (h1.not_both h2).elim) hp hq h
/-- The sorted ones of the first n. -/
theorem bkOfTo_srt {L : List Ord} (h : Bku L) (side : Int) : ∀ n, Bsd L side (bkOfTo L side n)
  | 0 => List.Pairwise.nil
  | n + 1 => by
    have ih := bkOfTo_srt h side n
    unfold bkOfTo
    cases hx : L[n]? with
    | none => exact ih
    | some x =>
      by_cases e : x.side = side
      rotate_left
      · dsimp only; rw [if_neg e]; exact ih
      dsimp only; rw [if_pos e]
      generalize hq : bkOfTo L side n = q at ih ⊢
      have hpos : ∀ y ∈ q, bkx L y < bkx L x := by
        intro y hy
        rw [← hq] at hy
        have := (bkOfTo_perm L side n).mem_iff.1 hy
        rw [List.mem_filter] at this
        obtain ⟨j, hj⟩ := List.mem_iff_getElem?.1 this.1
        rw [List.getElem?_take] at hj
        split at hj
        · next g => rw [h.x hj, h.x hx]; exact g
        · cases hj
      have hlo : ∀ y ∈ q.take (bkAt side q x.price), Ahd L side y x := by
        intro y hy
        obtain ⟨j, hj⟩ := List.mem_iff_getElem?.1 hy
        rw [List.getElem?_take] at hj
        split at hj
        · next g => exact .inr ⟨bkAt_lt hj g, hpos y (List.mem_of_getElem? hj)⟩
        · cases hj
      have hhi : ∀ y ∈ q.drop (bkAt side q x.price), Ahd L side x y := by
        intro y hy
        obtain ⟨j, hj⟩ := List.mem_iff_getElem?.1 hy
        rw [List.getElem?_drop] at hj
        have hlt := (List.getElem?_eq_some_iff.1 hj).1
        obtain ⟨z, hz⟩ : ∃ z, q[bkAt side q x.price]? = some z := ⟨_, List.getElem?_eq_getElem (by omega)⟩
        have h1 := bkAt_at hz
        rcases Nat.eq_zero_or_pos j with rfl | hj0
        · rw [Nat.add_zero] at hj
          rw [hz] at hj
          cases hj
          exact .inl h1
        · obtain ⟨lz, rfl⟩ := List.getElem?_eq_some_iff.1 hz
          obtain ⟨ly, rfl⟩ := List.getElem?_eq_some_iff.1 hj
          have h2 := List.pairwise_iff_getElem.1 ih _ _ lz ly (by omega)
          left
          rcases h2 with h2 | ⟨h2, -⟩
          · exact bett_trans h1 h2
          · -- y is not better than z: x better than z, z not worse
            cases hb : bett side x.price q[bkAt side q x.price + j].price with
            | true => rfl
            | false =>
              have := bett_ntrans hb h2
              rw [this] at h1
              cases h1
      unfold bkIns
      refine List.pairwise_append.2 ⟨List.Pairwise.sublist (List.take_sublist _ _) ih, List.pairwise_cons.2 ⟨hhi, List.Pairwise.sublist (List.drop_sublist _ _) ih⟩, fun a ha c hc => ?_⟩
      rcases List.mem_cons.1 hc with rfl | hc
      · exact hlo a ha
      · obtain ⟨i1, hi1⟩ := List.mem_iff_getElem?.1 ha
        obtain ⟨i2, hi2⟩ := List.mem_iff_getElem?.1 hc
        rw [List.getElem?_take] at hi1
        rw [List.getElem?_drop] at hi2
        split at hi1
        · obtain ⟨l1, rfl⟩ := List.getElem?_eq_some_iff.1 hi1
          obtain ⟨l2, rfl⟩ := List.getElem?_eq_some_iff.1 hi2
          exact List.pairwise_iff_getElem.1 ih _ _ l1 l2 (by omega)
        · cases hi1
theorem bkOf_srt {L : List Ord} (h : Bku L) (side : Int) : Bsd L side (bkOf L side) := bkOfTo_srt h side _
/-- A sorted list that has the same orders. -/
theorem bkOf_uni {L : List Ord} (h : Bku L) {side : Int} {q : List Ord} (hq : Bsd L side q) (hp : q.Perm (L.filter fun x => x.side == side)) : q = bkOf L side :=
  hq.uni (bkOf_srt h side) (hp.trans (bkOf_perm L side).symm)
/-- The places in a list that lacks one. -/
theorem bkx_erase {L : List Ord} (h : Bku L) {i j k : Nat} {x y : Ord} (hj : L[j]? = some x) (hk : L[k]? = some y) (h1 : j ≠ i) (h2 : k ≠ i) : bkx (L.eraseIdx i) x < bkx (L.eraseIdx i) y ↔ j < k := by
  have hx : (L.eraseIdx i)[if j < i then j else j - 1]? = some x := by
    by_cases g : j < i
    · rw [if_pos g, List.getElem?_eraseIdx, if_pos g]; exact hj
    · rw [if_neg g, List.getElem?_eraseIdx, if_neg (by omega), show j - 1 + 1 = j by omega]; exact hj
  have hy : (L.eraseIdx i)[if k < i then k else k - 1]? = some y := by
    by_cases g : k < i
    · rw [if_pos g, List.getElem?_eraseIdx, if_pos g]; exact hk
    · rw [if_neg g, List.getElem?_eraseIdx, if_neg (by omega), show k - 1 + 1 = k by omega]; exact hk
  rw [(h.erase i).x hx, (h.erase i).x hy]
  split <;> split <;> omega
theorem Bsd.erase {L : List Ord} (h : Bku L) {side : Int} {q : List Ord} (hq : Bsd L side q) {i : Nat} (hm : ∀ y ∈ q, ∃ j, L[j]? = some y ∧ j ≠ i) : Bsd (L.eraseIdx i) side q := by
  refine hq.imp_of_mem ?_
  intro a b ha hb g
  obtain ⟨j, hj, hji⟩ := hm a ha
  obtain ⟨k, hk, hki⟩ := hm b hb
  rcases g with g | ⟨g1, g2⟩
  · exact .inl g
  · rw [h.x hj, h.x hk] at g2
    exact .inr ⟨g1, (bkx_erase h hj hk hji hki).2 g2⟩
end Go.Proofs.YtdmjcjheanedgaaDoor
namespace Go.Proofs.YtdmjcjheanedgaaDoor
/-- An order that may rest. -/
structure Ord.Ok (x : Ord) : Prop where
  fit : x.Fit
  side : x.side = 0 ∨ x.side = 1
  p1 : 1 ≤ x.price
  p2 : x.price ≤ 1099511627776
  q1 : 1 ≤ x.qty
  q2 : x.qty ≤ 4294967296
structure Bk.Ok (b : Bk) : Prop where
  s1 : 1 ≤ b.slots
  s2 : b.slots ≤ 500
  l1 : 1 ≤ b.levels
  l2 : b.levels ≤ 200
  len : b.L.length ≤ b.slots
  u : Bku b.L
  ok : ∀ x ∈ b.L, x.Ok
theorem Bk.Ok.new {n m : Nat} (h1 : 1 ≤ n) (h2 : n ≤ 500) (h3 : 1 ≤ m) (h4 : m ≤ 200) : (Bk.new n m).Ok := ⟨h1, h2, h3, h4, Nat.zero_le _, Bku.nil, fun _ h => by cases h⟩
theorem Bk.addF_zero {b : Bk} {o : Ord} (h : b.addF o = 0) : (o.side = 0 ∨ o.side = 1) ∧ 1 ≤ o.price ∧ o.price ≤ 1099511627776 ∧ 1 ≤ o.qty ∧ o.qty ≤ 4294967296 ∧ bkf b.L o.id = none ∧ b.room o.side o.price = true := by
  unfold Bk.addF at h
  split at h
  · cases h
  next h1 =>
  split at h
  · cases h
  next h2 =>
  split at h
  · cases h
  next h3 =>
  split at h
  · next h4 =>
    refine ⟨by omega, by omega, by omega, by omega, by omega, ?_, h4⟩
    cases hf : bkf b.L o.id with
    | none => rfl
    | some i => rw [hf] at h3; exact absurd rfl h3
  · cases h
theorem Bk.add_slots (b : Bk) (o : Ord) : (b.add o).slots = b.slots ∧ (b.add o).levels = b.levels := by
  unfold Bk.add
  split <;> exact ⟨rfl, rfl⟩
theorem Bk.Ok.add {b : Bk} (h : b.Ok) {o : Ord} (ho : o.Fit) : (b.add o).Ok := by
  unfold Bk.add
  by_cases h0 : b.addF o = 0
  · rw [if_pos h0]
    obtain ⟨h1, h2, h3, h4, h5, h6, h7⟩ := Bk.addF_zero h0
    have hl : b.L.length < b.slots := by
      unfold Bk.room at h7
      simp only [Bool.and_eq_true, decide_eq_true_eq] at h7
      exact h7.1
    refine ⟨h.s1, h.s2, h.l1, h.l2, by simp; omega, h.u.snoc h6, fun x hx => ?_⟩
    rcases List.mem_append.1 hx with g | g
    · exact h.ok x g
    · rw [List.mem_singleton.1 g]; exact ⟨ho, h1, h2, h3, h4, h5⟩
  · rw [if_neg h0]; exact h
theorem Bk.Ok.erase {b : Bk} (h : b.Ok) (i : Nat) : Bk.Ok { b with L := b.L.eraseIdx i } :=
  ⟨h.s1, h.s2, h.l1, h.l2, Nat.le_trans (List.eraseIdx_sublist _ _).length_le h.len, h.u.erase i, fun x hx => h.ok x (List.mem_of_mem_eraseIdx hx)⟩
theorem Bk.Ok.rem {b : Bk} (h : b.Ok) (d : Int) : (b.rem d).Ok := by
  unfold Bk.rem
  cases bkf b.L d with
  | none => exact h
  | some i => exact h.erase i
theorem Bk.Ok.red {b : Bk} (h : b.Ok) (d by' : Int) : (b.red d by').Ok := by
  unfold Bk.red
  cases hf : bkf b.L d with
  | none => exact h
  | some i =>
    obtain ⟨x, hx, -⟩ := bkf_some hf
    simp only [hx, Option.getD_some]
    split
    · exact h
    next h1 =>
    split
    · exact h.erase i
    next h2 =>
    have hxo := h.ok x (List.mem_of_getElem? hx)
    have hfit := hxo.fit
    have hq1 := hxo.q1
    have hq2 := hxo.q2
    refine ⟨h.s1, h.s2, h.l1, h.l2, by rw [List.length_set]; exact h.len, h.u.set hx rfl, fun y hy => ?_⟩
    rcases List.mem_or_eq_of_mem_set hy with g | g
    · exact h.ok y g
    · rw [g]
      refine ⟨⟨hfit.id, hfit.owner, hfit.side, hfit.price, ?_, hfit.flags, hfit.seq⟩, hxo.side, hxo.p1, hxo.p2, ?_, ?_⟩
      · have := hfit.qty
        unfold In64 at *
        simp only
        omega
      · simp only; omega
      · simp only; omega
def Bk.front (b : Bk) (side : Int) : Option Ord := (bkOf b.L side).head?
/-- The quantity at a limit and at better prices. -/
def bkWorth (L : List Ord) (side limit : Int) : Int := ((L.filter fun x => x.side == side && !bett side limit x.price).map Ord.qty).foldr (· + ·) 0
end Go.Proofs.YtdmjcjheanedgaaDoor
namespace Go.Proofs.YtdmjcjheanedgaaDoor
/-! Filtered lists of which one is taken, or set. -/
section
variable {α : Type} {P : α → Bool} {Z : List α} {k : Nat} {z z' : α}
theorem filter_erase_no (hz : Z[k]? = some z) (hp : P z = false) : (Z.eraseIdx k).filter P = Z.filter P := by
  induction Z generalizing k with
  | nil => simp at hz
  | cons x t ih =>
    cases k with
    | zero =>
      obtain rfl : x = z := by simpa using hz
      rw [List.eraseIdx_cons_zero, List.filter_cons, if_neg (by simp [hp])]
    | succ k =>
      rw [List.eraseIdx_cons_succ, List.filter_cons, List.filter_cons, ih (by simpa using hz)]
theorem filter_set_no (hz : Z[k]? = some z) (hp : P z = false) (hp' : P z' = false) : (Z.set k z').filter P = Z.filter P := by
  induction Z generalizing k with
  | nil => simp at hz
  | cons x t ih =>
    cases k with
    | zero =>
      obtain rfl : x = z := by simpa using hz
      rw [List.set_cons_zero, List.filter_cons, List.filter_cons, if_neg (by simp [hp']), if_neg (by simp [hp])]
    | succ k =>
      rw [List.set_cons_succ, List.filter_cons, List.filter_cons, ih (by simpa using hz)]
/-- Its place among those that are left. -/
theorem filter_at (hz : Z[k]? = some z) (hp : P z = true) : ∃ m, (Z.filter P)[m]? = some z ∧ (Z.eraseIdx k).filter P = (Z.filter P).eraseIdx m ∧ ∀ z', P z' = true → (Z.set k z').filter P = (Z.filter P).set m z' := by
  induction Z generalizing k with
  | nil => simp at hz
  | cons x t ih =>
    cases k with
    | zero =>
      obtain rfl : x = z := by simpa using hz
      refine ⟨0, ?_, ?_, fun z' hp' => ?_⟩
      · rw [List.filter_cons, if_pos hp]; rfl
      · rw [List.filter_cons, if_pos hp, List.eraseIdx_cons_zero, List.eraseIdx_cons_zero]
      · rw [List.filter_cons, if_pos hp, List.set_cons_zero, List.set_cons_zero, List.filter_cons, if_pos hp']
    | succ k =>
      obtain ⟨m, h1, h2, h3⟩ := ih (k := k) (by simpa using hz)
      by_cases hx : P x = true
      · refine ⟨m + 1, ?_, ?_, fun z' hp' => ?_⟩
        · rw [List.filter_cons, if_pos hx]; simpa using h1
        · rw [List.eraseIdx_cons_succ, List.filter_cons, if_pos hx, List.filter_cons, if_pos hx, List.eraseIdx_cons_succ, h2]
        · rw [List.set_cons_succ, List.filter_cons, if_pos hx, List.filter_cons, if_pos hx, List.set_cons_succ, h3 z' hp']
      · refine ⟨m, ?_, ?_, fun z' hp' => ?_⟩
        · rw [List.filter_cons, if_neg hx]; exact h1
        · rw [List.eraseIdx_cons_succ, List.filter_cons, if_neg hx, List.filter_cons, if_neg hx, h2]
        · rw [List.set_cons_succ, List.filter_cons, if_neg hx, List.filter_cons, if_neg hx, h3 z' hp']
theorem map_eraseIdx' {β : Type} (f : α → β) (Z : List α) (k : Nat) : (Z.eraseIdx k).map f = (Z.map f).eraseIdx k := by
  induction Z generalizing k with
  | nil => rfl
  | cons x t ih =>
    cases k with
    | zero => rfl
    | succ k => rw [List.eraseIdx_cons_succ, List.map_cons, List.map_cons, List.eraseIdx_cons_succ, ih]
end
theorem erase_permA {α : Type} {L : List α} {i : Nat} {x : α} (hi : L[i]? = some x) : L.Perm (x :: L.eraseIdx i) := by
  induction L generalizing i with
  | nil => simp at hi
  | cons y t ih =>
    cases i with
    | zero =>
      obtain rfl : y = x := by simpa using hi
      exact List.Perm.refl _
    | succ i =>
      rw [List.eraseIdx_cons_succ]
      exact ((ih (by simpa using hi)).cons y).trans (List.Perm.swap _ _ _)
theorem set_sameA {α : Type} {L : List α} {i : Nat} {x : α} (hi : L[i]? = some x) : L.set i x = L := by
  obtain ⟨hl, rfl⟩ := List.getElem?_eq_some_iff.1 hi
  exact List.set_getElem_self hl
/-- The orders that rest, against the arena: Z has each with its slot, in the order in which they were added. -/
structure RlA (Z : List (Nat × Ord)) (a : Ar) : Prop where
  wf : a.Wf
  used : a.used = Z.length
  has : ∀ i, a.has i = true ↔ i ∈ Z.map (·.1)
  at' : ∀ z ∈ Z, a.O[z.1]? = some z.2
  nd : (Z.map (·.1)).Nodup
section
variable {Z : List (Nat × Ord)} {a : Ar} {i k : Nat} {o : Ord}
theorem RlA.new (n : Nat) : RlA [] (Ar.new n) := by
  refine ⟨Ar.new_wf n, by simp [Ar.used, Ar.new, List.count_replicate], fun i => ?_, (fun z h => by cases h), List.nodup_nil⟩
  simp only [Ar.has, Ar.new, List.getElem?_replicate, List.map_nil, List.not_mem_nil, iff_false]
  split <;> simp
theorem Ar.has_set {T : List Bool} {i j : Nat} {b : Bool} (hi : i < T.length) : ((T.set i b)[j]?.getD false) = if j = i then b else T[j]?.getD false := by
  rw [List.getElem?_set]
  by_cases e : i = j
  · subst e; simp [hi]
  · rw [if_neg e, if_neg (fun e' => e e'.symm)]
theorem RlA.lt (h : RlA Z a) {z : Nat × Ord} (hz : z ∈ Z) : z.1 < a.n := Ar.has_lt h.wf ((h.has z.1).2 (List.mem_map.2 ⟨z, hz, rfl⟩))
theorem RlA.room (h : RlA Z a) : a.fr.length + Z.length = a.n := by
  have := h.wf.cnt
  have := h.used
  omega
theorem RlA.next (h : RlA Z a) (hl : Z.length < a.n) : ∃ i, a.next = some i := by
  cases e : a.next with
  | some i => exact ⟨i, rfl⟩
  | none =>
    have := (Ar.next_none h.wf e).2.1
    have := h.used
    omega
theorem RlA.fresh (h : RlA Z a) (hi : a.next = some i) : i ∉ Z.map (·.1) := by
  intro hm
  have h1 := (h.has i).2 hm
  rw [Ar.has_true, (Ar.next_lt h.wf hi).1] at h1
  cases h1
theorem RlA.add (h : RlA Z a) (hi : a.next = some i) (o : Ord) : RlA (Z ++ [(i, o)]) (a.put i o) := by
  obtain ⟨h1, h2⟩ := Ar.next_lt h.wf hi
  have hn := h.fresh hi
  have hlT := h.wf.lenT
  have hlO := h.wf.lenO
  refine ⟨Ar.put_wf h.wf o hi, ?_, fun j => ?_, fun z hz => ?_, ?_⟩
  · have := count_set (b := true) h1
    have h3 := h.used
    simp only [Ar.used] at h3
    simp only [Ar.used, Ar.put, List.length_append, List.length_singleton]
    simp at this
    omega
  · have hh := h.has j
    unfold Ar.has at hh ⊢
    simp only [Ar.put, List.map_append, List.mem_append, List.map_cons, List.map_nil, List.mem_singleton]
    rw [Ar.has_set (by omega), ← hh]
    by_cases e : j = i
    · simp [e]
    · simp [e]
  · rcases List.mem_append.1 hz with hz | hz
    · have hne : i ≠ z.1 := fun e => hn (e ▸ List.mem_map.2 ⟨z, hz, rfl⟩)
      show (a.O.set i o)[z.1]? = _
      rw [List.getElem?_set_ne hne]
      exact h.at' z hz
    · rw [List.mem_singleton.1 hz]
      show (a.O.set i o)[i]? = _
      rw [List.getElem?_set_self (by omega)]
  · rw [List.map_append]
    refine List.nodup_append.2 ⟨h.nd, by simp, fun x hx y hy => ?_⟩
    have : y = i := by simpa using hy
    subst this
    intro e
    exact hn (e ▸ hx)
theorem nodup_erase_mem {l : List Nat} {k x : Nat} (hn : l.Nodup) (hk : l[k]? = some x) (y : Nat) : y ∈ l.eraseIdx k ↔ y ∈ l ∧ y ≠ x := by
  have hp := erase_permA hk
  have hn2 := hp.nodup_iff.1 hn
  rw [List.nodup_cons] at hn2
  rw [hp.mem_iff, List.mem_cons]
  constructor
  · intro h; exact ⟨.inr h, fun e => hn2.1 (e ▸ h)⟩
  · rintro ⟨h | h, h2⟩
    · exact absurd h h2
    · exact h
theorem RlA.drop (h : RlA Z a) (hz : Z[k]? = some (i, o)) : RlA (Z.eraseIdx k) (a.drop i) := by
  have hm := List.mem_of_getElem? hz
  have hi := (h.has i).2 (List.mem_map.2 ⟨_, hm, rfl⟩)
  have h1 := Ar.has_true.1 hi
  have hlt := (List.getElem?_eq_some_iff.1 h1).1
  have hk : (Z.map (·.1))[k]? = some i := by rw [List.getElem?_map, hz]; rfl
  have hkl := (List.getElem?_eq_some_iff.1 hz).1
  refine ⟨Ar.drop_wf h.wf hi, ?_, fun j => ?_, fun z hz => h.at' z (List.mem_of_mem_eraseIdx hz), ?_⟩
  · have := count_set (b := false) h1
    have h3 := h.used
    simp only [Ar.used] at h3
    simp only [Ar.used, Ar.drop]
    rw [List.length_eraseIdx, if_pos hkl]
    simp at this
    omega
  · have hh := h.has j
    unfold Ar.has at hh ⊢
    simp only [Ar.drop]
    rw [Ar.has_set hlt, map_eraseIdx', nodup_erase_mem h.nd hk, ← hh]
    by_cases e : j = i
    · simp [e]
    · simp [e]
  · rw [map_eraseIdx']
    exact h.nd.sublist (List.eraseIdx_sublist _ _)
theorem map_set_fst {o' : Ord} (hz : Z[k]? = some (i, o)) : (Z.set k (i, o')).map (·.1) = Z.map (·.1) := by
  rw [List.map_set]
  exact set_sameA (by rw [List.getElem?_map, hz]; rfl)
theorem RlA.set (h : RlA Z a) (hz : Z[k]? = some (i, o)) (o' : Ord) : RlA (Z.set k (i, o')) (a.set i o') := by
  have hm := List.mem_of_getElem? hz
  have hkl := (List.getElem?_eq_some_iff.1 hz).1
  have hlt : i < a.n := h.lt hm
  have hlO := h.wf.lenO
  refine ⟨Ar.set_wf h.wf o', ?_, fun j => ?_, fun z hz' => ?_, ?_⟩
  · rw [List.length_set]; exact h.used
  · rw [map_set_fst hz]; exact h.has j
  · obtain ⟨m, hm'⟩ := List.mem_iff_getElem?.1 hz'
    rw [List.getElem?_set] at hm'
    show (a.O.set i o')[z.1]? = _
    by_cases e : k = m
    · rw [if_pos e, if_pos (by omega)] at hm'
      cases hm'
      show (a.O.set i o')[i]? = some o'
      exact List.getElem?_set_self (by omega)
    · rw [if_neg e] at hm'
      have hne : i ≠ z.1 := fun e' => e (by
        have g1 : (Z.map (·.1))[k]? = some i := by rw [List.getElem?_map, hz]; rfl
        have g2 : (Z.map (·.1))[m]? = some i := by rw [List.getElem?_map, hm', e']; rfl
        obtain ⟨l1, e1⟩ := List.getElem?_eq_some_iff.1 g1
        obtain ⟨l2, e2⟩ := List.getElem?_eq_some_iff.1 g2
        exact (List.getElem_inj h.nd).1 (e1.trans e2.symm))
      rw [List.getElem?_set_ne hne]
      exact h.at' z (List.mem_of_getElem? hm')
  · rw [map_set_fst hz]; exact h.nd
end
/-! The index: the same rows, in the same order. -/
def rowZ (z : Nat × Ord) : Ixr := ⟨0, z.2.id, (z.1 : Int)⟩
theorem ixf_rows (Z : List (Nat × Ord)) (d : Int) : ixf (Z.map rowZ) 0 d = bkf (Z.map (·.2)) d := by
  unfold ixf bkf
  rw [List.findIdx?_map, List.findIdx?_map]
  congr 1
theorem ixg_rows (Z : List (Nat × Ord)) (d : Int) : ixg (Z.map rowZ) 0 d = (bkf (Z.map (·.2)) d).map fun i => (((Z[i]?.map (·.1)).getD 0 : Nat) : Int) := by
  unfold ixg
  rw [ixf_rows]
  cases hf : bkf (Z.map (·.2)) d with
  | none => rfl
  | some i =>
    have hl := bkf_lt hf
    rw [List.length_map] at hl
    simp [List.getElem?_eq_getElem hl, rowZ]
theorem ixPut_rows {Z : List (Nat × Ord)} {o : Ord} (hf : bkf (Z.map (·.2)) o.id = none) (i : Nat) : ixPut (Z.map rowZ) 0 o.id (i : Int) = (Z ++ [(i, o)]).map rowZ := by
  unfold ixPut
  rw [ixf_rows, hf]
  simp [rowZ]
theorem ixDrop_rows {Z : List (Nat × Ord)} {d : Int} {k : Nat} (hf : bkf (Z.map (·.2)) d = some k) : ixDrop (Z.map rowZ) 0 d = (Z.eraseIdx k).map rowZ := by
  unfold ixDrop
  rw [ixf_rows, hf, map_eraseIdx']
theorem rows_set {Z : List (Nat × Ord)} {k i : Nat} {o o' : Ord} (hz : Z[k]? = some (i, o)) (e : o'.id = o.id) : (Z.set k (i, o')).map rowZ = Z.map rowZ := by
  rw [List.map_set]
  exact set_sameA (by rw [List.getElem?_map, hz]; simp [rowZ, e])
end Go.Proofs.YtdmjcjheanedgaaDoor
namespace Go.Proofs.YtdmjcjheanedgaaDoor
/-- The orders of a side at a price. -/
def grp (Z : List (Nat × Ord)) (s p : Int) : List (Nat × Ord) := Z.filter fun z => z.2.side == s && z.2.price == p
def qsum : List (Nat × Ord) → Int
  | [] => 0
  | z :: t => z.2.qty + qsum t
theorem qsum_app (a b : List (Nat × Ord)) : qsum (a ++ b) = qsum a + qsum b := by
  induction a with
  | nil => simp [qsum]
  | cons x t ih => rw [List.cons_append, qsum, qsum, ih]; omega
theorem qsum_erase {G : List (Nat × Ord)} {m : Nat} {z : Nat × Ord} (h : G[m]? = some z) : qsum (G.eraseIdx m) + z.2.qty = qsum G := by
  induction G generalizing m with
  | nil => simp at h
  | cons x t ih =>
    cases m with
    | zero =>
      obtain rfl : x = z := by simpa using h
      rw [List.eraseIdx_cons_zero, qsum]; omega
    | succ m =>
      have := ih (m := m) (by simpa using h)
      rw [List.eraseIdx_cons_succ, qsum, qsum]; omega
theorem qsum_set {G : List (Nat × Ord)} {m : Nat} {z z' : Nat × Ord} (h : G[m]? = some z) : qsum (G.set m z') + z.2.qty = qsum G + z'.2.qty := by
  induction G generalizing m with
  | nil => simp at h
  | cons x t ih =>
    cases m with
    | zero =>
      obtain rfl : x = z := by simpa using h
      rw [List.set_cons_zero, qsum, qsum]; omega
    | succ m =>
      have := ih (m := m) (by simpa using h)
      rw [List.set_cons_succ, qsum, qsum]; omega
theorem qsum_le {G : List (Nat × Ord)} (h : ∀ z ∈ G, 1 ≤ z.2.qty ∧ z.2.qty ≤ 4294967296) : (G.length : Int) ≤ qsum G ∧ qsum G ≤ 4294967296 * (G.length : Int) := by
  induction G with
  | nil => simp [qsum]
  | cons x t ih =>
    have h1 := h x List.mem_cons_self
    have h2 := ih fun z hz => h z (List.mem_cons_of_mem _ hz)
    rw [qsum, List.length_cons]
    omega
theorem grp_mem {Z : List (Nat × Ord)} {s p : Int} {z : Nat × Ord} : z ∈ grp Z s p ↔ z ∈ Z ∧ z.2.side = s ∧ z.2.price = p := by
  unfold grp
  rw [List.mem_filter, Bool.and_eq_true, beq_iff_eq, beq_iff_eq]
theorem grp_len (Z : List (Nat × Ord)) (s p : Int) : (grp Z s p).length ≤ Z.length := List.length_filter_le _ _
theorem grp_app (Z : List (Nat × Ord)) (z : Nat × Ord) (s p : Int) : grp (Z ++ [z]) s p = if z.2.side = s ∧ z.2.price = p then grp Z s p ++ [z] else grp Z s p := by
  unfold grp
  rw [List.filter_append, List.filter_cons, List.filter_nil]
  by_cases h : z.2.side = s ∧ z.2.price = p
  · rw [if_pos h, if_pos (by simp [h])]
  · rw [if_neg h, if_neg (by simpa using h), List.append_nil]
/-- A side's levels: their prices and queues. -/
def pqs (d : Ld) : List (Int × Int) := d.L.map fun l => (l.price, l.queue)
structure RlD (lv : Nat) (s : Int) (Z : List (Nat × Ord)) (d : Ld) : Prop where
  most : d.most = lv
  buy : d.buy = decide (s = 0)
  wf : d.Wf 500
  lx : ∀ l ∈ d.L, 1 ≤ (grp Z s l.price).length ∧ l.qty = qsum (grp Z s l.price) ∧ l.orders = ((grp Z s l.price).length : Int)
  lz : ∀ z ∈ Z, z.2.side = s → ∃ l ∈ d.L, l.price = z.2.price
section
variable {lv : Nat} {s : Int} {Z Z' : List (Nat × Ord)} {d : Ld} {o : Ord} {i k : Nat}
theorem RlD.new (lv : Nat) (s : Int) : RlD lv s [] ⟨decide (s = 0), lv, []⟩ :=
  ⟨rfl, rfl, (Ld.new_wf _ _).mono (by omega), fun l h => absurd h List.not_mem_nil, fun z h => absurd h List.not_mem_nil⟩
theorem Ld.Wf.re {k m : Nat} {d : Ld} (h : d.Wf k) (h2 : ∀ l ∈ d.L, l.orders ≤ m) : d.Wf m := ⟨h.len, h.price, h.qty, fun l hl => ⟨(h.orders l hl).1, h2 l hl⟩, h.queue, h.uniP, h.uniQ⟩
theorem RlD.of {k : Nat} (h1 : d.most = lv) (h2 : d.buy = decide (s = 0)) (h3 : d.Wf k) (h4 : ∀ l ∈ d.L, 1 ≤ (grp Z s l.price).length ∧ l.qty = qsum (grp Z s l.price) ∧ l.orders = ((grp Z s l.price).length : Int))
    (h5 : ∀ z ∈ Z, z.2.side = s → ∃ l ∈ d.L, l.price = z.2.price) (hZ : Z.length ≤ 500) : RlD lv s Z d :=
  ⟨h1, h2, h3.re fun l hl => by have := (h4 l hl).2.2; have := grp_len Z s l.price; omega, h4, h5⟩
/-- Where a price is. -/
theorem RlD.find (h : RlD lv s Z d) (p : Int) : (d.find p = none ∧ grp Z s p = []) ∨ ∃ j l, d.find p = some j ∧ d.L[j]? = some l ∧ d.at j = l ∧ l.price = p ∧ 1 ≤ (grp Z s p).length ∧ l.qty = qsum (grp Z s p) ∧ l.orders = ((grp Z s p).length : Int) := by
  cases hf : d.find p with
  | none =>
    refine .inl ⟨rfl, List.eq_nil_iff_forall_not_mem.2 fun z hz => ?_⟩
    obtain ⟨h1, h2, h3⟩ := grp_mem.1 hz
    obtain ⟨l, hl, e⟩ := h.lz z h1 h2
    exact Ld.find_none hf l hl (e.trans h3)
  | some j =>
    obtain ⟨l, hl, rfl, -⟩ := Ld.find_some hf
    obtain ⟨h1, h2, h3⟩ := h.lx l (List.mem_of_getElem? hl)
    exact .inr ⟨j, l, rfl, hl, Ld.at_eq hl, rfl, h1, h2, h3⟩
theorem Ld.Wf.one {k : Nat} {d : Ld} (h : d.Wf k) {j m : Nat} {x y : Lvl} (hj : d.L[j]? = some x) (hm : d.L[m]? = some y) (e : x.price = y.price) : j = m := by
  obtain ⟨l1, rfl⟩ := List.getElem?_eq_some_iff.1 hj
  obtain ⟨l2, rfl⟩ := List.getElem?_eq_some_iff.1 hm
  rcases Nat.lt_trichotomy j m with g | g | g
  · exact absurd e (List.pairwise_iff_getElem.1 h.uniP j m l1 l2 g)
  · exact g
  · exact absurd e.symm (List.pairwise_iff_getElem.1 h.uniP m j l2 l1 g)
theorem pqs_set {d : Ld} {j : Nat} {x y : Lvl} (hj : d.L[j]? = some x) (e1 : y.price = x.price) (e2 : y.queue = x.queue) : pqs ⟨d.buy, d.most, d.L.set j y⟩ = pqs d := by
  unfold pqs
  exact map_set_same _ hj (by rw [e1, e2])
/-- A level is set, the others' groups stay. -/
theorem RlD.setL (h : RlD lv s Z d) {k : Nat} {j : Nat} {l y : Lvl} (hj : d.L[j]? = some l) (e1 : y.price = l.price) (hw : (Ld.mk d.buy d.most (d.L.set j y)).Wf k) (hZ : Z'.length ≤ 500)
    (hg : ∀ p, p ≠ l.price → grp Z' s p = grp Z s p) (h1 : 1 ≤ (grp Z' s l.price).length) (h2 : y.qty = qsum (grp Z' s l.price)) (h3 : y.orders = ((grp Z' s l.price).length : Int))
    (hz : ∀ z ∈ Z', z.2.side = s → z.2.price = l.price ∨ ∃ z0 ∈ Z, z0.2.side = s ∧ z0.2.price = z.2.price) : RlD lv s Z' ⟨d.buy, d.most, d.L.set j y⟩ := by
  have hjl := (List.getElem?_eq_some_iff.1 hj).1
  have hy : y ∈ d.L.set j y := List.mem_iff_getElem?.2 ⟨j, List.getElem?_set_self hjl⟩
  refine RlD.of h.most h.buy hw (fun x hx => ?_) (fun z hz' hs => ?_) hZ
  · obtain ⟨m, hm⟩ := List.mem_iff_getElem?.1 hx
    rw [List.getElem?_set] at hm
    by_cases e : j = m
    · rw [if_pos e, if_pos (by omega)] at hm
      cases hm
      rw [e1]
      exact ⟨h1, h2, h3⟩
    · rw [if_neg e] at hm
      rw [hg x.price (fun e' => e (h.wf.one hj hm e'.symm))]
      exact h.lx x (List.mem_of_getElem? hm)
  · rcases hz z hz' hs with e | ⟨z0, g1, g2, g3⟩
    · exact ⟨y, hy, e1.trans e.symm⟩
    · obtain ⟨x, hx, e⟩ := h.lz z0 g1 g2
      obtain ⟨m, hm⟩ := List.mem_iff_getElem?.1 hx
      by_cases ej : j = m
      · subst ej
        rw [hj] at hm
        cases hm
        exact ⟨y, hy, e1.trans (e.trans g3)⟩
      · exact ⟨x, List.mem_iff_getElem?.2 ⟨m, by rw [List.getElem?_set_ne ej]; exact hm⟩, e.trans g3⟩
theorem RlD.add (h : RlD lv s Z d) (hs : o.side = s) (hp : 1 ≤ o.price ∧ o.price ≤ 1099511627776) (hq : 1 ≤ o.qty ∧ o.qty ≤ 4294967296) (hok : ∀ z ∈ Z, 1 ≤ z.2.qty ∧ z.2.qty ≤ 4294967296) (hZ : Z.length < 500) (hf : d.fits o.price = true) (i : Nat) :
    ∃ u : Int, d.putR o.price o.qty = (u, 0) ∧ RlD lv s (Z ++ [(i, o)]) (d.putS o.price o.qty) ∧
      ((pqs (d.putS o.price o.qty) = pqs d ∧ (o.price, u) ∈ pqs d) ∨ (pqs (d.putS o.price o.qty) = pqs d ++ [(o.price, u)] ∧ (∀ y ∈ pqs d, y.1 ≠ o.price ∧ y.2 ≠ u) ∧ 0 ≤ u ∧ u < lv)) := by
  have hZ' : (Z ++ [(i, o)]).length ≤ 500 := by rw [List.length_append, List.length_singleton]; omega
  have hgo : ∀ p, p ≠ o.price → grp (Z ++ [(i, o)]) s p = grp Z s p := fun p hp => by rw [grp_app, if_neg fun e => hp e.2.symm]
  have hgp : grp (Z ++ [(i, o)]) s o.price = grp Z s o.price ++ [(i, o)] := by rw [grp_app, if_pos ⟨hs, rfl⟩]
  have hnn : ¬ (o.price < 1 ∨ o.qty < 1) := by omega
  unfold Ld.putR Ld.putS
  simp only [if_neg hnn]
  rcases h.find o.price with ⟨h1, h2⟩ | ⟨j, l, h1, hj, ha, h2, h3, h4, h5⟩
  · rw [h1]
    have hroom : d.L.length < d.most := by
      unfold Ld.fits at hf
      rw [h1] at hf
      simpa using hf
    simp only [if_pos hroom]
    have hfree := freeQ_free d.L
    have hle := hfree.le
    have hmost := h.most
    refine ⟨(freeQ d.L : Nat), rfl, RlD.of h.most h.buy (h.wf.app ⟨hp.1, by omega⟩ ⟨hq.1, by omega⟩ (Ld.find_none h1) hroom) (fun x hx => ?_) (fun z hz hsz => ?_) hZ', .inr ⟨by simp [pqs], fun y hy => ?_, by omega, by omega⟩⟩
    · rcases List.mem_append.1 hx with hx | hx
      · rw [hgo _ (Ld.find_none h1 x hx)]
        exact h.lx x hx
      · rw [List.mem_singleton.1 hx]
        simp only [hgp, h2, List.nil_append, List.length_singleton, qsum]
        omega
    · rcases List.mem_append.1 hz with hz | hz
      · obtain ⟨x, hx, e⟩ := h.lz z hz hsz
        exact ⟨x, List.mem_append_left _ hx, e⟩
      · rw [List.mem_singleton.1 hz]
        exact ⟨_, List.mem_append_right _ (List.mem_singleton.2 rfl), rfl⟩
    · obtain ⟨x, hx, rfl⟩ := List.mem_map.1 hy
      exact ⟨Ld.find_none h1 x hx, hfree.1 x hx⟩
  · rw [h1]
    have hl := List.mem_of_getElem? hj
    have hs1 := qsum_le (G := grp Z s o.price) fun z hz => hok z (grp_mem.1 hz).1
    have hlen := grp_len Z s o.price
    have ho := (h.wf.orders l hl)
    simp only [ha]
    have hlt : l.qty + o.qty < 9223372036854775808 := by omega
    simp only [if_pos hlt]
    refine ⟨l.queue, rfl, h.setL (k := 501) hj rfl (h.wf.set hj rfl rfl ⟨by simp only [Lvl.add]; omega, hlt⟩ ⟨by simp only [Lvl.add]; omega, by simp only [Lvl.add]; omega⟩ (by omega)) hZ' (fun p hp => hgo p (by rw [← h2]; exact hp)) ?_ ?_ ?_ (fun z hz hsz => ?_), .inl ⟨pqs_set hj rfl rfl, List.mem_map.2 ⟨l, hl, by rw [h2]⟩⟩⟩
    · rw [h2, hgp, List.length_append, List.length_singleton]; omega
    · rw [h2, hgp, qsum_app]; simp only [Lvl.add, qsum]; omega
    · rw [h2, hgp, List.length_append, List.length_singleton]; simp only [Lvl.add]; omega
    · rcases List.mem_append.1 hz with hz | hz
      · exact .inr ⟨z, hz, hsz, rfl⟩
      · rw [List.mem_singleton.1 hz]; exact .inl h2.symm
theorem RlD.addO (h : RlD lv s Z d) (hs : o.side ≠ s) (i : Nat) : RlD lv s (Z ++ [(i, o)]) d := by
  have hg : ∀ p, grp (Z ++ [(i, o)]) s p = grp Z s p := fun p => by rw [grp_app, if_neg fun e => hs e.1]
  refine ⟨h.most, h.buy, h.wf, fun l hl => by rw [hg]; exact h.lx l hl, fun z hz hsz => ?_⟩
  rcases List.mem_append.1 hz with hz | hz
  · exact h.lz z hz hsz
  · rw [List.mem_singleton.1 hz] at hsz
    exact absurd hsz hs
/-- The groups when one is taken. -/
theorem grp_erase (hz : Z[k]? = some (i, o)) (s p : Int) : (¬ (o.side = s ∧ o.price = p) ∧ grp (Z.eraseIdx k) s p = grp Z s p ∧ ∀ o' : Ord, o'.side = o.side → o'.price = o.price → grp (Z.set k (i, o')) s p = grp Z s p) ∨
    ((o.side = s ∧ o.price = p) ∧ ∃ m, (grp Z s p)[m]? = some (i, o) ∧ grp (Z.eraseIdx k) s p = (grp Z s p).eraseIdx m ∧ ∀ o' : Ord, o'.side = o.side → o'.price = o.price → grp (Z.set k (i, o')) s p = (grp Z s p).set m (i, o')) := by
  by_cases h : o.side = s ∧ o.price = p
  · obtain ⟨m, h1, h2, h3⟩ := filter_at (P := fun z : Nat × Ord => z.2.side == s && z.2.price == p) hz (by simp [h])
    exact .inr ⟨h, m, h1, h2, fun o' e1 e2 => h3 _ (by simp [e1, e2, h])⟩
  · have hp : (fun z : Nat × Ord => z.2.side == s && z.2.price == p) (i, o) = false := by simpa using h
    exact .inl ⟨h, filter_erase_no hz hp, fun o' e1 e2 => filter_set_no hz hp (by simpa [e1, e2] using h)⟩
theorem RlD.rem (h : RlD lv s Z d) (hz : Z[k]? = some (i, o)) (hs : o.side = s) (hok : ∀ z ∈ Z, 1 ≤ z.2.qty ∧ z.2.qty ≤ 4294967296) (hZ : Z.length ≤ 500) :
    ∃ u : Int, d.takeR o.price o.qty = (u, 0) ∧ RlD lv s (Z.eraseIdx k) (d.takeS o.price o.qty true) ∧ (o.price, u) ∈ pqs d ∧
      (pqs (d.takeS o.price o.qty true) = pqs d ∨ (grp (Z.eraseIdx k) s o.price = [] ∧ ∃ j, (pqs d)[j]? = some (o.price, u) ∧ pqs (d.takeS o.price o.qty true) = (pqs d).eraseIdx j)) := by
  have hkl := (List.getElem?_eq_some_iff.1 hz).1
  have hm := List.mem_of_getElem? hz
  have hmg : (i, o) ∈ grp Z s o.price := grp_mem.2 ⟨hm, hs, rfl⟩
  have hZ' : (Z.eraseIdx k).length ≤ 500 := by have := (List.eraseIdx_sublist Z k).length_le; omega
  have hgo : ∀ p, p ≠ o.price → grp (Z.eraseIdx k) s p = grp Z s p := fun p hp => by
    rcases grp_erase hz s p with ⟨-, e, -⟩ | ⟨e, -⟩
    · exact e
    · exact absurd e.2.symm hp
  obtain ⟨m, g1, g2, -⟩ : ∃ m, (grp Z s o.price)[m]? = some (i, o) ∧ grp (Z.eraseIdx k) s o.price = (grp Z s o.price).eraseIdx m ∧ True := by
    rcases grp_erase hz s o.price with ⟨e, -⟩ | ⟨-, m, e1, e2, -⟩
    · exact absurd ⟨hs, rfl⟩ e
    · exact ⟨m, e1, e2, trivial⟩
  have hml := (List.getElem?_eq_some_iff.1 g1).1
  have hlen2 : (grp (Z.eraseIdx k) s o.price).length + 1 = (grp Z s o.price).length := by rw [g2, List.length_eraseIdx, if_pos hml]; omega
  have hsum2 := qsum_erase g1
  rw [← g2] at hsum2
  simp only at hsum2
  have hnn := (qsum_le (G := grp (Z.eraseIdx k) s o.price) fun z hz => hok z (List.mem_of_mem_eraseIdx (grp_mem.1 hz).1)).1
  have hq1 := hok _ hm
  simp only at hq1
  rcases h.find o.price with ⟨-, h2⟩ | ⟨j, l, h1, hj, ha, h2, h3, h4, h5⟩
  · rw [h2] at hmg; cases hmg
  have hl := List.mem_of_getElem? hj
  have hbad : ¬ (o.qty < 0 ∨ l.qty < o.qty) := by omega
  have hpj : (pqs d)[j]? = some (o.price, l.queue) := by rw [pqs, List.getElem?_map, hj, ← h2]; rfl
  refine ⟨l.queue, ?_, ?_, List.mem_of_getElem? hpj, ?_⟩
  · unfold Ld.takeR
    rw [h1]
    simp only [ha, if_neg hbad]
  all_goals
    unfold Ld.takeS
    rw [h1]
    simp only [ha, if_neg hbad]
  · have hww := h.wf.take o.price o.qty true
    unfold Ld.takeS at hww
    rw [h1] at hww
    simp only [ha, if_neg hbad] at hww
    by_cases h0 : (l.sub o.qty true).orders = 0
    · rw [if_pos h0] at hww ⊢
      simp only [Lvl.sub, if_true] at h0
      have hnil : grp (Z.eraseIdx k) s o.price = [] := List.length_eq_zero_iff.1 (by omega)
      refine RlD.of h.most h.buy hww (fun x hx => ?_) (fun z hz' hsz => ?_) hZ'
      · have hxd := List.mem_of_mem_eraseIdx hx
        have hne : x.price ≠ o.price := fun e => by
          obtain ⟨a, ha'⟩ := List.mem_iff_getElem?.1 hx
          rw [List.getElem?_eraseIdx] at ha'
          split at ha'
          · next hlt => have := h.wf.one hj ha' (h2.trans e.symm); omega
          · next hlt => have := h.wf.one hj ha' (h2.trans e.symm); omega
        rw [hgo _ hne]
        exact h.lx x hxd
      · have hzZ := List.mem_of_mem_eraseIdx hz'
        obtain ⟨x, hx, e⟩ := h.lz z hzZ hsz
        have hne : x.price ≠ o.price := fun e' => by
          have : z ∈ grp (Z.eraseIdx k) s o.price := grp_mem.2 ⟨hz', hsz, e.symm.trans e'⟩
          rw [hnil] at this
          cases this
        obtain ⟨a, ha'⟩ := List.mem_iff_getElem?.1 hx
        have haj : a ≠ j := fun e' => by subst e'; rw [hj] at ha'; cases ha'; exact hne h2
        refine ⟨x, ?_, e⟩
        rw [List.mem_eraseIdx_iff_getElem?]
        exact ⟨a, haj, ha'⟩
    · rw [if_neg h0] at hww ⊢
      simp only [Lvl.sub, if_true] at h0
      refine h.setL hj rfl hww hZ' (fun p hp => hgo p (by rw [← h2]; exact hp)) ?_ ?_ ?_ (fun z hz' hsz => .inr ⟨z, List.mem_of_mem_eraseIdx hz', hsz, rfl⟩)
      · rw [h2]; omega
      · rw [h2]; simp only [Lvl.sub]; omega
      · rw [h2]; simp only [Lvl.sub, if_true]; omega
  · by_cases h0 : (l.sub o.qty true).orders = 0
    · rw [if_pos h0]
      simp only [Lvl.sub, if_true] at h0
      exact .inr ⟨List.length_eq_zero_iff.1 (by omega), j, hpj, by unfold pqs; rw [map_eraseIdx']⟩
    · rw [if_neg h0]
      exact .inl (pqs_set hj rfl rfl)
theorem RlD.remO (h : RlD lv s Z d) (hz : Z[k]? = some (i, o)) (hs : o.side ≠ s) : RlD lv s (Z.eraseIdx k) d := by
  have hg : ∀ p, grp (Z.eraseIdx k) s p = grp Z s p := fun p => by
    rcases grp_erase hz s p with ⟨-, e, -⟩ | ⟨e, -⟩
    · exact e
    · exact absurd e.1 hs
  exact ⟨h.most, h.buy, h.wf, fun l hl => by rw [hg]; exact h.lx l hl, fun z hz hsz => h.lz z (List.mem_of_mem_eraseIdx hz) hsz⟩
end
end Go.Proofs.YtdmjcjheanedgaaDoor
namespace Go.Proofs.YtdmjcjheanedgaaDoor
section
variable {lv : Nat} {s : Int} {Z Z' : List (Nat × Ord)} {d : Ld} {o : Ord} {i k : Nat}
theorem RlD.red (h : RlD lv s Z d) (hz : Z[k]? = some (i, o)) (hs : o.side = s) (hok : ∀ z ∈ Z, 1 ≤ z.2.qty ∧ z.2.qty ≤ 4294967296) (hZ : Z.length ≤ 500) {q : Int} (hq : 1 ≤ q ∧ q < o.qty) :
    ∃ u : Int, d.takeR o.price q = (u, 0) ∧ RlD lv s (Z.set k (i, { o with qty := o.qty - q })) (d.takeS o.price q false) ∧ pqs (d.takeS o.price q false) = pqs d := by
  have hkl := (List.getElem?_eq_some_iff.1 hz).1
  have hm := List.mem_of_getElem? hz
  have hmg : (i, o) ∈ grp Z s o.price := grp_mem.2 ⟨hm, hs, rfl⟩
  have hZ' : (Z.set k (i, { o with qty := o.qty - q })).length ≤ 500 := by rw [List.length_set]; exact hZ
  have hgo : ∀ p, p ≠ o.price → grp (Z.set k (i, { o with qty := o.qty - q })) s p = grp Z s p := fun p hp => by
    rcases grp_erase hz s p with ⟨-, -, e⟩ | ⟨e, -⟩
    · exact e _ rfl rfl
    · exact absurd e.2.symm hp
  obtain ⟨m, g1, g2⟩ : ∃ m, (grp Z s o.price)[m]? = some (i, o) ∧ grp (Z.set k (i, { o with qty := o.qty - q })) s o.price = (grp Z s o.price).set m (i, { o with qty := o.qty - q }) := by
    rcases grp_erase hz s o.price with ⟨e, -⟩ | ⟨-, m, e1, -, e2⟩
    · exact absurd ⟨hs, rfl⟩ e
    · exact ⟨m, e1, e2 _ rfl rfl⟩
  have hsum2 := qsum_set (z' := (i, { o with qty := o.qty - q })) g1
  rw [← g2] at hsum2
  simp only at hsum2
  have hlen2 : (grp (Z.set k (i, { o with qty := o.qty - q })) s o.price).length = (grp Z s o.price).length := by rw [g2, List.length_set]
  have hge := qsum_erase g1
  have hnn := (qsum_le (G := (grp Z s o.price).eraseIdx m) fun z hz => hok z (grp_mem.1 (List.mem_of_mem_eraseIdx hz)).1).1
  simp only at hge
  rcases h.find o.price with ⟨-, h2⟩ | ⟨j, l, h1, hj, ha, h2, h3, h4, h5⟩
  · rw [h2] at hmg; cases hmg
  have hl := List.mem_of_getElem? hj
  have hbad : ¬ (q < 0 ∨ l.qty < q) := by omega
  have h0 : ¬ (l.sub q false).orders = 0 := by simp only [Lvl.sub, Bool.false_eq_true, if_false]; omega
  have hww := h.wf.take o.price q false
  unfold Ld.takeR
  unfold Ld.takeS at hww ⊢
  rw [h1] at hww ⊢
  simp only [ha, if_neg hbad, if_neg h0] at hww ⊢
  refine ⟨l.queue, rfl, h.setL hj rfl hww hZ' (fun p hp => hgo p (by rw [← h2]; exact hp)) ?_ ?_ ?_ (fun z hz' hsz => ?_), pqs_set hj rfl rfl⟩
  · rw [h2]; omega
  · rw [h2]; simp only [Lvl.sub]; omega
  · rw [h2]; simp only [Lvl.sub, Bool.false_eq_true, if_false]; omega
  · rcases List.mem_or_eq_of_mem_set hz' with g | g
    · exact .inr ⟨z, g, hsz, rfl⟩
    · rw [g]; exact .inl h2.symm
theorem RlD.redO (h : RlD lv s Z d) (hz : Z[k]? = some (i, o)) (hs : o.side ≠ s) (q : Int) : RlD lv s (Z.set k (i, { o with qty := o.qty - q })) d := by
  have hg : ∀ p, grp (Z.set k (i, { o with qty := o.qty - q })) s p = grp Z s p := fun p => by
    rcases grp_erase hz s p with ⟨-, -, e⟩ | ⟨e, -⟩
    · exact e _ rfl rfl
    · exact absurd e.1 hs
  refine ⟨h.most, h.buy, h.wf, fun l hl => by rw [hg]; exact h.lx l hl, fun z hz' hsz => ?_⟩
  rcases List.mem_or_eq_of_mem_set hz' with g | g
  · exact h.lz z g hsz
  · rw [g] at hsz
    exact absurd hsz hs
end
/-- Where a side's queues begin. -/
def bq (lv : Nat) (s : Int) : Int := if s = 0 then 0 else lv
theorem bq_inj {lv : Nat} {s t u v : Int} (hs : s = 0 ∨ s = 1) (ht : t = 0 ∨ t = 1) (hu : 0 ≤ u ∧ u < lv) (hv : 0 ≤ v ∧ v < lv) (e : bq lv s + u = bq lv t + v) : s = t ∧ u = v := by
  unfold bq at e
  rcases hs with rfl | rfl <;> rcases ht with rfl | rfl <;> simp at e ⊢ <;> omega
theorem Fq.qi_putI {f : Fq} {c : Int} (hc : f.hasQ c = true) (q : List Nat) (x : Int) : (f.put c.toNat q).qi x = if x = c then q else f.qi x := by
  obtain ⟨n, q0, rfl, hn, h1, h2⟩ := Fq.hasQ_pos hc
  rw [Int.toNat_natCast]
  rcases Int.lt_or_le x 0 with h0 | h0
  · rw [if_neg (by omega)]
    unfold Fq.qi
    rw [if_neg (by omega), if_neg (by omega)]
  · obtain ⟨m, rfl⟩ := Int.eq_ofNat_of_zero_le h0
    rw [Fq.qi_nat, Fq.qi_nat]
    show ((f.L.set n q)[m]?).getD [] = _
    rw [List.getElem?_set]
    by_cases e : n = m
    · subst e
      rw [if_pos rfl, if_pos hn, if_pos rfl]
      rfl
    · rw [if_neg e, if_neg (by omega)]
structure RlQ (lv n : Nat) (Z : List (Nat × Ord)) (pq : Int → List (Int × Int)) (f : Fq) : Prop where
  wf : f.Wf
  n : f.n = n
  m : f.L.length = 2 * lv
  q : ∀ s, (s = 0 ∨ s = 1) → ∀ y ∈ pq s, (0 ≤ y.2 ∧ y.2 < lv) ∧ f.qi (bq lv s + y.2) = (grp Z s y.1).map (·.1)
  e : ∀ s, (s = 0 ∨ s = 1) → ∀ u : Int, 0 ≤ u ∧ u < (lv : Int) → (∀ y ∈ pq s, y.2 ≠ u) → f.qi (bq lv s + u) = []
  uni : ∀ s, (s = 0 ∨ s = 1) → (pq s).Pairwise fun a b => a.1 ≠ b.1 ∧ a.2 ≠ b.2
section
variable {lv n : Nat} {s : Int} {Z : List (Nat × Ord)} {pq pq' : Int → List (Int × Int)} {f : Fq} {o : Ord} {i k : Nat} {u : Int}
theorem RlQ.new (lv n : Nat) : RlQ lv n [] (fun _ => []) (Fq.new n (2 * lv)) := by
  refine ⟨Fq.new_wf _ _, rfl, by simp [Fq.new], (fun s _ y h => by cases h), fun s _ u _ _ => ?_, fun s _ => List.Pairwise.nil⟩
  unfold Fq.qi
  split
  · simp only [Fq.new, List.getElem?_replicate]
    split <;> rfl
  · rfl
theorem RlQ.has (h : RlQ lv n Z pq f) (hs : s = 0 ∨ s = 1) (hu : 0 ≤ u ∧ u < lv) : f.hasQ (bq lv s + u) = true := by
  have := h.m
  unfold Fq.hasQ bq
  rcases hs with rfl | rfl <;> simp <;> omega
/-- Who stands in a queue rests. -/
theorem RlQ.rests (h : RlQ lv n Z pq f) {x c m : Nat} (ha : f.At x c m) : ∃ s, (s = 0 ∨ s = 1) ∧ ∃ y ∈ pq s, (c : Int) = bq lv s + y.2 ∧ (f.qi (c : Int))[m]? = some x := by
  obtain ⟨q, h1, h2⟩ := ha
  have hl := (List.getElem?_eq_some_iff.1 h1).1
  have hq : f.qi (c : Int) = q := by rw [Fq.qi_nat, h1]; rfl
  have hm := h.m
  obtain ⟨s, hs, u, hu, e⟩ : ∃ s : Int, (s = 0 ∨ s = 1) ∧ ∃ u : Int, (0 ≤ u ∧ u < lv) ∧ (c : Int) = bq lv s + u := by
    rcases Nat.lt_or_ge c lv with g | g
    · exact ⟨0, .inl rfl, c, by omega, by simp [bq]⟩
    · exact ⟨1, .inr rfl, c - lv, by omega, by simp [bq]; omega⟩
  by_cases hy : ∃ y ∈ pq s, y.2 = u
  · obtain ⟨y, hy, rfl⟩ := hy
    exact ⟨s, hs, y, hy, e, by rw [hq]; exact h2⟩
  · have := h.e s hs u hu fun y hy' e' => hy ⟨y, hy', e'⟩
    rw [← e, hq] at this
    rw [this] at h2
    cases h2
theorem RlQ.fresh (h : RlQ lv n Z pq f) (hi : i ∉ Z.map (·.1)) : ∀ c m, ¬ f.At i c m := by
  intro c m ha
  obtain ⟨s, hs, y, hy, e, hx⟩ := h.rests ha
  rw [e, (h.q s hs y hy).2] at hx
  have hmem := List.mem_of_getElem? hx
  obtain ⟨z, hz, e2⟩ := List.mem_map.1 hmem
  exact hi (List.mem_map.2 ⟨z, (grp_mem.1 hz).1, e2⟩)
/-- One more in the queue of its price. -/
theorem RlQ.add (h : RlQ lv n Z pq f) (hs : s = 0 ∨ s = 1) (ho : o.side = s) (hi : i ∉ Z.map (·.1)) (hin : i < n) (hpq : ∀ t, t ≠ s → pq' t = pq t)
    (hp : (pq' s = pq s ∧ (o.price, u) ∈ pq s) ∨ (pq' s = pq s ++ [(o.price, u)] ∧ (∀ y ∈ pq s, y.1 ≠ o.price ∧ y.2 ≠ u) ∧ (0 ≤ u ∧ u < lv) ∧ grp Z s o.price = [])) :
    f.pushB (bq lv s + u) (i : Int) = true ∧ RlQ lv n (Z ++ [(i, o)]) pq' (f.pushS (bq lv s + u) (i : Int)) := by
  have hu : 0 ≤ u ∧ u < lv := by
    rcases hp with ⟨-, g⟩ | ⟨-, -, g, -⟩
    · exact (h.q s hs _ g).1
    · exact g
  have hold : f.qi (bq lv s + u) = (grp Z s o.price).map (·.1) := by
    rcases hp with ⟨-, g⟩ | ⟨-, g, -, e⟩
    · exact (h.q s hs _ g).2
    · rw [h.e s hs u hu fun y hy => (g y hy).2, e]; rfl
  have hq := h.has hs hu
  have hB : f.pushB (bq lv s + u) (i : Int) = true := by
    unfold Fq.pushB
    rw [hq, Fq.hasN_nat, Fq.findI_nat, Fq.find_no (h.fresh hi), h.n]
    simp [hin]
  have hgp : grp (Z ++ [(i, o)]) s o.price = grp Z s o.price ++ [(i, o)] := by rw [grp_app, if_pos ⟨ho, rfl⟩]
  have hgo : ∀ t p, ¬ (t = s ∧ p = o.price) → grp (Z ++ [(i, o)]) t p = grp Z t p := fun t p hn => by rw [grp_app, if_neg fun e => hn ⟨e.1.symm.trans ho, e.2.symm⟩]
  have hS : f.pushS (bq lv s + u) (i : Int) = f.put (bq lv s + u).toNat (f.qi (bq lv s + u) ++ [i]) := by
    unfold Fq.pushS
    rw [if_pos hB, Int.toNat_natCast]
  have hqi := Fq.qi_putI hq (f.qi (bq lv s + u) ++ [i])
  have hmem : ∀ y ∈ pq' s, y = (o.price, u) ∨ (y ∈ pq s ∧ y.1 ≠ o.price ∧ y.2 ≠ u) := fun y hy => by
    rcases hp with ⟨g, g2⟩ | ⟨g, g2, -, -⟩
    · rw [g] at hy
      by_cases e : y = (o.price, u)
      · exact .inl e
      · refine .inr ⟨hy, ?_⟩
        obtain ⟨a, ha⟩ := List.mem_iff_getElem?.1 hy
        obtain ⟨b, hb⟩ := List.mem_iff_getElem?.1 g2
        obtain ⟨la, rfl⟩ := List.getElem?_eq_some_iff.1 ha
        obtain ⟨lb, eb⟩ := List.getElem?_eq_some_iff.1 hb
        have hab : a ≠ b := fun e' => by subst e'; exact e eb
        rcases Nat.lt_or_gt_of_ne hab with c | c
        · have := List.pairwise_iff_getElem.1 (h.uni s hs) a b la lb c
          rw [eb] at this
          exact this
        · have := List.pairwise_iff_getElem.1 (h.uni s hs) b a lb la c
          rw [eb] at this
          exact ⟨fun e' => this.1 e'.symm, fun e' => this.2 e'.symm⟩
    · rw [g] at hy
      rcases List.mem_append.1 hy with hy | hy
      · exact .inr ⟨hy, g2 y hy⟩
      · exact .inl (List.mem_singleton.1 hy)
  have hmem2 : (o.price, u) ∈ pq' s := by
    rcases hp with ⟨g, g2⟩ | ⟨g, -⟩
    · rw [g]; exact g2
    · rw [g]; exact List.mem_append_right _ (List.mem_singleton.2 rfl)
  have hsub : ∀ y ∈ pq s, y ∈ pq' s := fun y hy => by
    rcases hp with ⟨g, -⟩ | ⟨g, -⟩
    · rw [g]; exact hy
    · rw [g]; exact List.mem_append_left _ hy
  obtain ⟨c, q0, hc, hcl, hcq, hq0⟩ := Fq.hasQ_pos hq
  refine ⟨hB, ?_⟩
  rw [hS]
  refine ⟨?_, h.n, by rw [Fq.put_m]; exact h.m, fun t ht y hy => ?_, fun t ht v hv hn => ?_, fun t ht => ?_⟩
  · rw [hc, Int.toNat_natCast, ← hc, hq0]
    exact h.wf.push hcq (by rw [h.n]; exact hin) (h.fresh hi)
  · rw [hqi]
    by_cases e : t = s
    · subst e
      rcases hmem y hy with rfl | ⟨g1, g2, g3⟩
      · refine ⟨hu, ?_⟩
        rw [if_pos rfl, hold, hgp, List.map_append]; rfl
      · obtain ⟨k1, k2⟩ := h.q t ht y g1
        rw [if_neg (fun e => g3 (bq_inj ht ht k1 hu e).2), hgo _ _ (fun e => g2 e.2)]
        exact ⟨k1, k2⟩
    · rw [hpq t e] at hy
      obtain ⟨k1, k2⟩ := h.q t ht y hy
      rw [if_neg (fun e' => e (bq_inj ht hs k1 hu e').1), hgo _ _ (fun e' => e e'.1)]
      exact ⟨k1, k2⟩
  · rw [hqi]
    have hne : ¬ bq lv t + v = bq lv s + u := fun e => by
      obtain ⟨rfl, rfl⟩ := bq_inj ht hs hv hu e
      exact hn _ hmem2 rfl
    rw [if_neg hne]
    refine h.e t ht v hv fun y hy => ?_
    by_cases e : t = s
    · subst e; exact hn y (hsub y hy)
    · exact hn y (by rw [hpq t e]; exact hy)
  · by_cases e : t = s
    · subst e
      rcases hp with ⟨g, -⟩ | ⟨g, g2, -⟩
      · rw [g]; exact h.uni t ht
      · rw [g]
        refine List.pairwise_append.2 ⟨h.uni t ht, List.pairwise_singleton _ _, fun a ha b hb => ?_⟩
        rw [List.mem_singleton.1 hb]
        exact g2 a ha
    · rw [hpq t e]; exact h.uni t ht
/-- One is taken out. -/
theorem RlQ.rem (h : RlQ lv n Z pq f) (hs : s = 0 ∨ s = 1) (ho : o.side = s) (hz : Z[k]? = some (i, o)) (hpq : ∀ t, t ≠ s → pq' t = pq t) (hu : (o.price, u) ∈ pq s)
    (hp : pq' s = pq s ∨ (grp (Z.eraseIdx k) s o.price = [] ∧ ∃ j, (pq s)[j]? = some (o.price, u) ∧ pq' s = (pq s).eraseIdx j)) :
    f.ofB (i : Int) = true ∧ RlQ lv n (Z.eraseIdx k) pq' (f.remS (i : Int)) := by
  obtain ⟨hur, hq⟩ := h.q s hs _ hu
  simp only at hur hq
  have hh := h.has hs hur
  obtain ⟨c, q0, hc, hcl, hcq, hq0⟩ := Fq.hasQ_pos hh
  obtain ⟨m, g1, g2⟩ : ∃ m, (grp Z s o.price)[m]? = some (i, o) ∧ grp (Z.eraseIdx k) s o.price = (grp Z s o.price).eraseIdx m := by
    rcases grp_erase hz s o.price with ⟨e, -⟩ | ⟨-, m, e1, e2, -⟩
    · exact absurd ⟨ho, rfl⟩ e
    · exact ⟨m, e1, e2⟩
  have hgo : ∀ t p, ¬ (t = s ∧ p = o.price) → grp (Z.eraseIdx k) t p = grp Z t p := fun t p hn => by
    rcases grp_erase hz t p with ⟨-, e, -⟩ | ⟨e, -⟩
    · exact e
    · exact absurd ⟨e.1.symm.trans ho, e.2.symm⟩ hn
  have hat : f.At i c m := ⟨q0, hcq, by rw [← hq0, hq, List.getElem?_map, g1]; rfl⟩
  have hfi := Fq.findI_eq h.wf hat
  have hS : f.remS (i : Int) = f.put (bq lv s + u).toNat (((grp Z s o.price).map (·.1)).eraseIdx m) := by
    unfold Fq.remS
    rw [hfi]
    simp only
    rw [hcq, Option.getD_some, ← hq0, hq, hc, Int.toNat_natCast]
  have hqi := Fq.qi_putI hh (((grp Z s o.price).map (·.1)).eraseIdx m)
  have hsub : ∀ y ∈ pq' s, y ∈ pq s := fun y hy => by
    rcases hp with g | ⟨-, j, -, g⟩
    · rw [g] at hy; exact hy
    · rw [g] at hy; exact List.mem_of_mem_eraseIdx hy
  have hone : ∀ y ∈ pq s, y.2 = u → y = (o.price, u) := fun y hy e => by
    obtain ⟨a, ha⟩ := List.mem_iff_getElem?.1 hy
    obtain ⟨b, hb⟩ := List.mem_iff_getElem?.1 hu
    obtain ⟨la, rfl⟩ := List.getElem?_eq_some_iff.1 ha
    obtain ⟨lb, eb⟩ := List.getElem?_eq_some_iff.1 hb
    rcases Nat.lt_trichotomy a b with c' | c' | c'
    · have := (List.pairwise_iff_getElem.1 (h.uni s hs) a b la lb c').2
      rw [eb] at this
      exact absurd e this
    · subst c'; exact eb
    · have := (List.pairwise_iff_getElem.1 (h.uni s hs) b a lb la c').2
      rw [eb] at this
      exact absurd e.symm this
  have hone1 : ∀ y ∈ pq s, y.1 = o.price → y = (o.price, u) := fun y hy e => by
    obtain ⟨a, ha⟩ := List.mem_iff_getElem?.1 hy
    obtain ⟨b, hb⟩ := List.mem_iff_getElem?.1 hu
    obtain ⟨la, rfl⟩ := List.getElem?_eq_some_iff.1 ha
    obtain ⟨lb, eb⟩ := List.getElem?_eq_some_iff.1 hb
    rcases Nat.lt_trichotomy a b with c' | c' | c'
    · have := (List.pairwise_iff_getElem.1 (h.uni s hs) a b la lb c').1
      rw [eb] at this
      exact absurd e this
    · subst c'; exact eb
    · have := (List.pairwise_iff_getElem.1 (h.uni s hs) b a lb la c').1
      rw [eb] at this
      exact absurd e.symm this
  refine ⟨by unfold Fq.ofB; rw [hfi]; rfl, ?_⟩
  rw [hS]
  refine ⟨?_, h.n, by rw [Fq.put_m]; exact h.m, fun t ht y hy => ?_, fun t ht v hv hn => ?_, fun t ht => ?_⟩
  · rw [hc, Int.toNat_natCast, ← hq, hq0]
    exact h.wf.rem hcq
  · rw [hqi]
    by_cases e : t = s
    · subst e
      have hy' := hsub y hy
      obtain ⟨k1, k2⟩ := h.q t ht y hy'
      by_cases ey : y.2 = u
      · obtain rfl := hone y hy' ey
        rw [if_pos rfl, g2, map_eraseIdx']
        exact ⟨k1, rfl⟩
      · rw [if_neg (fun e => ey (bq_inj ht ht k1 hur e).2), hgo _ _ (fun e => ey (by rw [hone1 y hy' e.2]))]
        exact ⟨k1, k2⟩
    · rw [hpq t e] at hy
      obtain ⟨k1, k2⟩ := h.q t ht y hy
      rw [if_neg (fun e' => e (bq_inj ht hs k1 hur e').1), hgo _ _ (fun e' => e e'.1)]
      exact ⟨k1, k2⟩
  · rw [hqi]
    by_cases e : bq lv t + v = bq lv s + u
    · obtain ⟨rfl, rfl⟩ := bq_inj ht hs hv hur e
      rw [if_pos rfl, ← map_eraseIdx', ← g2]
      rcases hp with g | ⟨g, -⟩
      · exact absurd rfl (hn _ (by rw [g]; exact hu))
      · rw [g]; rfl
    · rw [if_neg e]
      refine h.e t ht v hv fun y hy e' => ?_
      by_cases et : t = s
      · subst et
        rcases hp with g | ⟨-, j, hj, g⟩
        · exact hn y (by rw [g]; exact hy) e'
        · refine hn y ?_ e'
          rw [g, List.mem_eraseIdx_iff_getElem?]
          obtain ⟨a, ha⟩ := List.mem_iff_getElem?.1 hy
          refine ⟨a, fun ea => ?_, ha⟩
          subst ea
          rw [hj] at ha
          cases ha
          exact e (by rw [← e'])
      · exact hn y (by rw [hpq t et]; exact hy) e'
  · by_cases e : t = s
    · subst e
      rcases hp with g | ⟨-, j, -, g⟩
      · rw [g]; exact h.uni t ht
      · rw [g]; exact (h.uni t ht).sublist (List.eraseIdx_sublist _ _)
    · rw [hpq t e]; exact h.uni t ht
theorem RlQ.red (h : RlQ lv n Z pq f) (hz : Z[k]? = some (i, o)) (q : Int) : RlQ lv n (Z.set k (i, { o with qty := o.qty - q })) pq f := by
  refine ⟨h.wf, h.n, h.m, fun t ht y hy => ?_, h.e, h.uni⟩
  obtain ⟨k1, k2⟩ := h.q t ht y hy
  refine ⟨k1, k2.trans ?_⟩
  rcases grp_erase hz t y.1 with ⟨-, -, e⟩ | ⟨-, m, e1, -, e2⟩
  · rw [e { o with qty := o.qty - q } rfl rfl]
  · rw [e2 { o with qty := o.qty - q } rfl rfl, map_set_fst e1]
end
end Go.Proofs.YtdmjcjheanedgaaDoor
namespace Go.Proofs.YtdmjcjheanedgaaDoor
section
variable {lv n : Nat} {s : Int} {Z : List (Nat × Ord)} {d : Ld} {P : List Lvl}
theorem RlD.better_eq (h : RlD lv s Z d) (hs : s = 0 ∨ s = 1) (a b : Int) : btr d.buy a b = bett s a b := by
  rw [h.buy]
  rcases hs with rfl | rfl
  · rw [bett_buy]; rfl
  · rw [bett_sell]; rfl
/-- A side's orders, level by level. -/
def flatP (Z : List (Nat × Ord)) (s : Int) (P : List Lvl) : List Ord := P.flatMap fun l => (grp Z s l.price).map (·.2)
theorem flatP_mem (h : RlD lv s Z d) (hP : Sord d.buy d.L P) {x : Ord} : x ∈ flatP Z s P ↔ x ∈ Z.map (·.2) ∧ x.side = s := by
  unfold flatP
  rw [List.mem_flatMap]
  constructor
  · rintro ⟨l, hl, hx⟩
    obtain ⟨z, hz, rfl⟩ := List.mem_map.1 hx
    obtain ⟨h1, h2, -⟩ := grp_mem.1 hz
    exact ⟨List.mem_map.2 ⟨z, h1, rfl⟩, h2⟩
  · rintro ⟨hx, hsd⟩
    obtain ⟨z, hz, rfl⟩ := List.mem_map.1 hx
    obtain ⟨l, hl, e⟩ := h.lz z hz hsd
    exact ⟨l, hP.mem.2 hl, List.mem_map.2 ⟨z, grp_mem.2 ⟨hz, hsd, e.symm⟩, rfl⟩⟩
theorem flatP_srt (h : RlD lv s Z d) (hs : s = 0 ∨ s = 1) (hu : Bku (Z.map (·.2))) (hP : Sord d.buy d.L P) : Bsd (Z.map (·.2)) s (flatP Z s P) := by
  unfold Bsd flatP
  rw [List.pairwise_flatMap]
  refine ⟨fun l hl => ?_, ?_⟩
  · have h0 : (Z.map (·.2)).Pairwise fun x y => bkx (Z.map (·.2)) x < bkx (Z.map (·.2)) y := by
      rw [List.pairwise_iff_getElem]
      intro i j hi hj hij
      rw [hu.x (List.getElem?_eq_getElem hi), hu.x (List.getElem?_eq_getElem hj)]
      exact hij
    have h1 : ((grp Z s l.price).map (·.2)).Pairwise fun x y => bkx (Z.map (·.2)) x < bkx (Z.map (·.2)) y := h0.sublist ((List.filter_sublist (l := Z)).map _)
    refine h1.imp_of_mem fun {x y} hx hy g => .inr ⟨?_, g⟩
    obtain ⟨z, hz, rfl⟩ := List.mem_map.1 hx
    obtain ⟨z', hz', rfl⟩ := List.mem_map.1 hy
    rw [(grp_mem.1 hz).2.2, (grp_mem.1 hz').2.2, bett_irr]
  · refine hP.std.imp fun {l l'} g x hx y hy => .inl ?_
    obtain ⟨z, hz, rfl⟩ := List.mem_map.1 hx
    obtain ⟨z', hz', rfl⟩ := List.mem_map.1 hy
    rw [(grp_mem.1 hz).2.2, (grp_mem.1 hz').2.2, ← h.better_eq hs]
    exact g
theorem Bsd.nodup {L q : List Ord} {s : Int} (h : Bsd L s q) : q.Nodup := h.imp fun {x y} g e => by subst e; exact g.not_both g
theorem Bku.nodup {L : List Ord} (h : Bku L) : L.Nodup := h.imp fun {x y} g e => g (by rw [e])
/-- They are the side's orders in their order. -/
theorem flatP_eq (h : RlD lv s Z d) (hs : s = 0 ∨ s = 1) (hu : Bku (Z.map (·.2))) (hP : Sord d.buy d.L P) : flatP Z s P = bkOf (Z.map (·.2)) s := by
  have h1 := flatP_srt h hs hu hP
  refine bkOf_uni hu h1 ((List.perm_ext_iff_of_nodup h1.nodup (hu.nodup.sublist List.filter_sublist)).2 fun x => ?_)
  rw [flatP_mem h hP, List.mem_filter, beq_iff_eq]
/-- The first one. -/
theorem flatP_head (h : RlD lv s Z d) (hP : Sord d.buy d.L P) : (flatP Z s P).head? = P[0]?.bind fun l => (grp Z s l.price)[0]?.map (·.2) := by
  unfold flatP
  cases P with
  | nil => rfl
  | cons l t =>
    have h1 := (h.lx l (hP.mem.1 List.mem_cons_self)).1
    cases hg : grp Z s l.price with
    | nil => rw [hg] at h1; simp at h1
    | cons z g => simp [hg]
/-! Sums. -/
def osum : List Ord → Int
  | [] => 0
  | x :: t => x.qty + osum t
theorem osum_app (a b : List Ord) : osum (a ++ b) = osum a + osum b := by
  induction a with
  | nil => simp [osum]
  | cons x t ih => rw [List.cons_append, osum, osum, ih]; omega
theorem osum_perm {a b : List Ord} (h : a.Perm b) : osum a = osum b := by
  induction h with
  | nil => rfl
  | cons x _ ih => rw [osum, osum, ih]
  | swap x y l => simp only [osum]; omega
  | trans _ _ h1 h2 => exact h1.trans h2
theorem osum_map (G : List (Nat × Ord)) : osum (G.map (·.2)) = qsum G := by
  induction G with
  | nil => rfl
  | cons x t ih => rw [List.map_cons, osum, qsum, ih]
theorem osum_fold (l : List Ord) : (l.map Ord.qty).foldr (· + ·) 0 = osum l := by
  induction l with
  | nil => rfl
  | cons x t ih => rw [List.map_cons, List.foldr_cons, osum, ih]
theorem flatP_sum (f : Int → Bool) (h : ∀ l ∈ P, l.qty = qsum (grp Z s l.price)) : osum ((flatP Z s P).filter fun x => f x.price) = wsum (fun l => f l.price) P := by
  unfold flatP wsum
  induction P with
  | nil => rfl
  | cons l t ih =>
    rw [List.flatMap_cons, List.filter_append, osum_app, ih fun l' hl' => h l' (List.mem_cons_of_mem _ hl'), List.filter_cons]
    have hl := h l List.mem_cons_self
    by_cases hf : f l.price = true
    · rw [if_pos hf, sumL, hl, ← osum_map, List.filter_eq_self.2]
      intro x hx
      obtain ⟨z, hz, rfl⟩ := List.mem_map.1 hx
      rw [(grp_mem.1 hz).2.2]
      exact hf
    · rw [if_neg hf, List.filter_eq_nil_iff.2, osum]
      · omega
      · intro x hx
        obtain ⟨z, hz, rfl⟩ := List.mem_map.1 hx
        rw [(grp_mem.1 hz).2.2]
        exact hf
theorem osum_le {l : List Ord} (h : ∀ x ∈ l, 1 ≤ x.qty ∧ x.qty ≤ 4294967296) : 0 ≤ osum l ∧ osum l ≤ 4294967296 * (l.length : Int) := by
  induction l with
  | nil => simp [osum]
  | cons x t ih =>
    have h1 := h x List.mem_cons_self
    have h2 := ih fun z hz => h z (List.mem_cons_of_mem _ hz)
    rw [osum, List.length_cons]
    omega
/-- Worth. -/
theorem RlD.worth (h : RlD lv s Z d) (hs : s = 0 ∨ s = 1) (hu : Bku (Z.map (·.2))) (hok : ∀ z ∈ Z, 1 ≤ z.2.qty ∧ z.2.qty ≤ 4294967296) (hZ : Z.length ≤ 500) (lim : Int) : d.worth lim = bkWorth (Z.map (·.2)) s lim := by
  obtain ⟨P, hP⟩ := Sord.exists (buy := d.buy) h.wf.uniP
  rw [hP.worth]
  have h1 := flatP_sum (s := s) (Z := Z) (P := P) (fun p => !bett s lim p) fun l hl => (h.lx l (hP.mem.1 hl)).2.1
  rw [flatP_eq h hs hu hP] at h1
  have h2 : bkWorth (Z.map (·.2)) s lim = osum ((bkOf (Z.map (·.2)) s).filter fun x => !bett s lim x.price) := by
    unfold bkWorth
    rw [osum_fold, osum_perm ((bkOf_perm (Z.map (·.2)) s).filter _), List.filter_filter]
    congr 2
    funext x
    exact Bool.and_comm _ _
  have h3 := osum_le (l := (bkOf (Z.map (·.2)) s).filter fun x => !bett s lim x.price) fun x hx => by
    obtain ⟨z, hz, rfl⟩ := List.mem_map.1 (bkOf_mem.1 (List.mem_filter.1 hx).1).1
    exact hok z hz
  have h4 : ((bkOf (Z.map (·.2)) s).filter fun x => !bett s lim x.price).length ≤ 500 := by
    refine Nat.le_trans (List.length_filter_le _ _) ?_
    rw [(bkOf_perm _ s).length_eq]
    refine Nat.le_trans (List.length_filter_le _ _) ?_
    rw [List.length_map]
    exact hZ
  rw [h2]
  rw [h1] at h3
  have h5 : wsum (fun x => !btr d.buy lim x.price) P = wsum (fun l => !bett s lim l.price) P := by
    congr 1
    funext x
    rw [h.better_eq hs]
  rw [h5, h1]
  omega
/-! Prices. -/
theorem RlD.has (h : RlD lv s Z d) (p : Int) : (d.find p).isSome = decide (p ∈ prs (Z.map (·.2)) s) := by
  rcases h.find p with ⟨h1, h2⟩ | ⟨j, l, h1, -, -, h2, h3, -⟩
  · rw [h1]
    symm
    refine decide_eq_false fun hp => ?_
    obtain ⟨x, hx, e1, e2⟩ := prs_mem.1 hp
    obtain ⟨z, hz, rfl⟩ := List.mem_map.1 hx
    have : z ∈ grp Z s p := grp_mem.2 ⟨hz, e1, e2⟩
    rw [h2] at this
    cases this
  · rw [h1]
    symm
    refine decide_eq_true (prs_mem.2 ?_)
    obtain ⟨z, hz⟩ := List.exists_mem_of_length_pos (by omega : 0 < (grp Z s p).length)
    obtain ⟨g1, g2, g3⟩ := grp_mem.1 hz
    exact ⟨z.2, List.mem_map.2 ⟨z, g1, rfl⟩, g2, g3⟩
theorem RlD.count (h : RlD lv s Z d) : d.L.length = (prs (Z.map (·.2)) s).length := by
  have h1 : (d.L.map (·.price)).Nodup := by
    rw [List.Nodup, List.pairwise_map]
    exact h.wf.uniP
  have h2 := (List.perm_ext_iff_of_nodup h1 (prs_nodup (Z.map (·.2)) s)).2 fun p => by
    rw [prs_mem, List.mem_map]
    constructor
    · rintro ⟨l, hl, rfl⟩
      have h3 := (h.lx l hl).1
      obtain ⟨z, hz⟩ := List.exists_mem_of_length_pos (by omega : 0 < (grp Z s l.price).length)
      obtain ⟨g1, g2, g3⟩ := grp_mem.1 hz
      exact ⟨z.2, List.mem_map.2 ⟨z, g1, rfl⟩, g2, g3⟩
    · rintro ⟨x, hx, e1, e2⟩
      obtain ⟨z, hz, rfl⟩ := List.mem_map.1 hx
      obtain ⟨l, hl, e⟩ := h.lz z hz e1
      exact ⟨l, hl, e.trans e2⟩
  have := h2.length_eq
  rwa [List.length_map] at this
theorem RlD.fits (h : RlD lv s Z d) (p : Int) : d.fits p = bkFits lv (Z.map (·.2)) s p := by
  unfold Ld.fits bkFits
  rw [h.has, h.count, h.most]
  congr 1
  exact decide_eq_decide.2 (by omega)
/-- A queue's slots hold the level's orders. -/
theorem grp_slots {a : Ar} (h : RlA Z a) {p : Int} {m : Nat} {i : Nat} (hm : ((grp Z s p).map (·.1))[m]? = some i) : a.has i = true ∧ ∃ o, a.O[i]? = some o ∧ ((grp Z s p).map (·.2))[m]? = some o := by
  rw [List.getElem?_map] at hm
  cases hg : (grp Z s p)[m]? with
  | none => rw [hg] at hm; cases hm
  | some z =>
    rw [hg] at hm
    cases hm
    have hz := (grp_mem.1 (List.mem_of_getElem? hg)).1
    exact ⟨(h.has z.1).2 (List.mem_map.2 ⟨z, hz, rfl⟩), z.2, h.at' z hz, by rw [List.getElem?_map, hg]; rfl⟩
end
end Go.Proofs.YtdmjcjheanedgaaDoor
namespace Go.Proofs.YtdmjcjheanedgaaDoor
structure Rl (b : Bk) (Z : List (Nat × Ord)) (a : Ar) (x : List Ixr) (f : Fq) (d : Int → Ld) : Prop where
  zl : b.L = Z.map (·.2)
  ok : b.Ok
  ar : RlA Z a
  an : a.n = b.slots
  ix : x = Z.map rowZ
  q : RlQ b.levels b.slots Z (fun s => pqs (d s)) f
  l : ∀ s, (s = 0 ∨ s = 1) → RlD b.levels s Z (d s)
def upd (d : Int → Ld) (s : Int) (v : Ld) : Int → Ld := fun t => if t = s then v else d t
theorem upd_self (d : Int → Ld) (s : Int) (v : Ld) : upd d s v s = v := if_pos rfl
theorem upd_ne {d : Int → Ld} {s t : Int} {v : Ld} (h : t ≠ s) : upd d s v t = d t := if_neg h
section
variable {b : Bk} {Z : List (Nat × Ord)} {a : Ar} {x : List Ixr} {f : Fq} {d : Int → Ld} {o : Ord} {i k : Nat}
theorem Rl.new {n m : Nat} (h1 : 1 ≤ n) (h2 : n ≤ 500) (h3 : 1 ≤ m) (h4 : m ≤ 200) : Rl (Bk.new n m) [] (Ar.new n) [] (Fq.new n (2 * m)) (fun s => ⟨decide (s = 0), m, []⟩) :=
  ⟨rfl, Bk.Ok.new h1 h2 h3 h4, RlA.new n, rfl, rfl, RlQ.new m n, fun s _ => RlD.new m s⟩
theorem Rl.len (h : Rl b Z a x f d) : b.L.length = Z.length := by rw [h.zl, List.length_map]
theorem Rl.le (h : Rl b Z a x f d) : Z.length ≤ b.slots ∧ Z.length ≤ 500 := by
  have := h.len
  have := h.ok.len
  have := h.ok.s2
  omega
theorem Rl.oks (h : Rl b Z a x f d) : ∀ z ∈ Z, z.2.Ok := fun z hz => h.ok.ok z.2 (by rw [h.zl]; exact List.mem_map.2 ⟨z, hz, rfl⟩)
theorem Rl.qtys (h : Rl b Z a x f d) : ∀ z ∈ Z, 1 ≤ z.2.qty ∧ z.2.qty ≤ 4294967296 := fun z hz => ⟨(h.oks z hz).q1, (h.oks z hz).q2⟩
/-- An ID that is there, or not. -/
theorem Rl.find (h : Rl b Z a x f d) (id : Int) : (bkf b.L id = none ∧ ixg x 0 id = none ∧ ixf x 0 id = none) ∨
    ∃ k i o, bkf b.L id = some k ∧ Z[k]? = some (i, o) ∧ b.L[k]? = some o ∧ o.id = id ∧ ixg x 0 id = some (i : Int) ∧ ixf x 0 id = some k ∧ i < b.slots ∧ a.has i = true ∧ a.O[i]? = some o ∧ o.Ok := by
  rw [h.ix, ixg_rows, ixf_rows, ← h.zl]
  cases hf : bkf b.L id with
  | none => exact .inl ⟨rfl, rfl, rfl⟩
  | some k =>
    obtain ⟨o, ho, e, -⟩ := bkf_some hf
    have hk := (List.getElem?_eq_some_iff.1 ho).1
    have hz : ∃ i, Z[k]? = some (i, o) := by
      rw [h.zl, List.getElem?_map] at ho
      cases hz : Z[k]? with
      | none => rw [hz] at ho; cases ho
      | some z => rw [hz] at ho; cases ho; exact ⟨z.1, rfl⟩
    obtain ⟨i, hz⟩ := hz
    have hm := List.mem_of_getElem? hz
    have hlt := h.ar.lt hm
    rw [h.an] at hlt
    exact .inr ⟨k, i, o, rfl, hz, ho, e, by simp [hz], rfl, hlt, (h.ar.has i).2 (List.mem_map.2 ⟨_, hm, rfl⟩), h.ar.at' _ hm, h.oks _ hm⟩
theorem Rl.room (h : Rl b Z a x f d) : a.fr.length = b.slots - b.L.length ∧ b.L.length ≤ b.slots := by
  have h1 := h.ar.room
  have h2 := h.an
  have h3 := h.len
  omega
theorem Rl.fits (h : Rl b Z a x f d) {s : Int} (hs : s = 0 ∨ s = 1) (p : Int) : (d s).fits p = bkFits b.levels b.L s p := by rw [h.zl]; exact (h.l s hs).fits p
theorem Rl.worth (h : Rl b Z a x f d) {s : Int} (hs : s = 0 ∨ s = 1) (lim : Int) : (d s).worth lim = bkWorth b.L s lim := by
  have hu := h.ok.u
  rw [h.zl] at hu ⊢
  exact (h.l s hs).worth hs hu h.qtys h.le.2 lim
theorem Rl.flat (h : Rl b Z a x f d) {s : Int} (hs : s = 0 ∨ s = 1) {P : List Lvl} (hP : Sord (d s).buy (d s).L P) : flatP Z s P = bkOf b.L s := by
  have hu := h.ok.u
  rw [h.zl] at hu ⊢
  exact flatP_eq (h.l s hs) hs hu hP
/-- A level's queue. -/
theorem Rl.queue (h : Rl b Z a x f d) {s : Int} (hs : s = 0 ∨ s = 1) {l : Lvl} (hl : l ∈ (d s).L) : (0 ≤ l.queue ∧ l.queue < b.levels) ∧ f.qi (bq b.levels s + l.queue) = (grp Z s l.price).map (·.1) := h.q.q s hs (l.price, l.queue) (List.mem_map.2 ⟨l, hl, rfl⟩)
theorem Rl.front (h : Rl b Z a x f d) {s : Int} (hs : s = 0 ∨ s = 1) {P : List Lvl} (hP : Sord (d s).buy (d s).L P) :
    (P = [] ∧ b.front s = none) ∨ ∃ l i o, P[0]? = some l ∧ l ∈ (d s).L ∧ (f.qi (bq b.levels s + l.queue))[0]? = some i ∧ a.has i = true ∧ a.O[i]? = some o ∧ b.front s = some o ∧ o.Ok := by
  have hh := flatP_head (h.l s hs) hP
  rw [h.flat hs hP] at hh
  unfold Bk.front
  cases P with
  | nil => exact .inl ⟨rfl, hh⟩
  | cons l t =>
    have hl : l ∈ (d s).L := hP.mem.1 List.mem_cons_self
    have h1 := ((h.l s hs).lx l hl).1
    rw [hh]
    cases hg : (grp Z s l.price)[0]? with
    | none => rw [List.getElem?_eq_none_iff] at hg; omega
    | some z =>
      have hz := (grp_mem.1 (List.mem_of_getElem? hg)).1
      refine .inr ⟨l, z.1, z.2, rfl, hl, ?_, (h.ar.has z.1).2 (List.mem_map.2 ⟨z, hz, rfl⟩), h.ar.at' z hz, ?_, h.oks z hz⟩
      · rw [(h.queue hs hl).2, List.getElem?_map, hg]; rfl
      · simp [hg]
/-- Add. -/
theorem Rl.add (h : Rl b Z a x f d) (hfit : o.Fit) (h0 : b.addF o = 0) : (o.side = 0 ∨ o.side = 1) ∧ ∃ (i : Nat) (u : Int), a.next = some i ∧ i < b.slots ∧ (d o.side).putR o.price o.qty = (u, 0) ∧ (0 ≤ u ∧ u < b.levels) ∧ f.pushB (bq b.levels o.side + u) (i : Int) = true ∧ ixf x 0 o.id = none ∧
    Rl (b.add o) (Z ++ [(i, o)]) (a.put i o) (ixPut x 0 o.id (i : Int)) (f.pushS (bq b.levels o.side + u) (i : Int)) (upd d o.side ((d o.side).putS o.price o.qty)) := by
  obtain ⟨g1, g2, g3, g4, g5, g6, g7⟩ := Bk.addF_zero h0
  have hok := h.ok.add hfit
  have e : b.add o = { b with L := b.L ++ [o] } := by unfold Bk.add; rw [if_pos h0]
  rw [e] at hok ⊢
  unfold Bk.room at g7
  rw [Bool.and_eq_true, decide_eq_true_eq] at g7
  obtain ⟨r1, r2⟩ := g7
  have hlen := h.len
  have hs2 := h.ok.s2
  have hZ : Z.length < 500 := by omega
  obtain ⟨i, hi⟩ := h.ar.next (by rw [h.an]; omega)
  have hil := (Ar.next_lt h.ar.wf hi).2
  rw [h.an] at hil
  have hfr := h.ar.fresh hi
  have hD := h.l o.side g1
  obtain ⟨u, p1, p2, p3⟩ := hD.add rfl ⟨g2, g3⟩ ⟨g4, g5⟩ h.qtys hZ (by rw [h.fits g1]; exact r2) i
  have hpq : ∀ t, t ≠ o.side → pqs (upd d o.side ((d o.side).putS o.price o.qty) t) = pqs (d t) := fun t ht => by rw [upd_ne ht]
  have hq := h.q.add (pq' := fun s => pqs (upd d o.side ((d o.side).putS o.price o.qty) s)) (u := u) g1 rfl hfr hil hpq (by
    simp only [upd_self]
    rcases p3 with p3 | ⟨p3, p4, p5, p6⟩
    · exact .inl p3
    · refine .inr ⟨p3, p4, ⟨p5, p6⟩, ?_⟩
      rcases hD.find o.price with ⟨-, e⟩ | ⟨j, l, -, hj, -, e, -⟩
      · exact e
      · exact absurd e (p4 (l.price, l.queue) (List.mem_map.2 ⟨l, List.mem_of_getElem? hj, rfl⟩)).1)
  have hu : 0 ≤ u ∧ u < b.levels := by
    rcases p3 with ⟨-, p3⟩ | ⟨-, -, p5, p6⟩
    · exact (h.q.q o.side g1 _ p3).1
    · exact ⟨p5, p6⟩
  have g6' : bkf (Z.map (·.2)) o.id = none := by rw [← h.zl]; exact g6
  refine ⟨g1, i, u, hi, hil, p1, hu, hq.1, by rw [h.ix, ixf_rows]; exact g6', ⟨?_, hok, h.ar.add hi o, h.an, by rw [h.ix, ixPut_rows g6'], hq.2, fun t ht => ?_⟩⟩
  · rw [h.zl, List.map_append]; rfl
  · by_cases e : t = o.side
    · subst e; rw [upd_self]; exact p2
    · rw [upd_ne e]; exact (h.l t ht).addO (fun e' => e e'.symm) i
/-- Remove, and Reduce of all. -/
theorem Rl.rem (h : Rl b Z a x f d) {id : Int} (hf : bkf b.L id = some k) (hz : Z[k]? = some (i, o)) : (o.side = 0 ∨ o.side = 1) ∧ ∃ u : Int, (d o.side).takeR o.price o.qty = (u, 0) ∧ f.ofB (i : Int) = true ∧
    Rl { b with L := b.L.eraseIdx k } (Z.eraseIdx k) (a.drop i) (ixDrop x 0 id) (f.remS (i : Int)) (upd d o.side ((d o.side).takeS o.price o.qty true)) := by
  have hs := (h.oks _ (List.mem_of_getElem? hz)).side
  simp only at hs
  have hD := h.l o.side hs
  obtain ⟨u, p1, p2, p3, p4⟩ := hD.rem hz rfl h.qtys h.le.2
  have hpq : ∀ t, t ≠ o.side → pqs (upd d o.side ((d o.side).takeS o.price o.qty true) t) = pqs (d t) := fun t ht => by rw [upd_ne ht]
  have hq := h.q.rem (pq' := fun s => pqs (upd d o.side ((d o.side).takeS o.price o.qty true) s)) (u := u) hs rfl hz hpq p3 (by simp only [upd_self]; exact p4)
  refine ⟨hs, u, p1, hq.1, ⟨by rw [h.zl, map_eraseIdx'], h.ok.erase k, h.ar.drop hz, h.an, by rw [h.ix, ixDrop_rows (by rw [← h.zl]; exact hf)], hq.2, fun t ht => ?_⟩⟩
  by_cases e : t = o.side
  · subst e; rw [upd_self]; exact p2
  · rw [upd_ne e]; exact (h.l t ht).remO hz (fun e' => e e'.symm)
/-- Reduce of a part. -/
theorem Rl.red (h : Rl b Z a x f d) (hz : Z[k]? = some (i, o)) {q : Int} (hq1 : 1 ≤ q) (hq2 : q < o.qty) : (o.side = 0 ∨ o.side = 1) ∧ ∃ u : Int, (d o.side).takeR o.price q = (u, 0) ∧
    Rl { b with L := b.L.set k { o with qty := o.qty - q } } (Z.set k (i, { o with qty := o.qty - q })) (a.set i { o with qty := o.qty - q }) x f (upd d o.side ((d o.side).takeS o.price q false)) := by
  have hs := (h.oks _ (List.mem_of_getElem? hz)).side
  simp only at hs
  have hD := h.l o.side hs
  obtain ⟨u, p1, p2, p3⟩ := hD.red hz rfl h.qtys h.le.2 ⟨hq1, hq2⟩
  have hbk : b.L[k]? = some o := by rw [h.zl, List.getElem?_map, hz]; rfl
  have hok : Bk.Ok { b with L := b.L.set k { o with qty := o.qty - q } } := by
    have := h.ok.red o.id q
    unfold Bk.red at this
    rw [h.ok.u.at' hbk] at this
    simp only [hbk, Option.getD_some] at this
    rw [if_neg (by omega), if_neg (by omega)] at this
    exact this
  refine ⟨hs, u, p1, ⟨by rw [h.zl, List.map_set], hok, h.ar.set hz _, h.an, by rw [h.ix]; exact (rows_set (o' := { o with qty := o.qty - q }) hz rfl).symm, ?_, fun t ht => ?_⟩⟩
  · have := h.q.red hz q
    refine ⟨this.wf, this.n, this.m, fun t ht y hy => ?_, fun t ht u hu hn => ?_, fun t ht => ?_⟩
    all_goals
      have e : pqs (upd d o.side ((d o.side).takeS o.price q false) t) = pqs (d t) := by
        by_cases e : t = o.side
        · subst e; rw [upd_self]; exact p3
        · rw [upd_ne e]
    · simp only [e] at hy; exact this.q t ht y hy
    · simp only [e] at hn; exact this.e t ht u hu hn
    · simp only [e]; exact this.uni t ht
  · by_cases e : t = o.side
    · subst e; rw [upd_self]; exact p2
    · rw [upd_ne e]; exact (h.l t ht).redO hz (fun e' => e e'.symm) q
end
end Go.Proofs.YtdmjcjheanedgaaDoor
