/-
  Who trades in an auction: orders as stretches, one behind the other; who stands over whom. (No Go text.)
  The same pairs by two lists that are cut: the first of both trade, till one is whole. (No Go text.)
  damper/damperref18.Pair: a struct of 3 ints as Go's values: laid, read whole, compared, as an argument, in slices. (Written by gen/struct.py.)
  Pairs that are applied to a book. (No Go text.)
-/
import Derived.Test.YtdmjcjheanedgaaDoorGCa
import Derived.Test.YtdmjcjheanedgaaDoorGP
import Derived.Test.YtdmjcjheanedgaaDoorGOa
import Derived.Test.YtdmjcjheanedgaaDoorGB
import Derived.Laws.StructEq
import Derived.Lib.Hide
import Derived.ProofKit
import Derived.OpenShut
import Derived.Deep.Slices
namespace Go.Proofs.YtdmjcjheanedgaaDoor
structure Pr where
  buy : Int
  sell : Int
  qty : Int
def Pr.zero : Pr := ⟨0, 0, 0⟩
structure Pr.Fit (m : Pr) : Prop where
  buy : In64 m.buy
  sell : In64 m.sell
  qty : In64 m.qty
/-- How much two stretches have in common. -/
def ovl (f t a e : Int) : Int := min t e - max f a
def rowP (i f t : Int) : Int → List Ord → List Pr
  | _, [] => []
  | at', y :: Y => (if 0 < ovl f t at' (at' + y.qty) then [⟨i, y.id, ovl f t at' (at' + y.qty)⟩] else []) ++ rowP i f t (at' + y.qty) Y
def prsF (Y : List Ord) : Int → List Ord → List Pr
  | _, [] => []
  | f, x :: X => rowP x.id f (f + x.qty) 0 Y ++ prsF Y (f + x.qty) X
def partL (L : List Ord) (side price : Int) : List Ord := (bkOf L side).filter fun o => !bett side price o.price
def prsL (L : List Ord) (price : Int) : List Pr := if price < 1 ∨ 1099511627776 < price then [] else prsF (partL L 1 price) 0 (partL L 0 price)
def totP : List Pr → Int
  | [] => 0
  | p :: l => p.qty + totP l
def Pr.of (id : Int) (p : Pr) : Bool := p.buy == id || p.sell == id
def ofP (l : List Pr) (id : Int) : Int := totP (l.filter (Pr.of id))
abbrev sq (l : List Ord) : Int := sumO Ord.qty l
def pos (n : Int) : Int := if 0 < n then n else 0
section
variable {l k : List Pr} {X Y A B : List Ord} {f t a q i id : Int}
theorem totP_append (l k : List Pr) : totP (l ++ k) = totP l + totP k := by
  induction l with
  | nil => simp [totP]
  | cons p l ih => simp only [List.cons_append, totP, ih]; omega
theorem ofP_append (l k : List Pr) (id : Int) : ofP (l ++ k) id = ofP l id + ofP k id := by
  unfold ofP
  rw [List.filter_append, totP_append]
theorem sq_pos (h : ∀ x ∈ X, 0 ≤ x.qty) : 0 ≤ sq X := by
  induction X with
  | nil => exact Int.le_refl _
  | cons x X ih =>
    have h1 := h x List.mem_cons_self
    have h2 := ih fun y hy => h y (List.mem_cons_of_mem _ hy)
    show 0 ≤ x.qty + sq X
    omega
theorem sq_cons (x : Ord) (X : List Ord) : sq (x :: X) = x.qty + sq X := rfl
theorem sq_append (A B : List Ord) : sq (A ++ B) = sq A + sq B := sumO_append _ _ _
theorem pos_add {f t a b s : Int} (h1 : a ≤ b) (h2 : 0 ≤ s) (h3 : f ≤ t) : pos (ovl f t a b) + pos (ovl f t b (b + s)) = pos (ovl f t a (b + s)) := by
  unfold pos ovl
  split <;> split <;> split <;> omega
theorem pos_empty (h : f ≤ t) : pos (ovl f t a a) = 0 := by
  unfold pos ovl
  split <;> omega
theorem pos_comm (f t a e : Int) : ovl f t a e = ovl a e f t := by
  unfold ovl
  omega
/-- A row's sum. -/
theorem row_tot (hY : ∀ y ∈ Y, 0 ≤ y.qty) (hft : f ≤ t) : ∀ a, totP (rowP i f t a Y) = pos (ovl f t a (a + sq Y)) := by
  induction Y with
  | nil => intro a; show (0 : Int) = pos (ovl f t a (a + 0)); rw [Int.add_zero, pos_empty hft]
  | cons y Y ih =>
    intro a
    have h1 := hY y List.mem_cons_self
    have h2 := ih (fun z hz => hY z (List.mem_cons_of_mem _ hz)) (a + y.qty)
    have h3 := sq_pos (X := Y) fun z hz => hY z (List.mem_cons_of_mem _ hz)
    unfold rowP
    rw [totP_append, h2, sq_cons, show a + (y.qty + sq Y) = a + y.qty + sq Y by omega, ← pos_add (by omega : a ≤ a + y.qty) h3 hft]
    congr 1
    unfold pos
    split <;> simp [totP]
theorem row_of (h : ∀ p ∈ rowP i f t a Y, p.buy = i) : ofP (rowP i f t a Y) i = totP (rowP i f t a Y) := by
  unfold ofP
  rw [List.filter_eq_self.2]
  intro p hp
  unfold Pr.of
  simp [h p hp]
theorem row_mem : ∀ a, ∀ p ∈ rowP i f t a Y, p.buy = i ∧ (∃ y ∈ Y, p.sell = y.id) ∧ 1 ≤ p.qty := by
  induction Y with
  | nil => intro a p hp; cases hp
  | cons y Y ih =>
    intro a p hp
    unfold rowP at hp
    rw [List.mem_append] at hp
    rcases hp with hp | hp
    · split at hp
      · rw [List.mem_singleton] at hp
        subst hp
        exact ⟨rfl, ⟨y, List.mem_cons_self, rfl⟩, by simp only; omega⟩
      · cases hp
    · obtain ⟨h1, ⟨z, h2, h3⟩, h4⟩ := ih _ p hp
      exact ⟨h1, ⟨z, List.mem_cons_of_mem _ h2, h3⟩, h4⟩
theorem of_none (h : ∀ p ∈ l, p.buy ≠ id ∧ p.sell ≠ id) : ofP l id = 0 := by
  unfold ofP
  rw [List.filter_eq_nil_iff.2]
  · rfl
  · intro p hp
    have := h p hp
    simp [Pr.of, this.1, this.2]
theorem prsF_mem : ∀ f, ∀ p ∈ prsF Y f X, (∃ x ∈ X, p.buy = x.id) ∧ (∃ y ∈ Y, p.sell = y.id) ∧ 1 ≤ p.qty := by
  induction X with
  | nil => intro f p hp; cases hp
  | cons x X ih =>
    intro f p hp
    unfold prsF at hp
    rw [List.mem_append] at hp
    rcases hp with hp | hp
    · obtain ⟨h1, h2, h3⟩ := row_mem _ p hp
      exact ⟨⟨x, List.mem_cons_self, h1⟩, h2, h3⟩
    · obtain ⟨⟨z, h1, h2⟩, h3⟩ := ih _ p hp
      exact ⟨⟨z, List.mem_cons_of_mem _ h1, h2⟩, h3⟩
theorem prs_append (A B : List Ord) : ∀ f, prsF Y f (A ++ B) = prsF Y f A ++ prsF Y (f + sq A) B := by
  induction A with
  | nil => intro f; show prsF Y f B = prsF Y (f + 0) B; rw [Int.add_zero]
  | cons x A ih =>
    intro f
    show rowP x.id f (f + x.qty) 0 Y ++ prsF Y (f + x.qty) (A ++ B) = _
    rw [ih, sq_cons, ← List.append_assoc, show f + (x.qty + sq A) = f + x.qty + sq A by omega]
    rfl
/-- All that is traded. -/
theorem prs_tot (hX : ∀ x ∈ X, 0 ≤ x.qty) (hY : ∀ y ∈ Y, 0 ≤ y.qty) : ∀ f, totP (prsF Y f X) = pos (ovl f (f + sq X) 0 (sq Y)) := by
  have h0 := sq_pos hY
  induction X with
  | nil => intro f; show (0 : Int) = pos (ovl f (f + 0) 0 (sq Y)); rw [Int.add_zero, pos_comm, pos_empty h0]
  | cons x X ih =>
    intro f
    have h1 := hX x List.mem_cons_self
    have h2 := ih (fun z hz => hX z (List.mem_cons_of_mem _ hz)) (f + x.qty)
    have h3 := sq_pos (X := X) fun z hz => hX z (List.mem_cons_of_mem _ hz)
    unfold prsF
    rw [totP_append, row_tot hY (by omega), h2, sq_cons, Int.zero_add, show f + (x.qty + sq X) = f + x.qty + sq X by omega, pos_comm f, pos_comm (f + x.qty), pos_comm f (f + x.qty + sq X)]
    exact pos_add (by omega) h3 h0
/-- What a buyer trades. -/
theorem of_buy {x : Ord} (hX : ∀ z ∈ A ++ x :: B, 0 ≤ z.qty) (hY : ∀ y ∈ Y, 0 ≤ y.qty) (hA : ∀ z ∈ A ++ B, z.id ≠ x.id) (hYn : ∀ y ∈ Y, y.id ≠ x.id) : ofP (prsF Y 0 (A ++ x :: B)) x.id = pos (min (sq A + x.qty) (sq Y) - sq A) := by
  have hx := hX x (by simp)
  have hsA := sq_pos (X := A) fun z hz => hX z (by simp [hz])
  rw [prs_append, ofP_append]
  have h1 : ofP (prsF Y 0 A) x.id = 0 := of_none fun p hp => by
    obtain ⟨⟨z, h1, h2⟩, ⟨y, h3, h4⟩, -⟩ := prsF_mem _ p hp
    exact ⟨by rw [h2]; exact hA z (by simp [h1]), by rw [h4]; exact hYn y h3⟩
  have h2 : ofP (prsF Y (0 + sq A) (x :: B)) x.id = pos (min (sq A + x.qty) (sq Y) - sq A) := by
    unfold prsF
    have h4 : ofP (prsF Y (0 + sq A + x.qty) B) x.id = 0 := of_none fun p hp => by
      obtain ⟨⟨z, h1, h2⟩, ⟨y, h3, h4⟩, -⟩ := prsF_mem _ p hp
      exact ⟨by rw [h2]; exact hA z (by simp [h1]), by rw [h4]; exact hYn y h3⟩
    rw [ofP_append, h4, Int.add_zero, row_of fun p hp => (row_mem _ p hp).1, row_tot hY (by omega)]
    unfold ovl
    congr 1
    omega
  omega
/-- What a seller trades, in one row, and in all. -/
theorem row_sell {y : Ord} {C D : List Ord} (hY : ∀ z ∈ C ++ D, z.id ≠ y.id) (hi : i ≠ y.id) (hft : f ≤ t) : ∀ a, ofP (rowP i f t a (C ++ y :: D)) y.id = pos (ovl f t (a + sq C) (a + sq C + y.qty)) := by
  induction C with
  | nil =>
    intro a
    show ofP (rowP i f t a (y :: D)) y.id = pos (ovl f t (a + 0) (a + 0 + y.qty))
    unfold rowP
    have h4 : ofP (rowP i f t (a + y.qty) D) y.id = 0 := of_none fun p hp => by
      obtain ⟨h1, ⟨z, h2, h3⟩, -⟩ := row_mem _ p hp
      exact ⟨by rw [h1]; exact hi, by rw [h3]; exact hY z (by simpa using h2)⟩
    rw [ofP_append, h4, Int.add_zero, Int.add_zero]
    unfold pos
    split <;> simp [ofP, Pr.of, totP]
  | cons c C ih =>
    intro a
    show ofP (rowP i f t a (c :: (C ++ y :: D))) y.id = _
    unfold rowP
    have h5 : c.id ≠ y.id := hY c (by simp)
    have h4 : ofP (if 0 < ovl f t a (a + c.qty) then [(⟨i, c.id, ovl f t a (a + c.qty)⟩ : Pr)] else []) y.id = 0 := of_none fun p hp => by
      split at hp
      · rw [List.mem_singleton] at hp
        subst hp
        exact ⟨hi, h5⟩
      · cases hp
    rw [ofP_append, h4, Int.zero_add, ih (fun z hz => hY z (by simp at hz ⊢; rcases hz with h | h; exact .inr (.inl h); exact .inr (.inr h))) (a + c.qty), sq_cons, show a + c.qty + sq C = a + (c.qty + sq C) by omega]
theorem of_sell {y : Ord} {C D : List Ord} (hX : ∀ z ∈ X, 0 ≤ z.qty) (hy : 0 ≤ y.qty) (hC : ∀ z ∈ C, 0 ≤ z.qty) (hY : ∀ z ∈ C ++ D, z.id ≠ y.id) (hXn : ∀ x ∈ X, x.id ≠ y.id) : ∀ f, ofP (prsF (C ++ y :: D) f X) y.id = pos (ovl f (f + sq X) (sq C) (sq C + y.qty)) := by
  have hsC := sq_pos hC
  induction X with
  | nil => intro f; show (0 : Int) = pos (ovl f (f + 0) (sq C) (sq C + y.qty)); rw [Int.add_zero, pos_comm, pos_empty (by omega)]
  | cons x X ih =>
    intro f
    have h1 := hX x List.mem_cons_self
    have h2 := ih (fun z hz => hX z (List.mem_cons_of_mem _ hz)) (fun z hz => hXn z (List.mem_cons_of_mem _ hz)) (f + x.qty)
    have h3 := sq_pos (X := X) fun z hz => hX z (List.mem_cons_of_mem _ hz)
    unfold prsF
    rw [ofP_append, row_sell hY (hXn x List.mem_cons_self) (by omega), h2, sq_cons, Int.zero_add, show f + (x.qty + sq X) = f + x.qty + sq X by omega, pos_comm f, pos_comm (f + x.qty), pos_comm f (f + x.qty + sq X)]
    exact pos_add (by omega) h3 (by omega)
end
/-! Of a book. -/
section
variable {b : Bk} {price : Int}
theorem part_mem {L : List Ord} {s price : Int} {o : Ord} : o ∈ partL L s price ↔ o ∈ L ∧ o.side = s ∧ bett s price o.price = false := by
  unfold partL
  rw [List.mem_filter, bkOf_mem]
  simp [and_assoc]
theorem part_buy (b : Bk) (price : Int) : sq (partL b.L 0 price) = (catL b.L price).demand := by
  unfold partL catL
  simp only
  have h1 : sq ((bkOf b.L 0).filter fun o => !bett 0 price o.price) = sumO (demS price) ((bkOf b.L 0).filter fun o => !bett 0 price o.price) := sumO_eq fun o ho => by
    rw [List.mem_filter, bkOf_mem] at ho
    unfold demS
    have := ho.2
    rw [bett_buy] at this
    simp at this
    rw [if_pos ⟨ho.1.2, this⟩]
  rw [h1, sumO_filter, sumO_perm _ (bkOf_perm b.L 0), sumO_filter]
  · intro o _ h
    unfold demS
    rw [if_neg]
    rintro ⟨g, -⟩
    rw [g] at h
    cases h
  · intro o ho h
    unfold demS
    rw [if_neg]
    rintro ⟨-, g⟩
    rw [bett_buy] at h
    simp at h
    omega
theorem part_sell (b : Bk) (price : Int) : sq (partL b.L 1 price) = (catL b.L price).supply := by
  unfold partL catL
  simp only
  have h1 : sq ((bkOf b.L 1).filter fun o => !bett 1 price o.price) = sumO (supS price) ((bkOf b.L 1).filter fun o => !bett 1 price o.price) := sumO_eq fun o ho => by
    rw [List.mem_filter, bkOf_mem] at ho
    unfold supS
    have := ho.2
    rw [bett_sell] at this
    simp at this
    rw [if_pos ⟨ho.1.2, this⟩]
  rw [h1, sumO_filter, sumO_perm _ (bkOf_perm b.L 1), sumO_filter]
  · intro o _ h
    unfold supS
    rw [if_neg]
    rintro ⟨g, -⟩
    rw [g] at h
    cases h
  · intro o ho h
    unfold supS
    rw [if_neg]
    rintro ⟨-, g⟩
    rw [bett_sell] at h
    simp at h
    omega
theorem part_q (hb : b.Ok) (s price : Int) : ∀ x ∈ partL b.L s price, 0 ≤ x.qty := fun x hx => by
  have := (hb.ok x (part_mem.1 hx).1).q1
  omega
/-- The orders of both sides have IDs of their own. -/
theorem id_inj (hb : b.Ok) {x y : Ord} (hx : x ∈ b.L) (hy : y ∈ b.L) (e : x.id = y.id) : x = y := by
  obtain ⟨i, hi⟩ := List.mem_iff_getElem?.1 hx
  obtain ⟨j, hj⟩ := List.mem_iff_getElem?.1 hy
  have := hb.u.uni hi hj e
  subst this
  rw [hi] at hj
  exact Option.some.inj hj
theorem part_split (hb : b.Ok) {s : Int} {x : Ord} (hx : x ∈ partL b.L s price) : ∃ A B, partL b.L s price = A ++ x :: B ∧ (∀ z ∈ A ++ B, z.id ≠ x.id) := by
  obtain ⟨A, B, e⟩ := List.append_of_mem hx
  refine ⟨A, B, e, fun z hz h => ?_⟩
  have hnd : (partL b.L s price).Nodup := by
    unfold partL
    refine List.Nodup.sublist List.filter_sublist ?_
    have := (bkOf_perm b.L s).nodup_iff.2 (List.Nodup.sublist List.filter_sublist hb.u.nodup)
    exact this
  have hzL : z ∈ b.L := (part_mem.1 (show z ∈ partL b.L s price by rw [e]; simp at hz ⊢; rcases hz with h | h; exact .inl h; exact .inr (.inr h))).1
  have hzx := id_inj hb hzL (part_mem.1 hx).1 h
  subst hzx
  rw [e] at hnd
  rw [List.nodup_append] at hnd
  obtain ⟨n1, n2, n3⟩ := hnd
  rw [List.mem_append] at hz
  rcases hz with hz | hz
  · exact n3 z hz z List.mem_cons_self rfl
  · rw [List.nodup_cons] at n2
    exact n2.1 hz
theorem sides_apart (hb : b.Ok) {x y : Ord} (hx : x ∈ partL b.L 0 price) (hy : y ∈ partL b.L 1 price) : y.id ≠ x.id := fun e => by
  have h1 := part_mem.1 hx
  have h2 := part_mem.1 hy
  have := id_inj hb h2.1 h1.1 e
  subst this
  omega
/-- How much an order trades. -/
theorem of_order (hb : b.Ok) (hp : 1 ≤ price ∧ price ≤ 1099511627776) {o : Ord} (ho : o ∈ b.L) :
    (o ∉ partL b.L o.side price ∧ ofP (prsL b.L price) o.id = 0) ∨ ∃ A B, partL b.L o.side price = A ++ o :: B ∧ ofP (prsL b.L price) o.id = pos (min (sq A + o.qty) (sq (partL b.L (1 - o.side) price)) - sq A) := by
  have hprs : prsL b.L price = prsF (partL b.L 1 price) 0 (partL b.L 0 price) := by unfold prsL; rw [if_neg (by omega)]
  rw [hprs]
  by_cases hm : o ∈ partL b.L o.side price
  · right
    obtain ⟨A, B, e, hAB⟩ := part_split hb hm
    refine ⟨A, B, e, ?_⟩
    rcases (hb.ok o ho).side with hs | hs
    · rw [hs] at e hm ⊢
      have hq := part_q hb 0 price
      rw [e] at hq ⊢
      exact of_buy hq (part_q hb 1 price) hAB fun y hy => sides_apart hb hm hy
    · rw [hs] at e hm ⊢
      have hq := part_q hb 1 price
      rw [e] at hq ⊢
      have := of_sell (X := partL b.L 0 price) (part_q hb 0 price) (hq o (by simp)) (fun z hz => hq z (by simp [hz])) hAB (fun x hx e' => sides_apart hb hx hm e'.symm) 0
      rw [this]
      have h0 := sq_pos (part_q hb 0 price)
      have hA := sq_pos (X := A) fun z hz => hq z (by simp [hz])
      show pos (ovl 0 (0 + sq (partL b.L 0 price)) (sq A) (sq A + o.qty)) = pos (min (sq A + o.qty) (sq (partL b.L (1 - 1) price)) - sq A)
      have : (1 : Int) - 1 = 0 := by omega
      rw [this]
      congr 1
      unfold ovl
      omega
  · left
    refine ⟨hm, of_none fun p hp => ?_⟩
    obtain ⟨⟨x, h1, h2⟩, ⟨y, h3, h4⟩, -⟩ := prsF_mem _ p hp
    have hx := part_mem.1 h1
    have hy := part_mem.1 h3
    refine ⟨fun e => ?_, fun e => ?_⟩
    · have := id_inj hb hx.1 ho (by rw [← h2, e])
      subst this
      exact hm (by rw [hx.2.1]; exact h1)
    · have := id_inj hb hy.1 ho (by rw [← h4, e])
      subst this
      exact hm (by rw [hy.2.1]; exact h3)
/-- All that is traded is the volume. -/
theorem prs_volume (hb : b.Ok) (hp : 1 ≤ price ∧ price ≤ 1099511627776) : totP (prsL b.L price) = volP (catL b.L price) := by
  have hprs : prsL b.L price = prsF (partL b.L 1 price) 0 (partL b.L 0 price) := by unfold prsL; rw [if_neg (by omega)]
  rw [hprs, prs_tot (part_q hb 0 price) (part_q hb 1 price), part_buy, part_sell]
  have h1 := sq_pos (part_q hb 0 price)
  have h2 := sq_pos (part_q hb 1 price)
  rw [part_buy] at h1
  rw [part_sell] at h2
  unfold pos ovl volP
  split <;> split <;> omega
theorem of_bounds (hb : b.Ok) (hp : 1 ≤ price ∧ price ≤ 1099511627776) {o : Ord} (ho : o ∈ b.L) : 0 ≤ ofP (prsL b.L price) o.id ∧ ofP (prsL b.L price) o.id ≤ o.qty ∧ (0 < ofP (prsL b.L price) o.id → bett o.side price o.price = false) := by
  have hq := (hb.ok o ho).q1
  rcases of_order hb hp ho with ⟨-, e⟩ | ⟨A, B, hA, e⟩
  · rw [e]
    exact ⟨Int.le_refl _, by omega, fun h => by omega⟩
  · rw [e]
    refine ⟨?_, ?_, fun _ => (part_mem.1 (show o ∈ partL b.L o.side price by rw [hA]; simp)).2.2⟩
    · unfold pos; split <;> omega
    · unfold pos; split <;> omega
/-- Nobody trades while one ahead of it is not whole. -/
theorem of_fair (hb : b.Ok) (hp : 1 ≤ price ∧ price ≤ 1099511627776) {x y : Ord} (hx : x ∈ b.L) (hy : y ∈ b.L) (hs : x.side = y.side) (ha : Ahd b.L x.side x y) (h : 0 < ofP (prsL b.L price) y.id) : ofP (prsL b.L price) x.id = x.qty := by
  have hqx := (hb.ok x hx).q1
  rcases of_order hb hp hy with ⟨-, e⟩ | ⟨A, B, hA, e⟩
  · omega
  have hym : y ∈ partL b.L y.side price := by rw [hA]; simp
  have hyb := (part_mem.1 hym).2.2
  have hxm : x ∈ partL b.L y.side price := part_mem.2 ⟨hx, hs, by
    cases hg : bett y.side price x.price with
    | false => rfl
    | true =>
      -- a price that is better than x's is better than y's, which is no better
      exfalso
      rw [hs] at ha
      rcases ha with ha | ⟨ha, -⟩
      · rw [bett_trans hg ha] at hyb; cases hyb
      · have hside := (hb.ok y hy).side
        rcases hside with e0 | e0 <;> rw [e0] at hg hyb ha <;> simp [bett] at hg hyb ha <;> omega⟩
  have hsrt : (partL b.L y.side price).Pairwise (Ahd b.L y.side) := (bkOf_srt hb.u y.side).sublist List.filter_sublist
  have hxA : x ∈ A := by
    rw [hA] at hxm hsrt
    rw [List.mem_append, List.mem_cons] at hxm
    rcases hxm with g | g | g
    · exact g
    · exfalso
      subst g
      exact ha.not_both ha
    · exfalso
      rw [List.pairwise_append] at hsrt
      have := (List.pairwise_cons.1 hsrt.2.1).1 x g
      rw [hs] at ha
      exact ha.not_both this
  obtain ⟨A1, A2, hA2⟩ := List.append_of_mem hxA
  rcases of_order hb hp hx with ⟨hn, -⟩ | ⟨C, D, hC, e2⟩
  · rw [hs] at hn
    exact absurd hxm hn
  rw [hs] at hC e2
  have hCA : C = A1 := by
    have h1 : C ++ x :: D = A1 ++ x :: (A2 ++ y :: B) := by rw [← hC, hA, hA2]; simp
    have hnd : (partL b.L y.side price).Nodup := by
      unfold partL
      refine List.Nodup.sublist List.filter_sublist ?_
      exact (bkOf_perm b.L y.side).nodup_iff.2 (List.Nodup.sublist List.filter_sublist hb.u.nodup)
    rw [hC] at hnd
    rcases List.append_eq_append_iff.1 h1 with ⟨m, h2, h3⟩ | ⟨m, h2, h3⟩
    · cases m with
      | nil => simpa using h2.symm
      | cons z m =>
        exfalso
        simp only [List.cons_append, List.cons.injEq] at h3
        have : x ∈ D := by rw [h3.2]; simp
        rw [List.nodup_append] at hnd
        exact (List.nodup_cons.1 hnd.2.1).1 this
    · cases m with
      | nil => simpa using h2
      | cons z m =>
        exfalso
        simp only [List.cons_append, List.cons.injEq] at h3
        have : x ∈ C := by rw [h2, h3.1]; simp
        rw [List.nodup_append] at hnd
        exact hnd.2.2 x this x List.mem_cons_self rfl
  have hq := part_q hb y.side price
  have hsA : sq A = sq A1 + (x.qty + sq A2) := by rw [hA2, sq_append, sq_cons]
  have hsA2 := sq_pos (X := A2) fun z hz => hq z (by rw [hA, hA2]; simp [hz])
  rw [e2, hCA]
  rw [e] at h
  unfold pos at h ⊢
  split at h
  · split <;> omega
  · omega
end
end Go.Proofs.YtdmjcjheanedgaaDoor
namespace Go.Proofs.YtdmjcjheanedgaaDoor
/-- What is left of the first one. -/
def cutO (n : Int) (x : Ord) (X : List Ord) : List Ord := if x.qty = n then X else { x with qty := x.qty - n } :: X
def mtP : Nat → List Ord → List Ord → List Pr
  | n + 1, x :: X, y :: Y => ⟨x.id, y.id, min x.qty y.qty⟩ :: mtP n (cutO (min x.qty y.qty) x X) (cutO (min x.qty y.qty) y Y)
  | _, _, _ => []
section
variable {X Y : List Ord} {f t a c i : Int} {x y : Ord}
theorem row_shift (i f t c : Int) (Y : List Ord) : ∀ a, rowP i (f - c) (t - c) (a - c) Y = rowP i f t a Y := by
  induction Y with
  | nil => intro a; rfl
  | cons y Y ih =>
    intro a
    unfold rowP
    have e : ovl (f - c) (t - c) (a - c) (a - c + y.qty) = ovl f t a (a + y.qty) := by unfold ovl; omega
    rw [e, show a - c + y.qty = a + y.qty - c by omega, ih (a + y.qty)]
theorem row_past (hY : ∀ y ∈ Y, 0 ≤ y.qty) : ∀ a, t ≤ a → rowP i f t a Y = [] := by
  induction Y with
  | nil => intro a _; rfl
  | cons y Y ih =>
    intro a ha
    have h1 := hY y List.mem_cons_self
    unfold rowP
    rw [if_neg (by unfold ovl; omega), ih (fun z hz => hY z (List.mem_cons_of_mem _ hz)) _ (by omega)]
    rfl
theorem row_from (hY : ∀ y ∈ Y, 0 ≤ y.qty) (hc : 0 ≤ c) : ∀ a, c ≤ a → rowP i 0 t a Y = rowP i c t a Y := by
  induction Y with
  | nil => intro a _; rfl
  | cons y Y ih =>
    intro a ha
    have h1 := hY y List.mem_cons_self
    unfold rowP
    have e : ovl 0 t a (a + y.qty) = ovl c t a (a + y.qty) := by unfold ovl; omega
    rw [e, ih (fun z hz => hY z (List.mem_cons_of_mem _ hz)) _ (by omega)]
theorem row_drop (hf : y.qty ≤ f) : rowP i f t 0 (y :: Y) = rowP i (f - y.qty) (t - y.qty) 0 Y := by
  conv => lhs; unfold rowP
  rw [if_neg (by unfold ovl; omega), Int.zero_add, List.nil_append]
  have := row_shift i f t y.qty Y y.qty
  rw [← this, Int.sub_self]
theorem row_cut (hc : 0 ≤ c) (hf : c ≤ f) : rowP i f t 0 (y :: Y) = rowP i (f - c) (t - c) 0 ({ y with qty := y.qty - c } :: Y) := by
  unfold rowP
  have e : ovl (f - c) (t - c) 0 (0 + (y.qty - c)) = ovl f t 0 (0 + y.qty) := by unfold ovl; omega
  simp only
  rw [e, show (0 : Int) + (y.qty - c) = 0 + y.qty - c by omega, row_shift]
theorem prs_drop (hX : ∀ x ∈ X, 0 ≤ x.qty) : ∀ f, y.qty ≤ f → prsF (y :: Y) f X = prsF Y (f - y.qty) X := by
  induction X with
  | nil => intro f _; rfl
  | cons x X ih =>
    intro f hf
    have h1 := hX x List.mem_cons_self
    unfold prsF
    rw [row_drop hf, ih (fun z hz => hX z (List.mem_cons_of_mem _ hz)) _ (by omega), show f + x.qty - y.qty = f - y.qty + x.qty by omega]
theorem prs_cut (hX : ∀ x ∈ X, 0 ≤ x.qty) (hc : 0 ≤ c) : ∀ f, c ≤ f → prsF (y :: Y) f X = prsF ({ y with qty := y.qty - c } :: Y) (f - c) X := by
  induction X with
  | nil => intro f _; rfl
  | cons x X ih =>
    intro f hf
    have h1 := hX x List.mem_cons_self
    unfold prsF
    rw [row_cut hc hf, ih (fun z hz => hX z (List.mem_cons_of_mem _ hz)) _ (by omega), show f + x.qty - c = f - c + x.qty by omega]
theorem prs_none (X : List Ord) : ∀ f, prsF [] f X = [] := by
  induction X with
  | nil => intro f; rfl
  | cons x X ih => intro f; unfold prsF; rw [ih]; rfl
/-- They are the same pairs. -/
theorem mtP_eq : ∀ (n : Nat) (X Y : List Ord), (∀ x ∈ X, 1 ≤ x.qty) → (∀ y ∈ Y, 1 ≤ y.qty) → X.length + Y.length ≤ n → mtP n X Y = prsF Y 0 X := by
  intro n
  induction n with
  | zero =>
    intro X Y _ _ h
    cases X with
    | nil => rfl
    | cons x X => simp at h
  | succ n ih =>
    intro X Y hX hY h
    cases X with
    | nil => rfl
    | cons x X =>
      cases Y with
      | nil => rw [prs_none]; rfl
      | cons y Y =>
        have hx := hX x List.mem_cons_self
        have hy := hY y List.mem_cons_self
        have hX' := fun z (hz : z ∈ X) => hX z (List.mem_cons_of_mem _ hz)
        have hY' := fun z (hz : z ∈ Y) => hY z (List.mem_cons_of_mem _ hz)
        have hX0 : ∀ z ∈ X, 0 ≤ z.qty := fun z hz => by have := hX' z hz; omega
        have hY0 : ∀ z ∈ Y, 0 ≤ z.qty := fun z hz => by have := hY' z hz; omega
        simp only [List.length_cons] at h
        have hhead : rowP x.id 0 (0 + x.qty) 0 (y :: Y) = ⟨x.id, y.id, min x.qty y.qty⟩ :: rowP x.id 0 x.qty y.qty Y := by
          conv => lhs; unfold rowP
          have e : ovl 0 (0 + x.qty) 0 (0 + y.qty) = min x.qty y.qty := by unfold ovl; omega
          rw [e, if_pos (by omega), Int.zero_add, Int.zero_add]
          rfl
        unfold mtP
        show _ = rowP x.id 0 (0 + x.qty) 0 (y :: Y) ++ prsF (y :: Y) (0 + x.qty) X
        rw [hhead, List.cons_append, Int.zero_add]
        congr 1
        by_cases h1 : x.qty = min x.qty y.qty
        · rw [row_past hY0 _ (by omega), List.nil_append]
          have e1 : cutO (min x.qty y.qty) x X = X := by unfold cutO; rw [if_pos h1]
          rw [e1]
          by_cases h2 : y.qty = min x.qty y.qty
          · have e2 : cutO (min x.qty y.qty) y Y = Y := by unfold cutO; rw [if_pos h2]
            rw [e2, ih X Y hX' hY' (by omega), prs_drop hX0 _ (by omega), show x.qty - y.qty = 0 by omega]
          · have e2 : cutO (min x.qty y.qty) y Y = { y with qty := y.qty - x.qty } :: Y := by unfold cutO; rw [if_neg h2, ← h1]
            rw [e2, ih X _ hX' (fun z hz => by
              rw [List.mem_cons] at hz
              rcases hz with rfl | hz
              · show 1 ≤ y.qty - x.qty; omega
              · exact hY' z hz) (by simp; omega), prs_cut hX0 (by omega : 0 ≤ x.qty) _ (Int.le_refl _), Int.sub_self]
        · have h2 : y.qty = min x.qty y.qty := by omega
          have e1 : cutO (min x.qty y.qty) x X = { x with qty := x.qty - y.qty } :: X := by unfold cutO; rw [if_neg h1, ← h2]
          have e2 : cutO (min x.qty y.qty) y Y = Y := by unfold cutO; rw [if_pos h2]
          rw [e1, e2, ih _ Y (fun z hz => by
            rw [List.mem_cons] at hz
            rcases hz with rfl | hz
            · show 1 ≤ x.qty - y.qty; omega
            · exact hX' z hz) hY' (by simp; omega)]
          show rowP x.id 0 (0 + (x.qty - y.qty)) 0 Y ++ prsF Y (0 + (x.qty - y.qty)) X = _
          rw [Int.zero_add, prs_drop hX0 _ (by omega), row_from hY0 (by omega : 0 ≤ y.qty) _ (Int.le_refl _)]
          congr 1
          have := row_shift x.id y.qty x.qty y.qty Y y.qty
          rw [← this, Int.sub_self]
end
end Go.Proofs.YtdmjcjheanedgaaDoor
namespace Go.Proofs.YtdmjcjheanedgaaDoor
open Go.RowKit
abbrev cPr (m : Pr) : Array Value := #[.int .i64 m.buy, .int .i64 m.sell, .int .i64 m.qty]
abbrev vPr (m : Pr) : Value := .agg (cPr m)
/-- Whether two are the same. -/
def eqPr (a b : Pr) : Bool := a.buy == b.buy && a.sell == b.sell && a.qty == b.qty
theorem eqPr_true {a b : Pr} : eqPr a b = true ↔ a = b := by
  cases a; cases b; simp [eqPr, and_assoc]
theorem eqPr_self (a : Pr) : eqPr a a = true := eqPr_true.2 rfl
theorem eqPr_step (p : Prop) [Decidable p] (q : Bool) (w : World) {X : Result Bool} (h : X = Result.ok q w) : (if p then X else Result.ok false w) = Result.ok (decide p && q) w := by
  subst h
  by_cases hp : p <;> simp [hp]
theorem eqPr_last (p : Prop) [Decidable p] (w : World) : (if p then Result.ok true w else Result.ok false w) = Result.ok (decide p) w := by
  by_cases hp : p <;> simp [hp]
theorem eqIn_Pr (a b : Pr) (w : World) : (Op.equalIn 10000 56 (vPr a) (vPr b)).run Tryd.prog w = .ok (eqPr a b) w := by
  have hu := Tryd.underlying56
  have hf : Tryd.prog.underlying 56 = some (.struct (Tryd.prog.fieldsOf 56)) := by rw [Program.fieldsOf, hu]
  have uint64 := Tryd.underlying2
  rw [show (10000 : Nat) = 9999 + 1 from rfl, run_equalIn_agg w 9999 _ _ _ hf (by kernel_rfl), Program.fieldsOf, hu]
  simp only [Op.eqFields]
  unfold eqPr
  simp [go_sem, part]
  clear hu hf uint64
  simp only [Bool.and_assoc]
  exact eqPr_step _ _ w (eqPr_step _ _ w (eqPr_last _ w))
theorem neq_Pr (a b : Pr) (w : World) : (binOp .neq 56 (vPr a) (vPr b)).run Tryd.prog w = .ok (.bool (!eqPr a b)) w := by
  rw [run_neq_struct, eqIn_Pr]; rfl
theorem Pr.cells {w : World} {b : Nat} {T : TypeId} {m : Pr} (h : Blk w b T (cPr m)) : w.cell? ⟨b, 0, none⟩ = some (.int .i64 m.buy) ∧ w.cell? ⟨b, 1, none⟩ = some (.int .i64 m.sell) ∧ w.cell? ⟨b, 2, none⟩ = some (.int .i64 m.qty) :=
  ⟨h.cell_eq 0 _ rfl, h.cell_eq 1 _ rfl, h.cell_eq 2 _ rfl⟩
theorem Pr.below {B : Nat} {W w : World} {b : Nat} (h : Below B W w) (hb : B ≤ b) (v0 v1 v2 : Value) : Below B W (((w.setCell ⟨b, 0, none⟩ v0).setCell ⟨b, 1, none⟩ v1).setCell ⟨b, 2, none⟩ v2) := by
  have h0 := h.setCell (p := ⟨b, 0, none⟩) hb v0
  have h1 := h0.setCell (p := ⟨b, 1, none⟩) hb v1
  have h2 := h1.setCell (p := ⟨b, 2, none⟩) hb v2
  exact h2
theorem Pr.frm {S : Nat → Prop} {W w : World} {b : Nat} (h : Frm S W w) (hb : S b ∨ W.heap.size ≤ b) (v0 v1 v2 : Value) : Frm S W (((w.setCell ⟨b, 0, none⟩ v0).setCell ⟨b, 1, none⟩ v1).setCell ⟨b, 2, none⟩ v2) := by
  have h0 := h.setCell ⟨b, 0, none⟩ v0 hb
  have h1 := h0.setCell ⟨b, 1, none⟩ v1 hb
  have h2 := h1.setCell ⟨b, 2, none⟩ v2 hb
  exact h2
theorem Pr.lay {w : World} {b : Nat} {T : TypeId} {m : Pr} (h : Blk w b T (cPr m)) (v0 v1 v2 : Int) : Blk (((w.setCell ⟨b, 0, none⟩ (.int .i64 v0)).setCell ⟨b, 1, none⟩ (.int .i64 v1)).setCell ⟨b, 2, none⟩ (.int .i64 v2)) b T (cPr ⟨v0, v1, v2⟩) := by
  have h0 : Blk _ b T (cPr ⟨v0, m.sell, m.qty⟩) := h.set 0 (.int .i64 v0)
  have h1 : Blk _ b T (cPr ⟨v0, v1, m.qty⟩) := h0.set 1 (.int .i64 v1)
  have h2 : Blk _ b T (cPr ⟨v0, v1, v2⟩) := h1.set 2 (.int .i64 v2)
  exact h2
section
open Go.ChangeShapes Go.WideShapes Go.ChangeAt Go.Deep
variable {H : Type} {enc' : TypeId × Value → H} {w : World} {base : Nat} {spare : Nat → Bool} {held : Bool}
end
/-- A slice of them, to be read. -/
structure Prs (w : World) (ao : Option Addr) (cap : Nat) (l : List Pr) : Prop where
  len : l.length ≤ cap
  top : cap ≤ maxLen
  at' : l = [] ∨ ∃ b off, ao = some ⟨b, off, none⟩ ∧ ∀ (i : Nat) (m : Pr), l[i]? = some m → ∀ (j : Nat) (v : Value), (cPr m)[j]? = some v → w.cell? ⟨b, off + i * 3 + j, none⟩ = some v
theorem Prs.nil (w : World) : Prs w none 0 [] := ⟨Nat.le_refl _, Nat.zero_le _, .inl rfl⟩
theorem Prs.below {w w' : World} {ao : Option Addr} {cap : Nat} {l : List Pr} (h : Prs w ao cap l) (hb : Below w.heap.size w w') : Prs w' ao cap l := by
  refine ⟨h.len, h.top, ?_⟩
  rcases h.at' with h0 | ⟨b, off, ha, hl⟩
  · exact .inl h0
  · refine .inr ⟨b, off, ha, fun i m hi j v hj => ?_⟩
    have hc := hl i m hi j v hj
    have hlt : b < w.heap.size := World.block_lt_of_cell? w ⟨b, off + i * 3 + j, none⟩ hc
    exact (World.cell?_of_block (a := ⟨b, off + i * 3 + j, none⟩) (hb.block b hlt)).trans hc
/-- One of them. -/
theorem Prs.get {w : World} {ao : Option Addr} {cap : Nat} {l : List Pr} (h : Prs w ao cap l) {i : Nat} {m : Pr} (hi : l[i]? = some m) :
    ∃ b off, ao = some ⟨b, off, none⟩ ∧ w.cell? ⟨b, off + i * 3 + 0, none⟩ = some (.int .i64 m.buy) ∧ w.cell? ⟨b, off + i * 3 + 1, none⟩ = some (.int .i64 m.sell) ∧ w.cell? ⟨b, off + i * 3 + 2, none⟩ = some (.int .i64 m.qty) := by
  rcases h.at' with h0 | ⟨b, off, ha, hl⟩
  · subst h0; simp at hi
  · exact ⟨b, off, ha, hl i m hi 0 _ rfl, hl i m hi 1 _ rfl, hl i m hi 2 _ rfl⟩
/-- What is owned is read. -/
theorem Prs.of_own {E : TypeId} {w : World} {ko : Option Nat} {ao : Option Addr} {cap : Nat} {l : List Pr} (h : OwG E 3 w ko ao cap l.length (l.flatMap fun m => (cPr m).toList)) : Prs w ao cap l := by
  refine ⟨h.len, h.top, ?_⟩
  by_cases h0 : l = []
  · exact .inl h0
  · have hcell := fun j v hj => h.cell j v hj
    have at1 : ∀ (l : List Pr) (i : Nat) (m : Pr), l[i]? = some m → ∀ (j : Nat) (v : Value), (cPr m)[j]? = some v → (l.flatMap fun m => (cPr m).toList)[i * 3 + j]? = some v := by
      intro l
      induction l with
      | nil => intro i m hi; simp at hi
      | cons x t ih =>
        intro i m hi j v hj
        have hx : ((cPr x).toList).length = 3 := rfl
        rw [List.flatMap_cons]
        cases i with
        | zero =>
          obtain rfl : x = m := by simpa using hi
          have hlt : j < 3 := by
            have := (Array.getElem?_eq_some_iff.1 hj).1
            simpa using this
          rw [List.getElem?_append_left (by rw [hx]; omega), Nat.zero_mul, Nat.zero_add]
          simpa using hj
        | succ i =>
          rw [List.getElem?_append_right (by rw [hx]; omega), hx, show (i + 1) * 3 + j - 3 = i * 3 + j by omega]
          exact ih i m (by simpa using hi) j v hj
    cases l with
    | nil => exact absurd rfl h0
    | cons x t =>
      obtain ⟨k, _, hao, _, _⟩ := hcell 0 (.int .i64 x.buy) rfl
      refine .inr ⟨k, 0, hao, fun i m hi j v hj => ?_⟩
      obtain ⟨k2, _, hao2, hc, _⟩ := hcell _ _ (at1 _ i m hi j v hj)
      rw [hao] at hao2
      cases hao2
      rw [Nat.zero_add]
      exact hc
section
open Go.ChangeShapes Go.WideShapes Go.ChangeAt Go.Deep
variable {H : Type} {enc' : TypeId × Value → H} {w : World} {base : Nat} {spare : Nat → Bool} {held : Bool}
end
end Go.Proofs.YtdmjcjheanedgaaDoor
namespace Go.Proofs.YtdmjcjheanedgaaDoor
def prA : Bk → List Pr → Int × Bk
  | b, [] => (0, b)
  | b, p :: l =>
    if (b.redF p.buy p.qty).2 ≠ 0 then ((b.redF p.buy p.qty).2, b.red p.buy p.qty) else
    if ((b.red p.buy p.qty).redF p.sell p.qty).2 ≠ 0 then (((b.red p.buy p.qty).redF p.sell p.qty).2, (b.red p.buy p.qty).red p.sell p.qty) else prA ((b.red p.buy p.qty).red p.sell p.qty) l
section
variable {b : Bk} {o z : Ord} {n : Int} {l : List Pr}
theorem red_keeps (hb : b.Ok) (ho : o ∈ b.L) (h1 : 1 ≤ n) (h2 : n ≤ o.qty) : (b.redF o.id n).2 = 0 ∧ (∀ z ∈ b.L, z.id ≠ o.id → z ∈ (b.red o.id n).L) ∧ (n < o.qty → ∃ o' ∈ (b.red o.id n).L, o'.id = o.id ∧ o'.qty = o.qty - n) := by
  obtain ⟨i, hi⟩ := List.mem_iff_getElem?.1 ho
  have hil := (List.getElem?_eq_some_iff.1 hi).1
  unfold Bk.redF Bk.red
  rw [hb.u.at' hi]
  simp only [hi, Option.getD_some]
  rw [if_neg (by omega), if_neg (by omega)]
  refine ⟨rfl, fun z hz hne => ?_, fun hlt => ?_⟩
  · obtain ⟨j, hj⟩ := List.mem_iff_getElem?.1 hz
    have hji : j ≠ i := fun e => by
      subst e
      rw [hi] at hj
      exact hne (by rw [Option.some.inj hj])
    split
    · exact List.mem_eraseIdx_iff_getElem?.2 ⟨j, hji, hj⟩
    · refine List.mem_iff_getElem?.2 ⟨j, ?_⟩
      show (b.L.set i _)[j]? = some z
      rw [List.getElem?_set_ne (Ne.symm hji)]
      exact hj
  · rw [if_neg (by omega)]
    exact ⟨{ o with qty := o.qty - n }, List.mem_iff_getElem?.2 ⟨i, by show (b.L.set i _)[i]? = _; rw [List.getElem?_set_self hil]⟩, rfl, rfl⟩
theorem ofP_cons (p : Pr) (l : List Pr) (id : Int) : ofP (p :: l) id = (if Pr.of id p then p.qty else 0) + ofP l id := by
  unfold ofP
  rw [List.filter_cons]
  split <;> simp [totP]
theorem ofP_nonneg (h : ∀ p ∈ l, 1 ≤ p.qty) (id : Int) : 0 ≤ ofP l id := by
  induction l with
  | nil => exact Int.le_refl _
  | cons p l ih =>
    rw [ofP_cons]
    have h1 := h p List.mem_cons_self
    have h2 := ih fun q hq => h q (List.mem_cons_of_mem _ hq)
    split <;> omega
/-- Pairs within what the orders have are applied without a fault. -/
theorem prA_ok : ∀ (l : List Pr) (b : Bk), b.Ok → (∀ p ∈ l, 1 ≤ p.qty ∧ p.buy ≠ p.sell) → (∀ id, 0 < ofP l id → ∃ o ∈ b.L, o.id = id ∧ ofP l id ≤ o.qty) → (prA b l).1 = 0 := by
  intro l
  induction l with
  | nil => intro b _ _ _; rfl
  | cons p l ih =>
    intro b hb hp hc
    obtain ⟨q1, q2⟩ := hp p List.mem_cons_self
    have hp' := fun q (hq : q ∈ l) => hp q (List.mem_cons_of_mem _ hq)
    have hnn := fun id => ofP_nonneg (fun q hq => (hp' q hq).1) id
    have eb : ofP (p :: l) p.buy = p.qty + ofP l p.buy := by rw [ofP_cons, if_pos (by simp [Pr.of])]
    have es : ofP (p :: l) p.sell = p.qty + ofP l p.sell := by rw [ofP_cons, if_pos (by simp [Pr.of])]
    have hbp := hnn p.buy
    have hsp := hnn p.sell
    obtain ⟨x, hx, hxi, hxq⟩ := hc p.buy (by omega)
    obtain ⟨y, hy, hyi, hyq⟩ := hc p.sell (by omega)
    have hyx : y.id ≠ x.id := fun e => q2 (by rw [← hxi, ← hyi, e])
    obtain ⟨r1, r2, r3⟩ := red_keeps hb hx q1 (by omega)
    rw [hxi] at r1 r2 r3
    have hb1 : (b.red p.buy p.qty).Ok := hb.red _ _
    have hy1 : y ∈ (b.red p.buy p.qty).L := r2 y hy (by rw [hyi]; exact fun e => q2 e.symm)
    obtain ⟨s1, s2, s3⟩ := red_keeps hb1 hy1 q1 (by omega)
    rw [hyi] at s1 s2 s3
    unfold prA
    rw [if_neg (by simpa using r1), if_neg (by simpa using s1)]
    refine ih _ (hb1.red _ _) hp' fun id hid => ?_
    by_cases e1 : id = p.buy
    · subst e1
      obtain ⟨x', h1, h2, h3⟩ := r3 (by omega)
      exact ⟨x', s2 x' h1 (by rw [h2]; exact q2), h2, by omega⟩
    · by_cases e2 : id = p.sell
      · subst e2
        obtain ⟨y', h1, h2, h3⟩ := s3 (by omega)
        exact ⟨y', h1, h2, by omega⟩
      · have e3 : ofP (p :: l) id = ofP l id := by
          rw [ofP_cons, if_neg (by simp [Pr.of]; exact ⟨fun e => e1 e.symm, fun e => e2 e.symm⟩), Int.zero_add]
        obtain ⟨z, h1, h2, h3⟩ := hc id (by omega)
        refine ⟨z, s2 z (r2 z h1 (by rw [h2]; exact e1)) (by rw [h2]; exact e2), h2, by omega⟩
/-- The pairs of a book can be applied to it. -/
theorem prs_applies (hb : b.Ok) {price : Int} (hp : 1 ≤ price ∧ price ≤ 1099511627776) : (prA b (prsL b.L price)).1 = 0 := by
  have hprs : prsL b.L price = prsF (partL b.L 1 price) 0 (partL b.L 0 price) := by unfold prsL; rw [if_neg (by omega)]
  refine prA_ok _ b hb (fun p h => ?_) fun id h => ?_
  · rw [hprs] at h
    obtain ⟨⟨x, h1, h2⟩, ⟨y, h3, h4⟩, h5⟩ := prsF_mem _ p h
    exact ⟨h5, by rw [h2, h4]; exact fun e => sides_apart hb h1 h3 e.symm⟩
  · have : ∃ p ∈ prsL b.L price, p.buy = id ∨ p.sell = id := by
      refine Classical.byContradiction fun hno => ?_
      rw [of_none fun p hp => ⟨fun e => hno ⟨p, hp, .inl e⟩, fun e => hno ⟨p, hp, .inr e⟩⟩] at h
      omega
    obtain ⟨p, hpm, hpi⟩ := this
    rw [hprs] at hpm
    obtain ⟨⟨x, h1, h2⟩, ⟨y, h3, h4⟩, -⟩ := prsF_mem _ p hpm
    rcases hpi with e | e
    · have hx := (part_mem.1 h1).1
      exact ⟨x, hx, by rw [← h2, e], by rw [← e, h2]; exact (of_bounds hb hp hx).2.1⟩
    · have hy := (part_mem.1 h3).1
      exact ⟨y, hy, by rw [← h4, e], by rw [← e, h4]; exact (of_bounds hb hp hy).2.1⟩
end
end Go.Proofs.YtdmjcjheanedgaaDoor
