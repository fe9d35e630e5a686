/-
  Demand and supply of a book at a price; the prices of a book, rising. (No Go text.)
  damper/damperref16.Point: a struct of 3 ints as Go's values: laid, read whole, compared, as an argument, in slices. (Written by gen/struct.py.)
  A book's curve price by price: what orders have at just one price, and sums of it from both ends. (No Go text.)
-/
import Derived.Test.YtohenmnpmgghhaaGreatDoorGP
import Derived.Test.YtohenmnpmgghhaaGreatDoorGOa
import Derived.Test.YtohenmnpmgghhaaGreatDoorGB
import Derived.Laws.StructEq
import Derived.Lib.Hide
import Derived.ProofKit
import Derived.OpenShut
import Derived.Deep.Slices
namespace Go.Proofs.YtohenmnpmgghhaaGreatDoor
structure Pnt where
  price : Int
  demand : Int
  supply : Int
def Pnt.zero : Pnt := ⟨0, 0, 0⟩
structure Pnt.Fit (m : Pnt) : Prop where
  price : In64 m.price
  demand : In64 m.demand
  supply : In64 m.supply
/-- What an order adds to a price's demand, and supply. -/
def demS (p : Int) (o : Ord) : Int := if o.side = 0 ∧ p ≤ o.price then o.qty else 0
def supS (p : Int) (o : Ord) : Int := if o.side = 1 ∧ o.price ≤ p then o.qty else 0
def sumO (f : Ord → Int) : List Ord → Int
  | [] => 0
  | x :: l => f x + sumO f l
def catL (L : List Ord) (p : Int) : Pnt := ⟨p, sumO (demS p) L, sumO (supS p) L⟩
def volP (m : Pnt) : Int := if m.supply < m.demand then m.supply else m.demand
def oddP (m : Pnt) : Int := if m.supply < m.demand then m.demand - m.supply else m.supply - m.demand
section
variable {f g : Ord → Int} {L l : List Ord}
theorem sumO_append (f : Ord → Int) (l k : List Ord) : sumO f (l ++ k) = sumO f l + sumO f k := by
  induction l with
  | nil => simp [sumO]
  | cons x l ih => simp only [List.cons_append, sumO, ih]; omega
theorem sumO_at {q : Nat} {x : Ord} (h : l[q]? = some x) : sumO f (l.take (q + 1)) = sumO f (l.take q) + f x := by
  rw [List.take_add_one, h, sumO_append]
  simp [sumO]
theorem sumO_perm (f : Ord → Int) {l k : List Ord} (h : l.Perm k) : sumO f l = sumO f k := by
  induction h with
  | nil => rfl
  | cons x _ ih => simp only [sumO, ih]
  | swap x y l => simp only [sumO]; omega
  | trans _ _ h1 h2 => exact h1.trans h2
theorem sumO_le (h : ∀ x ∈ l, f x ≤ g x) : sumO f l ≤ sumO g l := by
  induction l with
  | nil => exact Int.le_refl _
  | cons x l ih =>
    have h1 := h x List.mem_cons_self
    have h2 := ih fun y hy => h y (List.mem_cons_of_mem _ hy)
    simp only [sumO]
    omega
theorem sumO_bound {M : Int} (h : ∀ x ∈ l, 0 ≤ f x ∧ f x ≤ M) : 0 ≤ sumO f l ∧ sumO f l ≤ M * l.length := by
  induction l with
  | nil => simp [sumO]
  | cons x l ih =>
    have h1 := h x List.mem_cons_self
    have h2 := ih fun y hy => h y (List.mem_cons_of_mem _ hy)
    simp only [sumO, List.length_cons]
    have : M * ((l.length + 1 : Nat) : Int) = M * (l.length : Int) + M := by rw [Int.natCast_add, Int.mul_add]; simp
    omega
theorem sumO_eq (h : ∀ x ∈ l, f x = g x) : sumO f l = sumO g l := by
  induction l with
  | nil => rfl
  | cons x l ih => simp only [sumO]; rw [h x List.mem_cons_self, ih fun y hy => h y (List.mem_cons_of_mem _ hy)]
theorem demS_bound {b : Bk} (hb : b.Ok) (p : Int) : ∀ x ∈ b.L, 0 ≤ demS p x ∧ demS p x ≤ 4294967296 := fun x hx => by
  have := hb.ok x hx
  have h1 := this.q1
  have h2 := this.q2
  unfold demS
  split <;> omega
theorem supS_bound {b : Bk} (hb : b.Ok) (p : Int) : ∀ x ∈ b.L, 0 ≤ supS p x ∧ supS p x ≤ 4294967296 := fun x hx => by
  have := hb.ok x hx
  have h1 := this.q1
  have h2 := this.q2
  unfold supS
  split <;> omega
theorem sum_take {b : Bk} (hb : b.Ok) (h : ∀ x ∈ b.L, 0 ≤ f x ∧ f x ≤ 4294967296) (n : Nat) : 0 ≤ sumO f (b.L.take n) ∧ sumO f (b.L.take n) ≤ 2147483648000 := by
  have h1 := sumO_bound (f := f) (l := b.L.take n) (M := 4294967296) fun x hx => h x (List.mem_of_mem_take hx)
  have h2 : (b.L.take n).length ≤ 500 := by
    have := hb.len
    have := hb.s2
    rw [List.length_take]
    omega
  refine ⟨h1.1, Int.le_trans h1.2 ?_⟩
  have : (4294967296 : Int) * ((b.L.take n).length : Int) ≤ 4294967296 * 500 := Int.mul_le_mul_of_nonneg_left (by omega) (by omega)
  omega
/-- Demand never rises with the price, supply never falls. -/
theorem catL_turns (h : ∀ x ∈ L, 0 ≤ x.qty) {p q : Int} (hpq : p ≤ q) : (catL L q).demand ≤ (catL L p).demand ∧ (catL L p).supply ≤ (catL L q).supply := by
  refine ⟨sumO_le fun x hx => ?_, sumO_le fun x hx => ?_⟩
  · have := h x hx
    unfold demS
    split <;> split <;> omega
  · have := h x hx
    unfold supS
    split <;> split <;> omega
end
/-! The prices of a book from one to another one, rising, each once. -/
def cAt (q : List Int) (p : Int) : Nat := (q.takeWhile fun y => decide (y < p)).length
def cins (lo hi : Int) (q : List Int) (p : Int) : List Int := if (lo ≤ p ∧ p ≤ hi) ∧ q[cAt q p]? ≠ some p then q.take (cAt q p) ++ p :: q.drop (cAt q p) else q
def cprTo (lo hi : Int) (L : List Ord) : Nat → List Int
  | 0 => []
  | i + 1 => match L[i]? with
    | some o => cins lo hi (cprTo lo hi L i) o.price
    | none => cprTo lo hi L i
def cpr (lo hi : Int) (L : List Ord) : List Int := cprTo lo hi L L.length
abbrev Rise (q : List Int) : Prop := q.Pairwise (· < ·)
section
variable {q : List Int} {p lo hi : Int}
theorem cAt_le (q : List Int) (p : Int) : cAt q p ≤ q.length := by
  unfold cAt
  exact (List.takeWhile_sublist _).length_le
theorem cAt_lt {k : Nat} {y : Int} (hy : q[k]? = some y) (hk : k < cAt q p) : y < p := by
  unfold cAt at hk
  have h1 : (q.takeWhile fun y => decide (y < p))[k]? = some y := by
    have hp : (q.takeWhile fun y => decide (y < p)) <+: q := List.takeWhile_prefix _
    obtain ⟨t, ht⟩ := hp
    rw [← ht, List.getElem?_append_left hk] at hy
    exact hy
  have h2 := List.all_eq_true.1 (List.all_takeWhile (p := fun y => decide (y < p)) (l := q)) y (List.mem_of_getElem? h1)
  simpa using h2
theorem cAt_at {y : Int} (hy : q[cAt q p]? = some y) : p ≤ y := by
  induction q with
  | nil => simp at hy
  | cons z t ih =>
    unfold cAt at hy
    by_cases h : z < p
    · rw [List.takeWhile_cons_of_pos (by simpa using h)] at hy
      exact ih hy
    · rw [List.takeWhile_cons_of_neg (by simpa using h)] at hy
      simp at hy
      omega
theorem cins_mem {x : Int} : x ∈ cins lo hi q p ↔ x ∈ q ∨ (x = p ∧ lo ≤ p ∧ p ≤ hi) := by
  unfold cins
  split
  · next h =>
    rw [List.mem_append, List.mem_cons]
    constructor
    · rintro (h1 | h1 | h1)
      · exact .inl (List.mem_of_mem_take h1)
      · exact .inr ⟨h1, h.1⟩
      · exact .inl (List.mem_of_mem_drop h1)
    · rintro (h1 | ⟨h1, -⟩)
      · rw [← List.take_append_drop (cAt q p) q, List.mem_append] at h1
        rcases h1 with h1 | h1
        · exact .inl h1
        · exact .inr (.inr h1)
      · exact .inr (.inl h1)
  · next h =>
    constructor
    · exact .inl
    · rintro (h1 | ⟨rfl, h2⟩)
      · exact h1
      · have : q[cAt q x]? = some x := Classical.byContradiction fun g => h ⟨h2, g⟩
        exact List.mem_of_getElem? this
theorem cins_rise (h : Rise q) : Rise (cins lo hi q p) := by
  unfold cins
  split
  · next hc =>
    rw [show q.take (cAt q p) ++ p :: q.drop (cAt q p) = q.take (cAt q p) ++ ([p] ++ q.drop (cAt q p)) from rfl]
    have h1 : Rise (q.take (cAt q p)) := h.sublist (List.take_sublist _ _)
    have h2 : Rise (q.drop (cAt q p)) := h.sublist (List.drop_sublist _ _)
    have hlow : ∀ x ∈ q.take (cAt q p), x < p := fun x hx => by
      obtain ⟨k, hk⟩ := List.mem_iff_getElem?.1 hx
      have hkl : k < cAt q p := by
        have := (List.getElem?_eq_some_iff.1 hk).1
        rw [List.length_take] at this
        omega
      rw [List.getElem?_take_of_lt hkl] at hk
      exact cAt_lt hk hkl
    have hhi : ∀ x ∈ q.drop (cAt q p), p < x := fun x hx => by
      obtain ⟨k, hk⟩ := List.mem_iff_getElem?.1 hx
      rw [List.getElem?_drop] at hk
      have hlt := (List.getElem?_eq_some_iff.1 hk).1
      obtain ⟨y, hy⟩ : ∃ y, q[cAt q p]? = some y := ⟨_, List.getElem?_eq_getElem (by omega)⟩
      have h3 := cAt_at hy
      have h4 : p ≠ y := fun e => hc.2 (by rw [hy, e])
      by_cases hk0 : k = 0
      · subst hk0
        rw [Nat.add_zero, hy] at hk
        cases hk
        omega
      · have h5 : y < x := by
          rw [Rise, List.pairwise_iff_getElem] at h
          obtain ⟨a1, a2⟩ := List.getElem?_eq_some_iff.1 hy
          obtain ⟨b1, b2⟩ := List.getElem?_eq_some_iff.1 hk
          have := h (cAt q p) (cAt q p + k) a1 b1 (by omega)
          rw [a2, b2] at this
          exact this
        omega
    rw [Rise, List.pairwise_append]
    refine ⟨h1, ?_, fun x hx y hy => ?_⟩
    · rw [List.pairwise_append]
      exact ⟨List.pairwise_singleton _ _, h2, fun x hx y hy => by rw [List.mem_singleton] at hx; subst hx; exact hhi y hy⟩
    · rw [List.mem_append, List.mem_singleton] at hy
      have h6 := hlow x hx
      rcases hy with rfl | hy
      · exact h6
      · have := hhi y hy
        omega
  · exact h
theorem cins_len : (cins lo hi q p).length ≤ q.length + 1 := by
  unfold cins
  split
  · have := cAt_le q p
    simp
    omega
  · omega
theorem cprTo_rise (lo hi : Int) (L : List Ord) (i : Nat) : Rise (cprTo lo hi L i) := by
  induction i with
  | zero => exact List.Pairwise.nil
  | succ i ih =>
    unfold cprTo
    split
    · exact cins_rise ih
    · exact ih
theorem cprTo_len (lo hi : Int) (L : List Ord) (i : Nat) : (cprTo lo hi L i).length ≤ i := by
  induction i with
  | zero => exact Nat.le_refl _
  | succ i ih =>
    unfold cprTo
    split
    · exact Nat.le_trans cins_len (by omega)
    · omega
theorem cprTo_mem {L : List Ord} {i : Nat} {x : Int} : x ∈ cprTo lo hi L i ↔ (∃ o ∈ L.take i, o.price = x) ∧ lo ≤ x ∧ x ≤ hi := by
  induction i with
  | zero => simp [cprTo]
  | succ i ih =>
    unfold cprTo
    cases hx : L[i]? with
    | none =>
      have : L.take (i + 1) = L.take i := by rw [List.take_add_one, hx]; simp
      simp only [this, ih]
    | some o =>
      have : L.take (i + 1) = L.take i ++ [o] := by rw [List.take_add_one, hx]; rfl
      simp only [this, cins_mem, ih, List.mem_append, List.mem_singleton]
      constructor
      · rintro (⟨⟨y, h1, h2⟩, h3⟩ | ⟨rfl, h3⟩)
        · exact ⟨⟨y, .inl h1, h2⟩, h3⟩
        · exact ⟨⟨o, .inr rfl, rfl⟩, h3⟩
      · rintro ⟨⟨y, h1 | rfl, h2⟩, h3⟩
        · exact .inl ⟨⟨y, h1, h2⟩, h3⟩
        · exact .inr ⟨h2.symm, by rw [h2]; exact h3⟩
theorem cpr_rise (lo hi : Int) (L : List Ord) : Rise (cpr lo hi L) := cprTo_rise _ _ _ _
theorem cpr_len (lo hi : Int) (L : List Ord) : (cpr lo hi L).length ≤ L.length := cprTo_len _ _ _ _
theorem cpr_mem {L : List Ord} {x : Int} : x ∈ cpr lo hi L ↔ (∃ o ∈ L, o.price = x) ∧ lo ≤ x ∧ x ≤ hi := by
  unfold cpr
  rw [cprTo_mem, List.take_length]
/-- A list that rises is known by what is in it. -/
theorem rise_ext {k l : List Int} (hk : Rise k) (hl : Rise l) (h : ∀ x, x ∈ k ↔ x ∈ l) : k = l := by
  induction k generalizing l with
  | nil =>
    cases l with
    | nil => rfl
    | cons y l => exact absurd ((h y).2 List.mem_cons_self) (by simp)
  | cons x k ih =>
    cases l with
    | nil => exact absurd ((h x).1 List.mem_cons_self) (by simp)
    | cons y l =>
      rw [Rise, List.pairwise_cons] at hk hl
      have hxy : x = y := by
        have h1 := (h x).1 List.mem_cons_self
        have h2 := (h y).2 List.mem_cons_self
        rw [List.mem_cons] at h1 h2
        rcases h1 with h1 | h1
        · exact h1
        · rcases h2 with h2 | h2
          · exact h2.symm
          · have := hk.1 y h2
            have := hl.1 x h1
            omega
      subst hxy
      congr 1
      refine ih hk.2 hl.2 fun z => ⟨fun hz => ?_, fun hz => ?_⟩
      · have h1 := (h z).1 (List.mem_cons_of_mem _ hz)
        rw [List.mem_cons] at h1
        rcases h1 with rfl | h1
        · have := hk.1 z hz
          omega
        · exact h1
      · have h1 := (h z).2 (List.mem_cons_of_mem _ hz)
        rw [List.mem_cons] at h1
        rcases h1 with rfl | h1
        · have := hl.1 z hz
          omega
        · exact h1
theorem cpr_filter {L : List Ord} {lo' hi' : Int} (h : ∀ o ∈ L, lo' ≤ o.price ∧ o.price ≤ hi') : cpr lo hi L = (cpr lo' hi' L).filter fun x => decide (lo ≤ x ∧ x ≤ hi) := by
  refine rise_ext (cpr_rise _ _ _) ((cpr_rise _ _ _).sublist List.filter_sublist) fun x => ?_
  rw [List.mem_filter, cpr_mem, cpr_mem]
  simp only [decide_eq_true_eq]
  constructor
  · rintro ⟨⟨o, h1, h2⟩, h3⟩
    exact ⟨⟨⟨o, h1, h2⟩, by rw [← h2]; exact h o h1⟩, h3⟩
  · rintro ⟨⟨⟨o, h1, h2⟩, -⟩, h3⟩
    exact ⟨⟨o, h1, h2⟩, h3⟩
/-- All prices of a book. -/
def cprA (L : List Ord) : List Int := cpr 0 4611686018427387904 L
end
end Go.Proofs.YtohenmnpmgghhaaGreatDoor
namespace Go.Proofs.YtohenmnpmgghhaaGreatDoor
open Go.RowKit
abbrev cPnt (m : Pnt) : Array Value := #[.int .i64 m.price, .int .i64 m.demand, .int .i64 m.supply]
abbrev vPnt (m : Pnt) : Value := .agg (cPnt m)
/-- Whether two are the same. -/
def eqPnt (a b : Pnt) : Bool := a.price == b.price && a.demand == b.demand && a.supply == b.supply
theorem Pnt.cells {w : World} {b : Nat} {T : TypeId} {m : Pnt} (h : Blk w b T (cPnt m)) : w.cell? ⟨b, 0, none⟩ = some (.int .i64 m.price) ∧ w.cell? ⟨b, 1, none⟩ = some (.int .i64 m.demand) ∧ w.cell? ⟨b, 2, none⟩ = some (.int .i64 m.supply) :=
  ⟨h.cell_eq 0 _ rfl, h.cell_eq 1 _ rfl, h.cell_eq 2 _ rfl⟩
theorem Pnt.below {B : Nat} {W w : World} {b : Nat} (h : Below B W w) (hb : B ≤ b) (v0 v1 v2 : Value) : Below B W (((w.setCell ⟨b, 0, none⟩ v0).setCell ⟨b, 1, none⟩ v1).setCell ⟨b, 2, none⟩ v2) := by
  have h0 := h.setCell (p := ⟨b, 0, none⟩) hb v0
  have h1 := h0.setCell (p := ⟨b, 1, none⟩) hb v1
  have h2 := h1.setCell (p := ⟨b, 2, none⟩) hb v2
  exact h2
theorem Pnt.frm {S : Nat → Prop} {W w : World} {b : Nat} (h : Frm S W w) (hb : S b ∨ W.heap.size ≤ b) (v0 v1 v2 : Value) : Frm S W (((w.setCell ⟨b, 0, none⟩ v0).setCell ⟨b, 1, none⟩ v1).setCell ⟨b, 2, none⟩ v2) := by
  have h0 := h.setCell ⟨b, 0, none⟩ v0 hb
  have h1 := h0.setCell ⟨b, 1, none⟩ v1 hb
  have h2 := h1.setCell ⟨b, 2, none⟩ v2 hb
  exact h2
theorem Pnt.lay {w : World} {b : Nat} {T : TypeId} {m : Pnt} (h : Blk w b T (cPnt m)) (v0 v1 v2 : Int) : Blk (((w.setCell ⟨b, 0, none⟩ (.int .i64 v0)).setCell ⟨b, 1, none⟩ (.int .i64 v1)).setCell ⟨b, 2, none⟩ (.int .i64 v2)) b T (cPnt ⟨v0, v1, v2⟩) := by
  have h0 : Blk _ b T (cPnt ⟨v0, m.demand, m.supply⟩) := h.set 0 (.int .i64 v0)
  have h1 : Blk _ b T (cPnt ⟨v0, v1, m.supply⟩) := h0.set 1 (.int .i64 v1)
  have h2 : Blk _ b T (cPnt ⟨v0, v1, v2⟩) := h1.set 2 (.int .i64 v2)
  exact h2
section
open Go.ChangeShapes Go.WideShapes Go.ChangeAt Go.Deep
variable {H : Type} {enc' : TypeId × Value → H} {w : World} {base : Nat} {spare : Nat → Bool} {held : Bool}
end
/-- A slice of them, to be read. -/
structure Pnts (w : World) (ao : Option Addr) (cap : Nat) (l : List Pnt) : Prop where
  len : l.length ≤ cap
  top : cap ≤ maxLen
  at' : l = [] ∨ ∃ b off, ao = some ⟨b, off, none⟩ ∧ ∀ (i : Nat) (m : Pnt), l[i]? = some m → ∀ (j : Nat) (v : Value), (cPnt m)[j]? = some v → w.cell? ⟨b, off + i * 3 + j, none⟩ = some v
theorem Pnts.nil (w : World) : Pnts w none 0 [] := ⟨Nat.le_refl _, Nat.zero_le _, .inl rfl⟩
theorem Pnts.below {w w' : World} {ao : Option Addr} {cap : Nat} {l : List Pnt} (h : Pnts w ao cap l) (hb : Below w.heap.size w w') : Pnts w' ao cap l := by
  refine ⟨h.len, h.top, ?_⟩
  rcases h.at' with h0 | ⟨b, off, ha, hl⟩
  · exact .inl h0
  · refine .inr ⟨b, off, ha, fun i m hi j v hj => ?_⟩
    have hc := hl i m hi j v hj
    have hlt : b < w.heap.size := World.block_lt_of_cell? w ⟨b, off + i * 3 + j, none⟩ hc
    exact (World.cell?_of_block (a := ⟨b, off + i * 3 + j, none⟩) (hb.block b hlt)).trans hc
/-- One of them. -/
theorem Pnts.get {w : World} {ao : Option Addr} {cap : Nat} {l : List Pnt} (h : Pnts w ao cap l) {i : Nat} {m : Pnt} (hi : l[i]? = some m) :
    ∃ b off, ao = some ⟨b, off, none⟩ ∧ w.cell? ⟨b, off + i * 3 + 0, none⟩ = some (.int .i64 m.price) ∧ w.cell? ⟨b, off + i * 3 + 1, none⟩ = some (.int .i64 m.demand) ∧ w.cell? ⟨b, off + i * 3 + 2, none⟩ = some (.int .i64 m.supply) := by
  rcases h.at' with h0 | ⟨b, off, ha, hl⟩
  · subst h0; simp at hi
  · exact ⟨b, off, ha, hl i m hi 0 _ rfl, hl i m hi 1 _ rfl, hl i m hi 2 _ rfl⟩
/-- What is owned is read. -/
theorem Pnts.of_own {E : TypeId} {w : World} {ko : Option Nat} {ao : Option Addr} {cap : Nat} {l : List Pnt} (h : OwG E 3 w ko ao cap l.length (l.flatMap fun m => (cPnt m).toList)) : Pnts w ao cap l := by
  refine ⟨h.len, h.top, ?_⟩
  by_cases h0 : l = []
  · exact .inl h0
  · have hcell := fun j v hj => h.cell j v hj
    have at1 : ∀ (l : List Pnt) (i : Nat) (m : Pnt), l[i]? = some m → ∀ (j : Nat) (v : Value), (cPnt m)[j]? = some v → (l.flatMap fun m => (cPnt m).toList)[i * 3 + j]? = some v := by
      intro l
      induction l with
      | nil => intro i m hi; simp at hi
      | cons x t ih =>
        intro i m hi j v hj
        have hx : ((cPnt x).toList).length = 3 := rfl
        rw [List.flatMap_cons]
        cases i with
        | zero =>
          obtain rfl : x = m := by simpa using hi
          have hlt : j < 3 := by
            have := (Array.getElem?_eq_some_iff.1 hj).1
            simpa using this
          rw [List.getElem?_append_left (by rw [hx]; omega), Nat.zero_mul, Nat.zero_add]
          simpa using hj
        | succ i =>
          rw [List.getElem?_append_right (by rw [hx]; omega), hx, show (i + 1) * 3 + j - 3 = i * 3 + j by omega]
          exact ih i m (by simpa using hi) j v hj
    cases l with
    | nil => exact absurd rfl h0
    | cons x t =>
      obtain ⟨k, _, hao, _, _⟩ := hcell 0 (.int .i64 x.price) rfl
      refine .inr ⟨k, 0, hao, fun i m hi j v hj => ?_⟩
      obtain ⟨k2, _, hao2, hc, _⟩ := hcell _ _ (at1 _ i m hi j v hj)
      rw [hao] at hao2
      cases hao2
      rw [Nat.zero_add]
      exact hc
section
open Go.ChangeShapes Go.WideShapes Go.ChangeAt Go.Deep
variable {H : Type} {enc' : TypeId × Value → H} {w : World} {base : Nat} {spare : Nat → Bool} {held : Bool}
end
end Go.Proofs.YtohenmnpmgghhaaGreatDoor
namespace Go.Proofs.YtohenmnpmgghhaaGreatDoor
/-- What an order of side s has at just the price p. -/
def eqS (s p : Int) (o : Ord) : Int := if o.side = s ∧ o.price = p then o.qty else 0
/-- Orders as they may stand in a book. -/
structure LOk (L : List Ord) : Prop where
  len : L.length ≤ 500
  ok : ∀ x ∈ L, x.Ok
theorem Bk.Ok.lok {b : Bk} (h : b.Ok) : LOk b.L := ⟨Nat.le_trans h.len h.s2, h.ok⟩
theorem LOk.nil : LOk [] := ⟨Nat.zero_le _, fun _ h => by cases h⟩
/-- All prices of orders, rising. -/
structure Prs (ps : List Int) (L : List Ord) : Prop where
  rise : Rise ps
  mem : ∀ x, x ∈ ps ↔ ∃ o ∈ L, o.price = x
section
variable {L l : List Ord} {ps : List Int} {f g : Ord → Int}
theorem prs_all (h : LOk L) : Prs (cprA L) L := ⟨cpr_rise _ _ _, fun x => by
  unfold cprA
  rw [cpr_mem]
  constructor
  · exact fun h => h.1
  · rintro ⟨o, h1, rfl⟩
    have h3 := (h.ok o h1).p1
    have h4 := (h.ok o h1).p2
    exact ⟨⟨o, h1, rfl⟩, by omega⟩⟩
theorem Prs.price {x : Int} (h : Prs ps L) (hL : LOk L) (hx : x ∈ ps) : 1 ≤ x ∧ x ≤ 1099511627776 := by
  obtain ⟨o, h1, rfl⟩ := (h.mem x).1 hx
  exact ⟨(hL.ok o h1).p1, (hL.ok o h1).p2⟩
theorem sumO_add (f g : Ord → Int) (L : List Ord) : sumO (fun o => f o + g o) L = sumO f L + sumO g L := by
  induction L with
  | nil => rfl
  | cons x l ih => simp only [sumO, ih]; omega
theorem sum_small (hL : LOk L) (h : ∀ x ∈ L, 0 ≤ f x ∧ f x ≤ x.qty) : 0 ≤ sumO f L ∧ sumO f L ≤ 2147483648000 := by
  have h1 := sumO_bound (f := f) (l := L) (M := 4294967296) fun x hx => by
    have := h x hx
    have := (hL.ok x hx).q2
    omega
  have h2 := hL.len
  refine ⟨h1.1, Int.le_trans h1.2 ?_⟩
  have : (4294967296 : Int) * (L.length : Int) ≤ 4294967296 * 500 := Int.mul_le_mul_of_nonneg_left (by omega) (by omega)
  omega
theorem dem_small (hL : LOk L) (p : Int) : 0 ≤ sumO (demS p) L ∧ sumO (demS p) L ≤ 2147483648000 := sum_small hL fun x hx => by
  have := (hL.ok x hx).q1
  unfold demS; split <;> omega
theorem sup_small (hL : LOk L) (p : Int) : 0 ≤ sumO (supS p) L ∧ sumO (supS p) L ≤ 2147483648000 := sum_small hL fun x hx => by
  have := (hL.ok x hx).q1
  unfold supS; split <;> omega
theorem eqS_small (hL : LOk L) (s p : Int) : 0 ≤ sumO (eqS s p) L ∧ sumO (eqS s p) L ≤ 2147483648000 := sum_small hL fun x hx => by
  have := (hL.ok x hx).q1
  unfold eqS; split <;> omega
theorem rise_lt (h : Rise ps) {i j : Nat} {x y : Int} (hi : ps[i]? = some x) (hj : ps[j]? = some y) (hij : i < j) : x < y := by
  obtain ⟨a1, a2⟩ := List.getElem?_eq_some_iff.1 hi
  obtain ⟨b1, b2⟩ := List.getElem?_eq_some_iff.1 hj
  have := (List.pairwise_iff_getElem.1 h) i j a1 b1 hij
  rw [a2, b2] at this
  exact this
theorem Prs.place (h : Prs ps L) {o : Ord} (ho : o ∈ L) : ∃ k : Nat, ps[k]? = some o.price := List.mem_iff_getElem?.1 ((h.mem _).2 ⟨o, ho, rfl⟩)
theorem sup_next (h : Prs ps L) {n : Nat} {p q : Int} (hp : ps[n]? = some p) (hq : ps[n + 1]? = some q) : sumO (supS q) L = sumO (supS p) L + sumO (eqS 1 q) L := by
  rw [← sumO_add]
  refine sumO_eq fun o ho => ?_
  obtain ⟨k, hk⟩ := h.place ho
  have hpq := rise_lt h.rise hp hq (by omega)
  have hcase : o.price ≤ p ∨ o.price = q ∨ q < o.price := by
    rcases Nat.lt_trichotomy k n with e | e | e
    · have := rise_lt h.rise hk hp e; omega
    · subst e; rw [hp] at hk; cases hk; omega
    · rcases Nat.lt_or_ge (n + 1) k with e2 | e2
      · have := rise_lt h.rise hq hk e2; omega
      · have : k = n + 1 := by omega
        subst this; rw [hq] at hk; cases hk; omega
  unfold supS eqS
  by_cases hs : o.side = 1 <;> rcases hcase with e | e | e
  all_goals simp only [hs, true_and, false_and, if_false]
  all_goals (repeat' split)
  all_goals omega
theorem sup_first (h : Prs ps L) {q : Int} (hq : ps[0]? = some q) : sumO (supS q) L = sumO (eqS 1 q) L := by
  refine sumO_eq fun o ho => ?_
  obtain ⟨k, hk⟩ := h.place ho
  have hcase : o.price = q ∨ q < o.price := by
    rcases Nat.eq_zero_or_pos k with e | e
    · subst e; rw [hq] at hk; cases hk; omega
    · have := rise_lt h.rise hq hk e; omega
  unfold supS eqS
  by_cases hs : o.side = 1 <;> rcases hcase with e | e
  all_goals simp only [hs, true_and, false_and, if_false]
  all_goals (repeat' split)
  all_goals omega
theorem dem_next (h : Prs ps L) {n : Nat} {p q : Int} (hp : ps[n]? = some p) (hq : ps[n + 1]? = some q) : sumO (demS p) L = sumO (eqS 0 p) L + sumO (demS q) L := by
  rw [← sumO_add]
  refine sumO_eq fun o ho => ?_
  obtain ⟨k, hk⟩ := h.place ho
  have hpq := rise_lt h.rise hp hq (by omega)
  have hcase : o.price < p ∨ o.price = p ∨ q ≤ o.price := by
    rcases Nat.lt_trichotomy k n with e | e | e
    · have := rise_lt h.rise hk hp e; omega
    · subst e; rw [hp] at hk; cases hk; omega
    · rcases Nat.lt_or_ge (n + 1) k with e2 | e2
      · have := rise_lt h.rise hq hk e2; omega
      · have : k = n + 1 := by omega
        subst this; rw [hq] at hk; cases hk; omega
  unfold demS eqS
  by_cases hs : o.side = 0 <;> rcases hcase with e | e | e
  all_goals simp only [hs, true_and, false_and, if_false]
  all_goals (repeat' split)
  all_goals omega
theorem dem_last (h : Prs ps L) {n : Nat} {q : Int} (hq : ps[n]? = some q) (hn : n + 1 = ps.length) : sumO (demS q) L = sumO (eqS 0 q) L := by
  refine sumO_eq fun o ho => ?_
  obtain ⟨k, hk⟩ := h.place ho
  have hkl := (List.getElem?_eq_some_iff.1 hk).1
  have hcase : o.price = q ∨ o.price < q := by
    rcases Nat.lt_or_ge k n with e | e
    · have := rise_lt h.rise hk hq e; omega
    · have : k = n := by omega
      subst this; rw [hq] at hk; cases hk; omega
  unfold demS eqS
  by_cases hs : o.side = 0 <;> rcases hcase with e | e
  all_goals simp only [hs, true_and, false_and, if_false]
  all_goals (repeat' split)
  all_goals omega
/-- Where n prices are below x, and no price is x: the demand is that of the next price above, and the supply that of the next one below. -/
theorem dem_at (h : Prs ps L) {n : Nat} {x q : Int} (hq : ps[n]? = some q) (hx : x ≤ q) (hb : ∀ (k : Nat) y, ps[k]? = some y → k < n → y < x) : sumO (demS x) L = sumO (demS q) L := by
  refine sumO_eq fun o ho => ?_
  obtain ⟨k, hk⟩ := h.place ho
  have hcase : o.price < x ∨ q ≤ o.price := by
    rcases Nat.lt_trichotomy k n with e | e | e
    · exact .inl (hb k _ hk e)
    · subst e; rw [hq] at hk; cases hk; omega
    · have := rise_lt h.rise hq hk e; omega
  unfold demS
  by_cases hs : o.side = 0 <;> rcases hcase with e | e
  all_goals simp only [hs, true_and, false_and, if_false]
  all_goals (repeat' split)
  all_goals omega
theorem dem_none (h : Prs ps L) {x : Int} (hb : ∀ y ∈ ps, y < x) : sumO (demS x) L = 0 := by
  have : sumO (demS x) L = sumO (fun _ => 0) L := sumO_eq fun o ho => by
    have := hb o.price ((h.mem _).2 ⟨o, ho, rfl⟩)
    unfold demS
    rw [if_neg (by omega)]
  rw [this]
  clear this h
  induction L with
  | nil => rfl
  | cons x l ih => simp only [sumO, ih]; rfl
theorem sup_at (h : Prs ps L) {n : Nat} {x q : Int} (hq : ps[n]? = some q) (hx : q < x) (hb : ∀ (k : Nat) y, ps[k]? = some y → n < k → x < y) : sumO (supS x) L = sumO (supS q) L := by
  refine sumO_eq fun o ho => ?_
  obtain ⟨k, hk⟩ := h.place ho
  have hcase : x < o.price ∨ o.price ≤ q := by
    rcases Nat.lt_trichotomy k n with e | e | e
    · have := rise_lt h.rise hk hq e; omega
    · subst e; rw [hq] at hk; cases hk; omega
    · exact .inl (hb k _ hk e)
  unfold supS
  by_cases hs : o.side = 1 <;> rcases hcase with e | e
  all_goals simp only [hs, true_and, false_and, if_false]
  all_goals (repeat' split)
  all_goals omega
theorem sup_none (h : Prs ps L) {x : Int} (hb : ∀ y ∈ ps, x < y) : sumO (supS x) L = 0 := by
  have : sumO (supS x) L = sumO (fun _ => 0) L := sumO_eq fun o ho => by
    have := hb o.price ((h.mem _).2 ⟨o, ho, rfl⟩)
    unfold supS
    rw [if_neg (by omega)]
  rw [this]
  clear this h
  induction L with
  | nil => rfl
  | cons x l ih => simp only [sumO, ih]; rfl
end
/-! A list that is turned from one map to another one, place by place. -/
section
variable {α : Type} {f g : Int → α} {ps : List Int}
def mix (f g : Int → α) (ps : List Int) (n : Nat) : List α := (ps.take n).map f ++ (ps.drop n).map g
theorem mix_len (f g : Int → α) (ps : List Int) (n : Nat) : (mix f g ps n).length = ps.length := by
  unfold mix
  simp
  omega
theorem mix_lo {n i : Nat} {p : Int} (hi : i < n) (hp : ps[i]? = some p) : (mix f g ps n)[i]? = some (f p) := by
  have := (List.getElem?_eq_some_iff.1 hp).1
  unfold mix
  rw [List.getElem?_append_left (by simp; omega), List.getElem?_map, List.getElem?_take_of_lt hi, hp]
  rfl
theorem mix_hi {n i : Nat} {p : Int} (hi : n ≤ i) (hp : ps[i]? = some p) : (mix f g ps n)[i]? = some (g p) := by
  have hl := (List.getElem?_eq_some_iff.1 hp).1
  unfold mix
  rw [List.getElem?_append_right (by simp; omega), List.getElem?_map, List.getElem?_drop, List.length_map, List.length_take, Nat.min_eq_left (by omega), show n + (i - n) = i by omega, hp]
  rfl
theorem mix_ext {l : List α} {n : Nat} (hl : l.length = ps.length) (h1 : ∀ i p, i < n → ps[i]? = some p → l[i]? = some (f p)) (h2 : ∀ i p, n ≤ i → ps[i]? = some p → l[i]? = some (g p)) : l = mix f g ps n := by
  refine List.ext_getElem? fun i => ?_
  by_cases hi : i < ps.length
  · obtain ⟨p, hp⟩ : ∃ p, ps[i]? = some p := ⟨_, List.getElem?_eq_getElem hi⟩
    by_cases hn : i < n
    · rw [h1 i p hn hp, mix_lo hn hp]
    · rw [h2 i p (by omega) hp, mix_hi (by omega) hp]
  · rw [List.getElem?_eq_none (by omega), List.getElem?_eq_none (by rw [mix_len]; omega)]
theorem mix_up {n : Nat} {p : Int} (hp : ps[n]? = some p) : (mix f g ps n).set n (f p) = mix f g ps (n + 1) := by
  have hl := (List.getElem?_eq_some_iff.1 hp).1
  refine mix_ext (by rw [List.length_set, mix_len]) (fun i q hi hq => ?_) (fun i q hi hq => ?_)
  · by_cases e : i = n
    · subst e
      rw [hp] at hq; cases hq
      rw [List.getElem?_set_self (by rw [mix_len]; exact hl)]
    · rw [List.getElem?_set_ne (by omega)]
      exact mix_lo (by omega) hq
  · rw [List.getElem?_set_ne (by omega)]
    exact mix_hi (by omega) hq
theorem mix_down {n : Nat} {p : Int} (hp : ps[n]? = some p) : (mix f g ps (n + 1)).set n (g p) = mix f g ps n := by
  have hl := (List.getElem?_eq_some_iff.1 hp).1
  refine mix_ext (by rw [List.length_set, mix_len]) (fun i q hi hq => ?_) (fun i q hi hq => ?_)
  · rw [List.getElem?_set_ne (by omega)]
    exact mix_lo (by omega) hq
  · by_cases e : i = n
    · subst e
      rw [hp] at hq; cases hq
      rw [List.getElem?_set_self (by rw [mix_len]; exact hl)]
    · rw [List.getElem?_set_ne (by omega)]
      exact mix_hi (by omega) hq
theorem mix_zero : mix f g ps 0 = ps.map g := by simp [mix]
end
/-! The rows of the program's curve: as they are gathered; with the supply summed up; with both. -/
def row0 (L : List Ord) (p : Int) : Pnt := ⟨p, sumO (eqS 0 p) L, sumO (eqS 1 p) L⟩
def row1 (L : List Ord) (p : Int) : Pnt := ⟨p, sumO (eqS 0 p) L, sumO (supS p) L⟩
section
variable {L : List Ord} {ps : List Int}
theorem rows_start (h : Prs ps L) : ps.map (row0 L) = mix (row1 L) (row0 L) ps 1 := by
  refine mix_ext (by rw [List.length_map]) (fun i p hi hp => ?_) (fun i p hi hp => ?_)
  · obtain rfl : i = 0 := by omega
    rw [List.getElem?_map, hp]
    show some (row0 L p) = some (row1 L p)
    unfold row0 row1
    rw [sup_first h hp]
  · rw [List.getElem?_map, hp]
    rfl
theorem rows_half (h : Prs ps L) {n : Nat} (hn : n + 1 = ps.length) : ps.map (row1 L) = mix (row1 L) (catL L) ps n := by
  refine mix_ext (by rw [List.length_map]) (fun i p hi hp => ?_) (fun i p hi hp => ?_)
  · rw [List.getElem?_map, hp]
    rfl
  · have hl := (List.getElem?_eq_some_iff.1 hp).1
    obtain rfl : i = n := by omega
    rw [List.getElem?_map, hp]
    show some (row1 L p) = some (catL L p)
    unfold row1 catL
    rw [dem_last h hp hn]
end
end Go.Proofs.YtohenmnpmgghhaaGreatDoor
