/-
  Demand and supply of a book at a price; the prices of a book, rising. (No Go text.)
  damper/damperref16.Point: a struct of 3 ints as Go's values: laid, read whole, compared, as an argument, in slices. (Written by gen/struct.py.)
-/
import Derived.Test.YtdmjcjheanedgaaDoorGP
import Derived.Test.YtdmjcjheanedgaaDoorGOa
import Derived.Test.YtdmjcjheanedgaaDoorGB
import Derived.Laws.StructEq
import Derived.Lib.Hide
import Derived.ProofKit
import Derived.OpenShut
import Derived.Deep.Slices
namespace Go.Proofs.YtdmjcjheanedgaaDoor
structure Pnt where
  price : Int
  demand : Int
  supply : Int
def Pnt.zero : Pnt := ⟨0, 0, 0⟩
structure Pnt.Fit (m : Pnt) : Prop where
  price : In64 m.price
  demand : In64 m.demand
  supply : In64 m.supply
/-- What an order adds to a price's demand, and supply. -/
def demS (p : Int) (o : Ord) : Int := if o.side = 0 ∧ p ≤ o.price then o.qty else 0
def supS (p : Int) (o : Ord) : Int := if o.side = 1 ∧ o.price ≤ p then o.qty else 0
def sumO (f : Ord → Int) : List Ord → Int
  | [] => 0
  | x :: l => f x + sumO f l
def catL (L : List Ord) (p : Int) : Pnt := ⟨p, sumO (demS p) L, sumO (supS p) L⟩
def volP (m : Pnt) : Int := if m.supply < m.demand then m.supply else m.demand
def oddP (m : Pnt) : Int := if m.supply < m.demand then m.demand - m.supply else m.supply - m.demand
section
variable {f g : Ord → Int} {L l : List Ord}
theorem sumO_append (f : Ord → Int) (l k : List Ord) : sumO f (l ++ k) = sumO f l + sumO f k := by
  induction l with
  | nil => simp [sumO]
  | cons x l ih => simp only [List.cons_append, sumO, ih]; omega
theorem sumO_at {q : Nat} {x : Ord} (h : l[q]? = some x) : sumO f (l.take (q + 1)) = sumO f (l.take q) + f x := by
  rw [List.take_add_one, h, sumO_append]
  simp [sumO]
theorem sumO_perm (f : Ord → Int) {l k : List Ord} (h : l.Perm k) : sumO f l = sumO f k := by
  induction h with
  | nil => rfl
  | cons x _ ih => simp only [sumO, ih]
  | swap x y l => simp only [sumO]; omega
  | trans _ _ h1 h2 => exact h1.trans h2
theorem sumO_bound {M : Int} (h : ∀ x ∈ l, 0 ≤ f x ∧ f x ≤ M) : 0 ≤ sumO f l ∧ sumO f l ≤ M * l.length := by
  induction l with
  | nil => simp [sumO]
  | cons x l ih =>
    have h1 := h x List.mem_cons_self
    have h2 := ih fun y hy => h y (List.mem_cons_of_mem _ hy)
    simp only [sumO, List.length_cons]
    have : M * ((l.length + 1 : Nat) : Int) = M * (l.length : Int) + M := by rw [Int.natCast_add, Int.mul_add]; simp
    omega
theorem sumO_eq (h : ∀ x ∈ l, f x = g x) : sumO f l = sumO g l := by
  induction l with
  | nil => rfl
  | cons x l ih => simp only [sumO]; rw [h x List.mem_cons_self, ih fun y hy => h y (List.mem_cons_of_mem _ hy)]
theorem sumO_filter (f : Ord → Int) (P : Ord → Bool) (h : ∀ x ∈ l, P x = false → f x = 0) : sumO f (l.filter P) = sumO f l := by
  induction l with
  | nil => rfl
  | cons x l ih =>
    have h2 := ih fun y hy => h y (List.mem_cons_of_mem _ hy)
    cases hp : P x with
    | true => rw [List.filter_cons_of_pos hp]; simp only [sumO, h2]
    | false =>
      have := h x List.mem_cons_self hp
      rw [List.filter_cons_of_neg (by simp [hp])]
      simp only [sumO, h2, this]; omega
theorem demS_bound {b : Bk} (hb : b.Ok) (p : Int) : ∀ x ∈ b.L, 0 ≤ demS p x ∧ demS p x ≤ 4294967296 := fun x hx => by
  have := hb.ok x hx
  have h1 := this.q1
  have h2 := this.q2
  unfold demS
  split <;> omega
theorem supS_bound {b : Bk} (hb : b.Ok) (p : Int) : ∀ x ∈ b.L, 0 ≤ supS p x ∧ supS p x ≤ 4294967296 := fun x hx => by
  have := hb.ok x hx
  have h1 := this.q1
  have h2 := this.q2
  unfold supS
  split <;> omega
theorem sum_take {b : Bk} (hb : b.Ok) (h : ∀ x ∈ b.L, 0 ≤ f x ∧ f x ≤ 4294967296) (n : Nat) : 0 ≤ sumO f (b.L.take n) ∧ sumO f (b.L.take n) ≤ 2147483648000 := by
  have h1 := sumO_bound (f := f) (l := b.L.take n) (M := 4294967296) fun x hx => h x (List.mem_of_mem_take hx)
  have h2 : (b.L.take n).length ≤ 500 := by
    have := hb.len
    have := hb.s2
    rw [List.length_take]
    omega
  refine ⟨h1.1, Int.le_trans h1.2 ?_⟩
  have : (4294967296 : Int) * ((b.L.take n).length : Int) ≤ 4294967296 * 500 := Int.mul_le_mul_of_nonneg_left (by omega) (by omega)
  omega
end
/-! The prices of a book from one to another one, rising, each once. -/
def cAt (q : List Int) (p : Int) : Nat := (q.takeWhile fun y => decide (y < p)).length
def cins (lo hi : Int) (q : List Int) (p : Int) : List Int := if (lo ≤ p ∧ p ≤ hi) ∧ q[cAt q p]? ≠ some p then q.take (cAt q p) ++ p :: q.drop (cAt q p) else q
def cprTo (lo hi : Int) (L : List Ord) : Nat → List Int
  | 0 => []
  | i + 1 => match L[i]? with
    | some o => cins lo hi (cprTo lo hi L i) o.price
    | none => cprTo lo hi L i
def cpr (lo hi : Int) (L : List Ord) : List Int := cprTo lo hi L L.length
abbrev Rise (q : List Int) : Prop := q.Pairwise (· < ·)
section
variable {q : List Int} {p lo hi : Int}
/-- All prices of a book. -/
def cprA (L : List Ord) : List Int := cpr 0 4611686018427387904 L
end
end Go.Proofs.YtdmjcjheanedgaaDoor
namespace Go.Proofs.YtdmjcjheanedgaaDoor
open Go.RowKit
abbrev cPnt (m : Pnt) : Array Value := #[.int .i64 m.price, .int .i64 m.demand, .int .i64 m.supply]
abbrev vPnt (m : Pnt) : Value := .agg (cPnt m)
/-- Whether two are the same. -/
def eqPnt (a b : Pnt) : Bool := a.price == b.price && a.demand == b.demand && a.supply == b.supply
theorem Pnt.cells {w : World} {b : Nat} {T : TypeId} {m : Pnt} (h : Blk w b T (cPnt m)) : w.cell? ⟨b, 0, none⟩ = some (.int .i64 m.price) ∧ w.cell? ⟨b, 1, none⟩ = some (.int .i64 m.demand) ∧ w.cell? ⟨b, 2, none⟩ = some (.int .i64 m.supply) :=
  ⟨h.cell_eq 0 _ rfl, h.cell_eq 1 _ rfl, h.cell_eq 2 _ rfl⟩
theorem Pnt.below {B : Nat} {W w : World} {b : Nat} (h : Below B W w) (hb : B ≤ b) (v0 v1 v2 : Value) : Below B W (((w.setCell ⟨b, 0, none⟩ v0).setCell ⟨b, 1, none⟩ v1).setCell ⟨b, 2, none⟩ v2) := by
  have h0 := h.setCell (p := ⟨b, 0, none⟩) hb v0
  have h1 := h0.setCell (p := ⟨b, 1, none⟩) hb v1
  have h2 := h1.setCell (p := ⟨b, 2, none⟩) hb v2
  exact h2
theorem Pnt.frm {S : Nat → Prop} {W w : World} {b : Nat} (h : Frm S W w) (hb : S b ∨ W.heap.size ≤ b) (v0 v1 v2 : Value) : Frm S W (((w.setCell ⟨b, 0, none⟩ v0).setCell ⟨b, 1, none⟩ v1).setCell ⟨b, 2, none⟩ v2) := by
  have h0 := h.setCell ⟨b, 0, none⟩ v0 hb
  have h1 := h0.setCell ⟨b, 1, none⟩ v1 hb
  have h2 := h1.setCell ⟨b, 2, none⟩ v2 hb
  exact h2
theorem Pnt.lay {w : World} {b : Nat} {T : TypeId} {m : Pnt} (h : Blk w b T (cPnt m)) (v0 v1 v2 : Int) : Blk (((w.setCell ⟨b, 0, none⟩ (.int .i64 v0)).setCell ⟨b, 1, none⟩ (.int .i64 v1)).setCell ⟨b, 2, none⟩ (.int .i64 v2)) b T (cPnt ⟨v0, v1, v2⟩) := by
  have h0 : Blk _ b T (cPnt ⟨v0, m.demand, m.supply⟩) := h.set 0 (.int .i64 v0)
  have h1 : Blk _ b T (cPnt ⟨v0, v1, m.supply⟩) := h0.set 1 (.int .i64 v1)
  have h2 : Blk _ b T (cPnt ⟨v0, v1, v2⟩) := h1.set 2 (.int .i64 v2)
  exact h2
section
open Go.ChangeShapes Go.WideShapes Go.ChangeAt Go.Deep
variable {H : Type} {enc' : TypeId × Value → H} {w : World} {base : Nat} {spare : Nat → Bool} {held : Bool}
end
/-- A slice of them, to be read. -/
structure Pnts (w : World) (ao : Option Addr) (cap : Nat) (l : List Pnt) : Prop where
  len : l.length ≤ cap
  top : cap ≤ maxLen
  at' : l = [] ∨ ∃ b off, ao = some ⟨b, off, none⟩ ∧ ∀ (i : Nat) (m : Pnt), l[i]? = some m → ∀ (j : Nat) (v : Value), (cPnt m)[j]? = some v → w.cell? ⟨b, off + i * 3 + j, none⟩ = some v
theorem Pnts.nil (w : World) : Pnts w none 0 [] := ⟨Nat.le_refl _, Nat.zero_le _, .inl rfl⟩
theorem Pnts.below {w w' : World} {ao : Option Addr} {cap : Nat} {l : List Pnt} (h : Pnts w ao cap l) (hb : Below w.heap.size w w') : Pnts w' ao cap l := by
  refine ⟨h.len, h.top, ?_⟩
  rcases h.at' with h0 | ⟨b, off, ha, hl⟩
  · exact .inl h0
  · refine .inr ⟨b, off, ha, fun i m hi j v hj => ?_⟩
    have hc := hl i m hi j v hj
    have hlt : b < w.heap.size := World.block_lt_of_cell? w ⟨b, off + i * 3 + j, none⟩ hc
    exact (World.cell?_of_block (a := ⟨b, off + i * 3 + j, none⟩) (hb.block b hlt)).trans hc
/-- One of them. -/
theorem Pnts.get {w : World} {ao : Option Addr} {cap : Nat} {l : List Pnt} (h : Pnts w ao cap l) {i : Nat} {m : Pnt} (hi : l[i]? = some m) :
    ∃ b off, ao = some ⟨b, off, none⟩ ∧ w.cell? ⟨b, off + i * 3 + 0, none⟩ = some (.int .i64 m.price) ∧ w.cell? ⟨b, off + i * 3 + 1, none⟩ = some (.int .i64 m.demand) ∧ w.cell? ⟨b, off + i * 3 + 2, none⟩ = some (.int .i64 m.supply) := by
  rcases h.at' with h0 | ⟨b, off, ha, hl⟩
  · subst h0; simp at hi
  · exact ⟨b, off, ha, hl i m hi 0 _ rfl, hl i m hi 1 _ rfl, hl i m hi 2 _ rfl⟩
/-- What is owned is read. -/
theorem Pnts.of_own {E : TypeId} {w : World} {ko : Option Nat} {ao : Option Addr} {cap : Nat} {l : List Pnt} (h : OwG E 3 w ko ao cap l.length (l.flatMap fun m => (cPnt m).toList)) : Pnts w ao cap l := by
  refine ⟨h.len, h.top, ?_⟩
  by_cases h0 : l = []
  · exact .inl h0
  · have hcell := fun j v hj => h.cell j v hj
    have at1 : ∀ (l : List Pnt) (i : Nat) (m : Pnt), l[i]? = some m → ∀ (j : Nat) (v : Value), (cPnt m)[j]? = some v → (l.flatMap fun m => (cPnt m).toList)[i * 3 + j]? = some v := by
      intro l
      induction l with
      | nil => intro i m hi; simp at hi
      | cons x t ih =>
        intro i m hi j v hj
        have hx : ((cPnt x).toList).length = 3 := rfl
        rw [List.flatMap_cons]
        cases i with
        | zero =>
          obtain rfl : x = m := by simpa using hi
          have hlt : j < 3 := by
            have := (Array.getElem?_eq_some_iff.1 hj).1
            simpa using this
          rw [List.getElem?_append_left (by rw [hx]; omega), Nat.zero_mul, Nat.zero_add]
          simpa using hj
        | succ i =>
          rw [List.getElem?_append_right (by rw [hx]; omega), hx, show (i + 1) * 3 + j - 3 = i * 3 + j by omega]
          exact ih i m (by simpa using hi) j v hj
    cases l with
    | nil => exact absurd rfl h0
    | cons x t =>
      obtain ⟨k, _, hao, _, _⟩ := hcell 0 (.int .i64 x.price) rfl
      refine .inr ⟨k, 0, hao, fun i m hi j v hj => ?_⟩
      obtain ⟨k2, _, hao2, hc, _⟩ := hcell _ _ (at1 _ i m hi j v hj)
      rw [hao] at hao2
      cases hao2
      rw [Nat.zero_add]
      exact hc
section
open Go.ChangeShapes Go.WideShapes Go.ChangeAt Go.Deep
variable {H : Type} {enc' : TypeId × Value → H} {w : World} {base : Nat} {spare : Nat → Bool} {held : Bool}
end
end Go.Proofs.YtdmjcjheanedgaaDoor
