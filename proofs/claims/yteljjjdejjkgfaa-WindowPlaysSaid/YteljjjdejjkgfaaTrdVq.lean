/-
  damper/damperref19.Trade: a struct of 3 ints as Go's values: laid, read whole, compared, as an argument, in slices. (Written by gen/struct.py.)
-/
import Derived.Test.YteljjjdejjkgfaaWnaq
import Derived.Test.YteljjjdejjkgfaaGB
import Derived.Test.YteljjjdejjkgfaaAppq
import Derived.Laws.StructEq
import Derived.Lib.Hide
import Derived.ProofKit
import Derived.OpenShut
import Derived.Deep.Slices
namespace Go.Proofs.Yteljjjdejjkgfaa
open Go.RowKit
abbrev cTrd (m : Trd) : Array Value := #[.int .i64 m.tick, .int .i64 m.price, .int .i64 m.qty]
abbrev vTrd (m : Trd) : Value := .agg (cTrd m)
/-- Whether two are the same. -/
def eqTrd (a b : Trd) : Bool := a.tick == b.tick && a.price == b.price && a.qty == b.qty
theorem eqTrd_true {a b : Trd} : eqTrd a b = true ↔ a = b := by
  cases a; cases b; simp [eqTrd, and_assoc]
theorem eqTrd_self (a : Trd) : eqTrd a a = true := eqTrd_true.2 rfl
theorem eqTrd_step (p : Prop) [Decidable p] (q : Bool) (w : World) {X : Result Bool} (h : X = Result.ok q w) : (if p then X else Result.ok false w) = Result.ok (decide p && q) w := by
  subst h
  by_cases hp : p <;> simp [hp]
theorem eqTrd_last (p : Prop) [Decidable p] (w : World) : (if p then Result.ok true w else Result.ok false w) = Result.ok (decide p) w := by
  by_cases hp : p <;> simp [hp]
theorem eqIn_Trd (a b : Trd) (w : World) : (Op.equalIn 10000 68 (vTrd a) (vTrd b)).run Try.prog w = .ok (eqTrd a b) w := by
  have hu := Try.underlying68
  have hf : Try.prog.underlying 68 = some (.struct (Try.prog.fieldsOf 68)) := by rw [Program.fieldsOf, hu]
  have uint64 := Try.underlying2
  rw [show (10000 : Nat) = 9999 + 1 from rfl, run_equalIn_agg w 9999 _ _ _ hf (by kernel_rfl), Program.fieldsOf, hu]
  simp only [Op.eqFields]
  unfold eqTrd
  simp [go_sem, part]
  clear hu hf uint64
  simp only [Bool.and_assoc]
  exact eqTrd_step _ _ w (eqTrd_step _ _ w (eqTrd_last _ w))
theorem eql_Trd (a b : Trd) (w : World) : (binOp .eql 68 (vTrd a) (vTrd b)).run Try.prog w = .ok (.bool (eqTrd a b)) w := by
  rw [run_eql_struct, eqIn_Trd]; rfl
theorem neq_Trd (a b : Trd) (w : World) : (binOp .neq 68 (vTrd a) (vTrd b)).run Try.prog w = .ok (.bool (!eqTrd a b)) w := by
  rw [run_neq_struct, eqIn_Trd]; rfl
theorem Trd.no8 (m : Trd) : ∀ (i : Nat) (x : Int), (cTrd m)[i]? ≠ some (.int .u8 x) := by
  intro i x h
  match i, h with
  | 0, h => simp at h
  | 1, h => simp at h
  | 2, h => simp at h
  | i + 3, h => simp at h
theorem Trd.cells {w : World} {b : Nat} {T : TypeId} {m : Trd} (h : Blk w b T (cTrd m)) : w.cell? ⟨b, 0, none⟩ = some (.int .i64 m.tick) ∧ w.cell? ⟨b, 1, none⟩ = some (.int .i64 m.price) ∧ w.cell? ⟨b, 2, none⟩ = some (.int .i64 m.qty) :=
  ⟨h.cell_eq 0 _ rfl, h.cell_eq 1 _ rfl, h.cell_eq 2 _ rfl⟩
theorem Trd.below {B : Nat} {W w : World} {b : Nat} (h : Below B W w) (hb : B ≤ b) (v0 v1 v2 : Value) : Below B W (((w.setCell ⟨b, 0, none⟩ v0).setCell ⟨b, 1, none⟩ v1).setCell ⟨b, 2, none⟩ v2) := by
  have h0 := h.setCell (p := ⟨b, 0, none⟩) hb v0
  have h1 := h0.setCell (p := ⟨b, 1, none⟩) hb v1
  have h2 := h1.setCell (p := ⟨b, 2, none⟩) hb v2
  exact h2
theorem Trd.frm {S : Nat → Prop} {W w : World} {b : Nat} (h : Frm S W w) (hb : S b ∨ W.heap.size ≤ b) (v0 v1 v2 : Value) : Frm S W (((w.setCell ⟨b, 0, none⟩ v0).setCell ⟨b, 1, none⟩ v1).setCell ⟨b, 2, none⟩ v2) := by
  have h0 := h.setCell ⟨b, 0, none⟩ v0 hb
  have h1 := h0.setCell ⟨b, 1, none⟩ v1 hb
  have h2 := h1.setCell ⟨b, 2, none⟩ v2 hb
  exact h2
theorem Trd.lay {w : World} {b : Nat} {T : TypeId} {m : Trd} (h : Blk w b T (cTrd m)) (v0 v1 v2 : Int) : Blk (((w.setCell ⟨b, 0, none⟩ (.int .i64 v0)).setCell ⟨b, 1, none⟩ (.int .i64 v1)).setCell ⟨b, 2, none⟩ (.int .i64 v2)) b T (cTrd ⟨v0, v1, v2⟩) := by
  have h0 : Blk _ b T (cTrd ⟨v0, m.price, m.qty⟩) := h.set 0 (.int .i64 v0)
  have h1 : Blk _ b T (cTrd ⟨v0, v1, m.qty⟩) := h0.set 1 (.int .i64 v1)
  have h2 : Blk _ b T (cTrd ⟨v0, v1, v2⟩) := h1.set 2 (.int .i64 v2)
  exact h2
theorem cells_Trd : Try.prog.cellsOf 68 = 3 := by kernel_rfl
theorem cells_Trd_int64 : Try.prog.cellsOf 2 = 1 := by kernel_rfl
section
open Go.ChangeShapes Go.WideShapes Go.ChangeAt Go.Deep
variable {H : Type} {enc' : TypeId × Value → H} {w : World} {base : Nat} {spare : Nat → Bool} {held : Bool}
set_option maxRecDepth 8000 in
/-- One that came in. -/
theorem open_Trd {fuel : Nat} {cs : List Value} {x : DataW H × List MemPlace} (h : DataW.trod enc' Try.prog w base spare held fuel 68 cs = some x) : ∃ m : Trd, m.Fit ∧ cs = (cTrd m).toList := by
  obtain ⟨xs, n, _, _, hl, hlen, hf⟩ := DataW.trod_struct Try.underlying68 h
  rw [cells_Trd] at hl
  match cs, hl, xs, hlen with
  | [v0, v1, v2], _, [y0, y1, y2], _ =>
    have f0 : DataW.trod enc' Try.prog w base spare held n 2 [v0] = some y0 := by
      have h0 : DataW.trod enc' Try.prog w base spare held n 2 (([v0, v1, v2].drop 0).take (Try.prog.cellsOf 2)) = some y0 := hf 0 _ rfl
      rw [cells_Trd_int64] at h0
      exact h0
    have f1 : DataW.trod enc' Try.prog w base spare held n 2 [v1] = some y1 := by
      have h0 : DataW.trod enc' Try.prog w base spare held n 2 (([v0, v1, v2].drop 1).take (Try.prog.cellsOf 2)) = some y1 := hf 1 _ rfl
      rw [cells_Trd_int64] at h0
      exact h0
    have f2 : DataW.trod enc' Try.prog w base spare held n 2 [v2] = some y2 := by
      have h0 : DataW.trod enc' Try.prog w base spare held n 2 (([v0, v1, v2].drop 2).take (Try.prog.cellsOf 2)) = some y2 := hf 2 _ rfl
      rw [cells_Trd_int64] at h0
      exact h0
    obtain ⟨a0, e0, _, w0⟩ := DataW.trod_int Try.underlying2 f0
    obtain ⟨a1, e1, _, w1⟩ := DataW.trod_int Try.underlying2 f1
    obtain ⟨a2, e2, _, w2⟩ := DataW.trod_int Try.underlying2 f2
    simp only [List.cons.injEq, and_true] at e0 e1 e2
    subst e0 e1 e2
    exact ⟨⟨a0, a1, a2⟩, ⟨in64_of_wf w0, in64_of_wf w1, in64_of_wf w2⟩, rfl⟩
end
/-- A slice of them, to be read. -/
structure Trds (w : World) (ao : Option Addr) (cap : Nat) (l : List Trd) : Prop where
  len : l.length ≤ cap
  top : cap ≤ maxLen
  at' : l = [] ∨ ∃ b off, ao = some ⟨b, off, none⟩ ∧ ∀ (i : Nat) (m : Trd), l[i]? = some m → ∀ (j : Nat) (v : Value), (cTrd m)[j]? = some v → w.cell? ⟨b, off + i * 3 + j, none⟩ = some v
theorem Trds.nil (w : World) : Trds w none 0 [] := ⟨Nat.le_refl _, Nat.zero_le _, .inl rfl⟩
theorem Trds.below {w w' : World} {ao : Option Addr} {cap : Nat} {l : List Trd} (h : Trds w ao cap l) (hb : Below w.heap.size w w') : Trds w' ao cap l := by
  refine ⟨h.len, h.top, ?_⟩
  rcases h.at' with h0 | ⟨b, off, ha, hl⟩
  · exact .inl h0
  · refine .inr ⟨b, off, ha, fun i m hi j v hj => ?_⟩
    have hc := hl i m hi j v hj
    have hlt : b < w.heap.size := World.block_lt_of_cell? w ⟨b, off + i * 3 + j, none⟩ hc
    exact (World.cell?_of_block (a := ⟨b, off + i * 3 + j, none⟩) (hb.block b hlt)).trans hc
/-- One of them. -/
theorem Trds.get {w : World} {ao : Option Addr} {cap : Nat} {l : List Trd} (h : Trds w ao cap l) {i : Nat} {m : Trd} (hi : l[i]? = some m) :
    ∃ b off, ao = some ⟨b, off, none⟩ ∧ w.cell? ⟨b, off + i * 3 + 0, none⟩ = some (.int .i64 m.tick) ∧ w.cell? ⟨b, off + i * 3 + 1, none⟩ = some (.int .i64 m.price) ∧ w.cell? ⟨b, off + i * 3 + 2, none⟩ = some (.int .i64 m.qty) := by
  rcases h.at' with h0 | ⟨b, off, ha, hl⟩
  · subst h0; simp at hi
  · exact ⟨b, off, ha, hl i m hi 0 _ rfl, hl i m hi 1 _ rfl, hl i m hi 2 _ rfl⟩
/-- What is owned is read. -/
theorem Trds.of_own {E : TypeId} {w : World} {ko : Option Nat} {ao : Option Addr} {cap : Nat} {l : List Trd} (h : OwG E 3 w ko ao cap l.length (l.flatMap fun m => (cTrd m).toList)) : Trds w ao cap l := by
  refine ⟨h.len, h.top, ?_⟩
  by_cases h0 : l = []
  · exact .inl h0
  · have hcell := fun j v hj => h.cell j v hj
    have at1 : ∀ (l : List Trd) (i : Nat) (m : Trd), l[i]? = some m → ∀ (j : Nat) (v : Value), (cTrd m)[j]? = some v → (l.flatMap fun m => (cTrd m).toList)[i * 3 + j]? = some v := by
      intro l
      induction l with
      | nil => intro i m hi; simp at hi
      | cons x t ih =>
        intro i m hi j v hj
        have hx : ((cTrd x).toList).length = 3 := rfl
        rw [List.flatMap_cons]
        cases i with
        | zero =>
          obtain rfl : x = m := by simpa using hi
          have hlt : j < 3 := by
            have := (Array.getElem?_eq_some_iff.1 hj).1
            simpa using this
          rw [List.getElem?_append_left (by rw [hx]; omega), Nat.zero_mul, Nat.zero_add]
          simpa using hj
        | succ i =>
          rw [List.getElem?_append_right (by rw [hx]; omega), hx, show (i + 1) * 3 + j - 3 = i * 3 + j by omega]
          exact ih i m (by simpa using hi) j v hj
    cases l with
    | nil => exact absurd rfl h0
    | cons x t =>
      obtain ⟨k, _, hao, _, _⟩ := hcell 0 (.int .i64 x.tick) rfl
      refine .inr ⟨k, 0, hao, fun i m hi j v hj => ?_⟩
      obtain ⟨k2, _, hao2, hc, _⟩ := hcell _ _ (at1 _ i m hi j v hj)
      rw [hao] at hao2
      cases hao2
      rw [Nat.zero_add]
      exact hc
section
open Go.ChangeShapes Go.WideShapes Go.ChangeAt Go.Deep
variable {H : Type} {enc' : TypeId × Value → H} {w : World} {base : Nat} {spare : Nat → Bool} {held : Bool}
/-- A slice of them that came in. -/
theorem open_Trds {T : TypeId} (hT : Try.prog.underlying T = some (.slice 68)) {fuel : Nat} {cs : List Value} {x : DataW H × List MemPlace} (h : DataW.trod enc' Try.prog w base spare held fuel T cs = some x) :
    ∃ (ao : Option Addr) (cap : Nat) (l : List Trd), cs = [.slice ao l.length cap] ∧ Trds w ao cap l ∧ ∀ m ∈ l, m.Fit := by
  rcases open_slice hT h with ⟨rfl, _⟩ | ⟨a, len, cap, m, n, D, Pl', rfl, _, hl, hm, hmm, _, hx⟩
  · exact ⟨none, 0, [], rfl, Trds.nil w, by simp⟩
  · have hlm : len ≤ m := by rw [hmm]; split <;> omega
    have each : ∀ i, i < len → ∃ p : Trd, p.Fit ∧ w.cells? base (a.add (i * 3)) 3 = some (cTrd p).toList := by
      intro i hi
      obtain ⟨cs', h1, h2⟩ := hx i (by omega)
      rw [cells_Trd] at h1
      obtain ⟨p, hp, rfl⟩ := open_Trd h2
      exact ⟨p, hp, h1⟩
    by_cases h0 : len = 0
    · subst h0
      exact ⟨some a, cap, [], rfl, ⟨Nat.zero_le _, hm, .inl rfl⟩, by simp⟩
    · have : Inhabited Trd := ⟨Trd.zero⟩
      obtain ⟨f, hfam⟩ := choose_lt each
      obtain ⟨b, off, rfl⟩ : ∃ b off, a = ⟨b, off, none⟩ := by
        obtain ⟨_, hc⟩ := hfam 0 (by omega)
        obtain ⟨_, _, hcell⟩ := World.cells?_some hc
        have h1 := hcell 0 (by omega)
        obtain ⟨b, off, spot⟩ := a
        have hspot : spot = none := by simpa [Addr.add] using World.cell?_spot h1
        subst hspot
        exact ⟨b, off, rfl⟩
      have hget : ∀ i m, ((List.range len).map f)[i]? = some m → i < len ∧ f i = m := by
        intro i m hp
        rw [List.getElem?_map, Option.map_eq_some_iff] at hp
        obtain ⟨i', hi', rfl⟩ := hp
        obtain ⟨h1, h2⟩ := List.getElem?_eq_some_iff.1 hi'
        rw [List.length_range] at h1
        rw [List.getElem_range] at h2
        subst h2
        exact ⟨h1, rfl⟩
      refine ⟨some ⟨b, off, none⟩, cap, (List.range len).map f, by simp, ⟨by simpa using hl, hm, .inr ⟨b, off, rfl, fun i p hp j v hj => ?_⟩⟩, ?_⟩
      · obtain ⟨h1, rfl⟩ := hget i p hp
        obtain ⟨_, hc⟩ := hfam i h1
        obtain ⟨_, _, hcell⟩ := World.cells?_some hc
        rw [Addr.add_mid] at hcell
        have hj2 : j < 3 := by
          have := (Array.getElem?_eq_some_iff.1 hj).1
          simpa using this
        have h2 := hcell j hj2
        rw [Addr.add_mid] at h2
        rw [h2]
        simpa using hj
      · intro m hm
        obtain ⟨i, hi⟩ := List.mem_iff_getElem?.1 hm
        obtain ⟨h1, rfl⟩ := hget i m hi
        exact (hfam i h1).1
end
end Go.Proofs.Yteljjjdejjkgfaa
