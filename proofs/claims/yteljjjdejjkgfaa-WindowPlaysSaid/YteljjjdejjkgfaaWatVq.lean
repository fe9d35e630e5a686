/-
  damper/damperlaw19.Act: a struct of 5 ints as Go's values: laid, read whole, compared, as an argument, in slices. (Written by gen/struct.py.)
-/
import Derived.Test.YteljjjdejjkgfaaWnaq
import Derived.Test.YteljjjdejjkgfaaGB
import Derived.Test.YteljjjdejjkgfaaAppq
import Derived.Laws.StructEq
import Derived.Lib.Hide
import Derived.ProofKit
import Derived.OpenShut
import Derived.Deep.Slices
namespace Go.Proofs.Yteljjjdejjkgfaa
open Go.RowKit
abbrev cWat (m : Wat) : Array Value := #[.int .i64 m.kind, .int .i64 m.tick, .int .i64 m.price, .int .i64 m.qty, .int .i64 m.bps]
abbrev vWat (m : Wat) : Value := .agg (cWat m)
/-- Whether two are the same. -/
def eqWat (a b : Wat) : Bool := a.kind == b.kind && a.tick == b.tick && a.price == b.price && a.qty == b.qty && a.bps == b.bps
theorem eqWat_true {a b : Wat} : eqWat a b = true ↔ a = b := by
  cases a; cases b; simp [eqWat, and_assoc]
theorem eqWat_self (a : Wat) : eqWat a a = true := eqWat_true.2 rfl
theorem eqWat_step (p : Prop) [Decidable p] (q : Bool) (w : World) {X : Result Bool} (h : X = Result.ok q w) : (if p then X else Result.ok false w) = Result.ok (decide p && q) w := by
  subst h
  by_cases hp : p <;> simp [hp]
theorem eqWat_last (p : Prop) [Decidable p] (w : World) : (if p then Result.ok true w else Result.ok false w) = Result.ok (decide p) w := by
  by_cases hp : p <;> simp [hp]
theorem eqIn_Wat (a b : Wat) (w : World) : (Op.equalIn 10000 33 (vWat a) (vWat b)).run Try.prog w = .ok (eqWat a b) w := by
  have hu := Try.underlying33
  have hf : Try.prog.underlying 33 = some (.struct (Try.prog.fieldsOf 33)) := by rw [Program.fieldsOf, hu]
  have uint := Try.underlying3
  have uint64 := Try.underlying2
  rw [show (10000 : Nat) = 9999 + 1 from rfl, run_equalIn_agg w 9999 _ _ _ hf (by kernel_rfl), Program.fieldsOf, hu]
  simp only [Op.eqFields]
  unfold eqWat
  simp [go_sem, part]
  clear hu hf uint uint64
  simp only [Bool.and_assoc]
  exact eqWat_step _ _ w (eqWat_step _ _ w (eqWat_step _ _ w (eqWat_step _ _ w (eqWat_last _ w))))
theorem eql_Wat (a b : Wat) (w : World) : (binOp .eql 33 (vWat a) (vWat b)).run Try.prog w = .ok (.bool (eqWat a b)) w := by
  rw [run_eql_struct, eqIn_Wat]; rfl
theorem neq_Wat (a b : Wat) (w : World) : (binOp .neq 33 (vWat a) (vWat b)).run Try.prog w = .ok (.bool (!eqWat a b)) w := by
  rw [run_neq_struct, eqIn_Wat]; rfl
theorem Wat.no8 (m : Wat) : ∀ (i : Nat) (x : Int), (cWat m)[i]? ≠ some (.int .u8 x) := by
  intro i x h
  match i, h with
  | 0, h => simp at h
  | 1, h => simp at h
  | 2, h => simp at h
  | 3, h => simp at h
  | 4, h => simp at h
  | i + 5, h => simp at h
theorem Wat.cells {w : World} {b : Nat} {T : TypeId} {m : Wat} (h : Blk w b T (cWat m)) : w.cell? ⟨b, 0, none⟩ = some (.int .i64 m.kind) ∧ w.cell? ⟨b, 1, none⟩ = some (.int .i64 m.tick) ∧ w.cell? ⟨b, 2, none⟩ = some (.int .i64 m.price) ∧ w.cell? ⟨b, 3, none⟩ = some (.int .i64 m.qty) ∧ w.cell? ⟨b, 4, none⟩ = some (.int .i64 m.bps) :=
  ⟨h.cell_eq 0 _ rfl, h.cell_eq 1 _ rfl, h.cell_eq 2 _ rfl, h.cell_eq 3 _ rfl, h.cell_eq 4 _ rfl⟩
theorem Wat.below {B : Nat} {W w : World} {b : Nat} (h : Below B W w) (hb : B ≤ b) (v0 v1 v2 v3 v4 : Value) : Below B W (((((w.setCell ⟨b, 0, none⟩ v0).setCell ⟨b, 1, none⟩ v1).setCell ⟨b, 2, none⟩ v2).setCell ⟨b, 3, none⟩ v3).setCell ⟨b, 4, none⟩ v4) := by
  have h0 := h.setCell (p := ⟨b, 0, none⟩) hb v0
  have h1 := h0.setCell (p := ⟨b, 1, none⟩) hb v1
  have h2 := h1.setCell (p := ⟨b, 2, none⟩) hb v2
  have h3 := h2.setCell (p := ⟨b, 3, none⟩) hb v3
  have h4 := h3.setCell (p := ⟨b, 4, none⟩) hb v4
  exact h4
theorem Wat.frm {S : Nat → Prop} {W w : World} {b : Nat} (h : Frm S W w) (hb : S b ∨ W.heap.size ≤ b) (v0 v1 v2 v3 v4 : Value) : Frm S W (((((w.setCell ⟨b, 0, none⟩ v0).setCell ⟨b, 1, none⟩ v1).setCell ⟨b, 2, none⟩ v2).setCell ⟨b, 3, none⟩ v3).setCell ⟨b, 4, none⟩ v4) := by
  have h0 := h.setCell ⟨b, 0, none⟩ v0 hb
  have h1 := h0.setCell ⟨b, 1, none⟩ v1 hb
  have h2 := h1.setCell ⟨b, 2, none⟩ v2 hb
  have h3 := h2.setCell ⟨b, 3, none⟩ v3 hb
  have h4 := h3.setCell ⟨b, 4, none⟩ v4 hb
  exact h4
theorem Wat.lay {w : World} {b : Nat} {T : TypeId} {m : Wat} (h : Blk w b T (cWat m)) (v0 v1 v2 v3 v4 : Int) : Blk (((((w.setCell ⟨b, 0, none⟩ (.int .i64 v0)).setCell ⟨b, 1, none⟩ (.int .i64 v1)).setCell ⟨b, 2, none⟩ (.int .i64 v2)).setCell ⟨b, 3, none⟩ (.int .i64 v3)).setCell ⟨b, 4, none⟩ (.int .i64 v4)) b T (cWat ⟨v0, v1, v2, v3, v4⟩) := by
  have h0 : Blk _ b T (cWat ⟨v0, m.tick, m.price, m.qty, m.bps⟩) := h.set 0 (.int .i64 v0)
  have h1 : Blk _ b T (cWat ⟨v0, v1, m.price, m.qty, m.bps⟩) := h0.set 1 (.int .i64 v1)
  have h2 : Blk _ b T (cWat ⟨v0, v1, v2, m.qty, m.bps⟩) := h1.set 2 (.int .i64 v2)
  have h3 : Blk _ b T (cWat ⟨v0, v1, v2, v3, m.bps⟩) := h2.set 3 (.int .i64 v3)
  have h4 : Blk _ b T (cWat ⟨v0, v1, v2, v3, v4⟩) := h3.set 4 (.int .i64 v4)
  exact h4
theorem cells_Wat : Try.prog.cellsOf 33 = 5 := by kernel_rfl
theorem cells_Wat_int : Try.prog.cellsOf 3 = 1 := by kernel_rfl
theorem cells_Wat_int64 : Try.prog.cellsOf 2 = 1 := by kernel_rfl
section
open Go.ChangeShapes Go.WideShapes Go.ChangeAt Go.Deep
variable {H : Type} {enc' : TypeId × Value → H} {w : World} {base : Nat} {spare : Nat → Bool} {held : Bool}
set_option maxRecDepth 8000 in
/-- One that came in. -/
theorem open_Wat {fuel : Nat} {cs : List Value} {x : DataW H × List MemPlace} (h : DataW.trod enc' Try.prog w base spare held fuel 33 cs = some x) : ∃ m : Wat, m.Fit ∧ cs = (cWat m).toList := by
  obtain ⟨xs, n, _, _, hl, hlen, hf⟩ := DataW.trod_struct Try.underlying33 h
  rw [cells_Wat] at hl
  match cs, hl, xs, hlen with
  | [v0, v1, v2, v3, v4], _, [y0, y1, y2, y3, y4], _ =>
    have f0 : DataW.trod enc' Try.prog w base spare held n 3 [v0] = some y0 := by
      have h0 : DataW.trod enc' Try.prog w base spare held n 3 (([v0, v1, v2, v3, v4].drop 0).take (Try.prog.cellsOf 3)) = some y0 := hf 0 _ rfl
      rw [cells_Wat_int] at h0
      exact h0
    have f1 : DataW.trod enc' Try.prog w base spare held n 2 [v1] = some y1 := by
      have h0 : DataW.trod enc' Try.prog w base spare held n 2 (([v0, v1, v2, v3, v4].drop 1).take (Try.prog.cellsOf 2)) = some y1 := hf 1 _ rfl
      rw [cells_Wat_int64] at h0
      exact h0
    have f2 : DataW.trod enc' Try.prog w base spare held n 2 [v2] = some y2 := by
      have h0 : DataW.trod enc' Try.prog w base spare held n 2 (([v0, v1, v2, v3, v4].drop 2).take (Try.prog.cellsOf 2)) = some y2 := hf 2 _ rfl
      rw [cells_Wat_int64] at h0
      exact h0
    have f3 : DataW.trod enc' Try.prog w base spare held n 2 [v3] = some y3 := by
      have h0 : DataW.trod enc' Try.prog w base spare held n 2 (([v0, v1, v2, v3, v4].drop 3).take (Try.prog.cellsOf 2)) = some y3 := hf 3 _ rfl
      rw [cells_Wat_int64] at h0
      exact h0
    have f4 : DataW.trod enc' Try.prog w base spare held n 3 [v4] = some y4 := by
      have h0 : DataW.trod enc' Try.prog w base spare held n 3 (([v0, v1, v2, v3, v4].drop 4).take (Try.prog.cellsOf 3)) = some y4 := hf 4 _ rfl
      rw [cells_Wat_int] at h0
      exact h0
    obtain ⟨a0, e0, _, w0⟩ := DataW.trod_int Try.underlying3 f0
    obtain ⟨a1, e1, _, w1⟩ := DataW.trod_int Try.underlying2 f1
    obtain ⟨a2, e2, _, w2⟩ := DataW.trod_int Try.underlying2 f2
    obtain ⟨a3, e3, _, w3⟩ := DataW.trod_int Try.underlying2 f3
    obtain ⟨a4, e4, _, w4⟩ := DataW.trod_int Try.underlying3 f4
    simp only [List.cons.injEq, and_true] at e0 e1 e2 e3 e4
    subst e0 e1 e2 e3 e4
    exact ⟨⟨a0, a1, a2, a3, a4⟩, ⟨in64_of_wf w0, in64_of_wf w1, in64_of_wf w2, in64_of_wf w3, in64_of_wf w4⟩, rfl⟩
end
/-- A slice of them, to be read. -/
structure Wats (w : World) (ao : Option Addr) (cap : Nat) (l : List Wat) : Prop where
  len : l.length ≤ cap
  top : cap ≤ maxLen
  at' : l = [] ∨ ∃ b off, ao = some ⟨b, off, none⟩ ∧ ∀ (i : Nat) (m : Wat), l[i]? = some m → ∀ (j : Nat) (v : Value), (cWat m)[j]? = some v → w.cell? ⟨b, off + i * 5 + j, none⟩ = some v
theorem Wats.nil (w : World) : Wats w none 0 [] := ⟨Nat.le_refl _, Nat.zero_le _, .inl rfl⟩
theorem Wats.below {w w' : World} {ao : Option Addr} {cap : Nat} {l : List Wat} (h : Wats w ao cap l) (hb : Below w.heap.size w w') : Wats w' ao cap l := by
  refine ⟨h.len, h.top, ?_⟩
  rcases h.at' with h0 | ⟨b, off, ha, hl⟩
  · exact .inl h0
  · refine .inr ⟨b, off, ha, fun i m hi j v hj => ?_⟩
    have hc := hl i m hi j v hj
    have hlt : b < w.heap.size := World.block_lt_of_cell? w ⟨b, off + i * 5 + j, none⟩ hc
    exact (World.cell?_of_block (a := ⟨b, off + i * 5 + j, none⟩) (hb.block b hlt)).trans hc
/-- One of them. -/
theorem Wats.get {w : World} {ao : Option Addr} {cap : Nat} {l : List Wat} (h : Wats w ao cap l) {i : Nat} {m : Wat} (hi : l[i]? = some m) :
    ∃ b off, ao = some ⟨b, off, none⟩ ∧ w.cell? ⟨b, off + i * 5 + 0, none⟩ = some (.int .i64 m.kind) ∧ w.cell? ⟨b, off + i * 5 + 1, none⟩ = some (.int .i64 m.tick) ∧ w.cell? ⟨b, off + i * 5 + 2, none⟩ = some (.int .i64 m.price) ∧ w.cell? ⟨b, off + i * 5 + 3, none⟩ = some (.int .i64 m.qty) ∧ w.cell? ⟨b, off + i * 5 + 4, none⟩ = some (.int .i64 m.bps) := by
  rcases h.at' with h0 | ⟨b, off, ha, hl⟩
  · subst h0; simp at hi
  · exact ⟨b, off, ha, hl i m hi 0 _ rfl, hl i m hi 1 _ rfl, hl i m hi 2 _ rfl, hl i m hi 3 _ rfl, hl i m hi 4 _ rfl⟩
/-- What is owned is read. -/
theorem Wats.of_own {E : TypeId} {w : World} {ko : Option Nat} {ao : Option Addr} {cap : Nat} {l : List Wat} (h : OwG E 5 w ko ao cap l.length (l.flatMap fun m => (cWat m).toList)) : Wats w ao cap l := by
  refine ⟨h.len, h.top, ?_⟩
  by_cases h0 : l = []
  · exact .inl h0
  · have hcell := fun j v hj => h.cell j v hj
    have at1 : ∀ (l : List Wat) (i : Nat) (m : Wat), l[i]? = some m → ∀ (j : Nat) (v : Value), (cWat m)[j]? = some v → (l.flatMap fun m => (cWat m).toList)[i * 5 + j]? = some v := by
      intro l
      induction l with
      | nil => intro i m hi; simp at hi
      | cons x t ih =>
        intro i m hi j v hj
        have hx : ((cWat x).toList).length = 5 := rfl
        rw [List.flatMap_cons]
        cases i with
        | zero =>
          obtain rfl : x = m := by simpa using hi
          have hlt : j < 5 := by
            have := (Array.getElem?_eq_some_iff.1 hj).1
            simpa using this
          rw [List.getElem?_append_left (by rw [hx]; omega), Nat.zero_mul, Nat.zero_add]
          simpa using hj
        | succ i =>
          rw [List.getElem?_append_right (by rw [hx]; omega), hx, show (i + 1) * 5 + j - 5 = i * 5 + j by omega]
          exact ih i m (by simpa using hi) j v hj
    cases l with
    | nil => exact absurd rfl h0
    | cons x t =>
      obtain ⟨k, _, hao, _, _⟩ := hcell 0 (.int .i64 x.kind) rfl
      refine .inr ⟨k, 0, hao, fun i m hi j v hj => ?_⟩
      obtain ⟨k2, _, hao2, hc, _⟩ := hcell _ _ (at1 _ i m hi j v hj)
      rw [hao] at hao2
      cases hao2
      rw [Nat.zero_add]
      exact hc
section
open Go.ChangeShapes Go.WideShapes Go.ChangeAt Go.Deep
variable {H : Type} {enc' : TypeId × Value → H} {w : World} {base : Nat} {spare : Nat → Bool} {held : Bool}
/-- A slice of them that came in. -/
theorem open_Wats {T : TypeId} (hT : Try.prog.underlying T = some (.slice 33)) {fuel : Nat} {cs : List Value} {x : DataW H × List MemPlace} (h : DataW.trod enc' Try.prog w base spare held fuel T cs = some x) :
    ∃ (ao : Option Addr) (cap : Nat) (l : List Wat), cs = [.slice ao l.length cap] ∧ Wats w ao cap l ∧ ∀ m ∈ l, m.Fit := by
  rcases open_slice hT h with ⟨rfl, _⟩ | ⟨a, len, cap, m, n, D, Pl', rfl, _, hl, hm, hmm, _, hx⟩
  · exact ⟨none, 0, [], rfl, Wats.nil w, by simp⟩
  · have hlm : len ≤ m := by rw [hmm]; split <;> omega
    have each : ∀ i, i < len → ∃ p : Wat, p.Fit ∧ w.cells? base (a.add (i * 5)) 5 = some (cWat p).toList := by
      intro i hi
      obtain ⟨cs', h1, h2⟩ := hx i (by omega)
      rw [cells_Wat] at h1
      obtain ⟨p, hp, rfl⟩ := open_Wat h2
      exact ⟨p, hp, h1⟩
    by_cases h0 : len = 0
    · subst h0
      exact ⟨some a, cap, [], rfl, ⟨Nat.zero_le _, hm, .inl rfl⟩, by simp⟩
    · have : Inhabited Wat := ⟨Wat.zero⟩
      obtain ⟨f, hfam⟩ := choose_lt each
      obtain ⟨b, off, rfl⟩ : ∃ b off, a = ⟨b, off, none⟩ := by
        obtain ⟨_, hc⟩ := hfam 0 (by omega)
        obtain ⟨_, _, hcell⟩ := World.cells?_some hc
        have h1 := hcell 0 (by omega)
        obtain ⟨b, off, spot⟩ := a
        have hspot : spot = none := by simpa [Addr.add] using World.cell?_spot h1
        subst hspot
        exact ⟨b, off, rfl⟩
      have hget : ∀ i m, ((List.range len).map f)[i]? = some m → i < len ∧ f i = m := by
        intro i m hp
        rw [List.getElem?_map, Option.map_eq_some_iff] at hp
        obtain ⟨i', hi', rfl⟩ := hp
        obtain ⟨h1, h2⟩ := List.getElem?_eq_some_iff.1 hi'
        rw [List.length_range] at h1
        rw [List.getElem_range] at h2
        subst h2
        exact ⟨h1, rfl⟩
      refine ⟨some ⟨b, off, none⟩, cap, (List.range len).map f, by simp, ⟨by simpa using hl, hm, .inr ⟨b, off, rfl, fun i p hp j v hj => ?_⟩⟩, ?_⟩
      · obtain ⟨h1, rfl⟩ := hget i p hp
        obtain ⟨_, hc⟩ := hfam i h1
        obtain ⟨_, _, hcell⟩ := World.cells?_some hc
        rw [Addr.add_mid] at hcell
        have hj2 : j < 5 := by
          have := (Array.getElem?_eq_some_iff.1 hj).1
          simpa using this
        have h2 := hcell j hj2
        rw [Addr.add_mid] at h2
        rw [h2]
        simpa using hj
      · intro m hm
        obtain ⟨i, hi⟩ := List.mem_iff_getElem?.1 hm
        obtain ⟨h1, rfl⟩ := hget i m hi
        exact (hfam i h1).1
end
end Go.Proofs.Yteljjjdejjkgfaa
