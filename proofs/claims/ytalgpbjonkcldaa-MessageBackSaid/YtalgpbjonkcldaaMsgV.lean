/-
  api.Msg: a struct of 9 ints as Go's values: laid, read whole, compared, as an argument, in slices. (Written by gen/struct.py.)
-/
import Derived.Test.YtalgpbjonkcldaaMsg
import Derived.Test.YtalgpbjonkcldaaPart
import Derived.Test.YtalgpbjonkcldaaApp
import Derived.Laws.StructEq
import Derived.Lib.Hide
import Derived.ProofKit
import Derived.OpenShut
import Derived.Deep.Slices
namespace Go.Proofs.Ytalgpbjonkcldaa
open Go.RowKit
abbrev cMsg (m : Msg) : Array Value := #[.int .i64 m.kind, .int .i64 m.sym, .int .i64 m.seq, .int .i64 m.tick, .int .i64 m.id, .int .i64 m.other, .int .i64 m.price, .int .i64 m.qty, .int .i64 m.code]
abbrev vMsg (m : Msg) : Value := .agg (cMsg m)
/-- Whether two are the same. -/
def eqMsg (a b : Msg) : Bool := a.kind == b.kind && a.sym == b.sym && a.seq == b.seq && a.tick == b.tick && a.id == b.id && a.other == b.other && a.price == b.price && a.qty == b.qty && a.code == b.code
theorem eqMsg_true {a b : Msg} : eqMsg a b = true ↔ a = b := by
  cases a; cases b; simp [eqMsg, and_assoc]
theorem eqMsg_self (a : Msg) : eqMsg a a = true := eqMsg_true.2 rfl
theorem eqIn_Msg (a b : Msg) (w : World) : (Op.equalIn 10000 23 (vMsg a) (vMsg b)).run Try.prog w = .ok (eqMsg a b) w := by
  have hu := Try.underlying23
  have hf : Try.prog.underlying 23 = some (.struct (Try.prog.fieldsOf 23)) := by rw [Program.fieldsOf, hu]
  have uint := Try.underlying3
  have uint64 := Try.underlying2
  rw [show (10000 : Nat) = 9999 + 1 from rfl, run_equalIn_agg w 9999 _ _ _ hf (by kernel_rfl), Program.fieldsOf, hu]
  simp only [Op.eqFields]
  unfold eqMsg
  simp [go_sem, part]
  clear hu hf uint uint64
  repeat' split
  all_goals simp [*]
theorem eql_Msg (a b : Msg) (w : World) : (binOp .eql 23 (vMsg a) (vMsg b)).run Try.prog w = .ok (.bool (eqMsg a b)) w := by
  rw [run_eql_struct, eqIn_Msg]; rfl
theorem neq_Msg (a b : Msg) (w : World) : (binOp .neq 23 (vMsg a) (vMsg b)).run Try.prog w = .ok (.bool (!eqMsg a b)) w := by
  rw [run_neq_struct, eqIn_Msg]; rfl
theorem Msg.no8 (m : Msg) : ∀ (i : Nat) (x : Int), (cMsg m)[i]? ≠ some (.int .u8 x) := by
  intro i x h
  match i, h with
  | 0, h => simp at h
  | 1, h => simp at h
  | 2, h => simp at h
  | 3, h => simp at h
  | 4, h => simp at h
  | 5, h => simp at h
  | 6, h => simp at h
  | 7, h => simp at h
  | 8, h => simp at h
  | i + 9, h => simp at h
theorem Msg.cells {w : World} {b : Nat} {T : TypeId} {m : Msg} (h : Blk w b T (cMsg m)) : w.cell? ⟨b, 0, none⟩ = some (.int .i64 m.kind) ∧ w.cell? ⟨b, 1, none⟩ = some (.int .i64 m.sym) ∧ w.cell? ⟨b, 2, none⟩ = some (.int .i64 m.seq) ∧ w.cell? ⟨b, 3, none⟩ = some (.int .i64 m.tick) ∧ w.cell? ⟨b, 4, none⟩ = some (.int .i64 m.id) ∧ w.cell? ⟨b, 5, none⟩ = some (.int .i64 m.other) ∧ w.cell? ⟨b, 6, none⟩ = some (.int .i64 m.price) ∧ w.cell? ⟨b, 7, none⟩ = some (.int .i64 m.qty) ∧ w.cell? ⟨b, 8, none⟩ = some (.int .i64 m.code) :=
  ⟨h.cell_eq 0 _ rfl, h.cell_eq 1 _ rfl, h.cell_eq 2 _ rfl, h.cell_eq 3 _ rfl, h.cell_eq 4 _ rfl, h.cell_eq 5 _ rfl, h.cell_eq 6 _ rfl, h.cell_eq 7 _ rfl, h.cell_eq 8 _ rfl⟩
theorem Msg.below {B : Nat} {W w : World} {b : Nat} (h : Below B W w) (hb : B ≤ b) (v0 v1 v2 v3 v4 v5 v6 v7 v8 : Value) : Below B W (((((((((w.setCell ⟨b, 0, none⟩ v0).setCell ⟨b, 1, none⟩ v1).setCell ⟨b, 2, none⟩ v2).setCell ⟨b, 3, none⟩ v3).setCell ⟨b, 4, none⟩ v4).setCell ⟨b, 5, none⟩ v5).setCell ⟨b, 6, none⟩ v6).setCell ⟨b, 7, none⟩ v7).setCell ⟨b, 8, none⟩ v8) := by
  have h0 := h.setCell (p := ⟨b, 0, none⟩) hb v0
  have h1 := h0.setCell (p := ⟨b, 1, none⟩) hb v1
  have h2 := h1.setCell (p := ⟨b, 2, none⟩) hb v2
  have h3 := h2.setCell (p := ⟨b, 3, none⟩) hb v3
  have h4 := h3.setCell (p := ⟨b, 4, none⟩) hb v4
  have h5 := h4.setCell (p := ⟨b, 5, none⟩) hb v5
  have h6 := h5.setCell (p := ⟨b, 6, none⟩) hb v6
  have h7 := h6.setCell (p := ⟨b, 7, none⟩) hb v7
  have h8 := h7.setCell (p := ⟨b, 8, none⟩) hb v8
  exact h8
theorem Msg.frm {S : Nat → Prop} {W w : World} {b : Nat} (h : Frm S W w) (hb : S b ∨ W.heap.size ≤ b) (v0 v1 v2 v3 v4 v5 v6 v7 v8 : Value) : Frm S W (((((((((w.setCell ⟨b, 0, none⟩ v0).setCell ⟨b, 1, none⟩ v1).setCell ⟨b, 2, none⟩ v2).setCell ⟨b, 3, none⟩ v3).setCell ⟨b, 4, none⟩ v4).setCell ⟨b, 5, none⟩ v5).setCell ⟨b, 6, none⟩ v6).setCell ⟨b, 7, none⟩ v7).setCell ⟨b, 8, none⟩ v8) := by
  have h0 := h.setCell ⟨b, 0, none⟩ v0 hb
  have h1 := h0.setCell ⟨b, 1, none⟩ v1 hb
  have h2 := h1.setCell ⟨b, 2, none⟩ v2 hb
  have h3 := h2.setCell ⟨b, 3, none⟩ v3 hb
  have h4 := h3.setCell ⟨b, 4, none⟩ v4 hb
  have h5 := h4.setCell ⟨b, 5, none⟩ v5 hb
  have h6 := h5.setCell ⟨b, 6, none⟩ v6 hb
  have h7 := h6.setCell ⟨b, 7, none⟩ v7 hb
  have h8 := h7.setCell ⟨b, 8, none⟩ v8 hb
  exact h8
theorem Msg.lay {w : World} {b : Nat} {T : TypeId} {m : Msg} (h : Blk w b T (cMsg m)) (v0 v1 v2 v3 v4 v5 v6 v7 v8 : Int) : Blk (((((((((w.setCell ⟨b, 0, none⟩ (.int .i64 v0)).setCell ⟨b, 1, none⟩ (.int .i64 v1)).setCell ⟨b, 2, none⟩ (.int .i64 v2)).setCell ⟨b, 3, none⟩ (.int .i64 v3)).setCell ⟨b, 4, none⟩ (.int .i64 v4)).setCell ⟨b, 5, none⟩ (.int .i64 v5)).setCell ⟨b, 6, none⟩ (.int .i64 v6)).setCell ⟨b, 7, none⟩ (.int .i64 v7)).setCell ⟨b, 8, none⟩ (.int .i64 v8)) b T (cMsg ⟨v0, v1, v2, v3, v4, v5, v6, v7, v8⟩) := by
  have h0 : Blk _ b T (cMsg ⟨v0, m.sym, m.seq, m.tick, m.id, m.other, m.price, m.qty, m.code⟩) := h.set 0 (.int .i64 v0)
  have h1 : Blk _ b T (cMsg ⟨v0, v1, m.seq, m.tick, m.id, m.other, m.price, m.qty, m.code⟩) := h0.set 1 (.int .i64 v1)
  have h2 : Blk _ b T (cMsg ⟨v0, v1, v2, m.tick, m.id, m.other, m.price, m.qty, m.code⟩) := h1.set 2 (.int .i64 v2)
  have h3 : Blk _ b T (cMsg ⟨v0, v1, v2, v3, m.id, m.other, m.price, m.qty, m.code⟩) := h2.set 3 (.int .i64 v3)
  have h4 : Blk _ b T (cMsg ⟨v0, v1, v2, v3, v4, m.other, m.price, m.qty, m.code⟩) := h3.set 4 (.int .i64 v4)
  have h5 : Blk _ b T (cMsg ⟨v0, v1, v2, v3, v4, v5, m.price, m.qty, m.code⟩) := h4.set 5 (.int .i64 v5)
  have h6 : Blk _ b T (cMsg ⟨v0, v1, v2, v3, v4, v5, v6, m.qty, m.code⟩) := h5.set 6 (.int .i64 v6)
  have h7 : Blk _ b T (cMsg ⟨v0, v1, v2, v3, v4, v5, v6, v7, m.code⟩) := h6.set 7 (.int .i64 v7)
  have h8 : Blk _ b T (cMsg ⟨v0, v1, v2, v3, v4, v5, v6, v7, v8⟩) := h7.set 8 (.int .i64 v8)
  exact h8
theorem cells_Msg : Try.prog.cellsOf 23 = 9 := by kernel_rfl
theorem cells_Msg_int : Try.prog.cellsOf 3 = 1 := by kernel_rfl
theorem cells_Msg_int64 : Try.prog.cellsOf 2 = 1 := by kernel_rfl
section
open Go.ChangeShapes Go.WideShapes Go.ChangeAt Go.Deep
variable {H : Type} {enc' : TypeId × Value → H} {w : World} {base : Nat} {spare : Nat → Bool} {held : Bool}
/-- One that came in. -/
theorem open_Msg {fuel : Nat} {cs : List Value} {x : DataW H × List MemPlace} (h : DataW.trod enc' Try.prog w base spare held fuel 23 cs = some x) : ∃ m : Msg, m.Fit ∧ cs = (cMsg m).toList := by
  obtain ⟨xs, n, _, _, hl, hlen, hf⟩ := DataW.trod_struct Try.underlying23 h
  rw [cells_Msg] at hl
  match cs, hl, xs, hlen with
  | [v0, v1, v2, v3, v4, v5, v6, v7, v8], _, [y0, y1, y2, y3, y4, y5, y6, y7, y8], _ =>
    have f0 : DataW.trod enc' Try.prog w base spare held n 3 [v0] = some y0 := by
      have h0 : DataW.trod enc' Try.prog w base spare held n 3 (([v0, v1, v2, v3, v4, v5, v6, v7, v8].drop 0).take (Try.prog.cellsOf 3)) = some y0 := hf 0 _ rfl
      rw [cells_Msg_int] at h0
      exact h0
    have f1 : DataW.trod enc' Try.prog w base spare held n 3 [v1] = some y1 := by
      have h0 : DataW.trod enc' Try.prog w base spare held n 3 (([v0, v1, v2, v3, v4, v5, v6, v7, v8].drop 1).take (Try.prog.cellsOf 3)) = some y1 := hf 1 _ rfl
      rw [cells_Msg_int] at h0
      exact h0
    have f2 : DataW.trod enc' Try.prog w base spare held n 2 [v2] = some y2 := by
      have h0 : DataW.trod enc' Try.prog w base spare held n 2 (([v0, v1, v2, v3, v4, v5, v6, v7, v8].drop 2).take (Try.prog.cellsOf 2)) = some y2 := hf 2 _ rfl
      rw [cells_Msg_int64] at h0
      exact h0
    have f3 : DataW.trod enc' Try.prog w base spare held n 2 [v3] = some y3 := by
      have h0 : DataW.trod enc' Try.prog w base spare held n 2 (([v0, v1, v2, v3, v4, v5, v6, v7, v8].drop 3).take (Try.prog.cellsOf 2)) = some y3 := hf 3 _ rfl
      rw [cells_Msg_int64] at h0
      exact h0
    have f4 : DataW.trod enc' Try.prog w base spare held n 2 [v4] = some y4 := by
      have h0 : DataW.trod enc' Try.prog w base spare held n 2 (([v0, v1, v2, v3, v4, v5, v6, v7, v8].drop 4).take (Try.prog.cellsOf 2)) = some y4 := hf 4 _ rfl
      rw [cells_Msg_int64] at h0
      exact h0
    have f5 : DataW.trod enc' Try.prog w base spare held n 2 [v5] = some y5 := by
      have h0 : DataW.trod enc' Try.prog w base spare held n 2 (([v0, v1, v2, v3, v4, v5, v6, v7, v8].drop 5).take (Try.prog.cellsOf 2)) = some y5 := hf 5 _ rfl
      rw [cells_Msg_int64] at h0
      exact h0
    have f6 : DataW.trod enc' Try.prog w base spare held n 2 [v6] = some y6 := by
      have h0 : DataW.trod enc' Try.prog w base spare held n 2 (([v0, v1, v2, v3, v4, v5, v6, v7, v8].drop 6).take (Try.prog.cellsOf 2)) = some y6 := hf 6 _ rfl
      rw [cells_Msg_int64] at h0
      exact h0
    have f7 : DataW.trod enc' Try.prog w base spare held n 2 [v7] = some y7 := by
      have h0 : DataW.trod enc' Try.prog w base spare held n 2 (([v0, v1, v2, v3, v4, v5, v6, v7, v8].drop 7).take (Try.prog.cellsOf 2)) = some y7 := hf 7 _ rfl
      rw [cells_Msg_int64] at h0
      exact h0
    have f8 : DataW.trod enc' Try.prog w base spare held n 3 [v8] = some y8 := by
      have h0 : DataW.trod enc' Try.prog w base spare held n 3 (([v0, v1, v2, v3, v4, v5, v6, v7, v8].drop 8).take (Try.prog.cellsOf 3)) = some y8 := hf 8 _ rfl
      rw [cells_Msg_int] at h0
      exact h0
    obtain ⟨a0, e0, _, w0⟩ := DataW.trod_int Try.underlying3 f0
    obtain ⟨a1, e1, _, w1⟩ := DataW.trod_int Try.underlying3 f1
    obtain ⟨a2, e2, _, w2⟩ := DataW.trod_int Try.underlying2 f2
    obtain ⟨a3, e3, _, w3⟩ := DataW.trod_int Try.underlying2 f3
    obtain ⟨a4, e4, _, w4⟩ := DataW.trod_int Try.underlying2 f4
    obtain ⟨a5, e5, _, w5⟩ := DataW.trod_int Try.underlying2 f5
    obtain ⟨a6, e6, _, w6⟩ := DataW.trod_int Try.underlying2 f6
    obtain ⟨a7, e7, _, w7⟩ := DataW.trod_int Try.underlying2 f7
    obtain ⟨a8, e8, _, w8⟩ := DataW.trod_int Try.underlying3 f8
    simp only [List.cons.injEq, and_true] at e0 e1 e2 e3 e4 e5 e6 e7 e8
    subst e0 e1 e2 e3 e4 e5 e6 e7 e8
    exact ⟨⟨a0, a1, a2, a3, a4, a5, a6, a7, a8⟩, ⟨in64_of_wf w0, in64_of_wf w1, in64_of_wf w2, in64_of_wf w3, in64_of_wf w4, in64_of_wf w5, in64_of_wf w6, in64_of_wf w7, in64_of_wf w8⟩, rfl⟩
end
/-- A slice of them, to be read. -/
structure Msgs (w : World) (ao : Option Addr) (cap : Nat) (l : List Msg) : Prop where
  len : l.length ≤ cap
  top : cap ≤ maxLen
  at' : l = [] ∨ ∃ b off, ao = some ⟨b, off, none⟩ ∧ ∀ (i : Nat) (m : Msg), l[i]? = some m → ∀ (j : Nat) (v : Value), (cMsg m)[j]? = some v → w.cell? ⟨b, off + i * 9 + j, none⟩ = some v
theorem Msgs.nil (w : World) : Msgs w none 0 [] := ⟨Nat.le_refl _, Nat.zero_le _, .inl rfl⟩
theorem Msgs.below {w w' : World} {ao : Option Addr} {cap : Nat} {l : List Msg} (h : Msgs w ao cap l) (hb : Below w.heap.size w w') : Msgs w' ao cap l := by
  refine ⟨h.len, h.top, ?_⟩
  rcases h.at' with h0 | ⟨b, off, ha, hl⟩
  · exact .inl h0
  · refine .inr ⟨b, off, ha, fun i m hi j v hj => ?_⟩
    have hc := hl i m hi j v hj
    have hlt : b < w.heap.size := World.block_lt_of_cell? w ⟨b, off + i * 9 + j, none⟩ hc
    exact (World.cell?_of_block (a := ⟨b, off + i * 9 + j, none⟩) (hb.block b hlt)).trans hc
/-- One of them. -/
theorem Msgs.get {w : World} {ao : Option Addr} {cap : Nat} {l : List Msg} (h : Msgs w ao cap l) {i : Nat} {m : Msg} (hi : l[i]? = some m) :
    ∃ b off, ao = some ⟨b, off, none⟩ ∧ w.cell? ⟨b, off + i * 9 + 0, none⟩ = some (.int .i64 m.kind) ∧ w.cell? ⟨b, off + i * 9 + 1, none⟩ = some (.int .i64 m.sym) ∧ w.cell? ⟨b, off + i * 9 + 2, none⟩ = some (.int .i64 m.seq) ∧ w.cell? ⟨b, off + i * 9 + 3, none⟩ = some (.int .i64 m.tick) ∧ w.cell? ⟨b, off + i * 9 + 4, none⟩ = some (.int .i64 m.id) ∧ w.cell? ⟨b, off + i * 9 + 5, none⟩ = some (.int .i64 m.other) ∧ w.cell? ⟨b, off + i * 9 + 6, none⟩ = some (.int .i64 m.price) ∧ w.cell? ⟨b, off + i * 9 + 7, none⟩ = some (.int .i64 m.qty) ∧ w.cell? ⟨b, off + i * 9 + 8, none⟩ = some (.int .i64 m.code) := by
  rcases h.at' with h0 | ⟨b, off, ha, hl⟩
  · subst h0; simp at hi
  · exact ⟨b, off, ha, hl i m hi 0 _ rfl, hl i m hi 1 _ rfl, hl i m hi 2 _ rfl, hl i m hi 3 _ rfl, hl i m hi 4 _ rfl, hl i m hi 5 _ rfl, hl i m hi 6 _ rfl, hl i m hi 7 _ rfl, hl i m hi 8 _ rfl⟩
/-- What is owned is read. -/
theorem Msgs.of_own {E : TypeId} {w : World} {ko : Option Nat} {ao : Option Addr} {cap : Nat} {l : List Msg} (h : OwG E 9 w ko ao cap l.length (l.flatMap fun m => (cMsg m).toList)) : Msgs w ao cap l := by
  refine ⟨h.len, h.top, ?_⟩
  by_cases h0 : l = []
  · exact .inl h0
  · have hcell := fun j v hj => h.cell j v hj
    have at1 : ∀ (l : List Msg) (i : Nat) (m : Msg), l[i]? = some m → ∀ (j : Nat) (v : Value), (cMsg m)[j]? = some v → (l.flatMap fun m => (cMsg m).toList)[i * 9 + j]? = some v := by
      intro l
      induction l with
      | nil => intro i m hi; simp at hi
      | cons x t ih =>
        intro i m hi j v hj
        have hx : ((cMsg x).toList).length = 9 := rfl
        rw [List.flatMap_cons]
        cases i with
        | zero =>
          obtain rfl : x = m := by simpa using hi
          have hlt : j < 9 := by
            have := (Array.getElem?_eq_some_iff.1 hj).1
            simpa using this
          rw [List.getElem?_append_left (by rw [hx]; omega), Nat.zero_mul, Nat.zero_add]
          simpa using hj
        | succ i =>
          rw [List.getElem?_append_right (by rw [hx]; omega), hx, show (i + 1) * 9 + j - 9 = i * 9 + j by omega]
          exact ih i m (by simpa using hi) j v hj
    cases l with
    | nil => exact absurd rfl h0
    | cons x t =>
      obtain ⟨k, _, hao, _, _⟩ := hcell 0 (.int .i64 x.kind) rfl
      refine .inr ⟨k, 0, hao, fun i m hi j v hj => ?_⟩
      obtain ⟨k2, _, hao2, hc, _⟩ := hcell _ _ (at1 _ i m hi j v hj)
      rw [hao] at hao2
      cases hao2
      rw [Nat.zero_add]
      exact hc
section
open Go.ChangeShapes Go.WideShapes Go.ChangeAt Go.Deep
variable {H : Type} {enc' : TypeId × Value → H} {w : World} {base : Nat} {spare : Nat → Bool} {held : Bool}
/-- A slice of them that came in. -/
theorem open_Msgs {T : TypeId} (hT : Try.prog.underlying T = some (.slice 23)) {fuel : Nat} {cs : List Value} {x : DataW H × List MemPlace} (h : DataW.trod enc' Try.prog w base spare held fuel T cs = some x) :
    ∃ (ao : Option Addr) (cap : Nat) (l : List Msg), cs = [.slice ao l.length cap] ∧ Msgs w ao cap l ∧ ∀ m ∈ l, m.Fit := by
  rcases open_slice hT h with ⟨rfl, _⟩ | ⟨a, len, cap, m, n, D, Pl', rfl, _, hl, hm, hmm, _, hx⟩
  · exact ⟨none, 0, [], rfl, Msgs.nil w, by simp⟩
  · have hlm : len ≤ m := by rw [hmm]; split <;> omega
    have each : ∀ i, i < len → ∃ p : Msg, p.Fit ∧ w.cells? base (a.add (i * 9)) 9 = some (cMsg p).toList := by
      intro i hi
      obtain ⟨cs', h1, h2⟩ := hx i (by omega)
      rw [cells_Msg] at h1
      obtain ⟨p, hp, rfl⟩ := open_Msg h2
      exact ⟨p, hp, h1⟩
    by_cases h0 : len = 0
    · subst h0
      exact ⟨some a, cap, [], rfl, ⟨Nat.zero_le _, hm, .inl rfl⟩, by simp⟩
    · have : Inhabited Msg := ⟨Msg.zero⟩
      obtain ⟨f, hfam⟩ := choose_lt each
      obtain ⟨b, off, rfl⟩ : ∃ b off, a = ⟨b, off, none⟩ := by
        obtain ⟨_, hc⟩ := hfam 0 (by omega)
        obtain ⟨_, _, hcell⟩ := World.cells?_some hc
        have h1 := hcell 0 (by omega)
        obtain ⟨b, off, spot⟩ := a
        have hspot : spot = none := by simpa [Addr.add] using World.cell?_spot h1
        subst hspot
        exact ⟨b, off, rfl⟩
      have hget : ∀ i m, ((List.range len).map f)[i]? = some m → i < len ∧ f i = m := by
        intro i m hp
        rw [List.getElem?_map, Option.map_eq_some_iff] at hp
        obtain ⟨i', hi', rfl⟩ := hp
        obtain ⟨h1, h2⟩ := List.getElem?_eq_some_iff.1 hi'
        rw [List.length_range] at h1
        rw [List.getElem_range] at h2
        subst h2
        exact ⟨h1, rfl⟩
      refine ⟨some ⟨b, off, none⟩, cap, (List.range len).map f, by simp, ⟨by simpa using hl, hm, .inr ⟨b, off, rfl, fun i p hp j v hj => ?_⟩⟩, ?_⟩
      · obtain ⟨h1, rfl⟩ := hget i p hp
        obtain ⟨_, hc⟩ := hfam i h1
        obtain ⟨_, _, hcell⟩ := World.cells?_some hc
        rw [Addr.add_mid] at hcell
        have hj2 : j < 9 := by
          have := (Array.getElem?_eq_some_iff.1 hj).1
          simpa using this
        have h2 := hcell j hj2
        rw [Addr.add_mid] at h2
        rw [h2]
        simpa using hj
      · intro m hm
        obtain ⟨i, hi⟩ := List.mem_iff_getElem?.1 hm
        obtain ⟨h1, rfl⟩ := hget i m hi
        exact (hfam i h1).1
end
end Go.Proofs.Ytalgpbjonkcldaa
