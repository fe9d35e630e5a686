/-
  The document's book in memory; its New, Better, sided, Find, Get.
  The program's book in memory: its struct, and what it points at; half, key, isSide, find, Get, Len.
  The program's find and Get.
-/
import Derived.Test.YtdmjcjheanedgaaDoorGP
import Derived.Test.YtdmjcjheanedgaaDoorGB
import Derived.Test.YtdmjcjheanedgaaDoorGA
import Derived.Lib.Hide
import Derived.BigQuiet
import Derived.Deep.QuietTactic
import Derived.Deep.LoopGhost
import Derived.IntWalk
import Derived.WalkKit
import Derived.WalkMore
import Derived.Test.YtdmjcjheanedgaaDoorGQ
import Derived.Test.YtdmjcjheanedgaaDoorGC
namespace Go.Proofs.YtdmjcjheanedgaaDoor
open Go.RowKit
set_option linter.unusedSimpArgs false
/-- The orders' cells, one behind the other. -/
abbrev ocs (l : List Ord) : List Value := l.flatMap fun m => (cOrd m).toList
/-- The document's book: a struct in block r, its orders in a row of its own; S: the blocks on which it hangs. -/
structure RkB (w : World) (r : Nat) (S : Nat → Prop) (ko : Option Nat) (ao : Option Addr) (cap : Nat) (b : Bk) : Prop where
  hr : Blk w r 42 #[.int .i64 b.slots, .int .i64 b.levels, .slice ao b.L.length cap]
  how : OwG 44 7 w ko ao cap b.L.length (ocs b.L)
  sr : S r
  sk : ∀ k, ko = some k → S k ∧ k ≠ r
  lt : ∀ c, S c → c < w.heap.size
def RK (w : World) (r : Nat) (S : Nat → Prop) (b : Bk) : Prop := ∃ ko ao cap, RkB w r S ko ao cap b
theorem belowK {B : Nat} {w w' : World} (h : Below B w w') (n : Nat) : Below B w (w'.drewN n) := ⟨h.os, h.tape, h.output, h.size, h.block⟩
section
variable {w w' W : World} {r : Nat} {S T : Nat → Prop} {b : Bk} {ko : Option Nat} {ao : Option Addr} {cap : Nat}
theorem RkB.frm (h : RkB w r S ko ao cap b) (hf : Frm T w w') (hT : ∀ c, T c → ¬ S c) : RkB w' r S ko ao cap b := by
  have k : ∀ c, S c → w'.heap[c]? = w.heap[c]? := fun c hc => hf.block c (h.lt c hc) (fun ht => hT c ht hc)
  exact ⟨(k _ h.sr).trans h.hr, h.how.keep (fun c e => k c (h.sk c e).1), h.sr, h.sk, fun c hc => Nat.lt_of_lt_of_le (h.lt c hc) hf.size⟩
theorem RkB.below (h : RkB w r S ko ao cap b) (hb : Below w.heap.size w w') : RkB w' r S ko ao cap b := h.frm (Frm.of_below (S := fun _ => False) hb) (fun _ f => f.elim)
theorem RK.frm (h : RK w r S b) (hf : Frm T w w') (hT : ∀ c, T c → ¬ S c) : RK w' r S b := by
  obtain ⟨ko, ao, cap, h⟩ := h
  exact ⟨ko, ao, cap, h.frm hf hT⟩
theorem RK.below (h : RK w r S b) (hb : Below w.heap.size w w') : RK w' r S b := h.frm (Frm.of_below (S := fun _ => False) hb) (fun _ f => f.elim)
theorem RK.lt (h : RK w r S b) : ∀ c, S c → c < w.heap.size := by
  obtain ⟨ko, ao, cap, h⟩ := h
  exact h.lt
theorem RK.sr (h : RK w r S b) : S r := by
  obtain ⟨ko, ao, cap, h⟩ := h
  exact h.sr
theorem RkB.c0 (h : RkB w r S ko ao cap b) : w.cell? ⟨r, 0, none⟩ = some (.int .i64 b.slots) := h.hr.cell_eq 0 _ rfl
theorem RkB.c1 (h : RkB w r S ko ao cap b) : w.cell? ⟨r, 1, none⟩ = some (.int .i64 b.levels) := h.hr.cell_eq 1 _ rfl
theorem RkB.c2 (h : RkB w r S ko ao cap b) : w.cell? ⟨r, 2, none⟩ = some (.slice ao b.L.length cap) := h.hr.cell_eq 2 _ rfl
theorem RkB.rows (h : RkB w r S ko ao cap b) : Ords w ao cap b.L := Ords.of_own h.how
theorem knew_any (n m : Nat) (h1 : 1 ≤ n) (h2 : n ≤ 500) (h3 : 1 ≤ m) (h4 : m ≤ 200) (W : World) : Calls Tryd.prog 20 #[.int .i64 n, .int .i64 m] W fun e w' => ∃ r S, e = .returned (.tuple #[.pointer (some ⟨r, 0, none⟩), .int .i64 0]) ∧ RK w' r S (Bk.new n m) ∧ Below W.heap.size W w' ∧ ∀ c, S c → W.heap.size ≤ c := by
  have hend : Hid (∃ r S, r = W.heap.size ∧ RK (W.alloc (.cells #[.int .i64 n, .int .i64 m, .slice none 0 0] 42)) r S (Bk.new n m) ∧ Below W.heap.size W (W.alloc (.cells #[.int .i64 n, .int .i64 m, .slice none 0 0] 42)) ∧ ∀ c, S c → W.heap.size ≤ c) :=
    Lib.hid ⟨_, fun c => c = W.heap.size, rfl, ⟨none, none, 0, Blk.new _ _ _, OwG.nil _ _ _, rfl, fun k e => (by cases e), fun c e => by subst e; simp⟩, (Below.refl _ _).alloc (Nat.le_refl _) _, fun c e => by omega⟩
  go_enter Tryd.func20, Tryd.ntmps20
  go_wp2_with fail
  all_goals first | (exfalso; omega) | skip
  all_goals go_ret2
  all_goals
    obtain ⟨r, S, hr, g⟩ := hend.out
    exact ⟨r, S, by rw [hr]; rfl, g⟩
theorem kbetter_any (side a c : Int) (W : World) : Calls Tryd.prog 48 #[.int .i64 side, .int .i64 a, .int .i64 c] W fun e w' => e = .returned (.bool (bett side a c)) ∧ w' = W := by
  have h0 : ∀ x, x = bett side a c → Hid (x = bett side a c) := fun x h => Lib.hid h
  unfold bett at h0
  generalize hB : bett side a c = B at *
  unfold bett at hB
  by_cases e0 : side = 0
  · subst e0
    obtain ⟨k, hk⟩ : ∃ k, decide (c < a) = k := ⟨_, rfl⟩
    rw [hk] at hB
    have : B = k := by rw [← hB]; simp
    subst this
    clear hB h0
    cases B
    all_goals
      go_enter Tryd.func48, Tryd.ntmps48
      go_wp2_with fail
      go_ret
      exact ⟨by simp, rfl⟩
  · have d0 : (side == 0) = false := by simpa using e0
    rw [d0] at hB
    by_cases e1 : side = 1
    · subst e1
      obtain ⟨k, hk⟩ : ∃ k, decide (a < c) = k := ⟨_, rfl⟩
      rw [hk] at hB
      have : B = k := by rw [← hB]; simp
      subst this
      clear hB h0
      go_enter Tryd.func48, Tryd.ntmps48
      go_wp2_with fail
      all_goals go_ret
      all_goals exact ⟨by simp, rfl⟩
    · have d1 : (side == 1) = false := by simpa using e1
      rw [d1] at hB
      have : B = false := by rw [← hB]; simp
      subst this
      clear hB h0
      go_enter Tryd.func48, Tryd.ntmps48
      go_wp2_with fail
      all_goals go_ret
      all_goals exact ⟨by simp, rfl⟩
theorem ksided_any (side : Int) (W : World) : Calls Tryd.prog 43 #[.int .i64 side] W fun e w' => e = .returned (.bool (side == 0 || side == 1)) ∧ w' = W := by
  obtain ⟨k, hk⟩ : ∃ k, (side == 0) = k := ⟨_, rfl⟩
  obtain ⟨j, hj⟩ : ∃ j, (side == 1) = j := ⟨_, rfl⟩
  rw [hk, hj]
  go_enter Tryd.func43, Tryd.ntmps43
  cases k
  all_goals
    go_wp2_with fail
    go_ret
    exact ⟨by simp, rfl⟩
set_option maxRecDepth 8000 in
set_option maxHeartbeats 1000000 in
theorem kfind_any (d : Int) (h : RkB W r S ko ao cap b) (hlen : b.L.length ≤ 100000) :
    Calls Tryd.prog 44 #[.pointer (some ⟨r, 0, none⟩), .int .i64 d] W fun e w' => e = .returned (.int .i64 (bkI b.L d)) ∧ w' = W := by
  have c2 := h.c2
  have hL := h.rows
  have hno : (∀ (i : Nat) (x : Ord), b.L[i]? = some x → ¬ x.id = d) → bkI b.L d = -1 := by
    intro hn
    unfold bkI
    rw [bkf_no fun x hx => by obtain ⟨i, hi⟩ := List.mem_iff_getElem?.1 hx; exact hn i x hi]
  have hyes : ∀ (i : Nat) (x : Ord), b.L[i]? = some x → x.id = d → (∀ j y, j < i → b.L[j]? = some y → ¬ y.id = d) → bkI b.L d = (i : Int) := by
    intro i x hi e hn
    unfold bkI
    rw [bkf_at hi e hn]
  clear h
  generalize bkI b.L d = fi at *
  generalize b.L = l at *
  obtain ⟨m, hmm⟩ : ∃ m, m = l.length := ⟨_, rfl⟩
  rw [← hmm] at c2 hlen
  replace hmm := Lib.hid hmm
  replace hno := Lib.hid hno
  replace hyes := Lib.hid hyes
  go_enter Tryd.func44, Tryd.ntmps44
  go_wp2_with fail
  go_loopg [5] m (fun j p5 wr => ∃ i : Nat, i + j = m ∧ p5 = .int .i64 (i : Int) ∧ Hid (∀ (j' : Nat) (y : Ord), j' < i → l[j']? = some y → ¬ y.id = d) ∧ wr = W)
  case atStart => exact ⟨0, by omega, rfl, Lib.hid (fun j' y h => by omega), rfl⟩
  case round =>
    obtain ⟨i, hi, rfl, hP, rfl⟩ := hrel
    by_cases him : i < m
    · obtain ⟨x, hx⟩ : ∃ x, l[i]? = some x := ⟨_, List.getElem?_eq_getElem (by rw [← hmm.out]; exact him)⟩
      obtain ⟨q, off, rfl, y0, -⟩ := hL.get hx
      replace y0 : wr.cell? ⟨q, off + i * 7, none⟩ = some (.int .i64 x.id) := y0
      have hi2 : (i : Int) < (m : Int) := by omega
      by_cases hxp : x.id = d
      · have e1 := hyes.out i x hx hxp hP.out
        rw [hxp] at y0
        clear hno hyes hP hx hxp hL
        go_wp2_with fail
        go_ret
        exact ⟨by rw [e1]; rfl, rfl⟩
      · have hd : (x.id == d) = false := by simpa using hxp
        have hP' := Lib.hid (p := ∀ (j' : Nat) (y : Ord), j' < i + 1 → l[j']? = some y → ¬ y.id = d) (by
          intro j' y hj hy
          rcases Nat.lt_succ_iff_lt_or_eq.1 hj with g | rfl
          · exact hP.out j' y g hy
          · rw [hx] at hy; cases hy; exact hxp)
        clear hno hyes hP hx hxp hL
        go_wp2_with fail
        go_roundg (m - (i + 1))
        case measure => omega
        case rel => exact ⟨i + 1, by omega, by go_num, hP', rfl⟩
    · obtain rfl : i = m := by omega
      have e1 := hno.out fun j y hj => hP.out j y (by have := (List.getElem?_eq_some_iff.1 hj).1; rw [hmm.out]; exact this) hj
      clear hno hyes hP hL
      go_wp2_with fail
      go_ret
      exact ⟨by rw [e1]; rfl, rfl⟩
/-- A result that is an order, in a cell of its own at W.heap.size: what is there, and what is there behind its stores. -/
theorem ordRes {z : Ord} {V : World} {q : Nat} (hBx : Blk V q 44 (cOrd z)) (hq : W.heap.size ≤ q) (hb : Below W.heap.size W V) (m : Ord) :
    (V.cell? ⟨q, 0, none⟩ = some (.int .i64 z.id) ∧ V.cell? ⟨q, 1, none⟩ = some (.int .i64 z.owner) ∧ V.cell? ⟨q, 2, none⟩ = some (.int .i64 z.side) ∧ V.cell? ⟨q, 3, none⟩ = some (.int .i64 z.price) ∧ V.cell? ⟨q, 4, none⟩ = some (.int .i64 z.qty) ∧ V.cell? ⟨q, 5, none⟩ = some (.int .i64 z.flags) ∧ V.cell? ⟨q, 6, none⟩ = some (.int .i64 z.seq)) ∧ (∀ i, V.frozen? ⟨q, i, none⟩ = false) ∧
    ∀ V2, V2 = (((((((V.setCell ⟨q, 0, none⟩ (.int .i64 m.id)).setCell ⟨q, 1, none⟩ (.int .i64 m.owner)).setCell ⟨q, 2, none⟩ (.int .i64 m.side)).setCell ⟨q, 3, none⟩ (.int .i64 m.price)).setCell ⟨q, 4, none⟩ (.int .i64 m.qty)).setCell ⟨q, 5, none⟩ (.int .i64 m.flags)).setCell ⟨q, 6, none⟩ (.int .i64 m.seq)) →
      Blk V2 q 44 (cOrd m) ∧ Below W.heap.size W V2 ∧ Frm (fun c => c = q) V V2 := by
  refine ⟨Ord.cells hBx, hBx.free, ?_⟩
  rintro V2 rfl
  exact ⟨Ord.lay hBx _ _ _ _ _ _ _, Ord.below hb hq _ _ _ _ _ _ _, Ord.frm (S := fun c => c = q) (Frm.refl _ V) (.inl rfl) _ _ _ _ _ _ _⟩
theorem ordRes0 {z : Ord} {V : World} {q : Nat} (hBx : Blk V q 44 (cOrd z)) (m : Ord) :
    (V.cell? ⟨q, 0, none⟩ = some (.int .i64 z.id) ∧ V.cell? ⟨q, 1, none⟩ = some (.int .i64 z.owner) ∧ V.cell? ⟨q, 2, none⟩ = some (.int .i64 z.side) ∧ V.cell? ⟨q, 3, none⟩ = some (.int .i64 z.price) ∧ V.cell? ⟨q, 4, none⟩ = some (.int .i64 z.qty) ∧ V.cell? ⟨q, 5, none⟩ = some (.int .i64 z.flags) ∧ V.cell? ⟨q, 6, none⟩ = some (.int .i64 z.seq)) ∧ (∀ i, V.frozen? ⟨q, i, none⟩ = false) ∧
    ∀ V2, V2 = (((((((V.setCell ⟨q, 0, none⟩ (.int .i64 m.id)).setCell ⟨q, 1, none⟩ (.int .i64 m.owner)).setCell ⟨q, 2, none⟩ (.int .i64 m.side)).setCell ⟨q, 3, none⟩ (.int .i64 m.price)).setCell ⟨q, 4, none⟩ (.int .i64 m.qty)).setCell ⟨q, 5, none⟩ (.int .i64 m.flags)).setCell ⟨q, 6, none⟩ (.int .i64 m.seq)) → Blk V2 q 44 (cOrd m) ∧ Frm (fun c => c = q) V V2 := by
  refine ⟨Ord.cells hBx, hBx.free, ?_⟩
  rintro V2 rfl
  exact ⟨Ord.lay hBx _ _ _ _ _ _ _, Ord.frm (S := fun c => c = q) (Frm.refl _ V) (.inl rfl) _ _ _ _ _ _ _⟩
end
end Go.Proofs.YtdmjcjheanedgaaDoor
namespace Go.Proofs.YtdmjcjheanedgaaDoor
open Go.RowKit
def ptr (g : Nat) : Value := .pointer (some ⟨g, 0, none⟩)
def cBook (lv ga gf gx g0 g1 : Nat) : Array Value := #[ptr ga, ptr g0, .int .i64 0, ptr g1, .int .i64 (lv : Int), ptr gf, ptr gx]
structure PbB (w : World) (g : Nat) (S : Nat → Prop) (k : Nat) (b : Bk) (ga gf gx g0 g1 : Nat) (Sf Sx S1 S2 : Nat → Prop) (Z : List (Nat × Ord)) (a : Ar) (x : List Ixr) (f : Fq) (d : Int → Ld) : Prop where
  blk : Blk w g 77 (cBook b.levels ga gf gx g0 g1)
  p : P5 w ga gf gx g0 g1 Sf Sx S1 S2 k a x f d
  rl : Rl b Z a x f d
  two : 2 ≤ g
  gn : ∀ i, ¬ own5 ga Sf Sx S1 S2 i g
  own : S = fun c => c = g ∨ ∃ i, own5 ga Sf Sx S1 S2 i c
def PB (w : World) (g : Nat) (S : Nat → Prop) (k : Nat) (b : Bk) : Prop := ∃ ga gf gx g0 g1 Sf Sx S1 S2 Z a x f d, PbB w g S k b ga gf gx g0 g1 Sf Sx S1 S2 Z a x f d
section
variable {w w' W : World} {g k : Nat} {S T : Nat → Prop} {b : Bk}
theorem PB.frm (h : PB w g S k b) (hf : Frm T w w') (hT : ∀ c, T c → ¬ S c) (h2 : ∀ c, T c → 2 ≤ c) : PB w' g S k b := by
  obtain ⟨ga, gf, gx, g0, g1, Sf, Sx, S1, S2, Z, a, x, f, d, h⟩ := h
  have ho := h.own
  refine ⟨ga, gf, gx, g0, g1, Sf, Sx, S1, S2, Z, a, x, f, d, (hf.block g h.blk.lt (fun e => hT g e (by rw [ho]; exact .inl rfl))).trans h.blk, h.p.frm hf (fun c e => ⟨h2 c e, fun i e' => hT c e (by rw [ho]; exact .inr ⟨i, e'⟩)⟩), h.rl, h.two, h.gn, h.own⟩
theorem PB.below (h : PB w g S k b) (hb : Below w.heap.size w w') : PB w' g S k b := h.frm (Frm.of_below (S := fun _ => False) hb) (fun _ e => e.elim) (fun _ e => e.elim)
theorem PB.lt (h : PB w g S k b) : ∀ c, S c → c < w.heap.size := by
  obtain ⟨ga, gf, gx, g0, g1, Sf, Sx, S1, S2, Z, a, x, f, d, h⟩ := h
  rw [h.own]
  rintro c (rfl | ⟨i, e⟩)
  · exact h.blk.lt
  · exact h.p.lt i c e
theorem PB.sg (h : PB w g S k b) : S g := by
  obtain ⟨ga, gf, gx, g0, g1, Sf, Sx, S1, S2, Z, a, x, f, d, h⟩ := h
  rw [h.own]
  exact .inl rfl
theorem PB.gl (h : PB w g S k b) : Gl w := by
  obtain ⟨ga, gf, gx, g0, g1, Sf, Sx, S1, S2, Z, a, x, f, d, h⟩ := h
  exact h.p.gl
theorem PB.ok (h : PB w g S k b) : b.Ok := by
  obtain ⟨ga, gf, gx, g0, g1, Sf, Sx, S1, S2, Z, a, x, f, d, h⟩ := h
  exact h.rl.ok
theorem PB.mono (h : PB w g S k b) {m : Nat} (hk : k ≤ m) : PB w g S m b := by
  obtain ⟨ga, gf, gx, g0, g1, Sf, Sx, S1, S2, Z, a, x, f, d, h⟩ := h
  exact ⟨ga, gf, gx, g0, g1, Sf, Sx, S1, S2, Z, a, x, f, d, h.blk, ⟨h.p.ar, h.p.fi, h.p.ix.mono hk, h.p.l0, h.p.l1, h.p.dj, h.p.two⟩, h.rl, h.two, h.gn, h.own⟩
/-- How a walk begins, and how it ends. -/
theorem PB.open (h : PB W g S k b) : ∃ ga gf gx g0 g1 Z a x f d So, Blk W g 77 (cBook b.levels ga gf gx g0 g1) ∧ Rl b Z a x f d ∧ Bs W So ga gf gx g0 g1 k a x f d W ∧
    (∀ w', Frm So W w' → Blk w' g 77 (cBook b.levels ga gf gx g0 g1)) ∧
    ∀ w' k' b' Z' a' x' f' d', Bs W So ga gf gx g0 g1 k' a' x' f' d' w' → Rl b' Z' a' x' f' d' → b'.levels = b.levels → (∃ S', PB w' g S' k' b' ∧ ∀ c, S' c → S c ∨ W.heap.size ≤ c) ∧ Frm S W w' := by
  obtain ⟨ga, gf, gx, g0, g1, Sf, Sx, S1, S2, Z, a, x, f, d, h⟩ := h
  have ho := h.own
  have hblk : ∀ w', Frm (fun c => ∃ i, own5 ga Sf Sx S1 S2 i c) W w' → Blk w' g 77 (cBook b.levels ga gf gx g0 g1) := fun w' hf => (hf.block g h.blk.lt (fun ⟨i, e⟩ => h.gn i e)).trans h.blk
  refine ⟨ga, gf, gx, g0, g1, Z, a, x, f, d, fun c => ∃ i, own5 ga Sf Sx S1 S2 i c, h.blk, h.rl, ⟨Frm.refl _ _, Sf, Sx, S1, S2, h.p, fun i c e => .inl ⟨i, e⟩⟩, hblk, ?_⟩
  intro w' k' b' Z' a' x' f' d' hB hR hl
  obtain ⟨Sf', Sx', S1', S2', hp, hS⟩ := hB.p
  refine ⟨⟨_, ⟨ga, gf, gx, g0, g1, Sf', Sx', S1', S2', Z', a', x', f', d', by rw [hl]; exact hblk w' hB.frm, hp, hR, h.two, fun i e => ?_, rfl⟩, ?_⟩, ?_⟩
  · rcases hS i g e with ⟨j, e'⟩ | e'
    · exact h.gn j e'
    · have := h.blk.lt; omega
  · rintro c (rfl | ⟨i, e⟩)
    · exact .inl (by rw [ho]; exact .inl rfl)
    · rcases hS i c e with e' | e'
      · exact .inl (by rw [ho]; exact .inr e')
      · exact .inr e'
  · have hf := hB.frm
    exact hf.mono fun c _ e => by rw [ho]; exact .inr e
/-- One that only asks. -/
theorem PB.ask {f0 : FuncId} {args : Array Value} {v : Value} (h : PB W g S k b) (hc : ∀ ga gf gx g0 g1 Z a x f d So, Blk W g 77 (cBook b.levels ga gf gx g0 g1) → Rl b Z a x f d → Bs W So ga gf gx g0 g1 k a x f d W →
    (∀ w', Frm So W w' → Blk w' g 77 (cBook b.levels ga gf gx g0 g1)) → Calls Tryd.prog f0 args W fun e w' => e = .returned v ∧ Below W.heap.size W w') : Calls Tryd.prog f0 args W fun e w' => e = .returned v ∧ Below W.heap.size W w' := by
  obtain ⟨ga, gf, gx, g0, g1, Z, a, x, f, d, So, h1, h2, h3, h4, -⟩ := h.open
  exact hc _ _ _ _ _ _ _ _ _ _ _ h1 h2 h3 h4
set_option maxRecDepth 8000 in
theorem pb_len (h : PB W g S k b) : Calls Tryd.prog 26 #[.pointer (some ⟨g, 0, none⟩)] W fun e w' => e = .returned (.int .i64 (b.L.length : Nat)) ∧ Below W.heap.size W w' := by
  refine h.ask fun ga gf gx g0 g1 Z a x f d So h1 h2 h3 h4 => ?_
  have cU := h3.used
  rw [h2.ar.used, ← h2.len] at cU
  have c0 : W.cell? ⟨g, 0, none⟩ = some (.pointer (some ⟨ga, 0, none⟩)) := h1.cell_eq 0 _ rfl
  go_enter Tryd.func26, Tryd.ntmps26
  go_wp2_with (go_at_call 49; refine cU.mono ?_; rintro e w' ⟨rfl, rfl⟩)
  go_ret
  exact ⟨rfl, Below.refl _ _⟩
theorem ordBox (W : World) (o : Ord) : ∃ V, V = W.alloc (.cells (cOrd o) 44) ∧ Below W.heap.size W V ∧ Blk V W.heap.size 44 (cOrd o) := ⟨_, rfl, (Below.refl _ _).alloc (Nat.le_refl _) _, Blk.new _ _ _⟩
/-- What Get has laid in its result's box. -/
theorem ordOut {W w : World} {q : Nat} {z : Ord} (hB : Blk w q 44 (cOrd z)) (hq : W.heap.size ≤ q) (hb : Below W.heap.size W w) (m : Ord) : ∃ V, V = (((((((w.setCell ⟨q, 0, none⟩ (.int .i64 m.id)).setCell ⟨q, 1, none⟩ (.int .i64 m.owner)).setCell ⟨q, 2, none⟩ (.int .i64 m.side)).setCell ⟨q, 3, none⟩ (.int .i64 m.price)).setCell ⟨q, 4, none⟩ (.int .i64 m.qty)).setCell ⟨q, 5, none⟩ (.int .i64 m.flags)).setCell ⟨q, 6, none⟩ (.int .i64 m.seq)) ∧
    (∀ i, w.frozen? ⟨q, i, none⟩ = false) ∧ (w.cell? ⟨q, 0, none⟩ = some (.int .i64 z.id) ∧ w.cell? ⟨q, 1, none⟩ = some (.int .i64 z.owner) ∧ w.cell? ⟨q, 2, none⟩ = some (.int .i64 z.side) ∧ w.cell? ⟨q, 3, none⟩ = some (.int .i64 z.price) ∧ w.cell? ⟨q, 4, none⟩ = some (.int .i64 z.qty) ∧ w.cell? ⟨q, 5, none⟩ = some (.int .i64 z.flags) ∧ w.cell? ⟨q, 6, none⟩ = some (.int .i64 z.seq)) ∧
    Blk V q 44 (cOrd m) ∧ Below W.heap.size W V := by
  obtain ⟨h1, h2, h3⟩ := ordRes hB hq hb m
  obtain ⟨h4, h5, -⟩ := h3 _ rfl
  exact ⟨_, rfl, h2, h1, h4, h5⟩
/-- What a half's box holds behind its store. -/
theorem halfOut {W w : World} {q : Nat} {u v : Value} (hB : Blk w q 73 #[u, v]) (hq : W.heap.size ≤ q) (hb : Below W.heap.size W w) (x y : Value) : ∃ V, V = (w.setCell ⟨q, 0, none⟩ x).setCell ⟨q, 1, none⟩ y ∧
    (∀ i, w.frozen? ⟨q, i, none⟩ = false) ∧ (w.cell? ⟨q, 0, none⟩ = some u ∧ w.cell? ⟨q, 1, none⟩ = some v) ∧ Blk V q 73 #[x, y] ∧ Below W.heap.size W V :=
  ⟨_, rfl, hB.free, ⟨hB.cell_eq 0 _ rfl, hB.cell_eq 1 _ rfl⟩, hB.set2 x y, (hb.setCell (p := ⟨q, 0, none⟩) hq _).setCell (p := ⟨q, 1, none⟩) hq _⟩
theorem halfBox (W : World) : ∃ V, V = W.alloc (.cells #[.pointer none, .int .i64 0] 73) ∧ Below W.heap.size W V ∧ Blk V W.heap.size 73 #[.pointer none, .int .i64 0] := ⟨_, rfl, (Below.refl _ _).alloc (Nat.le_refl _) _, Blk.new _ _ _⟩
theorem isside_any (s : Int) (W : World) : Calls Tryd.prog 54 #[.int .i64 s] W fun e w' => e = .returned (.bool (decide (s = 0 ∨ s = 1))) ∧ w' = W := by
  by_cases h0 : s = 0
  · subst h0
    go_enter Tryd.func54, Tryd.ntmps54
    go_wp2_with fail
    all_goals go_ret
    all_goals exact ⟨by simp, rfl⟩
  · have d0 : (s == 0) = false := by simpa using h0
    by_cases h1 : s = 1
    · subst h1
      go_enter Tryd.func54, Tryd.ntmps54
      go_wp2_with fail
      all_goals go_ret
      all_goals exact ⟨by simp, rfl⟩
    · have d1 : (s == 1) = false := by simpa using h1
      rw [decide_eq_false (by omega)]
      go_enter Tryd.func54, Tryd.ntmps54
      go_wp2_with fail
      all_goals go_ret
      all_goals exact ⟨by simp, rfl⟩
set_option maxRecDepth 8000 in
theorem key_any (z : Int) (W : World) : Calls Tryd.prog 42 #[.int .i64 z] W fun e w' => e = .returned (vKey 0 z) ∧ Below W.heap.size W w' := by
  have hbB : Below W.heap.size W (W.alloc (.cells #[.int .i64 0, .int .i64 z] 91)) := (Below.refl _ _).alloc (Nat.le_refl _) _
  have hBV : Blk (W.alloc (.cells #[.int .i64 0, .int .i64 z] 91)) W.heap.size 91 #[.int .i64 0, .int .i64 z] := Blk.new _ _ _
  have u0 := hBV.cell_eq 0 _ rfl
  have u1 := hBV.cell_eq 1 _ rfl
  go_enter Tryd.func42, Tryd.ntmps42
  go_wp2_with fail
  refine bodyPost_ret (v := vKey 0 z) ?_ rfl ⟨rfl, hbB⟩
  simp [results, Tryd.results42, go_sem, u0, u1, vKey]
set_option maxRecDepth 8000 in
theorem half_yes {lv ga gf gx g0 g1 : Nat} (s : Int) (hs : s = 0 ∨ s = 1) (hB : Blk W g 77 (cBook lv ga gf gx g0 g1)) :
    Calls Tryd.prog 38 #[.pointer (some ⟨g, 0, none⟩), .int .i64 s] W fun e w' => e = .returned (.agg #[.pointer (some ⟨gsd g0 g1 s, 0, none⟩), .int .i64 (bq lv s)]) ∧ Below W.heap.size W w' := by
  obtain ⟨V, hV, hbV, hBV⟩ := halfBox W
  have cI := isside_any s V
  rw [decide_eq_true hs] at cI
  have hb1 := hB.below hbV hB.lt
  obtain ⟨z0, z1⟩ : V.cell? ⟨W.heap.size, 0, none⟩ = some (.pointer none) ∧ V.cell? ⟨W.heap.size, 1, none⟩ = some (.int .i64 0) := ⟨hBV.cell_eq 0 _ rfl, hBV.cell_eq 1 _ rfl⟩
  have c1 : V.cell? ⟨g, 1, none⟩ = some (.pointer (some ⟨g0, 0, none⟩)) := hb1.cell_eq 1 _ rfl
  have c2 : V.cell? ⟨g, 2, none⟩ = some (.int .i64 0) := hb1.cell_eq 2 _ rfl
  have c3 : V.cell? ⟨g, 3, none⟩ = some (.pointer (some ⟨g1, 0, none⟩)) := hb1.cell_eq 3 _ rfl
  have c4 : V.cell? ⟨g, 4, none⟩ = some (.int .i64 (lv : Int)) := hb1.cell_eq 4 _ rfl
  obtain ⟨V2, hV2, hfr, -, hB2, hb2⟩ := halfOut hBV (Nat.le_refl _) hbV (.pointer (some ⟨gsd g0 g1 s, 0, none⟩)) (.int .i64 (bq lv s))
  have u0 := hB2.cell_eq 0 _ rfl
  have u1 := hB2.cell_eq 1 _ rfl
  clear hB hb1 hBV hB2
  rcases hs with rfl | rfl
  all_goals
    simp only [gsd, bq, if_true, if_false, Int.one_ne_zero] at hV2 u0 u1 ⊢
    go_enter Tryd.func38, Tryd.ntmps38
    go_wp2_with (first
      | (rw [← hV]; clear hV)
      | (go_at_call 54; refine cI.mono ?_; rintro e w1 ⟨rfl, rfl⟩; clear cI)
      | (rw [← hV2]; clear hV2)
      | fail)
    refine bodyPost_ret ?_ rfl ⟨rfl, hb2⟩
    simp [results, Tryd.results38, go_sem, u0, u1]
set_option maxRecDepth 8000 in
theorem half_no (s : Int) (hs : ¬ (s = 0 ∨ s = 1)) (g : Nat) (W : World) :
    Calls Tryd.prog 38 #[.pointer (some ⟨g, 0, none⟩), .int .i64 s] W fun e w' => e = .returned (.agg #[.pointer none, .int .i64 0]) ∧ Below W.heap.size W w' := by
  obtain ⟨V, hV, hbV, hBV⟩ := halfBox W
  have cI := isside_any s V
  rw [decide_eq_false hs] at cI
  obtain ⟨z0, z1⟩ : V.cell? ⟨W.heap.size, 0, none⟩ = some (.pointer none) ∧ V.cell? ⟨W.heap.size, 1, none⟩ = some (.int .i64 0) := ⟨hBV.cell_eq 0 _ rfl, hBV.cell_eq 1 _ rfl⟩
  obtain ⟨V2, hV2, hfr, -, hB2, hb2⟩ := halfOut hBV (Nat.le_refl _) hbV (.pointer none) (.int .i64 0)
  have u0 := hB2.cell_eq 0 _ rfl
  have u1 := hB2.cell_eq 1 _ rfl
  clear hBV hB2 hs
  go_enter Tryd.func38, Tryd.ntmps38
  go_wp2_with (first
    | (rw [← hV]; clear hV)
    | (go_at_call 54; refine cI.mono ?_; rintro e w1 ⟨rfl, rfl⟩; clear cI)
    | (rw [← hV2]; clear hV2)
    | fail)
  refine bodyPost_ret ?_ rfl ⟨rfl, hb2⟩
  simp [results, Tryd.results38, go_sem, u0, u1]
set_option maxRecDepth 8000 in
theorem half_nil (s : Int) (W : World) :
    Calls Tryd.prog 38 #[.pointer none, .int .i64 s] W fun e w' => e = .returned (.agg #[.pointer none, .int .i64 0]) ∧ Below W.heap.size W w' := by
  obtain ⟨V, hV, hbV, hBV⟩ := halfBox W
  obtain ⟨z0, z1⟩ : V.cell? ⟨W.heap.size, 0, none⟩ = some (.pointer none) ∧ V.cell? ⟨W.heap.size, 1, none⟩ = some (.int .i64 0) := ⟨hBV.cell_eq 0 _ rfl, hBV.cell_eq 1 _ rfl⟩
  obtain ⟨V2, hV2, hfr, -, hB2, hb2⟩ := halfOut hBV (Nat.le_refl _) hbV (.pointer none) (.int .i64 0)
  have u0 := hB2.cell_eq 0 _ rfl
  have u1 := hB2.cell_eq 1 _ rfl
  clear hBV hB2
  go_enter Tryd.func38, Tryd.ntmps38
  go_wp2_with (first
    | (rw [← hV]; clear hV)
    | (rw [← hV2]; clear hV2)
    | fail)
  refine bodyPost_ret ?_ rfl ⟨rfl, hb2⟩
  simp [results, Tryd.results38, go_sem, u0, u1]
end
end Go.Proofs.YtdmjcjheanedgaaDoor
namespace Go.Proofs.YtdmjcjheanedgaaDoor
open Go.RowKit
set_option linter.unusedSimpArgs false
section
variable {w w' W : World} {g k lv ga gf gx g0 g1 : Nat} {S T So : Nat → Prop} {b : Bk} {a : Ar} {x : List Ixr} {f : Fq} {d : Int → Ld}
/-- The five as they stand. -/
theorem Bs.here {W0 : World} {S0 : Nat → Prop} (h : Bs W0 S0 ga gf gx g0 g1 k a x f d w) (hb : Below w.heap.size w w') : Bs w' (fun c => S0 c ∨ W0.heap.size ≤ c) ga gf gx g0 g1 k a x f d w' := by
  obtain ⟨Sf, Sx, S1, S2, h1, h2⟩ := h.p
  exact ⟨Frm.refl _ _, Sf, Sx, S1, S2, h1.below hb, fun i c e => .inl (h2 i c e)⟩
set_option maxRecDepth 20000 in
set_option maxHeartbeats 2000000 in
theorem find_no (id : Int) (hd : In64 id) (hB : Blk W g 77 (cBook lv ga gf gx g0 g1)) (hb : Bs W So ga gf gx g0 g1 k a x f d W) (hx : ixg x 0 id = none) :
    Calls Tryd.prog 50 #[.pointer (some ⟨g, 0, none⟩), .int .i64 id] W fun e w' => e = .returned (.tuple #[.int .i64 0, vOrd .zero, .bool false]) ∧ Below W.heap.size W w' := by
  obtain ⟨V, hV, hbV, hBV⟩ := ordBox W .zero
  have hb1 := hB.below hbV hB.lt
  have hs := hb.below hbV
  have cX : ∀ w, Below V.heap.size V w → Calls Tryd.prog 66 #[.pointer (some ⟨gx, 0, none⟩), .agg #[.int .i64 0, .int .i64 id]] w fun e w' => e = .returned (.tuple #[.int .i64 ((ixg x 0 id).getD 0), .bool (ixg x 0 id).isSome]) ∧ Below w.heap.size w w' := fun w h => (hs.below h).xget (y := 0) (z := id) (by unfold In64; omega) hd
  rw [hx] at cX
  have hdone : ∀ w, Below V.heap.size V w → (w.cell? ⟨W.heap.size, 0, none⟩ = some (.int .i64 0) ∧ w.cell? ⟨W.heap.size, 1, none⟩ = some (.int .i64 0) ∧ w.cell? ⟨W.heap.size, 2, none⟩ = some (.int .i64 0) ∧ w.cell? ⟨W.heap.size, 3, none⟩ = some (.int .i64 0) ∧ w.cell? ⟨W.heap.size, 4, none⟩ = some (.int .i64 0) ∧ w.cell? ⟨W.heap.size, 5, none⟩ = some (.int .i64 0) ∧ w.cell? ⟨W.heap.size, 6, none⟩ = some (.int .i64 0)) ∧ Below W.heap.size W w ∧ Blk w W.heap.size 44 (cOrd .zero) := fun w hb => ⟨Ord.cells (m := .zero) (hBV.below hb hBV.lt), hbV.trans (hb.mono hbV.size), hBV.below hb hBV.lt⟩
  simp only [Option.getD_none, Option.isSome_none] at cX
  simp only [vOrd, Ord.zero]
  simp only [Ord.zero, cOrd] at hV
  clear hb hs hB hBV
  go_enter Tryd.func50, Tryd.ntmps50
  go_wp2_with (first
    | (rw [← hV]; clear hV)
    | fail)
  refine wp_region_S (S := fun _ w => Below V.heap.size V w) (by kernel_rfl) ((Below.refl _ _).drew) ?_
  refine AllS.next (v := ?_) rfl rfl rfl (by kernel_rfl) ?_ ?_
  rotate_left
  · refine yieldsS_run (fun _ _ h => h) (by rfl) ?_
    intro L wx hS
    go_simp
    try with_reducible rfl
  try simp only [Act.put, List.setIfInBounds_toArray, List.set_cons_zero, List.set_cons_succ, List.getElem_toArray, List.getElem_cons_zero, List.getElem_cons_succ]
  refine AllS.next (v := ?_) rfl rfl rfl (by kernel_rfl) ?_ ?_
  rotate_left
  · refine yieldsS_run (fun _ _ h => h) (by rfl) ?_
    intro L wx hS
    go_simp
    try with_reducible rfl
  try simp only [Act.put, List.setIfInBounds_toArray, List.set_cons_zero, List.set_cons_succ, List.getElem_toArray, List.getElem_cons_zero, List.getElem_cons_succ]
  refine AllS.next (v := ?_) rfl rfl rfl (by kernel_rfl) ?_ ?_
  rotate_left
  · refine yieldsS_run (fun _ _ h => h) (by rfl) ?_
    intro L wx hS
    go_simp
    try with_reducible rfl
  try simp only [Act.put, List.setIfInBounds_toArray, List.set_cons_zero, List.set_cons_succ, List.getElem_toArray, List.getElem_cons_zero, List.getElem_cons_succ]
  refine AllS.next (v := ?_) rfl rfl rfl (by kernel_rfl) ?_ ?_
  rotate_left
  · refine yieldsS_run (fun _ _ h => h) (by rfl) ?_
    intro L wx hS
    have c6 : wx.cell? ⟨g, 6, none⟩ = some (.pointer (some ⟨gx, 0, none⟩)) := (hb1.below hS hb1.lt).cell_eq 6 _ rfl
    go_simp
    try with_reducible rfl
  try simp only [Act.put, List.setIfInBounds_toArray, List.set_cons_zero, List.set_cons_succ, List.getElem_toArray, List.getElem_cons_zero, List.getElem_cons_succ]
  refine AllS.next (v := ?_) rfl rfl rfl (by kernel_rfl) ?_ ?_
  rotate_left
  · refine yieldsS_run (fun _ _ h => h) (by rfl) ?_
    intro L wx hS
    go_simp
    try with_reducible rfl
  try simp only [Act.put, List.setIfInBounds_toArray, List.set_cons_zero, List.set_cons_succ, List.getElem_toArray, List.getElem_cons_zero, List.getElem_cons_succ]
  refine AllS.next (v := .agg #[.int .i64 0, .int .i64 id]) rfl rfl rfl (by kernel_rfl) ?_ ?_
  · refine yieldsS_call (f := 42) (args := #[.int .i64 id]) (by rfl) ?_ ?_
    · intro wx
      go_simp
      try with_reducible rfl
    · intro L wx hS
      exact (key_any id wx).mono fun e w h => ⟨h.1, hS.trans (h.2.mono hS.size)⟩
  try simp only [Act.put, List.setIfInBounds_toArray, List.set_cons_zero, List.set_cons_succ, List.getElem_toArray, List.getElem_cons_zero, List.getElem_cons_succ]
  refine AllS.next (v := .tuple #[.int .i64 0, .bool false]) rfl rfl rfl (by kernel_rfl) ?_ ?_
  · refine yieldsS_call (f := 66) (args := #[.pointer (some ⟨gx, 0, none⟩), .agg #[.int .i64 0, .int .i64 id]]) (by rfl) ?_ ?_
    · intro wx
      go_simp
      try with_reducible rfl
    · intro L wx hS
      exact (cX wx hS).mono fun e w h => ⟨h.1, hS.trans (h.2.mono hS.size)⟩
  try simp only [Act.put, List.setIfInBounds_toArray, List.set_cons_zero, List.set_cons_succ, List.getElem_toArray, List.getElem_cons_zero, List.getElem_cons_succ]
  refine AllS.next (v := ?_) rfl rfl rfl (by kernel_rfl) ?_ ?_
  rotate_left
  · refine yieldsS_run (fun _ _ h => h) (by rfl) ?_
    intro L wx hS
    go_simp
    try with_reducible rfl
  try simp only [Act.put, List.setIfInBounds_toArray, List.set_cons_zero, List.set_cons_succ, List.getElem_toArray, List.getElem_cons_zero, List.getElem_cons_succ]
  refine AllS.next (v := ?_) rfl rfl rfl (by kernel_rfl) ?_ ?_
  rotate_left
  · refine yieldsS_run (fun _ _ h => h) (by rfl) ?_
    intro L wx hS
    go_simp
    try with_reducible rfl
  try simp only [Act.put, List.setIfInBounds_toArray, List.set_cons_zero, List.set_cons_succ, List.getElem_toArray, List.getElem_cons_zero, List.getElem_cons_succ]
  refine AllS.next (v := ?_) rfl rfl rfl (by kernel_rfl) ?_ ?_
  rotate_left
  · refine yieldsS_run (fun _ _ h => h) (by rfl) ?_
    intro L wx hS
    go_simp
    try with_reducible rfl
  try simp only [Act.put, List.setIfInBounds_toArray, List.set_cons_zero, List.set_cons_succ, List.getElem_toArray, List.getElem_cons_zero, List.getElem_cons_succ]
  refine AllS.next (v := ?_) rfl rfl rfl (by kernel_rfl) ?_ ?_
  rotate_left
  · refine yieldsS_run (fun _ _ h => h) (by rfl) ?_
    intro L wx hS
    go_simp
    try with_reducible rfl
  try simp only [Act.put, List.setIfInBounds_toArray, List.set_cons_zero, List.set_cons_succ, List.getElem_toArray, List.getElem_cons_zero, List.getElem_cons_succ]
  refine AllS.next (v := ?_) rfl rfl rfl (by kernel_rfl) ?_ ?_
  rotate_left
  · refine yieldsS_run (fun _ _ h => h) (by rfl) ?_
    intro L wx hS
    go_simp
    try with_reducible rfl
  try simp only [Act.put, List.setIfInBounds_toArray, List.set_cons_zero, List.set_cons_succ, List.getElem_toArray, List.getElem_cons_zero, List.getElem_cons_succ]
  refine AllS.done rfl ?_
  intro w9 hS9
  obtain ⟨⟨y0, y1, y2, y3, y4, y5, y6⟩, hbw, hBw⟩ := hdone _ hS9
  obtain ⟨V2, hV2, hfr, -, hB2, hb2⟩ := ordOut hBw (Nat.le_refl _) hbw .zero
  obtain ⟨u0, u1, u2, u3, u4, u5, u6⟩ := Ord.cells hB2
  simp only [Ord.zero] at hV2 u0 u1 u2 u3 u4 u5 u6
  go_wp2_with (first
    | (rw [← hV2]; clear hV2)
    | fail)
  refine bodyPost_ret (v := .tuple #[.int .i64 0, .agg #[.int .i64 0, .int .i64 0, .int .i64 0, .int .i64 0, .int .i64 0, .int .i64 0, .int .i64 0], .bool false]) ?_ rfl ⟨rfl, hb2⟩
  simp [results, Tryd.results50, go_sem, u0, u1, u2, u3, u4, u5, u6]
set_option maxRecDepth 20000 in
set_option maxHeartbeats 2000000 in
theorem find_yes (id : Int) (hd : In64 id) (hB : Blk W g 77 (cBook lv ga gf gx g0 g1)) (hb : Bs W So ga gf gx g0 g1 k a x f d W) {i : Nat} {o : Ord} (hx : ixg x 0 id = some (i : Int)) (ha : a.has i = true) (ho : a.O[i]? = some o) :
    Calls Tryd.prog 50 #[.pointer (some ⟨g, 0, none⟩), .int .i64 id] W fun e w' => e = .returned (.tuple #[.int .i64 (i : Int), vOrd o, .bool true]) ∧ Below W.heap.size W w' := by
  obtain ⟨V, hV, hbV, hBV⟩ := ordBox W .zero
  have hb1 := hB.below hbV hB.lt
  have hs := hb.below hbV
  have cX : ∀ w, Below V.heap.size V w → Calls Tryd.prog 66 #[.pointer (some ⟨gx, 0, none⟩), .agg #[.int .i64 0, .int .i64 id]] w fun e w' => e = .returned (.tuple #[.int .i64 ((ixg x 0 id).getD 0), .bool (ixg x 0 id).isSome]) ∧ Below w.heap.size w w' := fun w h => (hs.below h).xget (y := 0) (z := id) (by unfold In64; omega) hd
  rw [hx] at cX
  have hdone : ∀ w, Below V.heap.size V w → (w.cell? ⟨W.heap.size, 0, none⟩ = some (.int .i64 0) ∧ w.cell? ⟨W.heap.size, 1, none⟩ = some (.int .i64 0) ∧ w.cell? ⟨W.heap.size, 2, none⟩ = some (.int .i64 0) ∧ w.cell? ⟨W.heap.size, 3, none⟩ = some (.int .i64 0) ∧ w.cell? ⟨W.heap.size, 4, none⟩ = some (.int .i64 0) ∧ w.cell? ⟨W.heap.size, 5, none⟩ = some (.int .i64 0) ∧ w.cell? ⟨W.heap.size, 6, none⟩ = some (.int .i64 0)) ∧ Below W.heap.size W w ∧ Blk w W.heap.size 44 (cOrd .zero) := fun w hb => ⟨Ord.cells (m := .zero) (hBV.below hb hBV.lt), hbV.trans (hb.mono hbV.size), hBV.below hb hBV.lt⟩
  have cG : ∀ w, Below V.heap.size V w → Calls Tryd.prog 67 #[.pointer (some ⟨ga, 0, none⟩), .int .i64 (i : Int)] w fun e w' => e = .returned (.tuple #[vOrd o, .bool true]) ∧ Below V.heap.size V w' := fun w h => ((hs.below h).get ha ho).mono fun e w' ⟨he, hb'⟩ => ⟨he, h.trans (hb'.mono h.size)⟩
  have hc0 : ∀ w, Below V.heap.size V w → w.cell? ⟨g, 0, none⟩ = some (.pointer (some ⟨ga, 0, none⟩)) := fun w hb => (hb1.below hb hb1.lt).cell_eq 0 _ rfl
  have hnx : ∀ w, Below V.heap.size V w → ∃ V3, V3 = w.alloc (.cells (cOrd o) 44) ∧ Below V.heap.size V V3 ∧ Blk V3 w.heap.size 44 (cOrd o) := fun w h => by
    obtain ⟨V3, h1, h2, h3⟩ := ordBox w o
    exact ⟨V3, h1, h.trans (h2.mono h.size), h3⟩
  have hVs := hBV.lt
  simp only [Option.getD_some, Option.isSome_some] at cX
  simp only [Ord.zero, cOrd] at hV
  obtain ⟨o0, o1, o2, o3, o4, o5, o6⟩ := o
  simp only [vOrd] at cG
  simp only [vOrd]
  clear hb hs hB hBV ha ho
  go_enter Tryd.func50, Tryd.ntmps50
  go_wp2_with (first
    | (rw [← hV]; clear hV)
    | fail)
  refine wp_region_S (S := fun _ w => Below V.heap.size V w) (by kernel_rfl) ((Below.refl _ _).drew) ?_
  refine AllS.next (v := ?_) rfl rfl rfl (by kernel_rfl) ?_ ?_
  rotate_left
  · refine yieldsS_run (fun _ _ h => h) (by rfl) ?_
    intro L wx hS
    go_simp
    try with_reducible rfl
  try simp only [Act.put, List.setIfInBounds_toArray, List.set_cons_zero, List.set_cons_succ, List.getElem_toArray, List.getElem_cons_zero, List.getElem_cons_succ]
  refine AllS.next (v := ?_) rfl rfl rfl (by kernel_rfl) ?_ ?_
  rotate_left
  · refine yieldsS_run (fun _ _ h => h) (by rfl) ?_
    intro L wx hS
    go_simp
    try with_reducible rfl
  try simp only [Act.put, List.setIfInBounds_toArray, List.set_cons_zero, List.set_cons_succ, List.getElem_toArray, List.getElem_cons_zero, List.getElem_cons_succ]
  refine AllS.next (v := ?_) rfl rfl rfl (by kernel_rfl) ?_ ?_
  rotate_left
  · refine yieldsS_run (fun _ _ h => h) (by rfl) ?_
    intro L wx hS
    go_simp
    try with_reducible rfl
  try simp only [Act.put, List.setIfInBounds_toArray, List.set_cons_zero, List.set_cons_succ, List.getElem_toArray, List.getElem_cons_zero, List.getElem_cons_succ]
  refine AllS.next (v := ?_) rfl rfl rfl (by kernel_rfl) ?_ ?_
  rotate_left
  · refine yieldsS_run (fun _ _ h => h) (by rfl) ?_
    intro L wx hS
    have c6 : wx.cell? ⟨g, 6, none⟩ = some (.pointer (some ⟨gx, 0, none⟩)) := (hb1.below hS hb1.lt).cell_eq 6 _ rfl
    go_simp
    try with_reducible rfl
  try simp only [Act.put, List.setIfInBounds_toArray, List.set_cons_zero, List.set_cons_succ, List.getElem_toArray, List.getElem_cons_zero, List.getElem_cons_succ]
  refine AllS.next (v := ?_) rfl rfl rfl (by kernel_rfl) ?_ ?_
  rotate_left
  · refine yieldsS_run (fun _ _ h => h) (by rfl) ?_
    intro L wx hS
    go_simp
    try with_reducible rfl
  try simp only [Act.put, List.setIfInBounds_toArray, List.set_cons_zero, List.set_cons_succ, List.getElem_toArray, List.getElem_cons_zero, List.getElem_cons_succ]
  refine AllS.next (v := .agg #[.int .i64 0, .int .i64 id]) rfl rfl rfl (by kernel_rfl) ?_ ?_
  · refine yieldsS_call (f := 42) (args := #[.int .i64 id]) (by rfl) ?_ ?_
    · intro wx
      go_simp
      try with_reducible rfl
    · intro L wx hS
      exact (key_any id wx).mono fun e w h => ⟨h.1, hS.trans (h.2.mono hS.size)⟩
  try simp only [Act.put, List.setIfInBounds_toArray, List.set_cons_zero, List.set_cons_succ, List.getElem_toArray, List.getElem_cons_zero, List.getElem_cons_succ]
  refine AllS.next (v := .tuple #[.int .i64 (i : Int), .bool true]) rfl rfl rfl (by kernel_rfl) ?_ ?_
  · refine yieldsS_call (f := 66) (args := #[.pointer (some ⟨gx, 0, none⟩), .agg #[.int .i64 0, .int .i64 id]]) (by rfl) ?_ ?_
    · intro wx
      go_simp
      try with_reducible rfl
    · intro L wx hS
      exact (cX wx hS).mono fun e w h => ⟨h.1, hS.trans (h.2.mono hS.size)⟩
  try simp only [Act.put, List.setIfInBounds_toArray, List.set_cons_zero, List.set_cons_succ, List.getElem_toArray, List.getElem_cons_zero, List.getElem_cons_succ]
  refine AllS.next (v := ?_) rfl rfl rfl (by kernel_rfl) ?_ ?_
  rotate_left
  · refine yieldsS_run (fun _ _ h => h) (by rfl) ?_
    intro L wx hS
    go_simp
    try with_reducible rfl
  try simp only [Act.put, List.setIfInBounds_toArray, List.set_cons_zero, List.set_cons_succ, List.getElem_toArray, List.getElem_cons_zero, List.getElem_cons_succ]
  refine AllS.next (v := ?_) rfl rfl rfl (by kernel_rfl) ?_ ?_
  rotate_left
  · refine yieldsS_run (fun _ _ h => h) (by rfl) ?_
    intro L wx hS
    go_simp
    try with_reducible rfl
  try simp only [Act.put, List.setIfInBounds_toArray, List.set_cons_zero, List.set_cons_succ, List.getElem_toArray, List.getElem_cons_zero, List.getElem_cons_succ]
  refine AllS.next (v := ?_) rfl rfl rfl (by kernel_rfl) ?_ ?_
  rotate_left
  · refine yieldsS_run (fun _ _ h => h) (by rfl) ?_
    intro L wx hS
    go_simp
    try with_reducible rfl
  try simp only [Act.put, List.setIfInBounds_toArray, List.set_cons_zero, List.set_cons_succ, List.getElem_toArray, List.getElem_cons_zero, List.getElem_cons_succ]
  refine AllS.next (v := ?_) rfl rfl rfl (by kernel_rfl) ?_ ?_
  rotate_left
  · refine yieldsS_run (fun _ _ h => h) (by rfl) ?_
    intro L wx hS
    go_simp
    try with_reducible rfl
  try simp only [Act.put, List.setIfInBounds_toArray, List.set_cons_zero, List.set_cons_succ, List.getElem_toArray, List.getElem_cons_zero, List.getElem_cons_succ]
  refine AllS.next (v := ?_) rfl rfl rfl (by kernel_rfl) ?_ ?_
  rotate_left
  · refine yieldsS_run (fun _ _ h => h) (by rfl) ?_
    intro L wx hS
    go_simp
    try with_reducible rfl
  try simp only [Act.put, List.setIfInBounds_toArray, List.set_cons_zero, List.set_cons_succ, List.getElem_toArray, List.getElem_cons_zero, List.getElem_cons_succ]
  refine AllS.done rfl ?_
  intro w9 hS9
  have c0 := hc0 _ hS9
  go_wp2_with (first
    | (go_at_call 67; refine (cG _ hS9).mono ?_; rintro e w2 ⟨rfl, hb2⟩; clear cG; obtain ⟨V3, hV3, hb3, hB3⟩ := hnx _ hb2; obtain ⟨t0, t1, t2, t3, t4, t5, t6⟩ := Ord.cells hB3; simp only [cOrd] at hV3; simp only at t0 t1 t2 t3 t4 t5 t6)
    | (rw [← hV3]; clear hV3)
    | fail)
  have hU := hb3.drew
  have hBU := hB3.drew
  clear t0 t1 t2 t3 t4 t5 t6
  refine GoL.start (S := fun _ w => Blk w w2.heap.size 44 (cOrd ⟨o0, o1, o2, o3, o4, o5, o6⟩)) (by kernel_rfl) (hBU) ?_
  generalize V3.drew = U at hU hBU ⊢
  have hlU := hBU.lt
  have hl2 := hb2.size
  obtain ⟨⟨y0, y1, y2, y3, y4, y5, y6⟩, hbw, hBw⟩ := hdone _ hU
  obtain ⟨V4, hV4, hfr, -, hB4, hb4⟩ := ordOut hBw (Nat.le_refl _) hbw ⟨o0, o1, o2, o3, o4, o5, o6⟩
  obtain ⟨u0, u1, u2, u3, u4, u5, u6⟩ := Ord.cells hB4
  have hB5 : Blk V4 w2.heap.size 44 (cOrd ⟨o0, o1, o2, o3, o4, o5, o6⟩) := by rw [hV4]; exact ((((((hBU.other (by simp; omega) _).other (by simp; omega) _).other (by simp; omega) _).other (by simp; omega) _).other (by simp; omega) _).other (by simp; omega) _).other (by simp; omega) _
  simp only at hV4 u0 u1 u2 u3 u4 u5 u6
  refine GoL.take (i := 0) (v := ?_) rfl rfl (by kernel_rfl) (fun _ _ _ h => h) (fun _ _ => Iff.rfl) (by rfl) ?_ ?_
  rotate_left
  · intro wx hwx
    have hwx := Wi.at' hwx
    go_simp
    try with_reducible rfl
  try simp only [Act.put, List.setIfInBounds_toArray, List.set_cons_zero, List.set_cons_succ, List.getElem_toArray, List.getElem_cons_zero, List.getElem_cons_succ]
  refine GoL.take (i := 1) (v := ?_) rfl rfl (by kernel_rfl) (fun _ _ _ h => h) (fun _ _ => Iff.rfl) (by rfl) ?_ ?_
  rotate_left
  · intro wx hwx
    have hwx := Wi.at' hwx
    obtain ⟨t0, t1, t2, t3, t4, t5, t6⟩ := Ord.cells hwx
    simp only at t0 t1 t2 t3 t4 t5 t6
    go_simp
    try with_reducible rfl
  try simp only [Act.put, List.setIfInBounds_toArray, List.set_cons_zero, List.set_cons_succ, List.getElem_toArray, List.getElem_cons_zero, List.getElem_cons_succ]
  refine GoL.take (i := 2) (v := ?_) rfl rfl (by kernel_rfl) (fun _ _ _ h => h) (fun _ _ => Iff.rfl) (by rfl) ?_ ?_
  rotate_left
  · intro wx hwx
    have hwx := Wi.at' hwx
    go_simp
    try with_reducible rfl
  try simp only [Act.put, List.setIfInBounds_toArray, List.set_cons_zero, List.set_cons_succ, List.getElem_toArray, List.getElem_cons_zero, List.getElem_cons_succ]
  refine GoL.take (i := 3) (v := ?_) rfl rfl (by kernel_rfl) (fun _ _ _ h => h) (fun _ _ => Iff.rfl) (by rfl) ?_ ?_
  rotate_left
  · intro wx hwx
    have hwx := Wi.at' hwx
    go_simp
    try with_reducible rfl
  try simp only [Act.put, List.setIfInBounds_toArray, List.set_cons_zero, List.set_cons_succ, List.getElem_toArray, List.getElem_cons_zero, List.getElem_cons_succ]
  refine GoL.on (rs := [4]) (by kernel_rfl) (by decide) ?_
  refine OnL.cons rfl ?_ OnL.nil
  intro K hK
  replace hK := Lib.hid hK
  go_simp
  rw [← hV4]
  refine hK.out _ _ hB5 ?_
  clear hK hV4
  try simp only [Act.put, List.setIfInBounds_toArray, List.set_cons_zero, List.set_cons_succ, List.getElem_toArray, List.getElem_cons_zero, List.getElem_cons_succ]
  refine GoL.take (i := 5) (v := ?_) rfl rfl (by kernel_rfl) (fun _ _ _ h => h) (fun _ _ => Iff.rfl) (by rfl) ?_ ?_
  rotate_left
  · intro wx hwx
    have hwx := Wi.at' hwx
    go_simp
    try with_reducible rfl
  try simp only [Act.put, List.setIfInBounds_toArray, List.set_cons_zero, List.set_cons_succ, List.getElem_toArray, List.getElem_cons_zero, List.getElem_cons_succ]
  refine GoL.done (by kernel_rfl) ?_
  refine NoPanic.normal ?_
  go_wp2_with fail
  refine bodyPost_ret (v := .tuple #[.int .i64 (i : Int), .agg #[.int .i64 o0, .int .i64 o1, .int .i64 o2, .int .i64 o3, .int .i64 o4, .int .i64 o5, .int .i64 o6], .bool true]) ?_ rfl ⟨rfl, hb4⟩
  simp [results, Tryd.results50, go_sem, u0, u1, u2, u3, u4, u5, u6]
set_option maxRecDepth 20000 in
set_option maxHeartbeats 2000000 in
theorem get_walk (p : Option Addr) (id : Int) (W : World) (n : Int) (z : Ord) (q : Bool) (cF : ∀ w, Below W.heap.size W w → Calls Tryd.prog 50 #[.pointer p, .int .i64 id] w fun e w' => e = .returned (.tuple #[.int .i64 n, vOrd z, .bool q]) ∧ Below w.heap.size w w') :
    Calls Tryd.prog 27 #[.pointer p, .int .i64 id] W fun e w' => e = .returned (.tuple #[vOrd z, .bool q]) ∧ Below W.heap.size W w' := by
  obtain ⟨V, hV, hbV, hBV⟩ := ordBox W .zero
  have cV := cF V hbV
  have hdone : ∀ w, Below V.heap.size V w → (w.cell? ⟨W.heap.size, 0, none⟩ = some (.int .i64 0) ∧ w.cell? ⟨W.heap.size, 1, none⟩ = some (.int .i64 0) ∧ w.cell? ⟨W.heap.size, 2, none⟩ = some (.int .i64 0) ∧ w.cell? ⟨W.heap.size, 3, none⟩ = some (.int .i64 0) ∧ w.cell? ⟨W.heap.size, 4, none⟩ = some (.int .i64 0) ∧ w.cell? ⟨W.heap.size, 5, none⟩ = some (.int .i64 0) ∧ w.cell? ⟨W.heap.size, 6, none⟩ = some (.int .i64 0)) ∧ Below W.heap.size W w ∧ Blk w W.heap.size 44 (cOrd .zero) := fun w hb => ⟨Ord.cells (m := .zero) (hBV.below hb hBV.lt), hbV.trans (hb.mono hbV.size), hBV.below hb hBV.lt⟩
  have hnx : ∀ w, Below V.heap.size V w → ∃ V3, V3 = w.alloc (.cells (cOrd z) 44) ∧ Below V.heap.size V V3 ∧ Blk V3 w.heap.size 44 (cOrd z) := fun w h => by
    obtain ⟨V3, h1, h2, h3⟩ := ordBox w z
    exact ⟨V3, h1, h.trans (h2.mono h.size), h3⟩
  have hVs := hBV.lt
  simp only [Ord.zero, cOrd] at hV
  obtain ⟨o0, o1, o2, o3, o4, o5, o6⟩ := z
  simp only [vOrd] at cV
  simp only [vOrd]
  clear hBV cF
  go_enter Tryd.func27, Tryd.ntmps27
  go_wp2_with (first
    | (rw [← hV]; clear hV)
    | (go_at_call 50; refine cV.mono ?_; rintro e w2 ⟨rfl, hb2⟩; clear cV; obtain ⟨V3, hV3, hb3, hB3⟩ := hnx _ hb2; obtain ⟨t0, t1, t2, t3, t4, t5, t6⟩ := Ord.cells hB3; obtain ⟨⟨y0, y1, y2, y3, y4, y5, y6⟩, hbw, hBw⟩ := hdone _ hb3; obtain ⟨V4, hV4, hfr, -, hB4, hb4⟩ := ordOut hBw (Nat.le_refl _) hbw ⟨o0, o1, o2, o3, o4, o5, o6⟩; obtain ⟨u0, u1, u2, u3, u4, u5, u6⟩ := Ord.cells hB4; simp only [cOrd] at hV3; simp only at t0 t1 t2 t3 t4 t5 t6 hV4 u0 u1 u2 u3 u4 u5 u6; clear hB3 hBw hB4 hdone hnx)
    | (rw [← hV3]; clear hV3)
    | (rw [← hV4]; clear hV4)
    | fail)
  refine bodyPost_ret (v := .tuple #[.agg #[.int .i64 o0, .int .i64 o1, .int .i64 o2, .int .i64 o3, .int .i64 o4, .int .i64 o5, .int .i64 o6], .bool q]) ?_ rfl ⟨rfl, hb4⟩
  simp [results, Tryd.results27, go_sem, u0, u1, u2, u3, u4, u5, u6]
theorem bget_no (id : Int) (hd : In64 id) (hB : Blk W g 77 (cBook lv ga gf gx g0 g1)) (hb : Bs W So ga gf gx g0 g1 k a x f d W) (hx : ixg x 0 id = none) :
    Calls Tryd.prog 27 #[.pointer (some ⟨g, 0, none⟩), .int .i64 id] W fun e w' => e = .returned (.tuple #[vOrd .zero, .bool false]) ∧ Below W.heap.size W w' :=
  get_walk _ id W 0 .zero false fun _ h => find_no id hd (hB.below h hB.lt) (hb.here h) hx
theorem bget_yes (id : Int) (hd : In64 id) (hB : Blk W g 77 (cBook lv ga gf gx g0 g1)) (hb : Bs W So ga gf gx g0 g1 k a x f d W) {i : Nat} {o : Ord} (hx : ixg x 0 id = some (i : Int)) (ha : a.has i = true) (ho : a.O[i]? = some o) :
    Calls Tryd.prog 27 #[.pointer (some ⟨g, 0, none⟩), .int .i64 id] W fun e w' => e = .returned (.tuple #[vOrd o, .bool true]) ∧ Below W.heap.size W w' :=
  get_walk _ id W i o true fun _ h => find_yes id hd (hB.below h hB.lt) (hb.here h) hx ha ho
theorem pb_get (id : Int) (hd : In64 id) (h : PB W g S k b) : Calls Tryd.prog 27 #[.pointer (some ⟨g, 0, none⟩), .int .i64 id] W fun e w' => e = .returned (.tuple #[vOrd ((b.get id).getD .zero), .bool (b.get id).isSome]) ∧ Below W.heap.size W w' := by
  refine h.ask fun ga gf gx g0 g1 Z a x f d So h1 h2 h3 h4 => ?_
  rcases h2.find id with ⟨hf, hx, -⟩ | ⟨n, i, o, hf, hz, hbo, he, hx, -, hi, ha, ho, hok⟩
  · have hget : b.get id = none := by unfold Bk.get; rw [hf]; rfl
    rw [hget]
    exact bget_no id hd h1 h3 hx
  · have hget : b.get id = some o := by unfold Bk.get; rw [hf]; simp [hbo]
    rw [hget]
    exact bget_yes id hd h1 h3 hx ha ho
end
end Go.Proofs.YtdmjcjheanedgaaDoor
