/-
  The document's index in memory; its find, Get.
-/
import Derived.Test.YtbfidpngpdaieaaIxrV
import Derived.Test.YtbfidpngpdaieaaMem
import Derived.Test.YtbfidpngpdaieaaGrow
import Derived.BigQuiet
import Derived.Deep.QuietTactic
import Derived.Deep.LoopGhost
import Derived.IntWalk
import Derived.WalkKit
import Derived.WalkMore
namespace Go.Proofs.Ytbfidpngpdaieaa
open Go.RowKit
set_option linter.unusedSimpArgs false
/-- The rows' cells, one behind the other. -/
abbrev ics (l : List Ixr) : List Value := l.flatMap fun m => (cIxr m).toList
/-- The document's index: a struct in block r, its rows in a row of its own; S: the blocks on which it hangs. -/
structure RiB (w : World) (r : Nat) (S : Nat → Prop) (ko : Option Nat) (ao : Option Addr) (cap : Nat) (l : List Ixr) : Prop where
  hr : Blk w r 29 #[.slice ao l.length cap]
  how : OwG 40 3 w ko ao cap l.length (ics l)
  sr : S r
  sk : ∀ k, ko = some k → S k ∧ k ≠ r
  lt : ∀ b, S b → b < w.heap.size
def RI (w : World) (r : Nat) (S : Nat → Prop) (l : List Ixr) : Prop := ∃ ko ao cap, RiB w r S ko ao cap l
theorem belowI {B : Nat} {w w' : World} (h : Below B w w') (n : Nat) : Below B w (w'.drewN n) := ⟨h.os, h.tape, h.output, h.size, h.block⟩
section
variable {w w' W : World} {r : Nat} {S T : Nat → Prop} {l : List Ixr} {ko : Option Nat} {ao : Option Addr} {cap : Nat}
theorem RiB.frm (h : RiB w r S ko ao cap l) (hf : Frm T w w') (hT : ∀ b, T b → ¬ S b) : RiB w' r S ko ao cap l := by
  have k : ∀ b, S b → w'.heap[b]? = w.heap[b]? := fun b hb => hf.block b (h.lt b hb) (fun ht => hT b ht hb)
  exact ⟨(k _ h.sr).trans h.hr, h.how.keep (fun b e => k b (h.sk b e).1), h.sr, h.sk, fun b hb => Nat.lt_of_lt_of_le (h.lt b hb) hf.size⟩
theorem RiB.below (h : RiB w r S ko ao cap l) (hb : Below w.heap.size w w') : RiB w' r S ko ao cap l := h.frm (Frm.of_below (S := fun _ => False) hb) (fun _ f => f.elim)
theorem RI.frm (h : RI w r S l) (hf : Frm T w w') (hT : ∀ b, T b → ¬ S b) : RI w' r S l := by
  obtain ⟨ko, ao, cap, h⟩ := h
  exact ⟨ko, ao, cap, h.frm hf hT⟩
theorem RI.below (h : RI w r S l) (hb : Below w.heap.size w w') : RI w' r S l := h.frm (Frm.of_below (S := fun _ => False) hb) (fun _ f => f.elim)
theorem RI.lt (h : RI w r S l) : ∀ b, S b → b < w.heap.size := by
  obtain ⟨ko, ao, cap, h⟩ := h
  exact h.lt
theorem RI.sr (h : RI w r S l) : S r := by
  obtain ⟨ko, ao, cap, h⟩ := h
  exact h.sr
theorem RI.new (w : World) : RI (w.alloc (.cells #[.slice none 0 0] 29)) w.heap.size (fun b => b = w.heap.size) [] :=
  ⟨none, none, 0, Blk.new _ _ _, OwG.nil _ _ _, rfl, fun k e => (by cases e), fun b e => by subst e; simp⟩
theorem RiB.c0 (h : RiB w r S ko ao cap l) : w.cell? ⟨r, 0, none⟩ = some (.slice ao l.length cap) := h.hr.cell_eq 0 _ rfl
theorem RiB.rows (h : RiB w r S ko ao cap l) : Ixrs w ao cap l := Ixrs.of_own h.how
set_option maxRecDepth 8000 in
set_option maxHeartbeats 1000000 in
theorem ifind_any (s d : Int) (h : RiB W r S ko ao cap l) (hlen : l.length ≤ 100000) :
    Calls Try.prog 23 #[.pointer (some ⟨r, 0, none⟩), .int .i64 s, .int .i64 d] W fun e w' => e = .returned (.int .i64 (ixI l s d)) ∧ w' = W := by
  have c0 := h.c0
  have hL := h.rows
  have hno : (∀ (i : Nat) (x : Ixr), l[i]? = some x → ¬ (x.sym = s ∧ x.id = d)) → ixI l s d = -1 := by
    intro hn
    unfold ixI
    rw [ixf_no fun x hx => by obtain ⟨i, hi⟩ := List.mem_iff_getElem?.1 hx; exact hn i x hi]
  have hyes : ∀ (i : Nat) (x : Ixr), l[i]? = some x → (x.sym = s ∧ x.id = d) → (∀ j y, j < i → l[j]? = some y → ¬ (y.sym = s ∧ y.id = d)) → ixI l s d = (i : Int) := by
    intro i x hi e hn
    unfold ixI
    rw [ixf_at hi e hn]
  clear h
  generalize ixI l s d = fi at *
  obtain ⟨m, hmm⟩ : ∃ m, m = l.length := ⟨_, rfl⟩
  rw [← hmm] at c0 hlen
  replace hmm := Lib.hid hmm
  replace hno := Lib.hid hno
  replace hyes := Lib.hid hyes
  go_enter Try.func23, Try.ntmps23
  go_wp2_with fail
  go_loopg [7] m (fun j p7 wr => ∃ i : Nat, i + j = m ∧ p7 = .int .i64 (i : Int) ∧ Hid (∀ (j' : Nat) (y : Ixr), j' < i → l[j']? = some y → ¬ (y.sym = s ∧ y.id = d)) ∧ wr = W)
  case atStart => exact ⟨0, by omega, rfl, Lib.hid (fun j' y h => by omega), rfl⟩
  case round =>
    obtain ⟨i, hi, rfl, hP, rfl⟩ := hrel
    by_cases him : i < m
    · obtain ⟨x, hx⟩ : ∃ x, l[i]? = some x := ⟨_, List.getElem?_eq_getElem (by rw [← hmm.out]; exact him)⟩
      obtain ⟨b, off, rfl, y0, y1, y2⟩ := hL.get hx
      replace y0 : wr.cell? ⟨b, off + i * 3, none⟩ = some (.int .i64 x.sym) := y0
      have hi2 : (i : Int) < (m : Int) := by omega
      clear y2
      by_cases hxp : x.sym = s ∧ x.id = d
      · have e1 := hyes.out i x hx hxp hP.out
        rw [hxp.1] at y0
        rw [hxp.2] at y1
        clear hno hyes hP hx hxp hL
        go_wp2_with fail
        go_ret
        exact ⟨by rw [e1]; rfl, rfl⟩
      · have hd : ((x.sym == s) = false) ∨ ((x.sym == s) = true ∧ (x.id == d) = false) := by
          by_cases e : x.sym = s
          · exact .inr ⟨by simpa using e, by simpa using fun h => hxp ⟨e, h⟩⟩
          · exact .inl (by simpa using e)
        have hP' := Lib.hid (p := ∀ (j' : Nat) (y : Ixr), j' < i + 1 → l[j']? = some y → ¬ (y.sym = s ∧ y.id = d)) (by
          intro j' y hj hy
          rcases Nat.lt_succ_iff_lt_or_eq.1 hj with g | rfl
          · exact hP.out j' y g hy
          · rw [hx] at hy; cases hy; exact hxp)
        clear hno hyes hP hx hxp hL
        rcases hd with hd | ⟨hd, hd2⟩
        all_goals
          go_wp2_with fail
          go_roundg (m - (i + 1))
          case measure => omega
          case rel => exact ⟨i + 1, by omega, by go_num, hP', rfl⟩
    · obtain rfl : i = m := by omega
      have e1 := hno.out fun j y hj => hP.out j y (by have := (List.getElem?_eq_some_iff.1 hj).1; rw [hmm.out]; exact this) hj
      clear hno hyes hP hL
      go_wp2_with fail
      go_ret
      exact ⟨by rw [e1]; rfl, rfl⟩
set_option maxRecDepth 8000 in
set_option maxHeartbeats 1000000 in
theorem iget_any (s d : Int) (h : RI W r S l) (hlen : l.length ≤ 100000) :
    Calls Try.prog 17 #[.pointer (some ⟨r, 0, none⟩), .int .i64 s, .int .i64 d] W fun e w' => e = .returned (.tuple #[.int .i64 ((ixg l s d).getD 0), .bool (ixg l s d).isSome]) ∧ w' = W := by
  obtain ⟨ko, ao, cap, h⟩ := h
  have cF := ifind_any s d h hlen
  have c0 := h.c0
  have hL := h.rows
  cases hf : ixf l s d with
  | none =>
    rw [ixg_none.2 hf]
    simp only [ixI, hf] at cF
    clear h hL c0
    go_enter Try.func17, Try.ntmps17
    go_wp2_with (go_at_call 23; refine cF.mono ?_; rintro e w1 ⟨rfl, rfl⟩; clear cF)
    go_ret2
    exact ⟨rfl, rfl⟩
  | some i =>
    obtain ⟨t, ht, -⟩ := ixf_some hf
    have hi := (List.getElem?_eq_some_iff.1 ht).1
    rw [ixg_some.2 ⟨i, hf, ht⟩]
    simp only [ixI, hf] at cF
    obtain ⟨b, off, rfl, y0, y1, y2⟩ := hL.get ht
    simp only at y2
    have hi2 : (i : Int) < (l.length : Int) := by omega
    have hi0 : decide ((i : Int) < 0) = false := decide_eq_false (by omega)
    clear h hL y0 y1 ht hf
    go_enter Try.func17, Try.ntmps17
    go_wp2_with (go_at_call 23; refine cF.mono ?_; rintro e w1 ⟨rfl, hw1⟩; subst w1; clear cF)
    go_ret2
    exact ⟨rfl, rfl⟩
end
end Go.Proofs.Ytbfidpngpdaieaa
