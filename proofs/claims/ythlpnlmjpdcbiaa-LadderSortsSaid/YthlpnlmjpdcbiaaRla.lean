/-
  The document's levels in memory; its Better, find, Fits.
-/
import Derived.Test.YthlpnlmjpdcbiaaLvlV
import Derived.Test.YthlpnlmjpdcbiaaLae
import Derived.Test.YthlpnlmjpdcbiaaMem
import Derived.BigQuiet
import Derived.Deep.QuietTactic
import Derived.Deep.LoopGhost
import Derived.IntWalk
import Derived.WalkKit
import Derived.WalkMore
namespace Go.Proofs.Ythlpnlmjpdcbiaa
open Go.RowKit
/-- The levels' cells, one behind the other. -/
abbrev lcs (l : List Lvl) : List Value := l.flatMap fun m => (cLvl m).toList
/-- A side's number. -/
def sdI (buy : Bool) : Int := if buy then 0 else 1
/-- The document's ladder: a struct in block r, its levels in a row of its own; S: the blocks on which it hangs. -/
structure RlB (w : World) (r : Nat) (S : Nat → Prop) (ko : Option Nat) (ao : Option Addr) (cap : Nat) (s : Ld) : Prop where
  most : s.most ≤ 200
  len : s.L.length ≤ s.most
  hr : Blk w r 38 #[.int .i64 (sdI s.buy), .int .i64 (s.most : Int), .slice ao s.L.length cap]
  how : OwG 44 4 w ko ao cap s.L.length (lcs s.L)
  sr : S r
  sk : ∀ k, ko = some k → S k ∧ k ≠ r
  lt : ∀ b, S b → b < w.heap.size
def RL (w : World) (r : Nat) (S : Nat → Prop) (s : Ld) : Prop := ∃ ko ao cap, RlB w r S ko ao cap s
theorem belowN {B : Nat} {w w' : World} (h : Below B w w') (n : Nat) : Below B w (w'.drewN n) := ⟨h.os, h.tape, h.output, h.size, h.block⟩
section
variable {w w' W : World} {r : Nat} {S T : Nat → Prop} {s : Ld} {ko : Option Nat} {ao : Option Addr} {cap : Nat}
theorem RlB.frm (h : RlB w r S ko ao cap s) (hf : Frm T w w') (hT : ∀ b, T b → ¬ S b) : RlB w' r S ko ao cap s := by
  have k : ∀ b, S b → w'.heap[b]? = w.heap[b]? := fun b hb => hf.block b (h.lt b hb) (fun ht => hT b ht hb)
  exact ⟨h.most, h.len, (k _ h.sr).trans h.hr, h.how.keep (fun b e => k b (h.sk b e).1), h.sr, h.sk, fun b hb => Nat.lt_of_lt_of_le (h.lt b hb) hf.size⟩
theorem RlB.below (h : RlB w r S ko ao cap s) (hb : Below w.heap.size w w') : RlB w' r S ko ao cap s := h.frm (Frm.of_below (S := fun _ => False) hb) (fun _ f => f.elim)
theorem RlB.drewN (h : RlB w r S ko ao cap s) (n : Nat) : RlB (w.drewN n) r S ko ao cap s := ⟨h.most, h.len, h.hr, h.how.keep (fun _ _ => rfl), h.sr, h.sk, h.lt⟩
theorem RL.frm (h : RL w r S s) (hf : Frm T w w') (hT : ∀ b, T b → ¬ S b) : RL w' r S s := by
  obtain ⟨ko, ao, cap, h⟩ := h
  exact ⟨ko, ao, cap, h.frm hf hT⟩
theorem RL.below (h : RL w r S s) (hb : Below w.heap.size w w') : RL w' r S s := h.frm (Frm.of_below (S := fun _ => False) hb) (fun _ f => f.elim)
theorem RL.lt (h : RL w r S s) : ∀ b, S b → b < w.heap.size := by
  obtain ⟨ko, ao, cap, h⟩ := h
  exact h.lt
theorem RlB.c0 (h : RlB w r S ko ao cap s) : w.cell? ⟨r, 0, none⟩ = some (.int .i64 (sdI s.buy)) := h.hr.cell_eq 0 _ rfl
theorem RlB.c1 (h : RlB w r S ko ao cap s) : w.cell? ⟨r, 1, none⟩ = some (.int .i64 (s.most : Int)) := h.hr.cell_eq 1 _ rfl
theorem RlB.c2 (h : RlB w r S ko ao cap s) : w.cell? ⟨r, 2, none⟩ = some (.slice ao s.L.length cap) := h.hr.cell_eq 2 _ rfl
theorem RlB.lvls (h : RlB w r S ko ao cap s) : Lvls w ao cap s.L := Lvls.of_own h.how
theorem better_any (buy : Bool) (a b : Int) (W : World) :
    Calls Try.prog 18 #[.int .i64 (sdI buy), .int .i64 a, .int .i64 b] W fun e w' => e = .returned (.bool (btr buy a b)) ∧ w' = W := by
  cases buy
  all_goals
    simp only [sdI, btr, if_true, Bool.false_eq_true, if_false]
    go_enter Try.func18, Try.ntmps18
    go_wp2_with fail
    all_goals go_ret
    all_goals exact ⟨rfl, rfl⟩
/-- Where a price is found, as the document says it. -/
def Ld.fI (s : Ld) (p : Int) : Int := match s.find p with
  | some i => i
  | none => -1
set_option maxRecDepth 8000 in
set_option maxHeartbeats 1000000 in
theorem lfind_any (p : Int) (h : RlB W r S ko ao cap s) :
    Calls Try.prog 36 #[.pointer (some ⟨r, 0, none⟩), .int .i64 p] W fun e w' => e = .returned (.int .i64 (s.fI p)) ∧ w' = W := by
  have c2 := h.c2
  have hm := h.most
  have hl := h.len
  have hL := h.lvls
  have hno : (∀ (i : Nat) (x : Lvl), s.L[i]? = some x → x.price ≠ p) → s.fI p = -1 := by
    intro hn
    unfold Ld.fI
    rw [Ld.find_no fun x hx => by obtain ⟨i, hi⟩ := List.mem_iff_getElem?.1 hx; exact hn i x hi]
  have hyes : ∀ (i : Nat) (x : Lvl), s.L[i]? = some x → x.price = p → (∀ j y, j < i → s.L[j]? = some y → y.price ≠ p) → s.fI p = (i : Int) := by
    intro i x hi e hn
    unfold Ld.fI
    rw [Ld.find_at hi e hn]
  clear h
  generalize s.fI p = fi at *
  obtain ⟨m, hmm⟩ : ∃ m, m = s.L.length := ⟨_, rfl⟩
  rw [← hmm] at c2 hl
  replace hmm := Lib.hid hmm
  replace hno := Lib.hid hno
  replace hyes := Lib.hid hyes
  go_enter Try.func36, Try.ntmps36
  go_wp2_with fail
  go_loopg [5] m (fun j p5 wr => ∃ i : Nat, i + j = m ∧ p5 = .int .i64 (i : Int) ∧ Hid (∀ (j' : Nat) (y : Lvl), j' < i → s.L[j']? = some y → y.price ≠ p) ∧ wr = W)
  case atStart => exact ⟨0, by omega, rfl, Lib.hid (fun j' y h => by omega), rfl⟩
  case round =>
    obtain ⟨i, hi, rfl, hP, rfl⟩ := hrel
    by_cases him : i < m
    · obtain ⟨x, hx⟩ : ∃ x, s.L[i]? = some x := ⟨_, List.getElem?_eq_getElem (by rw [← hmm.out]; exact him)⟩
      obtain ⟨b, off, rfl, y0, y1, y2, y3⟩ := hL.get hx
      replace y0 : wr.cell? ⟨b, off + i * 4, none⟩ = some (.int .i64 x.price) := y0
      have hi2 : (i : Int) < (m : Int) := by omega
      clear y1 y2 y3
      by_cases hxp : x.price = p
      · have e1 := hyes.out i x hx hxp hP.out
        rw [hxp] at y0
        clear hno hyes hP hx hxp hL
        go_wp2_with fail
        go_ret
        exact ⟨by rw [e1]; rfl, rfl⟩
      · have hd : (x.price == p) = false := by simpa using hxp
        have hP' := Lib.hid (p := ∀ (j' : Nat) (y : Lvl), j' < i + 1 → s.L[j']? = some y → y.price ≠ p) (by
          intro j' y hj hy
          rcases Nat.lt_succ_iff_lt_or_eq.1 hj with g | rfl
          · exact hP.out j' y g hy
          · rw [hx] at hy; cases hy; exact hxp)
        clear hno hyes hP hx hxp hL
        go_wp2_with fail
        go_roundg (m - (i + 1))
        case measure => omega
        case rel => exact ⟨i + 1, by omega, by go_num, hP', rfl⟩
    · obtain rfl : i = m := by omega
      have e1 := hno.out fun j y hj => hP.out j y (by have := (List.getElem?_eq_some_iff.1 hj).1; rw [hmm.out]; exact this) hj
      clear hno hyes hP hL
      go_wp2_with fail
      go_ret
      exact ⟨by rw [e1]; rfl, rfl⟩
end
end Go.Proofs.Ythlpnlmjpdcbiaa
