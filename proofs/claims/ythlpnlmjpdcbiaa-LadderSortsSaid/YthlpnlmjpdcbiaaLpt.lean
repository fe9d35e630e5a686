/-
  The contracts of the program's Put.
-/
import Derived.Test.YthlpnlmjpdcbiaaLop
import Derived.Test.YthlpnlmjpdcbiaaLpc
import Derived.Test.YthlpnlmjpdcbiaaRadd
namespace Go.Proofs.Ythlpnlmjpdcbiaa
open Go.RowKit
section
variable {w w' W : World} {g : Nat} {S T : Nat → Prop} {ko : Option Nat} {ao : Option Addr} {cap : Nat} {buy : Bool} {P : List Lvl} {F : List Nat}
set_option maxRecDepth 8000 in
set_option maxHeartbeats 1000000 in
theorem pputRange_any (p q : Int) (hpq : p < 1 ∨ q < 1) (W : World) :
    Calls Try.prog 17 #[.pointer (some ⟨g, 0, none⟩), .int .i64 p, .int .i64 q] W fun e w' => e = .returned (.tuple #[.int .i64 0, .int .i64 9]) ∧ w' = W := by
  by_cases hp : p < 1
  · go_enter Try.func17, Try.ntmps17
    go_wp2_with fail
    all_goals go_ret2
    all_goals exact ⟨rfl, rfl⟩
  · have hp' : decide (p < 1) = false := decide_eq_false hp
    have hq : q < 1 := by omega
    clear hpq hp
    go_enter Try.func17, Try.ntmps17
    go_wp2_with fail
    all_goals go_ret2
    all_goals exact ⟨rfl, rfl⟩
/-- What is known of a level behind calls that only make memory. -/
theorem PmB.facts (h : PmB W g S ko ao cap buy P F) {n : Nat} {x : Lvl} (hx : P[n]? = some x) : ∃ k, ao = some ⟨k, 0, none⟩ ∧ k ≠ g ∧ S k ∧ ko = some k ∧ ∀ w1, Below W.heap.size W w1 → w1.cell? ⟨g, 1, none⟩ = some (.slice ao P.length cap) ∧ (w1.cell? ⟨k, n * 4 + 1, none⟩ = some (.int .i64 x.qty) ∧ w1.frozen? ⟨k, n * 4 + 1, none⟩ = false) ∧ (w1.cell? ⟨k, n * 4 + 2, none⟩ = some (.int .i64 x.orders) ∧ w1.frozen? ⟨k, n * 4 + 2, none⟩ = false) ∧ w1.cell? ⟨k, n * 4 + 3, none⟩ = some (.int .i64 x.queue) := by
  obtain ⟨k, e1, e2, -⟩ := h.row hx
  have hs := h.sk k e1
  refine ⟨k, e2, hs.2, hs.1, e1, fun w1 hb => ?_⟩
  have h1 := h.below hb
  obtain ⟨k', e3, -, hc⟩ := h1.row hx
  rw [e1] at e3
  cases e3
  exact ⟨h1.c1, hc _ _ (lcs_get hx 1 _ rfl), hc _ _ (lcs_get hx 2 _ rfl), (hc _ _ (lcs_get hx 3 _ rfl)).1⟩
theorem ath_yes {x : Lvl} {p : Int} (hx : P[plc buy P p]? = some x) (hp : x.price = p) : ath buy P p = true := by unfold ath; rw [hx]; simp [hp]
set_option maxRecDepth 8000 in
set_option maxHeartbeats 1000000 in
theorem pputOver_any (p q : Int) (h : PmB W g S ko ao cap buy P F) (hS : Std buy P) (hp : 1 ≤ p) (hq : 1 ≤ q) {x : Lvl} (hx : P[plc buy P p]? = some x) (hxp : x.price = p) (hxq : In64 x.qty) (hq64 : In64 q) (ho : ¬ In64 (x.qty + q)) :
    Calls Try.prog 17 #[.pointer (some ⟨g, 0, none⟩), .int .i64 p, .int .i64 q] W fun e w' => e = .returned (.tuple #[.int .i64 0, .int .i64 2]) ∧ Below W.heap.size W w' := by
  have cP := pplace_any p h hS
  rw [ath_yes hx hxp] at cP
  have cA := fadd_any x.qty q hxq hq64
  rw [fit_no ho] at cA
  have hi := (List.getElem?_eq_some_iff.1 hx).1
  have hl := h.len
  obtain ⟨k, rfl, -, -, -, hf⟩ := h.facts hx
  generalize plc buy P p = n at *
  have hi2 : (n : Int) < (P.length : Int) := by omega
  have hp' : decide (p < 1) = false := decide_eq_false (by omega)
  have hq' : decide (q < 1) = false := decide_eq_false (by omega)
  replace hf := Lib.hid hf
  clear h hx hS ho hxq hq64
  go_enter Try.func17, Try.ntmps17
  go_wp2_with (first
    | (go_at_call 30; (with_reducible refine cP.mono ?_); rintro e w1 ⟨rfl, hb1⟩; clear cP; obtain ⟨c1, ⟨y1, -⟩, -, -⟩ := hf.out _ hb1)
    | (go_at_call 32; (with_reducible refine (cA _).mono ?_); rintro e w2 ⟨rfl, hb2⟩; have hb3 := hb1.trans (hb2.mono hb1.size); clear cA)
    | fail)
  all_goals go_ret2
  all_goals exact ⟨rfl, hb3⟩
set_option maxRecDepth 8000 in
set_option maxHeartbeats 1000000 in
theorem pputOld_any (p q : Int) (h : PmB W g S ko ao cap buy P F) (hS : Std buy P) (hp : 1 ≤ p) (hq : 1 ≤ q) {x : Lvl} (hx : P[plc buy P p]? = some x) (hxp : x.price = p) (hxq : In64 x.qty) (hq64 : In64 q) (ho : In64 (x.qty + q)) (hor : 0 ≤ x.orders ∧ x.orders ≤ 1000000) :
    Calls Try.prog 17 #[.pointer (some ⟨g, 0, none⟩), .int .i64 p, .int .i64 q] W fun e w' => e = .returned (.tuple #[.int .i64 x.queue, .int .i64 0]) ∧ PmB w' g S ko ao cap buy (P.set (plc buy P p) (x.add q)) F ∧ Frm S W w' := by
  have cP := pplace_any p h hS
  rw [ath_yes hx hxp] at cP
  have cA := fadd_any x.qty q hxq hq64
  rw [fit_yes ho] at cA
  have hi := (List.getElem?_eq_some_iff.1 hx).1
  have hl := h.len
  obtain ⟨k, rfl, hkg, hkS, hko, hf⟩ := h.facts hx
  have hend : ∀ w1, Below W.heap.size W w1 → PmB ((w1.setCell ⟨k, plc buy P p * 4 + 1, none⟩ (.int .i64 (x.qty + q))).setCell ⟨k, plc buy P p * 4 + 2, none⟩ (.int .i64 (x.orders + 1))) g S ko (some ⟨k, 0, none⟩) cap buy (P.set (plc buy P p) (x.add q)) F ∧ Frm S W ((w1.setCell ⟨k, plc buy P p * 4 + 1, none⟩ (.int .i64 (x.qty + q))).setCell ⟨k, plc buy P p * 4 + 2, none⟩ (.int .i64 (x.orders + 1))) := by
    intro w1 hb
    obtain ⟨k', e1, e2, -, -, ht⟩ := (h.below hb).turn (y := x.add q) hx rfl rfl
    cases e2
    exact ⟨ht, ((Frm.of_below hb).setCell _ _ (.inl hkS)).setCell _ _ (.inl hkS)⟩
  generalize plc buy P p = n at *
  have hi2 : (n : Int) < (P.length : Int) := by omega
  have hp' : decide (p < 1) = false := decide_eq_false (by omega)
  have hq' : decide (q < 1) = false := decide_eq_false (by omega)
  replace hf := Lib.hid hf
  replace hend := Lib.hid hend
  clear h hx hS ho hxq hq64 hxp
  obtain ⟨x0, x1, x2, x3⟩ := x
  simp only [Lvl.add] at *
  go_enter Try.func17, Try.ntmps17
  go_wp2_with (first
    | (go_at_call 30; (with_reducible refine cP.mono ?_); rintro e w1 ⟨rfl, hb1⟩; clear cP; obtain ⟨c1, ⟨y1, -⟩, -, -⟩ := hf.out _ hb1)
    | (go_at_call 32; (with_reducible refine (cA _).mono ?_); rintro e w2 ⟨rfl, hb2⟩; have hb3 := hb1.trans (hb2.mono hb1.size); clear cA y1 c1 hb1 hb2; obtain ⟨-, ⟨z1, f1⟩, ⟨z2, f2⟩, z3⟩ := hf.out _ hb3)
    | fail)
  all_goals go_ret2
  all_goals exact ⟨rfl, hend.out _ hb3⟩
set_option maxRecDepth 8000 in
set_option maxHeartbeats 1000000 in
/-- A price that has no level. -/
theorem pputOpen_any (p q : Int) (h : PmB W g S ko ao cap buy P F) (hS : Std buy P) (hp : 1 ≤ p) (hq : 1 ≤ q) (ha : ath buy P p = false) {r f : Int} {Q : World → Prop}
    (cO : ∀ w, Below W.heap.size W w → Calls Try.prog 31 #[.pointer (some ⟨g, 0, none⟩), .int .i64 (plc buy P p : Nat), .int .i64 p, .int .i64 q] w fun e w' => e = .returned (.tuple #[.int .i64 r, .int .i64 f]) ∧ Q w') :
    Calls Try.prog 17 #[.pointer (some ⟨g, 0, none⟩), .int .i64 p, .int .i64 q] W fun e w' => e = .returned (.tuple #[.int .i64 r, .int .i64 f]) ∧ Q w' := by
  have cP := pplace_any p h hS
  rw [ha] at cP
  generalize plc buy P p = n at *
  have hp' : decide (p < 1) = false := decide_eq_false (by omega)
  have hq' : decide (q < 1) = false := decide_eq_false (by omega)
  clear h hS ha
  go_enter Try.func17, Try.ntmps17
  go_wp2_with (first
    | (go_at_call 30; (with_reducible refine cP.mono ?_); rintro e w1 ⟨rfl, hb1⟩; clear cP)
    | (go_at_call 31; (with_reducible refine (cO _ hb1).mono ?_); rintro e w2 ⟨rfl, hQ⟩; clear cO)
    | fail)
  all_goals go_ret2
  all_goals exact ⟨rfl, hQ⟩
end
end Go.Proofs.Ythlpnlmjpdcbiaa
