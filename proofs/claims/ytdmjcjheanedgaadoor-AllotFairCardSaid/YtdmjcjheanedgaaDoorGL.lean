/-
  The contracts of the program's Put.
  The contracts of the program's Take.
  The contracts of the program's New.
  The contracts of Find, Best, Fits.
-/
import Derived.Test.YtdmjcjheanedgaaDoorGI
import Derived.Test.YtdmjcjheanedgaaDoorLpcq
import Derived.Test.YtdmjcjheanedgaaDoorGK
import Derived.Test.YtdmjcjheanedgaaDoorRlgq
import Derived.Test.YtdmjcjheanedgaaDoorLapq
namespace Go.Proofs.YtdmjcjheanedgaaDoor
open Go.RowKit
section
variable {w w' W : World} {g : Nat} {S T : Nat → Prop} {ko : Option Nat} {ao : Option Addr} {cap : Nat} {buy : Bool} {P : List Lvl} {F : List Nat}
set_option maxRecDepth 8000 in
set_option maxHeartbeats 1000000 in
theorem pputRange_any (p q : Int) (hpq : p < 1 ∨ q < 1) (W : World) :
    Calls Tryd.prog 39 #[.pointer (some ⟨g, 0, none⟩), .int .i64 p, .int .i64 q] W fun e w' => e = .returned (.tuple #[.int .i64 0, .int .i64 9]) ∧ w' = W := by
  by_cases hp : p < 1
  · go_enter Tryd.func39, Tryd.ntmps39
    go_wp2_with fail
    all_goals go_ret2
    all_goals exact ⟨rfl, rfl⟩
  · have hp' : decide (p < 1) = false := decide_eq_false hp
    have hq : q < 1 := by omega
    clear hpq hp
    go_enter Tryd.func39, Tryd.ntmps39
    go_wp2_with fail
    all_goals go_ret2
    all_goals exact ⟨rfl, rfl⟩
/-- What is known of a level behind calls that only make memory. -/
theorem PmB.facts (h : PmB W g S ko ao cap buy P F) {n : Nat} {x : Lvl} (hx : P[n]? = some x) : ∃ k, ao = some ⟨k, 0, none⟩ ∧ k ≠ g ∧ S k ∧ ko = some k ∧ ∀ w1, Below W.heap.size W w1 → w1.cell? ⟨g, 1, none⟩ = some (.slice ao P.length cap) ∧ (w1.cell? ⟨k, n * 4 + 1, none⟩ = some (.int .i64 x.qty) ∧ w1.frozen? ⟨k, n * 4 + 1, none⟩ = false) ∧ (w1.cell? ⟨k, n * 4 + 2, none⟩ = some (.int .i64 x.orders) ∧ w1.frozen? ⟨k, n * 4 + 2, none⟩ = false) ∧ w1.cell? ⟨k, n * 4 + 3, none⟩ = some (.int .i64 x.queue) := by
  obtain ⟨k, e1, e2, -⟩ := h.row hx
  have hs := h.sk k e1
  refine ⟨k, e2, hs.2, hs.1, e1, fun w1 hb => ?_⟩
  have h1 := h.below hb
  obtain ⟨k', e3, -, hc⟩ := h1.row hx
  rw [e1] at e3
  cases e3
  exact ⟨h1.c1, hc _ _ (lcs_get hx 1 _ rfl), hc _ _ (lcs_get hx 2 _ rfl), (hc _ _ (lcs_get hx 3 _ rfl)).1⟩
theorem ath_yes {x : Lvl} {p : Int} (hx : P[plc buy P p]? = some x) (hp : x.price = p) : ath buy P p = true := by unfold ath; rw [hx]; simp [hp]
set_option maxRecDepth 8000 in
set_option maxHeartbeats 1000000 in
theorem pputOver_any (p q : Int) (h : PmB W g S ko ao cap buy P F) (hS : Std buy P) (hp : 1 ≤ p) (hq : 1 ≤ q) {x : Lvl} (hx : P[plc buy P p]? = some x) (hxp : x.price = p) (hxq : In64 x.qty) (hq64 : In64 q) (ho : ¬ In64 (x.qty + q)) :
    Calls Tryd.prog 39 #[.pointer (some ⟨g, 0, none⟩), .int .i64 p, .int .i64 q] W fun e w' => e = .returned (.tuple #[.int .i64 0, .int .i64 2]) ∧ Below W.heap.size W w' := by
  have cP := pplace_any p h hS
  rw [ath_yes hx hxp] at cP
  have cA := fadd_any x.qty q hxq hq64
  rw [fit_no ho] at cA
  have hi := (List.getElem?_eq_some_iff.1 hx).1
  have hl := h.len
  obtain ⟨k, rfl, -, -, -, hf⟩ := h.facts hx
  generalize plc buy P p = n at *
  have hi2 : (n : Int) < (P.length : Int) := by omega
  have hp' : decide (p < 1) = false := decide_eq_false (by omega)
  have hq' : decide (q < 1) = false := decide_eq_false (by omega)
  replace hf := Lib.hid hf
  clear h hx hS ho hxq hq64
  go_enter Tryd.func39, Tryd.ntmps39
  go_wp2_with (first
    | (go_at_call 57; (with_reducible refine cP.mono ?_); rintro e w1 ⟨rfl, hb1⟩; clear cP; obtain ⟨c1, ⟨y1, -⟩, -, -⟩ := hf.out _ hb1)
    | (go_at_call 51; (with_reducible refine (cA _).mono ?_); rintro e w2 ⟨rfl, hb2⟩; have hb3 := hb1.trans (hb2.mono hb1.size); clear cA)
    | fail)
  all_goals go_ret2
  all_goals exact ⟨rfl, hb3⟩
set_option maxRecDepth 8000 in
set_option maxHeartbeats 1000000 in
theorem pputOld_any (p q : Int) (h : PmB W g S ko ao cap buy P F) (hS : Std buy P) (hp : 1 ≤ p) (hq : 1 ≤ q) {x : Lvl} (hx : P[plc buy P p]? = some x) (hxp : x.price = p) (hxq : In64 x.qty) (hq64 : In64 q) (ho : In64 (x.qty + q)) (hor : 0 ≤ x.orders ∧ x.orders ≤ 1000000) :
    Calls Tryd.prog 39 #[.pointer (some ⟨g, 0, none⟩), .int .i64 p, .int .i64 q] W fun e w' => e = .returned (.tuple #[.int .i64 x.queue, .int .i64 0]) ∧ PmB w' g S ko ao cap buy (P.set (plc buy P p) (x.add q)) F ∧ Frm S W w' := by
  have cP := pplace_any p h hS
  rw [ath_yes hx hxp] at cP
  have cA := fadd_any x.qty q hxq hq64
  rw [fit_yes ho] at cA
  have hi := (List.getElem?_eq_some_iff.1 hx).1
  have hl := h.len
  obtain ⟨k, rfl, hkg, hkS, hko, hf⟩ := h.facts hx
  have hend : ∀ w1, Below W.heap.size W w1 → PmB ((w1.setCell ⟨k, plc buy P p * 4 + 1, none⟩ (.int .i64 (x.qty + q))).setCell ⟨k, plc buy P p * 4 + 2, none⟩ (.int .i64 (x.orders + 1))) g S ko (some ⟨k, 0, none⟩) cap buy (P.set (plc buy P p) (x.add q)) F ∧ Frm S W ((w1.setCell ⟨k, plc buy P p * 4 + 1, none⟩ (.int .i64 (x.qty + q))).setCell ⟨k, plc buy P p * 4 + 2, none⟩ (.int .i64 (x.orders + 1))) := by
    intro w1 hb
    obtain ⟨k', e1, e2, -, -, ht⟩ := (h.below hb).turn (y := x.add q) hx rfl rfl
    cases e2
    exact ⟨ht, ((Frm.of_below hb).setCell _ _ (.inl hkS)).setCell _ _ (.inl hkS)⟩
  generalize plc buy P p = n at *
  have hi2 : (n : Int) < (P.length : Int) := by omega
  have hp' : decide (p < 1) = false := decide_eq_false (by omega)
  have hq' : decide (q < 1) = false := decide_eq_false (by omega)
  replace hf := Lib.hid hf
  replace hend := Lib.hid hend
  clear h hx hS ho hxq hq64 hxp
  obtain ⟨x0, x1, x2, x3⟩ := x
  simp only [Lvl.add] at *
  go_enter Tryd.func39, Tryd.ntmps39
  go_wp2_with (first
    | (go_at_call 57; (with_reducible refine cP.mono ?_); rintro e w1 ⟨rfl, hb1⟩; clear cP; obtain ⟨c1, ⟨y1, -⟩, -, -⟩ := hf.out _ hb1)
    | (go_at_call 51; (with_reducible refine (cA _).mono ?_); rintro e w2 ⟨rfl, hb2⟩; have hb3 := hb1.trans (hb2.mono hb1.size); clear cA y1 c1 hb1 hb2; obtain ⟨-, ⟨z1, f1⟩, ⟨z2, f2⟩, z3⟩ := hf.out _ hb3)
    | fail)
  all_goals go_ret2
  all_goals exact ⟨rfl, hend.out _ hb3⟩
set_option maxRecDepth 8000 in
set_option maxHeartbeats 1000000 in
/-- A price that has no level. -/
theorem pputOpen_any (p q : Int) (h : PmB W g S ko ao cap buy P F) (hS : Std buy P) (hp : 1 ≤ p) (hq : 1 ≤ q) (ha : ath buy P p = false) {r f : Int} {Q : World → Prop}
    (cO : ∀ w, Below W.heap.size W w → Calls Tryd.prog 58 #[.pointer (some ⟨g, 0, none⟩), .int .i64 (plc buy P p : Nat), .int .i64 p, .int .i64 q] w fun e w' => e = .returned (.tuple #[.int .i64 r, .int .i64 f]) ∧ Q w') :
    Calls Tryd.prog 39 #[.pointer (some ⟨g, 0, none⟩), .int .i64 p, .int .i64 q] W fun e w' => e = .returned (.tuple #[.int .i64 r, .int .i64 f]) ∧ Q w' := by
  have cP := pplace_any p h hS
  rw [ha] at cP
  generalize plc buy P p = n at *
  have hp' : decide (p < 1) = false := decide_eq_false (by omega)
  have hq' : decide (q < 1) = false := decide_eq_false (by omega)
  clear h hS ha
  go_enter Tryd.func39, Tryd.ntmps39
  go_wp2_with (first
    | (go_at_call 57; (with_reducible refine cP.mono ?_); rintro e w1 ⟨rfl, hb1⟩; clear cP)
    | (go_at_call 58; (with_reducible refine (cO _ hb1).mono ?_); rintro e w2 ⟨rfl, hQ⟩; clear cO)
    | fail)
  all_goals go_ret2
  all_goals exact ⟨rfl, hQ⟩
end
end Go.Proofs.YtdmjcjheanedgaaDoor
namespace Go.Proofs.YtdmjcjheanedgaaDoor
open Go.RowKit
section
variable {w w' W : World} {g : Nat} {S T : Nat → Prop} {ko : Option Nat} {ao : Option Addr} {cap : Nat} {buy : Bool} {P : List Lvl} {F : List Nat}
/-- One cell of a level turned. -/
theorem PmB.turn1 (h : PmB w g S ko ao cap buy P F) {i : Nat} {x y : Lvl} (hx : P[i]? = some x) (e1 : y.price = x.price) (e2 : y.queue = x.queue) (e3 : y.orders = x.orders) :
    ∃ k, ko = some k ∧ ao = some ⟨k, 0, none⟩ ∧ k ≠ g ∧ S k ∧ PmB (w.setCell ⟨k, i * 4 + 1, none⟩ (.int .i64 y.qty)) g S ko ao cap buy (P.set i y) F := by
  have hL := lcs_len P
  have hi := (List.getElem?_eq_some_iff.1 hx).1
  obtain ⟨v, hv⟩ : ∃ v, (lcs P)[0]? = some v := ⟨_, List.getElem?_eq_getElem (by omega)⟩
  obtain ⟨k, rfl, rfl, -, -⟩ := h.how.cell 0 v hv
  obtain ⟨hk, hkr⟩ := h.sk k rfl
  refine ⟨k, rfl, rfl, hkr, hk, by simpa using h.len, h.fl, ?_, ?_, h.sg, h.sk, ?_⟩
  · have e := h.hg
    unfold Blk at e ⊢
    rw [List.length_set, heap_oth _ _ _ (Ne.symm hkr)]
    exact e
  · rw [lcs_set1 y P i x hx e1 e2 e3, List.length_set]
    exact h.how.setc _ _
  · intro b hb
    have := h.lt b hb
    simpa [World.setCell] using this
set_option maxRecDepth 8000 in
set_option maxHeartbeats 1000000 in
theorem ptakeNo_any (p q : Int) (gone : Bool) (h : PmB W g S ko ao cap buy P F) (hS : Std buy P) (ha : ath buy P p = false) :
    Calls Tryd.prog 68 #[.pointer (some ⟨g, 0, none⟩), .int .i64 p, .int .i64 q, .bool gone] W fun e w' => e = .returned (.tuple #[.int .i64 0, .int .i64 5]) ∧ Below W.heap.size W w' := by
  have cP := pplace_any p h hS
  rw [ha] at cP
  generalize plc buy P p = n at *
  clear h hS ha
  go_enter Tryd.func68, Tryd.ntmps68
  go_wp2_with (go_at_call 57; (with_reducible refine cP.mono ?_); rintro e w1 ⟨rfl, hb1⟩; clear cP)
  all_goals go_ret2
  all_goals exact ⟨rfl, hb1⟩
set_option maxRecDepth 8000 in
set_option maxHeartbeats 1000000 in
theorem ptakeRange_any (p q : Int) (gone : Bool) (h : PmB W g S ko ao cap buy P F) (hS : Std buy P) {x : Lvl} (hx : P[plc buy P p]? = some x) (hxp : x.price = p) (hq : q < 0 ∨ x.qty < q) :
    Calls Tryd.prog 68 #[.pointer (some ⟨g, 0, none⟩), .int .i64 p, .int .i64 q, .bool gone] W fun e w' => e = .returned (.tuple #[.int .i64 0, .int .i64 9]) ∧ Below W.heap.size W w' := by
  have cP := pplace_any p h hS
  rw [ath_yes hx hxp] at cP
  have hi := (List.getElem?_eq_some_iff.1 hx).1
  have hl := h.len
  obtain ⟨k, rfl, -, -, -, hf⟩ := h.facts hx
  generalize plc buy P p = n at *
  have hi2 : (n : Int) < (P.length : Int) := by omega
  have hd : decide (q < 0) = true ∨ (decide (q < 0) = false ∧ decide (x.qty < q) = true) := by
    by_cases g : q < 0
    · exact .inl (decide_eq_true g)
    · exact .inr ⟨decide_eq_false g, decide_eq_true (by omega)⟩
  replace hf := Lib.hid hf
  clear h hx hS hq hxp
  rcases hd with d0 | ⟨d0, d1⟩
  all_goals
    go_enter Tryd.func68, Tryd.ntmps68
    go_wp2_with (go_at_call 57; (with_reducible refine cP.mono ?_); rintro e w1 ⟨rfl, hb1⟩; clear cP; obtain ⟨c1, ⟨y1, -⟩, -, -⟩ := hf.out _ hb1)
    all_goals go_ret2
    all_goals exact ⟨rfl, hb1⟩
set_option maxRecDepth 8000 in
set_option maxHeartbeats 1000000 in
theorem ptakeSet_any (p q : Int) (gone : Bool) (h : PmB W g S ko ao cap buy P F) (hS : Std buy P) {x : Lvl} (hx : P[plc buy P p]? = some x) (hxp : x.price = p) (hq : ¬ (q < 0 ∨ x.qty < q)) (hxq : x.qty < 9223372036854775808) (hor : 1 ≤ x.orders ∧ x.orders ≤ 1000000) (hz : (x.sub q gone).orders ≠ 0) :
    Calls Tryd.prog 68 #[.pointer (some ⟨g, 0, none⟩), .int .i64 p, .int .i64 q, .bool gone] W fun e w' => e = .returned (.tuple #[.int .i64 x.queue, .int .i64 0]) ∧ PmB w' g S ko ao cap buy (P.set (plc buy P p) (x.sub q gone)) F ∧ Frm S W w' := by
  have cP := pplace_any p h hS
  rw [ath_yes hx hxp] at cP
  have hi := (List.getElem?_eq_some_iff.1 hx).1
  have hl := h.len
  obtain ⟨k, rfl, hkg, hkS, hko, hf⟩ := h.facts hx
  have hd0 : decide (q < 0) = false := decide_eq_false (by omega)
  have hd1 : decide (x.qty < q) = false := decide_eq_false (by omega)
  have hw : IntKind.i64.wrap (x.qty - q) = x.qty - q := by rw [IntKind.wrap_i64]; omega
  have hq1 : ¬ q < 0 := by omega
  have hq2 : ¬ x.qty < q := by omega
  cases gone
  · have hend : ∀ w1, Below W.heap.size W w1 → PmB (w1.setCell ⟨k, plc buy P p * 4 + 1, none⟩ (.int .i64 (x.qty - q))) g S ko (some ⟨k, 0, none⟩) cap buy (P.set (plc buy P p) (x.sub q false)) F ∧ Frm S W (w1.setCell ⟨k, plc buy P p * 4 + 1, none⟩ (.int .i64 (x.qty - q))) := by
      intro w1 hb
      obtain ⟨k', e1, e2, -, -, ht⟩ := (h.below hb).turn1 (y := x.sub q false) hx rfl rfl rfl
      cases e2
      exact ⟨ht, (Frm.of_below hb).setCell _ _ (.inl hkS)⟩
    generalize plc buy P p = n at *
    have hi2 : (n : Int) < (P.length : Int) := by omega
    have hz0 : ¬ (x.orders = 0) := by omega
    replace hf := Lib.hid hf
    replace hend := Lib.hid hend
    clear h hx hS hxp hz hxq hq
    obtain ⟨x0, x1, x2, x3⟩ := x
    simp only at *
    go_enter Tryd.func68, Tryd.ntmps68
    go_wp2_with (go_at_call 57; (with_reducible refine cP.mono ?_); rintro e w1 ⟨rfl, hb1⟩; clear cP; obtain ⟨c1, ⟨y1, f1⟩, ⟨y2, f2⟩, y3⟩ := hf.out _ hb1)
    all_goals go_ret2
    all_goals exact ⟨rfl, hend.out _ hb1⟩
  · have hend : ∀ w1, Below W.heap.size W w1 → PmB ((w1.setCell ⟨k, plc buy P p * 4 + 1, none⟩ (.int .i64 (x.qty - q))).setCell ⟨k, plc buy P p * 4 + 2, none⟩ (.int .i64 (x.orders - 1))) g S ko (some ⟨k, 0, none⟩) cap buy (P.set (plc buy P p) (x.sub q true)) F ∧ Frm S W ((w1.setCell ⟨k, plc buy P p * 4 + 1, none⟩ (.int .i64 (x.qty - q))).setCell ⟨k, plc buy P p * 4 + 2, none⟩ (.int .i64 (x.orders - 1))) := by
      intro w1 hb
      obtain ⟨k', e1, e2, -, -, ht⟩ := (h.below hb).turn (y := x.sub q true) hx rfl rfl
      cases e2
      exact ⟨ht, ((Frm.of_below hb).setCell _ _ (.inl hkS)).setCell _ _ (.inl hkS)⟩
    generalize plc buy P p = n at *
    have hi2 : (n : Int) < (P.length : Int) := by omega
    have hz0 : ¬ (x.orders - 1 = 0) := hz
    replace hf := Lib.hid hf
    replace hend := Lib.hid hend
    clear h hx hS hxp hz hxq hq
    obtain ⟨x0, x1, x2, x3⟩ := x
    simp only at *
    go_enter Tryd.func68, Tryd.ntmps68
    go_wp2_with (go_at_call 57; (with_reducible refine cP.mono ?_); rintro e w1 ⟨rfl, hb1⟩; clear cP; obtain ⟨c1, ⟨y1, f1⟩, ⟨y2, f2⟩, y3⟩ := hf.out _ hb1)
    all_goals go_ret2
    all_goals exact ⟨rfl, hend.out _ hb1⟩
set_option maxRecDepth 8000 in
set_option maxHeartbeats 1000000 in
theorem ptakeDel_any (p q : Int) (h : PmB W g S ko ao cap buy P F) (hF : ∀ x ∈ F, x < 18446744073709551616) (hS : Std buy P) {x : Lvl} (hx : P[plc buy P p]? = some x) (hxp : x.price = p) (hq : ¬ (q < 0 ∨ x.qty < q)) (hxq : x.qty < 9223372036854775808) (hor : x.orders = 1) {u : Nat} (hu : u < 256) (hxu : x.queue = (u : Int)) :
    Calls Tryd.prog 68 #[.pointer (some ⟨g, 0, none⟩), .int .i64 p, .int .i64 q, .bool true] W fun e w' => e = .returned (.tuple #[.int .i64 (u : Int), .int .i64 0]) ∧ PmB w' g S ko ao cap buy (P.eraseIdx (plc buy P p)) (flp F u) ∧ Frm S W w' := by
  have cP := pplace_any p h hS
  rw [ath_yes hx hxp] at cP
  have hi := (List.getElem?_eq_some_iff.1 hx).1
  have hl := h.len
  obtain ⟨k, rfl, hkg, hkS, hko, hf⟩ := h.facts hx
  have hd0 : decide (q < 0) = false := decide_eq_false (by omega)
  have hd1 : decide (x.qty < q) = false := decide_eq_false (by omega)
  have hw : IntKind.i64.wrap (x.qty - q) = x.qty - q := by rw [IntKind.wrap_i64]; omega
  have hq1 : ¬ q < 0 := by omega
  have hq2 : ¬ x.qty < q := by omega
  have cC : ∀ w1, Below W.heap.size W w1 → Calls Tryd.prog 85 #[.pointer (some ⟨g, 0, none⟩), .int .i64 (plc buy P p : Nat)] ((w1.setCell ⟨k, plc buy P p * 4 + 1, none⟩ (.int .i64 (x.qty - q))).setCell ⟨k, plc buy P p * 4 + 2, none⟩ (.int .i64 0)) fun e w' => e = .returned undef ∧ PmB w' g S ko (some ⟨k, 0, none⟩) cap buy (P.eraseIdx (plc buy P p)) (flp F u) ∧ Frm S W w' := by
    intro w1 hb
    obtain ⟨k', e1, e2, -, -, ht⟩ := (h.below hb).turn (y := ⟨x.price, x.qty - q, 0, x.queue⟩) hx rfl rfl
    cases e2
    have hy : (P.set (plc buy P p) ⟨x.price, x.qty - q, 0, x.queue⟩)[plc buy P p]? = some ⟨x.price, x.qty - q, 0, x.queue⟩ := List.getElem?_set_self hi
    refine (pclose_any (plc buy P p) ht hF hy hu hxu).mono ?_
    rintro e w2 ⟨rfl, k1, k2⟩
    rw [List.eraseIdx_set_eq] at k1
    exact ⟨rfl, k1, (((Frm.of_below hb).setCell ⟨k, _, none⟩ _ (.inl hkS)).setCell ⟨k, _, none⟩ _ (.inl hkS)).trans k2 (fun b e => .inl e)⟩
  generalize plc buy P p = n at *
  have hi2 : (n : Int) < (P.length : Int) := by omega
  replace hf := Lib.hid hf
  replace cC := Lib.hid cC
  clear h hx hS hxp hxq hq hF
  obtain ⟨x0, x1, x2, x3⟩ := x
  simp only at *
  subst hor
  subst hxu
  go_enter Tryd.func68, Tryd.ntmps68
  go_wp2_with (first
    | (go_at_call 57; (with_reducible refine cP.mono ?_); rintro e w1 ⟨rfl, hb1⟩; clear cP; obtain ⟨c1, ⟨y1, f1⟩, ⟨y2, f2⟩, y3⟩ := hf.out _ hb1)
    | (go_at_call 85; (with_reducible refine (cC.out _ hb1).mono ?_); rintro e w2 ⟨rfl, hQ1, hQ2⟩; clear cC)
    | fail)
  all_goals go_ret2
  all_goals exact ⟨rfl, hQ1, hQ2⟩
end
end Go.Proofs.YtdmjcjheanedgaaDoor
namespace Go.Proofs.YtdmjcjheanedgaaDoor
open Go.RowKit
section
variable {W : World}
set_option maxRecDepth 8000 in
set_option maxHeartbeats 1000000 in
theorem pnew_any (buy : Bool) (n : Nat) (h1 : 1 ≤ n) (h2 : n ≤ 200) (W : World) :
    Calls Tryd.prog 35 #[.int .i64 (sdI buy), .int .i64 (n : Int)] W fun e w' => ∃ g S F, e = .returned (.tuple #[.pointer (some ⟨g, 0, none⟩), .int .i64 0]) ∧ PmB w' g S none none 0 buy [] F ∧ Bits F (fun q => decide (q < n)) ∧ Below W.heap.size W w' ∧ ∀ b, S b → W.heap.size ≤ b := by
  have hst : PmB (W.alloc (.cells #[.int .i64 (sdI buy), .slice none 0 0, .int .u64 0, .int .u64 0, .int .u64 0, .int .u64 0] 126)) W.heap.size (fun b => b = W.heap.size) none none 0 buy [] [0, 0, 0, 0] :=
    ⟨Nat.zero_le _, rfl, Blk.new _ _ _, OwG.nil _ _ _, rfl, fun _ e => (by cases e), fun b e => by simp [e]⟩
  have hbl : Below W.heap.size W (W.alloc (.cells #[.int .i64 (sdI buy), .slice none 0 0, .int .u64 0, .int .u64 0, .int .u64 0, .int .u64 0] 126)) := (Below.refl _ _).alloc (Nat.le_refl _) _
  have hst' := Lib.hid (And.intro hst hbl)
  have d0 : decide ((n : Int) < 1) = false := decide_eq_false (by omega)
  have d1 : decide (200 < (n : Int)) = false := decide_eq_false (by omega)
  clear hst hbl
  cases buy
  · simp only [sdI, if_true, Bool.false_eq_true, if_false] at hst' ⊢
    go_enter Tryd.func35, Tryd.ntmps35
    go_wp2_with fail
    go_loopg [26] n (fun j p26 wr => ∃ (i : Nat) (F : List Nat), i + j = n ∧ p26 = .int .i64 (i : Int) ∧ Hid (PmB wr W.heap.size (fun b => b = W.heap.size) none none 0 false [] F ∧ Bits F (fun q => decide (q < i)) ∧ Below W.heap.size W wr))
    case atStart => exact ⟨0, [0, 0, 0, 0], by omega, rfl, Lib.hid ⟨hst'.out.1, Bits.zero.congr fun q _ => by simp, hst'.out.2⟩⟩
    case round =>
      obtain ⟨i, F, hi, rfl, hI⟩ := hrel
      by_cases hin : i < n
      · have cF := pflip_any i (by omega) hI.out.2.1.lt hI.out.1
        have hnx : ∀ w', PmB w' W.heap.size (fun b => b = W.heap.size) none none 0 false [] (flp F i) ∧ Frm (fun b => b = W.heap.size) wr w' → Hid (PmB w' W.heap.size (fun b => b = W.heap.size) none none 0 false [] (flp F i) ∧ Bits (flp F i) (fun q => decide (q < i + 1)) ∧ Below W.heap.size W w') := by
          rintro w' ⟨k1, k2⟩
          refine Lib.hid ⟨k1, (hI.out.2.1.flip (by omega)).congr fun q _ => ?_, hI.out.2.2.trans (k2.below hI.out.2.2.size (fun k e => by omega))⟩
          by_cases e : q = i
          · subst e; simp
          · rw [if_neg e]
            by_cases e2 : q < i
            · simp [e2]; omega
            · simp [e2]; omega
        have hin2 : (i : Int) < (n : Int) := by omega
        replace hnx := Lib.hid hnx
        clear hI hst'
        go_wp2_with (go_at_call 53; (with_reducible refine cF.mono ?_); rintro e w1 ⟨rfl, hQ⟩; clear cF; have hQ' := hnx.out _ hQ; clear hQ hnx)
        go_roundg (n - (i + 1))
        case measure => omega
        case rel => exact ⟨i + 1, flp F i, by omega, by go_num, hQ'⟩
      · obtain rfl : i = n := by omega
        clear hst'
        go_wp2_with fail
        go_ret2
        exact ⟨_, _, _, rfl, hI.out.1, hI.out.2.1, hI.out.2.2, fun b e => by omega⟩
  · simp only [sdI, if_true, Bool.false_eq_true, if_false] at hst' ⊢
    go_enter Tryd.func35, Tryd.ntmps35
    go_wp2_with fail
    go_loopg [26] n (fun j p26 wr => ∃ (i : Nat) (F : List Nat), i + j = n ∧ p26 = .int .i64 (i : Int) ∧ Hid (PmB wr W.heap.size (fun b => b = W.heap.size) none none 0 true [] F ∧ Bits F (fun q => decide (q < i)) ∧ Below W.heap.size W wr))
    case atStart => exact ⟨0, [0, 0, 0, 0], by omega, rfl, Lib.hid ⟨hst'.out.1, Bits.zero.congr fun q _ => by simp, hst'.out.2⟩⟩
    case round =>
      obtain ⟨i, F, hi, rfl, hI⟩ := hrel
      by_cases hin : i < n
      · have cF := pflip_any i (by omega) hI.out.2.1.lt hI.out.1
        have hnx : ∀ w', PmB w' W.heap.size (fun b => b = W.heap.size) none none 0 true [] (flp F i) ∧ Frm (fun b => b = W.heap.size) wr w' → Hid (PmB w' W.heap.size (fun b => b = W.heap.size) none none 0 true [] (flp F i) ∧ Bits (flp F i) (fun q => decide (q < i + 1)) ∧ Below W.heap.size W w') := by
          rintro w' ⟨k1, k2⟩
          refine Lib.hid ⟨k1, (hI.out.2.1.flip (by omega)).congr fun q _ => ?_, hI.out.2.2.trans (k2.below hI.out.2.2.size (fun k e => by omega))⟩
          by_cases e : q = i
          · subst e; simp
          · rw [if_neg e]
            by_cases e2 : q < i
            · simp [e2]; omega
            · simp [e2]; omega
        have hin2 : (i : Int) < (n : Int) := by omega
        replace hnx := Lib.hid hnx
        clear hI hst'
        go_wp2_with (go_at_call 53; (with_reducible refine cF.mono ?_); rintro e w1 ⟨rfl, hQ⟩; clear cF; have hQ' := hnx.out _ hQ; clear hQ hnx)
        go_roundg (n - (i + 1))
        case measure => omega
        case rel => exact ⟨i + 1, flp F i, by omega, by go_num, hQ'⟩
      · obtain rfl : i = n := by omega
        clear hst'
        go_wp2_with fail
        go_ret2
        exact ⟨_, _, _, rfl, hI.out.1, hI.out.2.1, hI.out.2.2, fun b e => by omega⟩
end
end Go.Proofs.YtdmjcjheanedgaaDoor
namespace Go.Proofs.YtdmjcjheanedgaaDoor
open Go.RowKit
section
variable {w w' W : World} {g : Nat} {S T : Nat → Prop} {ko : Option Nat} {ao : Option Addr} {cap : Nat} {buy : Bool} {P : List Lvl} {F : List Nat}
set_option maxRecDepth 8000 in
set_option maxHeartbeats 1000000 in
theorem pfind_yes (p : Int) (h : PmB W g S ko ao cap buy P F) (hS : Std buy P) {x : Lvl} (hx : P[plc buy P p]? = some x) (hp : x.price = p) :
    Calls Tryd.prog 93 #[.pointer (some ⟨g, 0, none⟩), .int .i64 p] W fun e w' => e = .returned (.tuple #[vLvl x, .bool true]) ∧ Below W.heap.size W w' := by
  obtain ⟨W1, hW1⟩ : ∃ W1, W1 = W.alloc (.cells (cLvl Lvl.zero) 133) := ⟨_, rfl⟩
  have hBx : Blk W1 W.heap.size 133 (cLvl Lvl.zero) := by rw [hW1]; exact Blk.new _ _ _
  have hF1 : Below W.heap.size W W1 := by rw [hW1]; exact (Below.refl _ _).alloc (Nat.le_refl _) _
  have h1 := h.below hF1
  have cH := pplace_any p h1 hS
  have ha : ath buy P p = true := by unfold ath; rw [hx]; simp [hp]
  rw [ha] at cH
  have hi := (List.getElem?_eq_some_iff.1 hx).1
  have hl := h.len
  have hgl : g ≠ W.heap.size := by have := h.lt g h.sg; omega
  generalize hn : plc buy P p = n at *
  have hi2 : (n : Int) < (P.length : Int) := by omega
  obtain ⟨v0, v1, v2, v3⟩ := x
  have hend : ∀ w1, Below W1.heap.size W1 w1 → Blk w1 W.heap.size 133 (cLvl Lvl.zero) ∧ Below W.heap.size W w1 ∧ w1.cell? ⟨g, 1, none⟩ = some (.slice ao P.length cap) ∧ ∃ k, ao = some ⟨k, 0, none⟩ ∧ w1.cell? ⟨k, n * 4, none⟩ = some (.int .i64 v0) ∧ w1.cell? ⟨k, n * 4 + 1, none⟩ = some (.int .i64 v1) ∧ w1.cell? ⟨k, n * 4 + 2, none⟩ = some (.int .i64 v2) ∧ w1.cell? ⟨k, n * 4 + 3, none⟩ = some (.int .i64 v3) := by
    intro w1 hw1
    have h2 := h1.below hw1
    obtain ⟨k, -, e2, hc⟩ := h2.row hx
    exact ⟨hBx.below hw1 hBx.lt, hF1.trans (hw1.mono hF1.size), h2.c1, k, e2, (hc _ _ (lcs_get hx 0 _ rfl)).1, (hc _ _ (lcs_get hx 1 _ rfl)).1, (hc _ _ (lcs_get hx 2 _ rfl)).1, (hc _ _ (lcs_get hx 3 _ rfl)).1⟩
  replace hend := Lib.hid hend
  simp only [Lvl.zero, cLvl] at hW1
  clear hBx hF1 h1 h hS hx hi hn ha hp
  go_enter Tryd.func93, Tryd.ntmps93
  go_wp2_with (go_at_call 57; rw [← hW1]; (with_reducible refine cH.mono ?_); rintro e w1 ⟨rfl, hb1⟩; obtain ⟨hBx, hF, d1, k, rfl, y0, y1, y2, y3⟩ := hend.out _ hb1; clear hb1 hW1 hend cH; obtain ⟨b0, b1, b2, b3⟩ := Lvl.cells hBx; have hfr := hBx.free; obtain ⟨c0, c1, c2, c3⟩ := Lvl.cells (Lvl.lay hBx v0 v1 v2 v3); have hbel := Lvl.below hF (Nat.le_refl _) (.int .i64 v0) (.int .i64 v1) (.int .i64 v2) (.int .i64 v3); simp only [Lvl.zero] at b0 b1 b2 b3; simp only at c0 c1 c2 c3; clear hBx)
  refine bodyPost_ret (v := .tuple #[.agg #[.int .i64 v0, .int .i64 v1, .int .i64 v2, .int .i64 v3], .bool true]) ?_ rfl ⟨rfl, hbel⟩
  simp [results, Tryd.results93, go_sem, c0, c1, c2, c3]
set_option maxRecDepth 8000 in
set_option maxHeartbeats 1000000 in
theorem pfits_any (p : Int) (h : PmB W g S ko ao cap buy P F) (hS : Std buy P) {q : Int} {room : Bool}
    (cU : ∀ w, PmB w g S ko ao cap buy P F → Calls Tryd.prog 77 #[.pointer (some ⟨g, 0, none⟩)] w fun e w' => e = .returned (.tuple #[.int .i64 q, .bool room]) ∧ w' = w) :
    Calls Tryd.prog 88 #[.pointer (some ⟨g, 0, none⟩), .int .i64 p] W fun e w' => e = .returned (.bool (ath buy P p || room)) ∧ Below W.heap.size W w' := by
  have cH := pplace_any p h hS
  generalize plc buy P p = n at *
  have cU' := fun w1 (hw : Below W.heap.size W w1) => cU w1 (h.below hw)
  clear h hS cU
  generalize ath buy P p = A at *
  cases A <;> cases room
  all_goals
    go_enter Tryd.func88, Tryd.ntmps88
    go_wp2_with (first
      | (go_at_call 57; (with_reducible refine cH.mono ?_); rintro e w1 ⟨rfl, hb1⟩; clear cH)
      | (go_at_call 77; (with_reducible refine (cU' _ hb1).mono ?_); rintro e w2 ⟨rfl, hw2⟩; subst w2; clear cU')
      | fail)
    all_goals go_ret
    all_goals exact ⟨rfl, hb1⟩
end
end Go.Proofs.YtdmjcjheanedgaaDoor
