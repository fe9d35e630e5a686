/-
  The contracts of the program's Take.
-/
import Derived.Test.YthlpnlmjpdcbiaaLpt
import Derived.Test.YthlpnlmjpdcbiaaRlg
namespace Go.Proofs.Ythlpnlmjpdcbiaa
open Go.RowKit
section
variable {w w' W : World} {g : Nat} {S T : Nat → Prop} {ko : Option Nat} {ao : Option Addr} {cap : Nat} {buy : Bool} {P : List Lvl} {F : List Nat}
/-- One cell of a level turned. -/
theorem PmB.turn1 (h : PmB w g S ko ao cap buy P F) {i : Nat} {x y : Lvl} (hx : P[i]? = some x) (e1 : y.price = x.price) (e2 : y.queue = x.queue) (e3 : y.orders = x.orders) :
    ∃ k, ko = some k ∧ ao = some ⟨k, 0, none⟩ ∧ k ≠ g ∧ S k ∧ PmB (w.setCell ⟨k, i * 4 + 1, none⟩ (.int .i64 y.qty)) g S ko ao cap buy (P.set i y) F := by
  have hL := lcs_len P
  have hi := (List.getElem?_eq_some_iff.1 hx).1
  obtain ⟨v, hv⟩ : ∃ v, (lcs P)[0]? = some v := ⟨_, List.getElem?_eq_getElem (by omega)⟩
  obtain ⟨k, rfl, rfl, -, -⟩ := h.how.cell 0 v hv
  obtain ⟨hk, hkr⟩ := h.sk k rfl
  refine ⟨k, rfl, rfl, hkr, hk, by simpa using h.len, h.fl, ?_, ?_, h.sg, h.sk, ?_⟩
  · have e := h.hg
    unfold Blk at e ⊢
    rw [List.length_set, heap_oth _ _ _ (Ne.symm hkr)]
    exact e
  · rw [lcs_set1 y P i x hx e1 e2 e3, List.length_set]
    exact h.how.setc _ _
  · intro b hb
    have := h.lt b hb
    simpa [World.setCell] using this
set_option maxRecDepth 8000 in
set_option maxHeartbeats 1000000 in
theorem ptakeNo_any (p q : Int) (gone : Bool) (h : PmB W g S ko ao cap buy P F) (hS : Std buy P) (ha : ath buy P p = false) :
    Calls Try.prog 19 #[.pointer (some ⟨g, 0, none⟩), .int .i64 p, .int .i64 q, .bool gone] W fun e w' => e = .returned (.tuple #[.int .i64 0, .int .i64 5]) ∧ Below W.heap.size W w' := by
  have cP := pplace_any p h hS
  rw [ha] at cP
  generalize plc buy P p = n at *
  clear h hS ha
  go_enter Try.func19, Try.ntmps19
  go_wp2_with (go_at_call 30; (with_reducible refine cP.mono ?_); rintro e w1 ⟨rfl, hb1⟩; clear cP)
  all_goals go_ret2
  all_goals exact ⟨rfl, hb1⟩
set_option maxRecDepth 8000 in
set_option maxHeartbeats 1000000 in
theorem ptakeRange_any (p q : Int) (gone : Bool) (h : PmB W g S ko ao cap buy P F) (hS : Std buy P) {x : Lvl} (hx : P[plc buy P p]? = some x) (hxp : x.price = p) (hq : q < 0 ∨ x.qty < q) :
    Calls Try.prog 19 #[.pointer (some ⟨g, 0, none⟩), .int .i64 p, .int .i64 q, .bool gone] W fun e w' => e = .returned (.tuple #[.int .i64 0, .int .i64 9]) ∧ Below W.heap.size W w' := by
  have cP := pplace_any p h hS
  rw [ath_yes hx hxp] at cP
  have hi := (List.getElem?_eq_some_iff.1 hx).1
  have hl := h.len
  obtain ⟨k, rfl, -, -, -, hf⟩ := h.facts hx
  generalize plc buy P p = n at *
  have hi2 : (n : Int) < (P.length : Int) := by omega
  have hd : decide (q < 0) = true ∨ (decide (q < 0) = false ∧ decide (x.qty < q) = true) := by
    by_cases g : q < 0
    · exact .inl (decide_eq_true g)
    · exact .inr ⟨decide_eq_false g, decide_eq_true (by omega)⟩
  replace hf := Lib.hid hf
  clear h hx hS hq hxp
  rcases hd with d0 | ⟨d0, d1⟩
  all_goals
    go_enter Try.func19, Try.ntmps19
    go_wp2_with (go_at_call 30; (with_reducible refine cP.mono ?_); rintro e w1 ⟨rfl, hb1⟩; clear cP; obtain ⟨c1, ⟨y1, -⟩, -, -⟩ := hf.out _ hb1)
    all_goals go_ret2
    all_goals exact ⟨rfl, hb1⟩
set_option maxRecDepth 8000 in
set_option maxHeartbeats 1000000 in
theorem ptakeSet_any (p q : Int) (gone : Bool) (h : PmB W g S ko ao cap buy P F) (hS : Std buy P) {x : Lvl} (hx : P[plc buy P p]? = some x) (hxp : x.price = p) (hq : ¬ (q < 0 ∨ x.qty < q)) (hxq : x.qty < 9223372036854775808) (hor : 1 ≤ x.orders ∧ x.orders ≤ 1000000) (hz : (x.sub q gone).orders ≠ 0) :
    Calls Try.prog 19 #[.pointer (some ⟨g, 0, none⟩), .int .i64 p, .int .i64 q, .bool gone] W fun e w' => e = .returned (.tuple #[.int .i64 x.queue, .int .i64 0]) ∧ PmB w' g S ko ao cap buy (P.set (plc buy P p) (x.sub q gone)) F ∧ Frm S W w' := by
  have cP := pplace_any p h hS
  rw [ath_yes hx hxp] at cP
  have hi := (List.getElem?_eq_some_iff.1 hx).1
  have hl := h.len
  obtain ⟨k, rfl, hkg, hkS, hko, hf⟩ := h.facts hx
  have hd0 : decide (q < 0) = false := decide_eq_false (by omega)
  have hd1 : decide (x.qty < q) = false := decide_eq_false (by omega)
  have hw : IntKind.i64.wrap (x.qty - q) = x.qty - q := by rw [IntKind.wrap_i64]; omega
  have hq1 : ¬ q < 0 := by omega
  have hq2 : ¬ x.qty < q := by omega
  cases gone
  · have hend : ∀ w1, Below W.heap.size W w1 → PmB (w1.setCell ⟨k, plc buy P p * 4 + 1, none⟩ (.int .i64 (x.qty - q))) g S ko (some ⟨k, 0, none⟩) cap buy (P.set (plc buy P p) (x.sub q false)) F ∧ Frm S W (w1.setCell ⟨k, plc buy P p * 4 + 1, none⟩ (.int .i64 (x.qty - q))) := by
      intro w1 hb
      obtain ⟨k', e1, e2, -, -, ht⟩ := (h.below hb).turn1 (y := x.sub q false) hx rfl rfl rfl
      cases e2
      exact ⟨ht, (Frm.of_below hb).setCell _ _ (.inl hkS)⟩
    generalize plc buy P p = n at *
    have hi2 : (n : Int) < (P.length : Int) := by omega
    have hz0 : ¬ (x.orders = 0) := by omega
    replace hf := Lib.hid hf
    replace hend := Lib.hid hend
    clear h hx hS hxp hz hxq hq
    obtain ⟨x0, x1, x2, x3⟩ := x
    simp only at *
    go_enter Try.func19, Try.ntmps19
    go_wp2_with (go_at_call 30; (with_reducible refine cP.mono ?_); rintro e w1 ⟨rfl, hb1⟩; clear cP; obtain ⟨c1, ⟨y1, f1⟩, ⟨y2, f2⟩, y3⟩ := hf.out _ hb1)
    all_goals go_ret2
    all_goals exact ⟨rfl, hend.out _ hb1⟩
  · have hend : ∀ w1, Below W.heap.size W w1 → PmB ((w1.setCell ⟨k, plc buy P p * 4 + 1, none⟩ (.int .i64 (x.qty - q))).setCell ⟨k, plc buy P p * 4 + 2, none⟩ (.int .i64 (x.orders - 1))) g S ko (some ⟨k, 0, none⟩) cap buy (P.set (plc buy P p) (x.sub q true)) F ∧ Frm S W ((w1.setCell ⟨k, plc buy P p * 4 + 1, none⟩ (.int .i64 (x.qty - q))).setCell ⟨k, plc buy P p * 4 + 2, none⟩ (.int .i64 (x.orders - 1))) := by
      intro w1 hb
      obtain ⟨k', e1, e2, -, -, ht⟩ := (h.below hb).turn (y := x.sub q true) hx rfl rfl
      cases e2
      exact ⟨ht, ((Frm.of_below hb).setCell _ _ (.inl hkS)).setCell _ _ (.inl hkS)⟩
    generalize plc buy P p = n at *
    have hi2 : (n : Int) < (P.length : Int) := by omega
    have hz0 : ¬ (x.orders - 1 = 0) := hz
    replace hf := Lib.hid hf
    replace hend := Lib.hid hend
    clear h hx hS hxp hz hxq hq
    obtain ⟨x0, x1, x2, x3⟩ := x
    simp only at *
    go_enter Try.func19, Try.ntmps19
    go_wp2_with (go_at_call 30; (with_reducible refine cP.mono ?_); rintro e w1 ⟨rfl, hb1⟩; clear cP; obtain ⟨c1, ⟨y1, f1⟩, ⟨y2, f2⟩, y3⟩ := hf.out _ hb1)
    all_goals go_ret2
    all_goals exact ⟨rfl, hend.out _ hb1⟩
set_option maxRecDepth 8000 in
set_option maxHeartbeats 1000000 in
theorem ptakeDel_any (p q : Int) (h : PmB W g S ko ao cap buy P F) (hF : ∀ x ∈ F, x < 18446744073709551616) (hS : Std buy P) {x : Lvl} (hx : P[plc buy P p]? = some x) (hxp : x.price = p) (hq : ¬ (q < 0 ∨ x.qty < q)) (hxq : x.qty < 9223372036854775808) (hor : x.orders = 1) {u : Nat} (hu : u < 256) (hxu : x.queue = (u : Int)) :
    Calls Try.prog 19 #[.pointer (some ⟨g, 0, none⟩), .int .i64 p, .int .i64 q, .bool true] W fun e w' => e = .returned (.tuple #[.int .i64 (u : Int), .int .i64 0]) ∧ PmB w' g S ko ao cap buy (P.eraseIdx (plc buy P p)) (flp F u) ∧ Frm S W w' := by
  have cP := pplace_any p h hS
  rw [ath_yes hx hxp] at cP
  have hi := (List.getElem?_eq_some_iff.1 hx).1
  have hl := h.len
  obtain ⟨k, rfl, hkg, hkS, hko, hf⟩ := h.facts hx
  have hd0 : decide (q < 0) = false := decide_eq_false (by omega)
  have hd1 : decide (x.qty < q) = false := decide_eq_false (by omega)
  have hw : IntKind.i64.wrap (x.qty - q) = x.qty - q := by rw [IntKind.wrap_i64]; omega
  have hq1 : ¬ q < 0 := by omega
  have hq2 : ¬ x.qty < q := by omega
  have cC : ∀ w1, Below W.heap.size W w1 → Calls Try.prog 33 #[.pointer (some ⟨g, 0, none⟩), .int .i64 (plc buy P p : Nat)] ((w1.setCell ⟨k, plc buy P p * 4 + 1, none⟩ (.int .i64 (x.qty - q))).setCell ⟨k, plc buy P p * 4 + 2, none⟩ (.int .i64 0)) fun e w' => e = .returned undef ∧ PmB w' g S ko (some ⟨k, 0, none⟩) cap buy (P.eraseIdx (plc buy P p)) (flp F u) ∧ Frm S W w' := by
    intro w1 hb
    obtain ⟨k', e1, e2, -, -, ht⟩ := (h.below hb).turn (y := ⟨x.price, x.qty - q, 0, x.queue⟩) hx rfl rfl
    cases e2
    have hy : (P.set (plc buy P p) ⟨x.price, x.qty - q, 0, x.queue⟩)[plc buy P p]? = some ⟨x.price, x.qty - q, 0, x.queue⟩ := List.getElem?_set_self hi
    refine (pclose_any (plc buy P p) ht hF hy hu hxu).mono ?_
    rintro e w2 ⟨rfl, k1, k2⟩
    rw [List.eraseIdx_set_eq] at k1
    exact ⟨rfl, k1, (((Frm.of_below hb).setCell ⟨k, _, none⟩ _ (.inl hkS)).setCell ⟨k, _, none⟩ _ (.inl hkS)).trans k2 (fun b e => .inl e)⟩
  generalize plc buy P p = n at *
  have hi2 : (n : Int) < (P.length : Int) := by omega
  replace hf := Lib.hid hf
  replace cC := Lib.hid cC
  clear h hx hS hxp hxq hq hF
  obtain ⟨x0, x1, x2, x3⟩ := x
  simp only at *
  subst hor
  subst hxu
  go_enter Try.func19, Try.ntmps19
  go_wp2_with (first
    | (go_at_call 30; (with_reducible refine cP.mono ?_); rintro e w1 ⟨rfl, hb1⟩; clear cP; obtain ⟨c1, ⟨y1, f1⟩, ⟨y2, f2⟩, y3⟩ := hf.out _ hb1)
    | (go_at_call 33; (with_reducible refine (cC.out _ hb1).mono ?_); rintro e w2 ⟨rfl, hQ1, hQ2⟩; clear cC)
    | fail)
  all_goals go_ret2
  all_goals exact ⟨rfl, hQ1, hQ2⟩
end
end Go.Proofs.Ythlpnlmjpdcbiaa
