/-
  The contracts of sort.Search (any predicate), of place, Find, Best, Fits.
-/
import Derived.Test.YtdmjcjheanedgaaDoorGI
import Derived.Test.YtdmjcjheanedgaaDoorGB
import Derived.BigQuiet
import Derived.Deep.QuietTactic
namespace Go.Proofs.YtdmjcjheanedgaaDoor
open Go.RowKit
set_option maxRecDepth 8000 in
set_option maxHeartbeats 1000000 in
/-- The library's search: the least number of which a rising predicate holds. -/
theorem search_any (gn : Nat) (gc : Array Value) (hG : Goes gn) (n p : Nat) (hp : p ≤ n) (hn : n ≤ 1000000) (W : World)
    (hC : ∀ w, Below W.heap.size W w → ∀ i : Nat, i < n → Calls Tryd.prog gn (#[.int .i64 (i : Int)] ++ gc) w fun e w' => e = .returned (.bool (decide (p ≤ i))) ∧ Below w.heap.size w w') :
    Calls Tryd.prog 74 #[.int .i64 (n : Int), .func (.func gn) #[] gc] W fun e w' => e = .returned (.int .i64 (p : Int)) ∧ Below W.heap.size W w' := by
  have hGo := hG gc
  go_enter Tryd.func74, Tryd.ntmps74
  go_wp2_with fail
  go_loopg [5, 6] n (fun j p5 p6 wr => Below W.heap.size W wr ∧ ∃ a b : Nat, a ≤ p ∧ p ≤ b ∧ b ≤ n ∧ b ≤ a + j ∧ p5 = .int .i64 (a : Int) ∧ p6 = .int .i64 (b : Int))
  case atStart => exact ⟨Below.refl _ _, 0, n, by omega, hp, Nat.le_refl _, by omega, rfl, rfl⟩
  case round =>
    obtain ⟨hB, a, b, ha, hb, hbn, hab, rfl, rfl⟩ := hrel
    by_cases hlt : a < b
    · obtain ⟨m, hm⟩ : ∃ m, m = (a + b) / 2 := ⟨_, rfl⟩
      have hm1 : a ≤ m := by omega
      have hm2 : m < b := by omega
      have hCm := fun w hw => hC w hw m (by omega)
      clear hC
      have em : (m : Int) = ((a : Int) + (b : Int)) / 2 := by omega
      rw [em] at hCm
      have hG1 := hG (#[.int .i64 (((a : Int) + (b : Int)) / 2)] ++ gc)
      by_cases hpm : p ≤ m
      · rw [decide_eq_true hpm] at hCm
        go_wp2_with ((with_reducible refine (hCm _ hB).mono ?_); rintro e w1 ⟨rfl, hb1⟩; have hB1 := hB.trans (hb1.mono hB.size))
        go_roundg (m - a)
        case measure => omega
        case rel => exact ⟨hB1, a, m, ha, hpm, by omega, by omega, rfl, by rw [em]⟩
      · rw [decide_eq_false hpm] at hCm
        go_wp2_with ((with_reducible refine (hCm _ hB).mono ?_); rintro e w1 ⟨rfl, hb1⟩; have hB1 := hB.trans (hb1.mono hB.size))
        go_roundg (b - (m + 1))
        case measure => omega
        case rel => exact ⟨hB1, m + 1, b, by omega, hb, hbn, by omega, by rw [Int.natCast_add, em]; go_num, rfl⟩
    · obtain rfl : a = b := by omega
      obtain rfl : a = p := by omega
      clear hC
      go_wp2_with fail
      go_ret
      exact ⟨rfl, hB⟩
/-- Whether the price stands at its place. -/
def ath (buy : Bool) (P : List Lvl) (p : Int) : Bool := match P[plc buy P p]? with
  | some x => x.price == p
  | none => false
section
variable {w w' W : World} {g : Nat} {S T : Nat → Prop} {ko : Option Nat} {ao : Option Addr} {cap : Nat} {buy : Bool} {P : List Lvl} {F : List Nat}
set_option maxRecDepth 8000 in
set_option maxHeartbeats 1000000 in
theorem pclos_any (p : Int) (h : PmB W g S ko ao cap buy P F) (hS : Std buy P) (b1 b2 i : Nat) (hi : i < P.length)
    (h1 : W.cell? ⟨b1, 0, none⟩ = some (.pointer (some ⟨g, 0, none⟩))) (h2 : W.cell? ⟨b2, 0, none⟩ = some (.int .i64 p)) :
    Calls Tryd.prog 75 (#[.int .i64 (i : Int)] ++ #[.pointer (some ⟨b1, 0, none⟩), .pointer (some ⟨b2, 0, none⟩)]) W fun e w' => e = .returned (.bool (decide (plc buy P p ≤ i))) ∧ Below W.heap.size W w' := by
  obtain ⟨x, hx⟩ : ∃ x, P[i]? = some x := ⟨P[i], List.getElem?_eq_getElem hi⟩
  have e : decide (plc buy P p ≤ i) = !btr buy x.price p := by
    by_cases k : plc buy P p ≤ i
    · rw [hS.plc_after hx k]; simp [k]
    · rw [plc_lt (by omega) hx]; simp [k]
  rw [e]
  have cB := fun n => pbetter_any x.price p (h.drewN n)
  have c1 := h.c1
  have hl := h.len
  obtain ⟨b, off, rfl, x0, x1, x2, x3⟩ := h.lvls.get hx
  replace x0 : W.cell? ⟨b, off + i * 4, none⟩ = some (.int .i64 x.price) := x0
  have hi2 : (i : Int) < (P.length : Int) := by omega
  clear e hS hx x1 x2 x3
  go_enter Tryd.func75, Tryd.ntmps75
  go_wp2_with fail
  go_quiet (first | (go_at_call 76; exact Calls.quiet_of_same (cB _)))
  go_wp2_with fail
  go_ret
  exact ⟨rfl, belowN (Below.refl _ _) _⟩
set_option maxRecDepth 8000 in
set_option maxHeartbeats 1000000 in
theorem pplace_any (p : Int) (h : PmB W g S ko ao cap buy P F) (hS : Std buy P) :
    Calls Tryd.prog 57 #[.pointer (some ⟨g, 0, none⟩), .int .i64 p] W fun e w' => e = .returned (.tuple #[.int .i64 (plc buy P p : Nat), .bool (ath buy P p)]) ∧ Below W.heap.size W w' := by
  have hl := h.len
  have hple := plc_le buy P p
  obtain ⟨V, hV⟩ : ∃ V, V = (W.alloc (.cells #[.pointer (some ⟨g, 0, none⟩)] 71)).alloc (.cells #[.int .i64 p] 2) := ⟨_, rfl⟩
  have hb : Below W.heap.size W V := by rw [hV]; exact ((Below.refl _ W).alloc (Nat.le_refl _) _).alloc (by simp) _
  have k1 : Blk V W.heap.size 71 #[.pointer (some ⟨g, 0, none⟩)] := by rw [hV]; exact (Blk.new _ _ _).alloc _
  have k2 : Blk V (W.heap.size + 1) 2 #[.int .i64 p] := by rw [hV]; exact Blk.new' (by simp)
  have cS := search_any 75 #[.pointer (some ⟨W.heap.size, 0, none⟩), .pointer (some ⟨W.heap.size + 1, 0, none⟩)] (goes_of Tryd.func75 (by kernel_rfl) (by kernel_rfl)) P.length (plc buy P p) hple (by omega) V (fun w hw i hi => pclos_any p ((h.below hb).below hw) hS W.heap.size (W.heap.size + 1) i hi ((k1.below hw k1.lt).cell_eq 0 _ rfl) ((k2.below hw k2.lt).cell_eq 0 _ rfl))
  have hfin : ∀ w1, Below V.heap.size V w1 → w1.cell? ⟨W.heap.size, 0, none⟩ = some (.pointer (some ⟨g, 0, none⟩)) ∧ w1.cell? ⟨W.heap.size + 1, 0, none⟩ = some (.int .i64 p) ∧ w1.cell? ⟨g, 1, none⟩ = some (.slice ao P.length cap) ∧ Below W.heap.size W w1 ∧ (∀ x, P[plc buy P p]? = some x → ∃ k, ao = some ⟨k, 0, none⟩ ∧ w1.cell? ⟨k, plc buy P p * 4, none⟩ = some (.int .i64 x.price)) := by
    intro w1 hw1
    have h3 := (h.below hb).below hw1
    refine ⟨(k1.below hw1 k1.lt).cell_eq 0 _ rfl, (k2.below hw1 k2.lt).cell_eq 0 _ rfl, h3.c1, hb.trans (hw1.mono hb.size), fun x hx => ?_⟩
    obtain ⟨k, -, e2, hc⟩ := h3.row hx
    exact ⟨k, e2, (hc _ _ (lcs_get hx 0 _ rfl)).1⟩
  have c1 := (h.below hb).c1
  rw [hV] at cS hfin c1
  replace hfin := Lib.hid hfin
  have hat : (P.length ≤ plc buy P p ∧ ath buy P p = false) ∨ (plc buy P p < P.length ∧ ∃ x, P[plc buy P p]? = some x ∧ ath buy P p = (x.price == p)) := by
    by_cases k : plc buy P p < P.length
    · have e := List.getElem?_eq_getElem k
      exact .inr ⟨k, _, e, by unfold ath; rw [e]⟩
    · have e : P[plc buy P p]? = none := List.getElem?_eq_none (by omega)
      exact .inl ⟨by omega, by unfold ath; rw [e]⟩
  clear hV k1 k2 h hb hS V
  generalize ath buy P p = A at *
  generalize plc buy P p = n at *
  rcases hat with ⟨h1, rfl⟩ | ⟨h1, x, hx, rfl⟩
  · have hd : decide (n < P.length) = false := decide_eq_false (by omega)
    go_enter Tryd.func57, Tryd.ntmps57
    go_wp2_with (go_at_call 74; (with_reducible refine cS.mono ?_); rintro e w1 ⟨rfl, hb1⟩; obtain ⟨f1, f2, f3, f4, -⟩ := hfin.out _ hb1; clear hfin hb1 cS c1)
    go_quiet (fail)
    go_wp2_with fail
    go_ret2
    exact ⟨rfl, belowN f4 _⟩
  · have hd : decide (n < P.length) = true := decide_eq_true (by omega)
    have hn2 : (n : Int) < (P.length : Int) := by omega
    go_enter Tryd.func57, Tryd.ntmps57
    go_wp2_with (go_at_call 74; (with_reducible refine cS.mono ?_); rintro e w1 ⟨rfl, hb1⟩; obtain ⟨f1, f2, f3, f4, f5⟩ := hfin.out _ hb1; obtain ⟨k, rfl, f6⟩ := f5 x hx; clear hfin hb1 cS c1 f5 hx)
    go_quiet (fail)
    go_wp2_with fail
    go_ret2
    exact ⟨rfl, belowN f4 _⟩
end
end Go.Proofs.YtdmjcjheanedgaaDoor
