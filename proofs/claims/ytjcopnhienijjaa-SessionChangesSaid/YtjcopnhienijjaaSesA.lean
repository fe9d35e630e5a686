/-
  The contracts of the document's Rising, At and Next.
-/
import Derived.Test.YtjcopnhienijjaaSes
import Derived.Test.YtjcopnhienijjaaRowpV
import Derived.BigQuiet
import Derived.Deep.QuietTactic
import Derived.IntWalk
import Derived.Lib.Hide
import Derived.Deep.LoopGhost
import Derived.WalkKit
import Derived.WalkMore
namespace Go.Proofs.Ytjcopnhienijjaa
open Go.RowKit
theorem below_drewN {B : Nat} {w w' : World} (h : Below B w w') (n : Nat) : Below B w (w'.drewN n) := ⟨h.os, h.tape, h.output, h.size, h.block⟩
/-- The ticks of the first rows rise. -/
structure RisU (l : List Rowp) (q : Nat) : Prop where
  up : ∀ i j, i < j → j < q → tk l i < tk l j
  nn : ∀ i, i < q → 0 ≤ tk l i
theorem RisU.more {l : List Rowp} {q : Nat} (h : RisU l q) (h0 : 0 ≤ tk l q) (h1 : ∀ k, q = k + 1 → tk l k < tk l q) : RisU l (q + 1) := by
  refine ⟨fun i j hij hj => ?_, fun i hi => ?_⟩
  · by_cases e : j = q
    · subst e
      obtain ⟨k, rfl⟩ : ∃ k, j = k + 1 := ⟨j - 1, by omega⟩
      have h2 := h1 k rfl
      by_cases e2 : i = k
      · rw [e2]; exact h2
      · have := h.up i k (by omega) (by omega)
        omega
    · exact h.up i j hij (by omega)
  · by_cases e : i = q
    · rw [e]; exact h0
    · exact h.nn i (by omega)
set_option maxRecDepth 8000 in
set_option maxHeartbeats 2000000 in
theorem rising_any (ao : Option Addr) (cap : Nat) (l : List Rowp) (W : World) (hL : Rowps W ao cap l) :
    Calls Try.prog 19 #[.slice ao l.length cap] W fun e w' => ∃ k, e = .returned (.bool k) ∧ (k = true → Ris l) ∧ Below W.heap.size W w' := by
  have hm := hL.len
  have hm2 := hL.top
  unfold maxLen at hm2
  go_enter Try.func19, Try.ntmps19
  go_wp2_with fail
  go_loopg [3] l.length (fun j p3 wr => ∃ q m : Nat, q + j = l.length ∧ p3 = .int .i64 (q : Int) ∧ wr = W.drewN m ∧ Hid (RisU l q))
  case atStart => exact ⟨0, 0, by omega, rfl, rfl, Lib.hid ⟨fun i j _ h => by omega, fun i h => by omega⟩⟩
  case round =>
    obtain ⟨q, m, hq, rfl, rfl, hU⟩ := hrel
    by_cases hj : q < l.length
    · obtain ⟨r, hr⟩ : ∃ x, l[q]? = some x := ⟨l[q], List.getElem?_eq_getElem hj⟩
      obtain ⟨b, off, rfl, x0, x1⟩ := hL.get hr
      replace x0 : W.cell? ⟨b, off + q * 2, none⟩ = some (.int .i64 r.tick) := x0
      have hk0 := tk_get hr
      by_cases hneg : r.tick < 0
      · clear hU hr hL hk0 x1
        obtain ⟨t, p⟩ := r
        simp only at *
        have hneg' : decide (t < 0) = true := by simpa using hneg
        go_wp2_with fail
        go_quiet (fail)
        go_wp2_with fail
        go_ret
        exact ⟨_, rfl, (fun h => by cases h), below_drewN (below_drewN (Below.refl _ _) _) _⟩
      · have hneg' : decide (r.tick < 0) = false := by simpa using hneg
        by_cases hq0 : q = 0
        · have hn := Lib.hid (hU.out.more (by rw [hk0]; omega) (fun k h => by omega))
          have hd : decide ((0 : Int) < (q : Int)) = false := by simp; omega
          have hd2 : decide (0 < q) = false := by simp; omega
          have hd3 : ¬ (0 < q) := by omega
          clear hU hr hL hk0 x1 hq0
          obtain ⟨t, p⟩ := r
          simp only at *
          go_wp2_with fail
          go_quiet (fail)
          go_wp2_with fail
          go_roundg (l.length - (q + 1))
          case measure => omega
          case rel => exact ⟨q + 1, _, by omega, by go_num, rfl, hn⟩
        · obtain ⟨k, hk⟩ : ∃ k, q = k + 1 := ⟨q - 1, by omega⟩
          obtain ⟨s, hs⟩ : ∃ x, l[k]? = some x := ⟨l[k]'(by omega), List.getElem?_eq_getElem (by omega)⟩
          obtain ⟨b', off', hao, y0, y1⟩ := hL.get hs
          cases hao
          replace y0 : W.cell? ⟨b, off + k * 2, none⟩ = some (.int .i64 s.tick) := y0
          have hk1 := tk_get hs
          have hkl : k < l.length := by omega
          have hd : decide ((0 : Int) < (q : Int)) = true := by simp; omega
          have hd2 : decide (0 < q) = true := by simp; omega
          have hd3 : 0 < q := by omega
          have hw : IntKind.i64.wrap ((q : Int) - 1) = (k : Int) := by rw [hk, IntWalk.i64_in _ (by omega)]; omega
          by_cases hle : r.tick ≤ s.tick
          · clear hU hr hs hL hk0 hk1 x1 y1 hk hq0
            obtain ⟨t, p⟩ := r
            obtain ⟨u, v⟩ := s
            simp only at *
            go_wp2_with fail
            go_quiet (fail)
            go_wp2_with fail
            go_ret
            exact ⟨_, rfl, (fun h => by cases h), below_drewN (below_drewN (Below.refl _ _) _) _⟩
          · have hn := Lib.hid (hU.out.more (by rw [hk0]; omega) (fun k' h => by
              have : k' = k := by omega
              subst this
              rw [hk0, hk1]; omega))
            clear hU hr hs hL hk0 hk1 x1 y1 hk hq0
            obtain ⟨t, p⟩ := r
            obtain ⟨u, v⟩ := s
            simp only at *
            go_wp2_with fail
            go_quiet (fail)
            go_wp2_with fail
            go_roundg (l.length - (q + 1))
            case measure => omega
            case rel => exact ⟨q + 1, _, by omega, by go_num, rfl, hn⟩
    · have hqe : q = l.length := by omega
      subst hqe
      have hall := hU.out
      go_wp2_with fail
      go_ret
      exact ⟨_, rfl, fun _ => ⟨hall.up, hall.nn⟩, below_drewN (Below.refl _ _) _⟩
set_option maxRecDepth 8000 in
theorem refAt_any (ao : Option Addr) (cap : Nat) (l : List Rowp) (t : Int) (p : Nat) (hp : Pas l t p) (W : World) (hL : Rowps W ao cap l) :
    Calls Try.prog 12 #[.slice ao l.length cap, .int .i64 t] W fun e w' => e = .returned (.int .i64 (phN l p)) ∧ w' = W := by
  have hm := hL.len
  have hm2 := hL.top
  unfold maxLen at hm2
  go_enter Try.func12, Try.ntmps12
  go_wp2_with fail
  go_loopg [5, 6] l.length (fun j p5 p6 wr => ∃ q : Nat, q + j = l.length ∧ p6 = .int .i64 (q : Int) ∧ p5 = .int .i64 (phN l (min q p)) ∧ W = wr)
  case atStart => exact ⟨0, by omega, rfl, by simp [phN], rfl⟩
  case round =>
    obtain ⟨q, hq, rfl, rfl, rfl⟩ := hrel
    by_cases hj : q < l.length
    · obtain ⟨r, hr⟩ : ∃ x, l[q]? = some x := ⟨l[q], List.getElem?_eq_getElem hj⟩
      obtain ⟨b, off, rfl, x0, x1⟩ := hL.get hr
      replace x0 : W.cell? ⟨b, off + q * 2, none⟩ = some (.int .i64 r.tick) := x0
      have hk0 := tk_get hr
      have hk1 := ph_get hr
      by_cases hlt : q < p
      · have hle : r.tick ≤ t := by rw [← hk0]; exact hp.lo q hlt
        have e : phN l (min (q + 1) p) = r.phase := by
          rw [Nat.min_eq_left (by omega)]; unfold phN; rw [if_neg (by omega), Nat.add_sub_cancel, hk1]
        rw [← hk1] at x1
        generalize phN l (min q p) = z
        clear hr hL hk0 hp
        obtain ⟨t', p'⟩ := r
        simp only at *
        subst hk1
        go_wp2_with fail
        go_roundg (l.length - (q + 1))
        case measure => omega
        case rel => exact ⟨q + 1, by omega, by go_num, by rw [e], rfl⟩
      · have hgt : t < r.tick := by rw [← hk0]; exact hp.hi q (by omega) hj
        have e : phN l (min (q + 1) p) = phN l (min q p) := by
          rw [Nat.min_eq_right (by omega), Nat.min_eq_right (by omega)]
        generalize phN l (min q p) = z at e
        clear hr hL hk0 hk1 hp
        obtain ⟨t', p'⟩ := r
        simp only at *
        go_wp2_with fail
        go_roundg (l.length - (q + 1))
        case measure => omega
        case rel => exact ⟨q + 1, by omega, by go_num, by rw [e], rfl⟩
    · have hqe : q = l.length := by omega
      have e : min q p = p := by have := hp.le; omega
      rw [e]
      go_wp2_with fail
      go_ret
      exact ⟨rfl, rfl⟩
/-- The tick of a row, and that there is one. -/
def Nx (l : List Rowp) (p : Nat) (v : Int) (k : Bool) : Prop := (p < l.length ∧ v = tk l p ∧ k = true) ∨ (p = l.length ∧ v = 0 ∧ k = false)
theorem Nx.exists {l : List Rowp} {p : Nat} (h : p ≤ l.length) : ∃ v k, Nx l p v k := by
  by_cases e : p < l.length
  · exact ⟨_, _, .inl ⟨e, rfl, rfl⟩⟩
  · exact ⟨_, _, .inr ⟨by omega, rfl, rfl⟩⟩
set_option maxRecDepth 8000 in
theorem refNext_any (ao : Option Addr) (cap : Nat) (l : List Rowp) (t : Int) (p : Nat) (hp : Pas l t p) (v : Int) (k : Bool) (hv : Nx l p v k) (W : World) (hL : Rowps W ao cap l) :
    Calls Try.prog 10 #[.slice ao l.length cap, .int .i64 t] W fun e w' => e = .returned (.tuple #[.int .i64 v, .bool k]) ∧ w' = W := by
  have hm := hL.len
  have hm2 := hL.top
  have hle := hp.le
  unfold maxLen at hm2
  go_enter Try.func10, Try.ntmps10
  go_wp2_with fail
  go_loopg [6] l.length (fun j p6 wr => ∃ q : Nat, q + j = l.length ∧ p6 = .int .i64 (q : Int) ∧ q ≤ p ∧ W = wr)
  case atStart => exact ⟨0, by omega, rfl, by omega, rfl⟩
  case round =>
    obtain ⟨q, hq, rfl, hqp, rfl⟩ := hrel
    by_cases hj : q < l.length
    · obtain ⟨r, hr⟩ : ∃ x, l[q]? = some x := ⟨l[q], List.getElem?_eq_getElem hj⟩
      obtain ⟨b, off, rfl, x0, x1⟩ := hL.get hr
      replace x0 : W.cell? ⟨b, off + q * 2, none⟩ = some (.int .i64 r.tick) := x0
      have hk0 := tk_get hr
      by_cases hlt : q < p
      · have hle2 : r.tick ≤ t := by rw [← hk0]; exact hp.lo q hlt
        clear hr hL hk0 hp x1
        obtain ⟨t', p'⟩ := r
        simp only at *
        go_wp2_with fail
        go_roundg (l.length - (q + 1))
        case measure => omega
        case rel => exact ⟨q + 1, by omega, by go_num, by omega, rfl⟩
      · obtain rfl : q = p := by omega
        have hgt : t < r.tick := by rw [← hk0]; exact hp.hi q (Nat.le_refl _) hj
        obtain ⟨-, hv, rfl⟩ | ⟨h0, -⟩ := hv
        rotate_left
        · omega
        obtain rfl : v = r.tick := hv.trans hk0
        clear hr hL hk0 hp x1
        obtain ⟨t', p'⟩ := r
        simp only at *
        go_wp2_with fail
        go_ret2
        exact ⟨rfl, rfl⟩
    · obtain rfl : q = p := by omega
      obtain ⟨h0, -⟩ | ⟨-, rfl, rfl⟩ := hv
      · omega
      go_wp2_with fail
      go_ret2
      exact ⟨rfl, rfl⟩
end Go.Proofs.Ytjcopnhienijjaa
