/-
  The contracts of sort.Search, slices.IndexFunc, and of package session's passed, phase, At, Next, change, Lasts, Rest.
-/
import Derived.Test.YtjcopnhienijjaaSesB
import Derived.Test.YtjcopnhienijjaaEnt
namespace Go.Proofs.Ytjcopnhienijjaa
open Go.RowKit
set_option maxRecDepth 8000 in
set_option maxHeartbeats 1000000 in
/-- The library's search: the least number of which a rising predicate holds. -/
theorem search_any (gn : Nat) (gc : Array Value) (hG : Goes gn) (n p : Nat) (hp : p ≤ n) (hn : n ≤ 1000000) (W : World)
    (hC : ∀ w, Below W.heap.size W w → ∀ i : Nat, i < n → Calls Try.prog gn (#[.int .i64 (i : Int)] ++ gc) w fun e w' => e = .returned (.bool (decide (p ≤ i))) ∧ Below w.heap.size w w') :
    Calls Try.prog 25 #[.int .i64 (n : Int), .func (.func gn) #[] gc] W fun e w' => e = .returned (.int .i64 (p : Int)) ∧ Below W.heap.size W w' := by
  have hGo := hG gc
  go_enter Try.func25, Try.ntmps25
  go_wp2_with fail
  go_loopg [5, 6] n (fun j p5 p6 wr => Below W.heap.size W wr ∧ ∃ a b : Nat, a ≤ p ∧ p ≤ b ∧ b ≤ n ∧ b ≤ a + j ∧ p5 = .int .i64 (a : Int) ∧ p6 = .int .i64 (b : Int))
  case atStart => exact ⟨Below.refl _ _, 0, n, by omega, hp, Nat.le_refl _, by omega, rfl, rfl⟩
  case round =>
    obtain ⟨hB, a, b, ha, hb, hbn, hab, rfl, rfl⟩ := hrel
    by_cases hlt : a < b
    · obtain ⟨m, hm⟩ : ∃ m, m = (a + b) / 2 := ⟨_, rfl⟩
      have hm1 : a ≤ m := by omega
      have hm2 : m < b := by omega
      have hCm := fun w hw => hC w hw m (by omega)
      clear hC
      have em : (m : Int) = ((a : Int) + (b : Int)) / 2 := by omega
      rw [em] at hCm
      have hG1 := hG (#[.int .i64 (((a : Int) + (b : Int)) / 2)] ++ gc)
      by_cases hpm : p ≤ m
      · rw [decide_eq_true hpm] at hCm
        go_wp2_with ((with_reducible refine (hCm _ hB).mono ?_); rintro e w1 ⟨rfl, hb1⟩; have hB1 := hB.trans (hb1.mono hB.size))
        go_roundg (m - a)
        case measure => omega
        case rel => exact ⟨hB1, a, m, ha, hpm, by omega, by omega, rfl, by rw [em]⟩
      · rw [decide_eq_false hpm] at hCm
        go_wp2_with ((with_reducible refine (hCm _ hB).mono ?_); rintro e w1 ⟨rfl, hb1⟩; have hB1 := hB.trans (hb1.mono hB.size))
        go_roundg (b - (m + 1))
        case measure => omega
        case rel => exact ⟨hB1, m + 1, b, by omega, hb, hbn, by omega, by rw [Int.natCast_add, em]; go_num, rfl⟩
    · obtain rfl : a = b := by omega
      obtain rfl : a = p := by omega
      clear hC
      go_wp2_with fail
      go_ret
      exact ⟨rfl, hB⟩
theorem phase_any (ao : Option Addr) (cap : Nat) (l : List Rowp) (n : Nat) (hn : n ≤ l.length) (W : World) (hL : Rowps W ao cap l) :
    Calls Try.prog 21 #[.slice ao l.length cap, .int .i64 (n : Int)] W fun e w' => e = .returned (.int .i64 (phN l n)) ∧ w' = W := by
  have hm := hL.len
  have hm2 := hL.top
  unfold maxLen at hm2
  by_cases h0 : n = 0
  · subst h0
    go_enter Try.func21, Try.ntmps21
    go_wp2_with fail
    go_ret
    exact ⟨rfl, rfl⟩
  · obtain ⟨k, hk⟩ : ∃ k, n = k + 1 := ⟨n - 1, by omega⟩
    obtain ⟨r, hr⟩ : ∃ x, l[k]? = some x := ⟨l[k]'(by omega), List.getElem?_eq_getElem (by omega)⟩
    obtain ⟨b, off, rfl, x0, x1⟩ := hL.get hr
    have e : phN l n = r.phase := by unfold phN; rw [if_neg h0, hk, Nat.add_sub_cancel, ph_get hr]
    have hw : IntKind.i64.wrap ((n : Int) - 1) = (k : Int) := by rw [hk, IntWalk.i64_in _ (by omega)]; omega
    have hkl : k < l.length := by omega
    have hd : ((n : Int) == 0) = false := by simp; omega
    rw [e]
    clear hr hL e hk x0
    obtain ⟨t', p'⟩ := r
    simp only at *
    go_enter Try.func21, Try.ntmps21
    go_wp2_with fail
    go_ret
    exact ⟨rfl, rfl⟩
theorem passedC_any (ao : Option Addr) (cap : Nat) (l : List Rowp) (t : Int) (p : Nat) (hp : Pas l t p) (b1 b2 : Nat) (i : Nat) (hi : i < l.length) (W : World) (hL : Rowps W ao cap l)
    (h1 : W.cell? ⟨b1, 0, none⟩ = some (.slice ao l.length cap)) (h2 : W.cell? ⟨b2, 0, none⟩ = some (.int .i64 t)) :
    Calls Try.prog 26 (#[.int .i64 (i : Int)] ++ #[.pointer (some ⟨b1, 0, none⟩), .pointer (some ⟨b2, 0, none⟩)]) W fun e w' => e = .returned (.bool (decide (p ≤ i))) ∧ Below W.heap.size W w' := by
  have hm := hL.len
  have hm2 := hL.top
  unfold maxLen at hm2
  obtain ⟨r, hr⟩ : ∃ x, l[i]? = some x := ⟨l[i], List.getElem?_eq_getElem hi⟩
  obtain ⟨b, off, rfl, x0, x1⟩ := hL.get hr
  replace x0 : W.cell? ⟨b, off + i * 2, none⟩ = some (.int .i64 r.tick) := x0
  have hk0 := tk_get hr
  have e : decide (p ≤ i) = decide (t < r.tick) := by
    rw [← hk0]
    by_cases h : p ≤ i
    · have := hp.hi i h hi; simp [h, this]
    · have := hp.lo i (by omega); simp [h]; omega
  rw [e]
  clear hr hL e hp hk0 x1
  obtain ⟨t', p'⟩ := r
  simp only at *
  go_enter Try.func26, Try.ntmps26
  go_wp2_with fail
  go_quiet (fail)
  go_wp2_with fail
  go_ret
  exact ⟨rfl, below_drewN (Below.refl _ _) _⟩
theorem passed_any (ao : Option Addr) (cap : Nat) (l : List Rowp) (h60 : l.length ≤ 1000000) (t : Int) (p : Nat) (hp : Pas l t p) (W : World) (hL : Rowps W ao cap l) :
    Calls Try.prog 20 #[.slice ao l.length cap, .int .i64 t] W fun e w' => e = .returned (.int .i64 (p : Int)) ∧ Below W.heap.size W w' := by
  have hm := hL.len
  have hm2 := hL.top
  have hple := hp.le
  unfold maxLen at hm2
  obtain ⟨V, hV⟩ : ∃ V, V = (W.alloc (.cells #[.slice ao l.length cap] 22)).alloc (.cells #[.int .i64 t] 2) := ⟨_, rfl⟩
  have hb : Below W.heap.size W V := by rw [hV]; exact ((Below.refl _ W).alloc (Nat.le_refl _) _).alloc (by simp) _
  have k1 : Blk V W.heap.size 22 #[.slice ao l.length cap] := by rw [hV]; exact (Blk.new _ _ _).alloc _
  have k2 : Blk V (W.heap.size + 1) 2 #[.int .i64 t] := by rw [hV]; exact Blk.new' (by simp)
  have cS := search_any 26 #[.pointer (some ⟨W.heap.size, 0, none⟩), .pointer (some ⟨W.heap.size + 1, 0, none⟩)] (goes_of Try.func26 (by kernel_rfl) (by kernel_rfl)) l.length p hple h60 V (fun w hw i hi => passedC_any ao cap l t p hp W.heap.size (W.heap.size + 1) i hi w ((hL.below hb).below hw) ((k1.below hw k1.lt).cell_eq 0 _ rfl) ((k2.below hw k2.lt).cell_eq 0 _ rfl))
  rw [hV] at cS hb
  have hsz : ((W.alloc (.cells #[.slice ao l.length cap] 22)).alloc (.cells #[.int .i64 t] 2)).heap.size = W.heap.size + 2 := by simp
  have hBB : ∀ w', Below ((W.alloc (.cells #[.slice ao l.length cap] 22)).alloc (.cells #[.int .i64 t] 2)).heap.size ((W.alloc (.cells #[.slice ao l.length cap] 22)).alloc (.cells #[.int .i64 t] 2)) w' → Below W.heap.size W w' := fun w' h => hb.trans (h.mono (by rw [hsz]; omega))
  clear hV k1 k2 hL hp hb
  go_enter Try.func20, Try.ntmps20
  go_wp2_with (go_at_call 25; (with_reducible refine cS.mono ?_); rintro e w1 ⟨rfl, hb1⟩)
  go_ret
  exact ⟨rfl, hBB _ hb1⟩
end Go.Proofs.Ytjcopnhienijjaa
