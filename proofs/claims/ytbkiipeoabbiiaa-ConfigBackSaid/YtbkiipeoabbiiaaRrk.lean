/-
  A reader of package octets whose bytes' block is named: take, Num, NewReader.
-/
import Derived.Test.YtbkiipeoabbiiaaOctS
namespace Go.Proofs.Ytbkiipeoabbiiaa
open Go.RowKit
/-- A reader at block g, its bytes in block k. -/
def RrK (w : World) (g k : Nat) (xs : List Nat) (f : Nat) : Prop := ∃ ao cap, Blk w g 109 #[.slice ao xs.length cap, .int .i64 (f : Int)] ∧ Bt w k ao cap xs ∧ (xs ≠ [] → g ≠ k)
theorem RrK.rr {w : World} {g k f : Nat} {xs : List Nat} (h : RrK w g k xs f) : Rr w g xs f := by
  obtain ⟨ao, cap, hb, hB, hg⟩ := h
  by_cases hx : xs = []
  · exact ⟨g + 1, ao, cap, hb, ⟨hB.len, hB.top, hB.bare, hB.lt, .inl hx⟩, by omega⟩
  · exact ⟨k, ao, cap, hb, hB, hg hx⟩
theorem RrK.frm {S : Nat → Prop} {w w' : World} {g k f : Nat} {xs : List Nat} (h : RrK w g k xs f) (hf : Frm S w w') (hg : ¬ S g) (hk : xs ≠ [] → ¬ S k) : RrK w' g k xs f := by
  obtain ⟨ao, cap, hb, hB, hn⟩ := h
  exact ⟨ao, cap, (hf.block g hb.lt hg).trans hb, hB.frm hf hk, hn⟩
theorem RrK.lt {w : World} {g k f : Nat} {xs : List Nat} (h : RrK w g k xs f) : g < w.heap.size ∧ (xs ≠ [] → k < w.heap.size) := by
  obtain ⟨ao, cap, hb, hB, hn⟩ := h
  exact ⟨hb.lt, hB.size⟩
theorem drop_some {xs : List Nat} {n : Nat} (h : xs.drop n ≠ []) : xs ≠ [] := fun e => h (by rw [e]; simp)
theorem takeK_any (g k f : Nat) (xs : List Nat) (n : Nat) (hn : (n : Int) ≤ 9223372036854775807) (W : World) (hR : RrK W g k xs f) :
    Calls Try.prog 73 #[.pointer (some ⟨g, 0, none⟩), .int .i64 (n : Int)] W fun e w' => ∃ ao cap, e = .returned (.slice ao (tk n xs f).1.length cap) ∧
      RrK w' g k (tk n xs f).2.1 (tk n xs f).2.2 ∧ Frm (fun b => b = g) W w' := by
  have cF := fun w h => fault_any g f xs w h
  have hR' := hR.rr
  have hRK := hR
  obtain ⟨ao, cap, hb, hB, hg⟩ := hR
  have c0 : W.cell? ⟨g, 0, none⟩ = some (.slice ao xs.length cap) := hb.cell_eq 0 _ rfl
  have c1 : W.cell? ⟨g, 1, none⟩ = some (.int .i64 (f : Int)) := hb.cell_eq 1 _ rfl
  have c2 := hb.free 0
  have c3 := hb.free 1
  have hlen := hB.len
  have hmax := hB.top
  unfold maxLen at hmax
  unfold tk
  by_cases hf : f = 0
  · subst hf
    rw [if_neg (by simp)]
    by_cases hx : xs.length < n
    · rw [if_pos hx]
      go_enter Try.func73, Try.ntmps73
      go_wp2_with (go_at_call 52; refine (cF _ hR').mono ?_; rintro e w1 ⟨rfl, rfl⟩)
      go_ret
      refine ⟨none, 0, rfl, ⟨ao, cap, hb.set 1 _, hB.keep fun hx => Below.heap_setCell _ _ _ _ (fun e => hg hx e.symm), hg⟩, (Frm.refl _ _).setCell _ _ (.inl rfl)⟩
    · rw [if_neg hx]
      go_enter Try.func73, Try.ntmps73
      go_wp2_with (go_at_call 52; refine (cF _ hR').mono ?_; rintro e w1 ⟨rfl, rfl⟩)
      all_goals go_ret
      all_goals first
        | (have hcn : cap = n := by omega
           subst hcn
           exact ⟨⟨_, _, by rw [Nat.min_eq_left (by omega)]; rfl⟩,
            ⟨_, _, by rw [List.length_drop]; exact hb.set 0 _, (hB.keep fun hx => Below.heap_setCell _ _ _ _ (fun e => hg hx e.symm)).dropAll rfl (by omega), fun h => hg (drop_some h)⟩, (Frm.refl _ _).setCell _ _ (.inl rfl)⟩)
        | exact ⟨⟨_, _, by rw [Nat.min_eq_left (by omega)]; rfl⟩,
            ⟨_, _, by rw [List.length_drop]; exact hb.set 0 _, (hB.keep fun hx => Below.heap_setCell _ _ _ _ (fun e => hg hx e.symm)).drop (by omega), fun h => hg (drop_some h)⟩, (Frm.refl _ _).setCell _ _ (.inl rfl)⟩
  · rw [if_pos hf]
    go_enter Try.func73, Try.ntmps73
    go_wp2_with (go_at_call 52; refine (cF _ hR').mono ?_; rintro e w1 ⟨rfl, rfl⟩)
    go_ret
    exact ⟨none, 0, rfl, hRK, Frm.refl _ _⟩
/-- What a reader's Num answers, and what it leaves. -/
theorem rnumK_any (g k : Nat) (xs : List Nat) (f : Nat) (W : World) (hR : RrK W g k xs f) :
    Calls Try.prog 51 #[.pointer (some ⟨g, 0, none⟩)] W fun e w' => e = .returned (.int .u64 ((stepR 3 0 xs f).n : Int)) ∧ RrK w' g k (xs.drop (stepR 3 0 xs f).size) (stepR 3 0 xs f).f ∧ Frm (fun b => b = g) W w' := by
  have cF := fault_any g f xs W hR.rr
  by_cases hf : f = 0
  · subst hf
    have e : stepR 3 0 xs 0 = ⟨(rn xs 10 0 0).1, 0, [], (rn xs 10 0 0).2.1, (rn xs 10 0 0).2.2⟩ := rfl
    rw [e]
    have cG := grouped_any g 0 xs W hR.rr
    have hsz := (rn_size xs 10 0 0).1
    have hflt := rn_fault xs
    have cT : (rn xs 10 0 0).2.2 = 0 → _ := fun _ => takeK_any g k 0 xs (rn xs 10 0 0).2.1 (by
      obtain ⟨_, _, _, hB, _⟩ := hR
      have h1 := hB.len
      have h2 := hB.top
      unfold maxLen at h2
      omega) W hR
    generalize rn xs 10 0 0 = r at cG hsz hflt cT ⊢
    obtain ⟨rv, rs, rf⟩ := r
    simp only at cG hsz hflt cT ⊢
    by_cases h0 : rf = 0
    · subst h0
      have cT' := cT rfl
      have et : tk rs xs 0 = (xs.take rs, xs.drop rs, 0) := by unfold tk; rw [if_neg (by simp), if_neg (by omega)]
      rw [et] at cT'
      clear cT et hflt
      go_enter Try.func51, Try.ntmps51
      go_wp2_with (first | (go_at_call 52; refine cF.mono ?_; rintro e w1 ⟨rfl, rfl⟩) | (go_at_call 71; refine cG.mono ?_; rintro e w1 ⟨rfl, rfl⟩) | (go_at_call 73; refine cT'.mono ?_; rintro e w1 ⟨ao, cap, rfl, hR2, hF⟩))
      go_ret
      exact ⟨rfl, hR2, hF⟩
    · obtain ⟨rfl, rfl⟩ := hflt h0
      obtain ⟨ao, cap, hb, hB, hg⟩ := hR
      have c1 : W.cell? ⟨g, 1, none⟩ = some (.int .i64 ((0 : Nat) : Int)) := hb.cell_eq 1 _ rfl
      have c3 := hb.free 1
      have t0 : ((rf : Int) == 0) = false := by simp; omega
      clear cT h0 hflt hsz
      go_enter Try.func51, Try.ntmps51
      go_wp2_with (first | (go_at_call 52; refine cF.mono ?_; rintro e w1 ⟨rfl, rfl⟩) | (go_at_call 71; refine cG.mono ?_; rintro e w1 ⟨rfl, rfl⟩))
      all_goals go_ret
      all_goals exact ⟨rfl, ⟨ao, cap, hb.set 1 _, hB.keep fun hx => Below.heap_setCell _ _ _ _ (fun e => hg hx e.symm), hg⟩, (Frm.refl _ _).setCell _ _ (.inl rfl)⟩
  · have e : stepR 3 0 xs f = ⟨0, 0, [], 0, f⟩ := if_neg hf
    rw [e]
    have t0 : ((f : Int) == 0) = false := by simp; omega
    go_enter Try.func51, Try.ntmps51
    go_wp2_with (go_at_call 52; refine cF.mono ?_; rintro e w1 ⟨rfl, rfl⟩)
    go_ret
    exact ⟨rfl, hR, Frm.refl _ _⟩
theorem newReaderK_any (k cap : Nat) (ao : Option Addr) (xs : List Nat) (hx : xs.length ≤ 2000000) (W : World) (hB : Bt W k ao cap xs) :
    Calls Try.prog 49 #[.slice ao xs.length cap] W fun e w' => ∃ g k2, e = .returned (.pointer (some ⟨g, 0, none⟩)) ∧ RrK w' g k2 xs 0 ∧ Below W.heap.size W w' ∧ W.heap.size ≤ g ∧ (xs ≠ [] → W.heap.size ≤ k2) := by
  have cC := clone_any k cap ao xs hx W hB
  go_enter Try.func49, Try.ntmps49
  go_wp2_with (go_at_call 70; refine cC.mono ?_; rintro e w1 ⟨v, rfl, ao', cap', k', rfl, hB', hb', hk'⟩)
  go_ret
  exact ⟨w1.heap.size, k', rfl, ⟨ao', cap', Blk.new _ _ _, hB'.alloc _, fun hx => by have := hB'.size hx; omega⟩, hb'.alloc hb'.size _, hb'.size, fun _ => hk'⟩
end Go.Proofs.Ytbkiipeoabbiiaa
