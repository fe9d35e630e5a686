/-
  The contracts of octets.Reader's Uint, Int, Raw, of NewReader, and of the statements' read and got, for every input.
-/
import Derived.Test.YtalgpbjonkcldaaOctR
namespace Go.Proofs.Ytalgpbjonkcldaa
open Go.RowKit

theorem step_fault {kind size : Int} {xs : List Nat} {f : Nat} (h : f ≠ 0) : stepR kind size xs f = ⟨0, 0, [], 0, f⟩ := if_neg h
theorem step1 (k : Int) (xs : List Nat) : stepR 1 k xs 0 = if 1 ≤ k ∧ k ≤ 8 then (if xs.length < k.toNat then ⟨0, 0, [], 0, 3⟩ else ⟨val (xs.take k.toNat), 0, [], k.toNat, 0⟩) else ⟨0, 0, [], 0, 0⟩ := rfl
theorem step2 (k : Int) (xs : List Nat) : stepR 2 k xs 0 = if xs.length < 8 then ⟨0, 0, [], 0, 3⟩ else ⟨0, unzig (val (xs.take 8)), [], 8, 0⟩ := rfl
theorem step4 (k : Int) (xs : List Nat) : stepR 4 k xs 0 = if k < 0 then ⟨0, 0, [], 0, 0⟩ else if xs.length < k.toNat then ⟨0, 0, [], 0, 3⟩ else ⟨0, 0, xs.take k.toNat, k.toNat, 0⟩ := rfl
theorem tk_ok {n : Nat} {xs : List Nat} (h : ¬ xs.length < n) : tk n xs 0 = (xs.take n, xs.drop n, 0) := by unfold tk; rw [if_neg (by simp), if_neg h]
theorem tk_short {n : Nat} {xs : List Nat} (h : xs.length < n) : tk n xs 0 = ([], xs, 3) := by unfold tk; rw [if_neg (by simp), if_pos h]
theorem tk_fault {n : Nat} {xs : List Nat} {f : Nat} (h : f ≠ 0) : tk n xs f = ([], xs, f) := if_pos h
theorem ruint_any (g f : Nat) (xs : List Nat) (K : Int) (W : World) (hR : Rr W g xs f) :
    Calls Try.prog 45 #[.pointer (some ⟨g, 0, none⟩), .int .i64 K] W fun e w' => e = .returned (.int .u64 ((stepR 1 K xs f).n : Int)) ∧ Rr w' g (xs.drop (stepR 1 K xs f).size) (stepR 1 K xs f).f ∧ Frm (fun b => b = g) W w' := by
  by_cases hK : 1 ≤ K ∧ K ≤ 8
  · obtain ⟨k, rfl⟩ : ∃ k : Nat, K = (k : Int) := ⟨K.toNat, by omega⟩
    have cE : ∀ w, Calls Try.prog 40 #[.int .i64 (k : Int)] w fun e w' => e = .returned (.bool true) ∧ w = w' := fun w => (encodes_any (k : Int) w).mono fun e w' h => ⟨h.1.trans (by rw [decide_eq_true hK]), h.2.symm⟩
    have hlen : (tk k xs f).1.length ≤ 8 := by
      unfold tk
      split
      · simp
      · split
        · simp
        · rw [List.length_take]; omega
    have cJ := joined_any (some ⟨g, 0, none⟩) k (by omega) (tk k xs f).1 hlen W (fun w' => Rr w' g (tk k xs f).2.1 (tk k xs f).2.2 ∧ Frm (fun b => b = g) W w') (take_any g f xs k (by omega) W hR)
    have e1 : (stepR 1 (k : Int) xs f).n = val (tk k xs f).1 ∧ xs.drop (stepR 1 (k : Int) xs f).size = (tk k xs f).2.1 ∧ (stepR 1 (k : Int) xs f).f = (tk k xs f).2.2 := by
      by_cases hf : f = 0
      · subst hf
        rw [step1, if_pos hK, Int.toNat_natCast]
        by_cases hl : xs.length < k
        · rw [if_pos hl, tk_short hl]; exact ⟨rfl, rfl, rfl⟩
        · rw [if_neg hl, tk_ok hl]; exact ⟨rfl, rfl, rfl⟩
      · rw [step_fault hf, tk_fault hf]; exact ⟨rfl, rfl, rfl⟩
    rw [e1.1, e1.2.1, e1.2.2]
    clear e1 hlen
    generalize tk k xs f = r at cJ ⊢
    go_enter Try.func45, Try.ntmps45
    go_wp2_with (first | (go_at_call 40; (with_reducible refine (cE _).mono ?_); rintro e w1 ⟨rfl, rfl⟩) | (go_at_call 54; refine cJ.mono ?_; rintro e w1 ⟨rfl, hR2⟩))
    go_ret
    exact ⟨rfl, hR2⟩
  · have e1 : (stepR 1 K xs f).n = 0 ∧ (stepR 1 K xs f).size = 0 ∧ (stepR 1 K xs f).f = f := by
      by_cases hf : f = 0
      · subst hf
        rw [step1, if_neg hK]; exact ⟨rfl, rfl, rfl⟩
      · rw [step_fault hf]; exact ⟨rfl, rfl, rfl⟩
    rw [e1.1, e1.2.1, e1.2.2]
    have cE : ∀ w, Calls Try.prog 40 #[.int .i64 K] w fun e w' => e = .returned (.bool false) ∧ w = w' := fun w => (encodes_any K w).mono fun e w' h => ⟨h.1.trans (by rw [decide_eq_false hK]), h.2.symm⟩
    go_enter Try.func45, Try.ntmps45
    go_wp2_with (go_at_call 40; (with_reducible refine (cE _).mono ?_); rintro e w1 ⟨rfl, rfl⟩)
    go_ret
    exact ⟨rfl, hR, Frm.refl _ _⟩
theorem ruint_nil (K : Int) (W : World) :
    Calls Try.prog 45 #[.pointer none, .int .i64 K] W fun e w' => e = .returned (.int .u64 0) ∧ W = w' := by
  by_cases hK : 1 ≤ K ∧ K ≤ 8
  · obtain ⟨k, rfl⟩ : ∃ k : Nat, K = (k : Int) := ⟨K.toNat, by omega⟩
    have cE : ∀ w, Calls Try.prog 40 #[.int .i64 (k : Int)] w fun e w' => e = .returned (.bool true) ∧ w = w' := fun w => (encodes_any (k : Int) w).mono fun e w' h => ⟨h.1.trans (by rw [decide_eq_true hK]), h.2.symm⟩
    have cJ := joined_any none k (by omega) [] (by simp) W (fun w' => W = w') ((take_nil (k : Int) W).mono fun e w' h => ⟨none, 0, 0, h.1, Bt.nil _ _, h.2⟩)
    go_enter Try.func45, Try.ntmps45
    go_wp2_with (first | (go_at_call 40; (with_reducible refine (cE _).mono ?_); rintro e w1 ⟨rfl, rfl⟩) | (go_at_call 54; refine cJ.mono ?_; rintro e w1 ⟨rfl, rfl⟩))
    go_ret
    exact ⟨rfl, rfl⟩
  · have cE : ∀ w, Calls Try.prog 40 #[.int .i64 K] w fun e w' => e = .returned (.bool false) ∧ w = w' := fun w => (encodes_any K w).mono fun e w' h => ⟨h.1.trans (by rw [decide_eq_false hK]), h.2.symm⟩
    go_enter Try.func45, Try.ntmps45
    go_wp2_with (go_at_call 40; (with_reducible refine (cE _).mono ?_); rintro e w1 ⟨rfl, rfl⟩)
    go_ret
    exact ⟨rfl, rfl⟩
theorem rint_any (g f : Nat) (xs : List Nat) (W : World) (hR : Rr W g xs f) :
    Calls Try.prog 47 #[.pointer (some ⟨g, 0, none⟩)] W fun e w' => e = .returned (.int .i64 (stepR 2 0 xs f).s) ∧ Rr w' g (xs.drop (stepR 2 0 xs f).size) (stepR 2 0 xs f).f ∧ Frm (fun b => b = g) W w' := by
  have hlt : ∀ x ∈ xs, x < 256 := by obtain ⟨_, _, _, _, hB, _⟩ := hR; exact hB.lt
  have hlen : (tk 8 xs f).1.length ≤ 8 := by
    unfold tk
    split
    · simp
    · split
      · simp
      · rw [List.length_take]; omega
  have hv : val (tk 8 xs f).1 < 18446744073709551616 := by
    have h1 := val_lt (tk 8 xs f).1 (by
      unfold tk
      split
      · simp
      · split
        · simp
        · exact fun x hx => hlt x (List.mem_of_mem_take hx))
    have h2 : 256 ^ (tk 8 xs f).1.length ≤ 256 ^ 8 := Nat.pow_le_pow_right (by decide) hlen
    omega
  have cJ := joined_any (some ⟨g, 0, none⟩) 8 (by omega) (tk 8 xs f).1 hlen W (fun w' => Rr w' g (tk 8 xs f).2.1 (tk 8 xs f).2.2 ∧ Frm (fun b => b = g) W w') (take_any g f xs 8 (by omega) W hR)
  have cU := unzigzag_any (val (tk 8 xs f).1) hv
  have e1 : (stepR 2 0 xs f).s = unzig (val (tk 8 xs f).1) ∧ xs.drop (stepR 2 0 xs f).size = (tk 8 xs f).2.1 ∧ (stepR 2 0 xs f).f = (tk 8 xs f).2.2 := by
    have e0 : unzig (val []) = 0 := by decide
    by_cases hf : f = 0
    · subst hf
      rw [step2]
      by_cases hl : xs.length < 8
      · rw [if_pos hl, tk_short hl]; exact ⟨e0.symm, rfl, rfl⟩
      · rw [if_neg hl, tk_ok hl]; exact ⟨rfl, rfl, rfl⟩
    · rw [step_fault hf, tk_fault hf]; exact ⟨e0.symm, rfl, rfl⟩
  rw [e1.1, e1.2.1, e1.2.2]
  clear e1 hlen hv
  generalize tk 8 xs f = r at cJ cU ⊢
  generalize unzig (val r.1) = s at cU ⊢
  generalize val r.1 = v at cU cJ
  have cJ' : Calls Try.prog 54 #[.func (Fn.func 55) #[.pointer (some ⟨g, 0, none⟩)] #[], .int .i64 8] W fun e w' => e = .returned (.int .u64 (v : Int)) ∧ Rr w' g r.2.1 r.2.2 ∧ Frm (fun b => b = g) W w' := cJ
  go_enter Try.func47, Try.ntmps47
  go_wp2_with (first | (go_at_call 54; refine cJ'.mono ?_; rintro e w1 ⟨rfl, hR2⟩) | (go_at_call 58; refine (cU _).mono ?_; rintro e w2 ⟨rfl, rfl⟩))
  go_ret
  exact ⟨rfl, hR2⟩
theorem rint_nil (W : World) :
    Calls Try.prog 47 #[.pointer none] W fun e w' => e = .returned (.int .i64 0) ∧ W = w' := by
  have cJ : Calls Try.prog 54 #[.func (Fn.func 55) #[.pointer none] #[], .int .i64 8] W fun e w' => e = .returned (.int .u64 0) ∧ W = w' := joined_any none 8 (by omega) [] (by simp) W (fun w' => W = w') ((take_nil 8 W).mono fun e w' h => ⟨none, 0, 0, h.1, Bt.nil _ _, h.2⟩)
  have cU : ∀ w, Calls Try.prog 58 #[.int .u64 0] w fun e w' => e = .returned (.int .i64 0) ∧ w = w' := fun w => unzigzag_any 0 (by decide) w
  go_enter Try.func47, Try.ntmps47
  go_wp2_with (first | (go_at_call 54; refine cJ.mono ?_; rintro e w1 ⟨rfl, rfl⟩) | (go_at_call 58; refine (cU _).mono ?_; rintro e w2 ⟨rfl, rfl⟩))
  go_ret
  exact ⟨rfl, rfl⟩
theorem rnum_nil (W : World) :
    Calls Try.prog 46 #[.pointer none] W fun e w' => e = .returned (.int .u64 0) ∧ W = w' := by
  have cF := fault_nil W
  go_enter Try.func46, Try.ntmps46
  go_wp2_with (go_at_call 30; refine cF.mono ?_; rintro e w1 ⟨rfl, rfl⟩)
  go_ret
  exact ⟨rfl, rfl⟩
/-- A slice of the bytes xs that no block of S holds. -/
theorem rraw_fresh (g f : Nat) (xs : List Nat) (hx : xs.length ≤ 2000000) (n : Int) (hn : n < 9223372036854775808) (W : World) (hR : Rr W g xs f) :
    Calls Try.prog 51 #[.pointer (some ⟨g, 0, none⟩), .int .i64 n] W fun e w' => ∃ ao cap k', e = .returned (.slice ao (stepR 4 n xs f).raw.length cap) ∧ Bt w' k' ao cap (stepR 4 n xs f).raw ∧
      Rr w' g (xs.drop (stepR 4 n xs f).size) (stepR 4 n xs f).f ∧ Frm (fun b => b = g) W w' ∧ W.heap.size ≤ k' := by
  by_cases h0 : n < 0
  · have e1 : (stepR 4 n xs f).raw = [] ∧ (stepR 4 n xs f).size = 0 ∧ (stepR 4 n xs f).f = f := by
      by_cases hf : f = 0
      · subst hf
        rw [step4, if_pos h0]; exact ⟨rfl, rfl, rfl⟩
      · rw [step_fault hf]; exact ⟨rfl, rfl, rfl⟩
    rw [e1.1, e1.2.1, e1.2.2]
    go_enter Try.func51, Try.ntmps51
    go_wp2
    go_ret
    exact ⟨none, 0, W.heap.size, rfl, Bt.nil _ _, hR, Frm.refl _ _, Nat.le_refl _⟩
  · obtain ⟨k, rfl⟩ : ∃ k : Nat, n = (k : Int) := ⟨n.toNat, by omega⟩
    have e1 : (stepR 4 (k : Int) xs f).raw = (tk k xs f).1 ∧ xs.drop (stepR 4 (k : Int) xs f).size = (tk k xs f).2.1 ∧ (stepR 4 (k : Int) xs f).f = (tk k xs f).2.2 := by
      by_cases hf : f = 0
      · subst hf
        rw [step4, if_neg h0, Int.toNat_natCast]
        by_cases hl : xs.length < k
        · rw [if_pos hl, tk_short hl]; exact ⟨rfl, rfl, rfl⟩
        · rw [if_neg hl, tk_ok hl]; exact ⟨rfl, rfl, rfl⟩
      · rw [step_fault hf, tk_fault hf]; exact ⟨rfl, rfl, rfl⟩
    rw [e1.1, e1.2.1, e1.2.2]
    have hlen : (tk k xs f).1.length ≤ 2000000 := by
      unfold tk
      split
      · simp
      · split
        · simp
        · rw [List.length_take]; omega
    have cT := take_any g f xs k (by omega) W hR
    clear e1
    generalize tk k xs f = r at cT hlen ⊢
    go_enter Try.func51, Try.ntmps51
    go_wp2_with (first | (go_at_call 55; refine cT.mono ?_; rintro e w1 ⟨ao, cap, k1, rfl, hB, hR2, hF⟩) | (go_at_call 42; refine (clone_any k1 cap ao r.1 hlen _ hB).mono ?_; rintro e w2 ⟨v, rfl, ao', cap', k', rfl, hB', hb', hk'⟩))
    go_ret
    exact ⟨ao', cap', k', rfl, hB', hR2.below hb', hF.trans (Frm.of_below (S := fun _ => False) hb') (fun _ f => f.elim), Nat.le_trans hF.size hk'⟩
theorem rraw_any (g f : Nat) (xs : List Nat) (hx : xs.length ≤ 2000000) (n : Int) (hn : n < 9223372036854775808) (W : World) (hR : Rr W g xs f) :
    Calls Try.prog 51 #[.pointer (some ⟨g, 0, none⟩), .int .i64 n] W fun e w' => ∃ ao cap k', e = .returned (.slice ao (stepR 4 n xs f).raw.length cap) ∧ Bt w' k' ao cap (stepR 4 n xs f).raw ∧
      Rr w' g (xs.drop (stepR 4 n xs f).size) (stepR 4 n xs f).f ∧ Frm (fun b => b = g) W w' :=
  (rraw_fresh g f xs hx n hn W hR).mono fun e w' h => by
    obtain ⟨ao, cap, k', h1, h2, h3, h4, _⟩ := h
    exact ⟨ao, cap, k', h1, h2, h3, h4⟩
theorem rraw_nil (n : Int) (W : World) :
    Calls Try.prog 51 #[.pointer none, .int .i64 n] W fun e w' => ∃ ao cap, e = .returned (.slice ao 0 cap) ∧ Below W.heap.size W w' := by
  have cT := take_nil n W
  have cC := clone_any 0 0 none [] (by simp) W (Bt.nil _ _)
  go_enter Try.func51, Try.ntmps51
  go_wp2_with (first | (go_at_call 55; refine cT.mono ?_; rintro e w1 ⟨rfl, rfl⟩) | (go_at_call 42; refine cC.mono ?_; rintro e w2 ⟨v, rfl, ao', cap', k', rfl, hB', hb', hk'⟩))
  all_goals go_ret
  · exact ⟨_, _, rfl, Below.refl _ _⟩
  · exact ⟨_, _, rfl, hb'⟩
theorem Bt.apart {w : World} {k cap : Nat} {ao : Option Addr} {xs : List Nat} (h : Bt w k ao cap xs) (g : Nat) (hg : w.heap.size ≤ g) : ∃ k2, Bt w k2 ao cap xs ∧ g ≠ k2 := by
  by_cases hx : xs = []
  · exact ⟨g + 1, ⟨h.len, h.top, h.bare, h.lt, .inl hx⟩, by omega⟩
  · have := h.size hx
    exact ⟨k, h, by omega⟩
theorem newReader_any (k cap : Nat) (ao : Option Addr) (xs : List Nat) (hx : xs.length ≤ 2000000) (W : World) (hB : Bt W k ao cap xs) :
    Calls Try.prog 28 #[.slice ao xs.length cap] W fun e w' => ∃ g, e = .returned (.pointer (some ⟨g, 0, none⟩)) ∧ Rr w' g xs 0 ∧ Below W.heap.size W w' ∧ W.heap.size ≤ g := by
  have cC := clone_any k cap ao xs hx W hB
  go_enter Try.func28, Try.ntmps28
  go_wp2_with (go_at_call 42; refine cC.mono ?_; rintro e w1 ⟨v, rfl, ao', cap', k', rfl, hB', hb', hk'⟩)
  go_ret
  obtain ⟨k2, hB2, hne⟩ := hB'.apart w1.heap.size (Nat.le_refl _)
  exact ⟨w1.heap.size, rfl, ⟨k2, ao', cap', Blk.new _ _ _, hB2.alloc _, hne⟩, hb'.alloc hb'.size _, hb'.size⟩
/-- What is read, as Go's value. -/
def rv (r : Res) (ao : Option Addr) (cap : Nat) : Value := .agg #[.int .u64 (r.n : Int), .int .i64 r.s, .slice ao r.raw.length cap, .int .i64 (r.size : Int), .int .i64 (r.f : Int)]
section
variable {w : World} {b : Nat} {t : TypeId} {a0 a1 a2 a3 a4 : Value}
theorem five_cells (h : Blk w b t #[a0, a1, a2, a3, a4]) : w.cell? ⟨b, 0, none⟩ = some a0 ∧ w.cell? ⟨b, 1, none⟩ = some a1 ∧ w.cell? ⟨b, 2, none⟩ = some a2 ∧ w.cell? ⟨b, 3, none⟩ = some a3 ∧ w.cell? ⟨b, 4, none⟩ = some a4 ∧ ∀ i, w.frozen? ⟨b, i, none⟩ = false :=
  ⟨h.cell_eq 0 _ rfl, h.cell_eq 1 _ rfl, h.cell_eq 2 _ rfl, h.cell_eq 3 _ rfl, h.cell_eq 4 _ rfl, h.free⟩
theorem five_alloc (h : Blk w b t #[a0, a1, a2, a3, a4]) : (∀ o, (w.alloc o).cell? ⟨b, 0, none⟩ = some a0) ∧ (∀ o, (w.alloc o).cell? ⟨b, 1, none⟩ = some a1) ∧ (∀ o, (w.alloc o).cell? ⟨b, 2, none⟩ = some a2) ∧ (∀ o, (w.alloc o).cell? ⟨b, 3, none⟩ = some a3) ∧ (∀ o, (w.alloc o).cell? ⟨b, 4, none⟩ = some a4) ∧ ∀ o i, (w.alloc o).frozen? ⟨b, i, none⟩ = false :=
  ⟨fun o => (h.alloc o).cell_eq 0 _ rfl, fun o => (h.alloc o).cell_eq 1 _ rfl, fun o => (h.alloc o).cell_eq 2 _ rfl, fun o => (h.alloc o).cell_eq 3 _ rfl, fun o => (h.alloc o).cell_eq 4 _ rfl, fun o => (h.alloc o).free⟩
theorem five_set (h : Blk w b t #[a0, a1, a2, a3, a4]) (u0 u1 u2 u3 u4 : Value) : Blk (((((w.setCell ⟨b, 0, none⟩ u0).setCell ⟨b, 1, none⟩ u1).setCell ⟨b, 2, none⟩ u2).setCell ⟨b, 3, none⟩ u3).setCell ⟨b, 4, none⟩ u4) b t #[u0, u1, u2, u3, u4] :=
  ((((h.set 0 u0).set 1 u1).set 2 u2).set 3 u3).set 4 u4
theorem five_below {B : Nat} {W : World} (h : Below B W w) (hb : B ≤ b) (u0 u1 u2 u3 u4 : Value) : Below B W (((((w.setCell ⟨b, 0, none⟩ u0).setCell ⟨b, 1, none⟩ u1).setCell ⟨b, 2, none⟩ u2).setCell ⟨b, 3, none⟩ u3).setCell ⟨b, 4, none⟩ u4) :=
  ((((h.setCell hb u0).setCell hb u1).setCell hb u2).setCell hb u3).setCell hb u4
end
theorem refReadUint_any (k cap : Nat) (ao : Option Addr) (xs : List Nat) (K : Int) (W : World) (hB : Bt W k ao cap xs) :
    Calls Try.prog 32 #[.slice ao xs.length cap, .int .i64 K] W fun e w' => e = .returned (rv (rd 1 K xs) none 0) ∧ Below W.heap.size W w' := by
  have hlen := hB.len
  have hmax := hB.top
  unfold maxLen at hmax
  by_cases hK : 1 ≤ K ∧ K ≤ 8
  · obtain ⟨m, rfl⟩ : ∃ m : Nat, K = (m : Int) := ⟨K.toNat, by omega⟩
    by_cases hl : xs.length < m
    · have e : rd 1 (m : Int) xs = ⟨0, 0, [], 0, 3⟩ := (if_pos rfl).trans ((if_pos hK).trans (if_pos (by rw [Int.toNat_natCast]; exact hl)))
      rw [e]
      go_enter Try.func32, Try.ntmps32
      go_wp2_with fail
      refine bodyPost_ret (v := rv ⟨0, 0, [], 0, 3⟩ none 0) ?_ rfl ⟨rfl, (Below.refl _ _).alloc (Nat.le_refl _) _⟩
      simp [results, Try.results32, go_sem, rv]
    · have e : rd 1 (m : Int) xs = ⟨val (xs.take m), 0, [], m, 0⟩ := (if_pos rfl).trans ((if_pos hK).trans (if_neg (by rw [Int.toNat_natCast]; exact hl)))
      rw [e]
      obtain ⟨W1, hW1⟩ : ∃ W1, Hid (W1 = W.alloc (.cells #[.int .u64 0, .int .i64 0, .slice none 0 0, .int .i64 0, .int .i64 0] 61)) := ⟨_, rfl⟩
      have hB1 : Bt W1 k ao cap xs := by rw [hW1.out]; exact hB.alloc _
      go_enter Try.func32, Try.ntmps32
      go_wp2_with fail
      go_loopg [5, 6] m (fun j p5 p6 wr => wr = W1 ∧ ∃ q n : Nat, q + j = m ∧ p6 = .int .i64 (q : Int) ∧ p5 = .int .u64 (n : Int) ∧ Hid (n = val (xs.take q)))
      case atStart => exact ⟨hW1.out.symm, 0, 0, by omega, rfl, rfl, by simp [Hid, val]⟩
      case round =>
        obtain ⟨rfl, q, n, hq, rfl, rfl, hn⟩ := hrel
        by_cases hj : q < m
        · obtain ⟨x, hx⟩ : ∃ x, xs[q]? = some x := ⟨xs[q], List.getElem?_eq_getElem (by omega)⟩
          obtain ⟨off, rfl, hc⟩ : ∃ off, ao = some ⟨k, off, none⟩ ∧ wr.cell? ⟨k, off + q, none⟩ = some (.int .u8 (x : Int)) := by
            rcases hB1.at' with h0 | ⟨off, ha, hc⟩
            · subst h0; simp at hx
            · exact ⟨off, ha, hc q x hx⟩
          have hx8 : x < 256 := hB.lt x (List.mem_of_getElem? hx)
          have hn8 : n < 72057594037927936 := by rw [hn.out]; exact val_small xs q (by omega) hB.lt
          have hn2 : Hid (n * 256 + x = val (xs.take (q + 1))) := by
            show _ = _
            rw [val_take xs q x hx, hn.out]
          clear hx hn
          go_wp2
          go_roundg (m - (q + 1))
          case measure => omega
          case rel => exact ⟨rfl, q + 1, n * 256 + x, by omega, by go_num, by go_num, hn2⟩
        · have hqm : q = m := by omega
          subst hqm
          have hw := hW1.out
          subst hw
          clear hB hB1 hW1
          go_wp2
          refine bodyPost_ret (v := rv ⟨n, 0, [], q, 0⟩ none 0) ?_ rfl ⟨by rw [hn.out], (Below.refl _ _).alloc (Nat.le_refl _) _⟩
          simp [results, Try.results32, go_sem, rv]
  · have e : rd 1 K xs = ⟨0, 0, [], 0, 0⟩ := (if_pos rfl).trans (if_neg hK)
    rw [e]
    go_enter Try.func32, Try.ntmps32
    go_wp2_with fail
    all_goals first
      | (exfalso; omega)
      | (refine bodyPost_ret (v := rv ⟨0, 0, [], 0, 0⟩ none 0) ?_ rfl ⟨rfl, (Below.refl _ _).alloc (Nat.le_refl _) _⟩
         simp [results, Try.results32, go_sem, rv])
theorem refReadInt_any (k cap : Nat) (ao : Option Addr) (xs : List Nat) (S : Int) (W : World) (hB : Bt W k ao cap xs) :
    Calls Try.prog 34 #[.slice ao xs.length cap] W fun e w' => e = .returned (rv (rd 2 S xs) none 0) ∧ Below W.heap.size W w' := by
  obtain ⟨n, sz, f, hn, e1, e2⟩ : ∃ n sz f : Nat, n < 18446744073709551616 ∧ rd 1 8 xs = ⟨n, 0, [], sz, f⟩ ∧ rd 2 S xs = ⟨0, unzig n, [], sz, f⟩ := by
    have h1 : rd 1 8 xs = if xs.length < 8 then ⟨0, 0, [], 0, 3⟩ else ⟨val (xs.take 8), 0, [], 8, 0⟩ := rfl
    have h2 : rd 2 S xs = if xs.length < 8 then ⟨0, 0, [], 0, 3⟩ else ⟨0, unzig (val (xs.take 8)), [], 8, 0⟩ := rfl
    by_cases hl : xs.length < 8
    · rw [if_pos hl] at h1 h2
      exact ⟨0, 0, 3, by decide, h1, h2⟩
    · rw [if_neg hl] at h1 h2
      refine ⟨_, _, _, ?_, h1, h2⟩
      have h3 := val_lt (xs.take 8) fun x hx => hB.lt x (List.mem_of_mem_take hx)
      rw [List.length_take, Nat.min_eq_left (by omega)] at h3
      omega
  have cU : ∀ w, Bt w k ao cap xs → Calls Try.prog 32 #[.slice ao xs.length cap, .int .i64 8] w fun e w' => e = .returned (rv (rd 1 8 xs) none 0) ∧ Below w.heap.size w w' := fun w h => refReadUint_any k cap ao xs 8 w h
  rw [e1] at cU
  rw [e2]
  have hc : ∀ w1, Below (W.alloc (.cells #[.int .u64 0, .int .i64 0, .slice none 0 0, .int .i64 0, .int .i64 0] 61)).heap.size (W.alloc (.cells #[.int .u64 0, .int .i64 0, .slice none 0 0, .int .i64 0, .int .i64 0] 61)) w1 → Blk w1 W.heap.size 61 #[.int .u64 0, .int .i64 0, .slice none 0 0, .int .i64 0, .int .i64 0] ∧ Below W.heap.size W w1 := fun w1 hb =>
    ⟨(Blk.new W _ _).below hb (by simp), ((Below.refl _ W).alloc (Nat.le_refl _) _).trans (hb.mono (by simp))⟩
  obtain ⟨u, hu⟩ : ∃ u, unzig n = u := ⟨_, rfl⟩
  rw [hu]
  unfold rv at cU ⊢
  by_cases h2 : n % 2 = 0
  · have t0 : ((n : Int) % 2 == 0) = true := by simp; omega
    have e0 : (n : Int) / 2 = u := by rw [← hu, unzig, if_pos h2]; omega
    clear hu
    go_enter Try.func34, Try.ntmps34
    go_wp2_with (go_at_call 32; refine (cU _ (hB.alloc _)).mono ?_; rintro e w1 ⟨rfl, hb⟩; obtain ⟨m1, hb1⟩ := hc _ hb; obtain ⟨c0, c1, c2, c3, c4, c5⟩ := five_alloc m1)
    refine bodyPost_ret (v := .agg #[.int .u64 0, .int .i64 u, .slice none 0 0, .int .i64 (sz : Int), .int .i64 (f : Int)]) ?_ rfl ⟨rfl, ?_⟩
    · obtain ⟨d0, d1, d2, d3, d4, d5⟩ := five_cells (five_set (m1.alloc (.cells #[.int .u64 0, .int .i64 u, .slice none 0 0, .int .i64 (sz : Int), .int .i64 (f : Int)] 61)) (.int .u64 0) (.int .i64 u) (.slice none 0 0) (.int .i64 (sz : Int)) (.int .i64 (f : Int)))
      simp [results, Try.results34, go_sem, d0, d1, d2, d3, d4]
    · exact five_below (hb1.alloc hb1.size _) (Nat.le_refl _) _ _ _ _ _
  · have t0 : ((n : Int) % 2 == 0) = false := by simp; omega
    have e0 : -((n : Int) / 2) - 1 = u := by rw [← hu, unzig, if_neg h2]; omega
    clear hu
    go_enter Try.func34, Try.ntmps34
    go_wp2_with (go_at_call 32; refine (cU _ (hB.alloc _)).mono ?_; rintro e w1 ⟨rfl, hb⟩; obtain ⟨m1, hb1⟩ := hc _ hb; obtain ⟨c0, c1, c2, c3, c4, c5⟩ := five_alloc m1)
    refine bodyPost_ret (v := .agg #[.int .u64 0, .int .i64 u, .slice none 0 0, .int .i64 (sz : Int), .int .i64 (f : Int)]) ?_ rfl ⟨rfl, ?_⟩
    · obtain ⟨d0, d1, d2, d3, d4, d5⟩ := five_cells (five_set (m1.alloc (.cells #[.int .u64 0, .int .i64 u, .slice none 0 0, .int .i64 (sz : Int), .int .i64 (f : Int)] 61)) (.int .u64 0) (.int .i64 u) (.slice none 0 0) (.int .i64 (sz : Int)) (.int .i64 (f : Int)))
      simp [results, Try.results34, go_sem, d0, d1, d2, d3, d4]
    · exact five_below (hb1.alloc hb1.size _) (Nat.le_refl _) _ _ _ _ _
end Go.Proofs.Ytalgpbjonkcldaa
