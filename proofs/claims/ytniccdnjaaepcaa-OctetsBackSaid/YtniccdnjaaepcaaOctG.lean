/-
  The contracts of the statements' read and got, for every input.
-/
import Derived.Test.YtniccdnjaaepcaaOctT
namespace Go.Proofs.Ytniccdnjaaepcaa
open Go.RowKit

/-- A zero Part. -/
def z5 : Array Value := #[.int .u64 0, .int .i64 0, .slice none 0 0, .int .i64 0, .int .i64 0]
theorem z5_bytes : ∀ (i : Nat) (x : Int), z5[i]? ≠ some (.int .u8 x) := by
  intro i x h
  match i, h with
  | 0, h => simp [z5] at h
  | 1, h => simp [z5] at h
  | 2, h => simp [z5] at h
  | 3, h => simp [z5] at h
  | 4, h => simp [z5] at h
  | i + 5, h => simp [z5] at h
theorem Bt.part {w w' : World} {k b cap : Nat} {ao : Option Addr} {xs : List Nat} {t : TypeId} {cs : Array Value} (h : Bt w k ao cap xs) (hb : Blk w b t cs) (hc : ∀ (i : Nat) (x : Int), cs[i]? ≠ some (.int .u8 x)) (hf : Frm (fun q => q = b) w w') : Bt w' k ao cap xs := by
  refine h.frm hf fun hx e => ?_
  subst e
  rcases h.at' with h0 | ⟨off, _, hc'⟩
  · exact hx h0
  · match xs, hx with
    | x :: _, _ =>
      have h1 := hc' 0 x rfl
      rw [hb.cell] at h1
      exact hc _ _ h1
theorem Rr.part {w w' : World} {g f b : Nat} {xs : List Nat} {t : TypeId} {cs : Array Value} (h : Rr w g xs f) (hb : Blk w b t cs) (hc : ∀ (i : Nat) (x : Int), cs[i]? ≠ some (.int .u8 x)) (hg : g ≠ b) (hf : Frm (fun q => q = b) w w') : Rr w' g xs f := by
  obtain ⟨k, ao, cap, h1, h2, h3⟩ := h
  exact ⟨k, ao, cap, (hf.block g h1.lt hg).trans h1, h2.part hb hc hf, h3⟩
theorem five_frm (w : World) (b : Nat) (u0 u1 u2 u3 u4 : Value) : Frm (fun q => q = b) w (((((w.setCell ⟨b, 0, none⟩ u0).setCell ⟨b, 1, none⟩ u1).setCell ⟨b, 2, none⟩ u2).setCell ⟨b, 3, none⟩ u3).setCell ⟨b, 4, none⟩ u4) := by
  have h0 := (Frm.refl (fun q => q = b) w).setCell ⟨b, 0, none⟩ u0 (.inl rfl)
  have h1 := h0.setCell ⟨b, 1, none⟩ u1 (.inl rfl)
  have h2 := h1.setCell ⟨b, 2, none⟩ u2 (.inl rfl)
  have h3 := h2.setCell ⟨b, 3, none⟩ u3 (.inl rfl)
  exact h3.setCell ⟨b, 4, none⟩ u4 (.inl rfl)
theorem read_any (p : Prt) (ro : Option Addr) (rc : Nat) (k cap : Nat) (ao : Option Addr) (xs : List Nat) (W : World) (hB : Bt W k ao cap xs) :
    Calls Try.prog 14 #[.slice ao xs.length cap, pv p ro rc] W fun e w' => ∃ ao' cap' k', e = .returned (rv (rd p.kind p.size xs) ao' cap') ∧ Bt w' k' ao' cap' (rd p.kind p.size xs).raw ∧ Below W.heap.size W w' := by
  obtain ⟨K, S, n, s, raw⟩ := p
  show Calls _ _ _ _ fun e w' => ∃ ao' cap' k', e = .returned (rv (rd K S xs) ao' cap') ∧ Bt w' k' ao' cap' (rd K S xs).raw ∧ Below W.heap.size W w'
  obtain ⟨W0, hW0⟩ : ∃ W0, Hid (W0 = W.alloc (.cells #[.int .i64 K, .int .i64 S, .int .u64 (n : Int), .int .i64 s, .slice ro raw.length rc] 32)) := ⟨_, rfl⟩
  have hB2 : ∀ o, Bt (W0.alloc o) k ao cap xs := fun o => by rw [hW0.out]; exact (hB.alloc _).alloc o
  have hc : ∀ w1, Below (W0.alloc (.cells z5 40)).heap.size (W0.alloc (.cells z5 40)) w1 → Blk w1 (W.heap.size + 1) 40 z5 ∧ Below W.heap.size W w1 := fun w1 hb => by
    have hs : W0.heap.size = W.heap.size + 1 := by rw [hW0.out]; simp
    have h1 : Blk (W0.alloc (.cells z5 40)) (W.heap.size + 1) 40 z5 := Blk.new' hs.symm
    refine ⟨h1.below hb h1.lt, ?_⟩
    have h2 : Below W.heap.size W W0 := by rw [hW0.out]; exact (Below.refl _ W).alloc (Nat.le_refl _) _
    exact (h2.alloc h2.size _).trans (hb.mono (by simp [hs]; omega))
  have cU := fun w h => refReadUint_any k cap ao xs S w h
  have cI := fun w h => refReadInt_any k cap ao xs S w h
  have cN := fun w h => refReadNum_any k cap ao xs S w h
  have cR := fun w h => refReadRaw_any k cap ao xs S w h
  unfold pv
  unfold rv at cU cI cN cR ⊢
  by_cases h1 : K = 1
  · subst h1
    have e : (rd 1 S xs).raw = [] := by
      have e0 : rd 1 S xs = if 1 ≤ S ∧ S ≤ 8 then (if xs.length < S.toNat then ⟨0, 0, [], 0, 3⟩ else ⟨val (xs.take S.toNat), 0, [], S.toNat, 0⟩) else ⟨0, 0, [], 0, 0⟩ := rfl
      rw [e0]; repeat' split
      all_goals rfl
    rw [e] at cU ⊢
    generalize rd 1 S xs = r at cU ⊢
    obtain ⟨r1, r2, r3, r4, r5⟩ := r
    clear e cI cN cR
    have hw := hW0.out
    subst hw
    go_enter Try.func14, Try.ntmps14
    go_wp2_with (go_at_call 27; refine (cU _ (hB2 _)).mono ?_; rintro e w1 ⟨rfl, hb⟩; obtain ⟨m1, hb1⟩ := hc _ hb; obtain ⟨c0, c1, c2, c3, c4, c5⟩ := five_cells m1)
    refine bodyPost_ret (v := .agg #[.int .u64 (r1 : Int), .int .i64 r2, .slice none 0 0, .int .i64 (r4 : Int), .int .i64 (r5 : Int)]) ?_ rfl ⟨none, 0, 0, rfl, Bt.nil _ _, five_below hb1 (by omega) _ _ _ _ _⟩
    obtain ⟨d0, d1, d2, d3, d4, d5⟩ := five_cells (five_set m1 (.int .u64 (r1 : Int)) (.int .i64 r2) (.slice none 0 0) (.int .i64 (r4 : Int)) (.int .i64 (r5 : Int)))
    simp [results, Try.results14, go_sem, d0, d1, d2, d3, d4]
  by_cases h2 : K = 2
  · subst h2
    have e : (rd 2 S xs).raw = [] := by
      have e0 : rd 2 S xs = if xs.length < 8 then ⟨0, 0, [], 0, 3⟩ else ⟨0, unzig (val (xs.take 8)), [], 8, 0⟩ := rfl
      rw [e0]; repeat' split
      all_goals rfl
    rw [e] at cI ⊢
    generalize rd 2 S xs = r at cI ⊢
    obtain ⟨r1, r2, r3, r4, r5⟩ := r
    clear e cU cN cR
    have hw := hW0.out
    subst hw
    go_enter Try.func14, Try.ntmps14
    go_wp2_with (go_at_call 28; refine (cI _ (hB2 _)).mono ?_; rintro e w1 ⟨rfl, hb⟩; obtain ⟨m1, hb1⟩ := hc _ hb; obtain ⟨c0, c1, c2, c3, c4, c5⟩ := five_cells m1)
    refine bodyPost_ret (v := .agg #[.int .u64 (r1 : Int), .int .i64 r2, .slice none 0 0, .int .i64 (r4 : Int), .int .i64 (r5 : Int)]) ?_ rfl ⟨none, 0, 0, rfl, Bt.nil _ _, five_below hb1 (by omega) _ _ _ _ _⟩
    obtain ⟨d0, d1, d2, d3, d4, d5⟩ := five_cells (five_set m1 (.int .u64 (r1 : Int)) (.int .i64 r2) (.slice none 0 0) (.int .i64 (r4 : Int)) (.int .i64 (r5 : Int)))
    simp [results, Try.results14, go_sem, d0, d1, d2, d3, d4]
  by_cases h3 : K = 3
  · subst h3
    have e : (rd 3 S xs).raw = [] := by
      rfl
    rw [e] at cN ⊢
    generalize rd 3 S xs = r at cN ⊢
    obtain ⟨r1, r2, r3, r4, r5⟩ := r
    clear e cU cI cR
    have hw := hW0.out
    subst hw
    go_enter Try.func14, Try.ntmps14
    go_wp2_with (go_at_call 29; refine (cN _ (hB2 _)).mono ?_; rintro e w1 ⟨rfl, hb⟩; obtain ⟨m1, hb1⟩ := hc _ hb; obtain ⟨c0, c1, c2, c3, c4, c5⟩ := five_cells m1)
    refine bodyPost_ret (v := .agg #[.int .u64 (r1 : Int), .int .i64 r2, .slice none 0 0, .int .i64 (r4 : Int), .int .i64 (r5 : Int)]) ?_ rfl ⟨none, 0, 0, rfl, Bt.nil _ _, five_below hb1 (by omega) _ _ _ _ _⟩
    obtain ⟨d0, d1, d2, d3, d4, d5⟩ := five_cells (five_set m1 (.int .u64 (r1 : Int)) (.int .i64 r2) (.slice none 0 0) (.int .i64 (r4 : Int)) (.int .i64 (r5 : Int)))
    simp [results, Try.results14, go_sem, d0, d1, d2, d3, d4]
  clear cU cI cN
  by_cases h4 : K = 4
  · subst h4
    generalize rd 4 S xs = r at cR ⊢
    obtain ⟨r1, r2, r3, r4, r5⟩ := r
    have hw := hW0.out
    subst hw
    go_enter Try.func14, Try.ntmps14
    go_wp2_with (go_at_call 30; refine (cR _ (hB2 _)).mono ?_; rintro e w1 ⟨ao', cap', k', rfl, hB', hb⟩; obtain ⟨m1, hb1⟩ := hc _ hb; obtain ⟨c0, c1, c2, c3, c4, c5⟩ := five_cells m1)
    refine bodyPost_ret (v := .agg #[.int .u64 (r1 : Int), .int .i64 r2, .slice ao' r3.length cap', .int .i64 (r4 : Int), .int .i64 (r5 : Int)]) ?_ rfl ⟨ao', cap', k', rfl, hB'.part m1 z5_bytes (five_frm _ _ _ _ _ _ _), five_below hb1 (by omega) _ _ _ _ _⟩
    obtain ⟨d0, d1, d2, d3, d4, d5⟩ := five_cells (five_set m1 (.int .u64 (r1 : Int)) (.int .i64 r2) (.slice ao' r3.length cap') (.int .i64 (r4 : Int)) (.int .i64 (r5 : Int)))
    simp [results, Try.results14, go_sem, d0, d1, d2, d3, d4]
  · have e : rd K S xs = ⟨0, 0, [], 0, 0⟩ := by unfold rd; rw [if_neg h1, if_neg h2, if_neg h3, if_neg h4]
    rw [e]
    have t1 : (K == 1) = false := by simpa using h1
    have t2 : (K == 2) = false := by simpa using h2
    have t3 : (K == 3) = false := by simpa using h3
    have t4 : (K == 4) = false := by simpa using h4
    obtain ⟨m0, hb0⟩ := hc _ (Below.refl _ _)
    have hw := hW0.out
    subst hw
    clear cR e hB2 hc
    go_enter Try.func14, Try.ntmps14
    go_wp2
    refine bodyPost_ret (v := .agg z5) ?_ rfl ⟨none, 0, rfl, ⟨0, Bt.nil _ _⟩, hb0⟩
    simp [results, Try.results14, go_sem, z5]
/-- What a reader answers, as Go's value. -/
def gv (r : Res) (ao : Option Addr) (cap : Nat) : Value := .agg #[.int .u64 (r.n : Int), .int .i64 r.s, .slice ao r.raw.length cap, .int .i64 0, .int .i64 0]
theorem step_rest1 (S : Int) (xs : List Nat) (f : Nat) : (stepR 1 S xs f).s = 0 ∧ (stepR 1 S xs f).raw = [] := by
  by_cases hf : f = 0
  · subst hf
    rw [step1]
    repeat' split
    all_goals exact ⟨rfl, rfl⟩
  · rw [step_fault hf]; exact ⟨rfl, rfl⟩
theorem step_rest2 (S : Int) (xs : List Nat) (f : Nat) : (stepR 2 S xs f).n = 0 ∧ (stepR 2 S xs f).raw = [] := by
  by_cases hf : f = 0
  · subst hf
    rw [step2]
    repeat' split
    all_goals exact ⟨rfl, rfl⟩
  · rw [step_fault hf]; exact ⟨rfl, rfl⟩
theorem step_rest3 (S : Int) (xs : List Nat) (f : Nat) : (stepR 3 S xs f).s = 0 ∧ (stepR 3 S xs f).raw = [] := by
  by_cases hf : f = 0
  · subst hf
    exact ⟨rfl, rfl⟩
  · rw [step_fault hf]; exact ⟨rfl, rfl⟩
theorem step_rest4 (S : Int) (xs : List Nat) (f : Nat) : (stepR 4 S xs f).n = 0 ∧ (stepR 4 S xs f).s = 0 := by
  by_cases hf : f = 0
  · subst hf
    rw [step4]
    repeat' split
    all_goals exact ⟨rfl, rfl⟩
  · rw [step_fault hf]; exact ⟨rfl, rfl⟩
theorem got_any (p : Prt) (hs : p.size < 9223372036854775808) (ro : Option Addr) (rc : Nat) (g f : Nat) (xs : List Nat) (hx : xs.length ≤ 2000000) (W : World) (hR : Rr W g xs f) :
    Calls Try.prog 15 #[.pointer (some ⟨g, 0, none⟩), pv p ro rc] W fun e w' => ∃ ao' cap' k', e = .returned (gv (stepR p.kind p.size xs f) ao' cap') ∧ Bt w' k' ao' cap' (stepR p.kind p.size xs f).raw ∧
      Rr w' g (xs.drop (stepR p.kind p.size xs f).size) (stepR p.kind p.size xs f).f ∧ Frm (fun b => b = g) W w' := by
  obtain ⟨K, S, n, s, raw⟩ := p
  have hs' : S < 9223372036854775808 := hs
  show Calls _ _ _ _ fun e w' => ∃ ao' cap' k', e = .returned (gv (stepR K S xs f) ao' cap') ∧ Bt w' k' ao' cap' (stepR K S xs f).raw ∧ Rr w' g (xs.drop (stepR K S xs f).size) (stepR K S xs f).f ∧ Frm (fun b => b = g) W w'
  obtain ⟨W0, hW0⟩ : ∃ W0, Hid (W0 = W.alloc (.cells #[.int .i64 K, .int .i64 S, .int .u64 (n : Int), .int .i64 s, .slice ro raw.length rc] 32)) := ⟨_, rfl⟩
  have hgW : g < W.heap.size := by obtain ⟨_, _, _, hb, _⟩ := hR; exact hb.lt
  have hne : g ≠ W.heap.size + 1 := by omega
  have hR2 : ∀ o, Rr (W0.alloc o) g xs f := fun o => by
    rw [hW0.out]
    exact (hR.below ((Below.refl _ W).alloc (Nat.le_refl _) _)).below ((Below.refl _ _).alloc (Nat.le_refl _) _)
  have hc : ∀ w1, Frm (fun b => b = g) (W0.alloc (.cells z5 40)) w1 → Blk w1 (W.heap.size + 1) 40 z5 ∧ Frm (fun b => b = g) W w1 := fun w1 hb => by
    have hs : W0.heap.size = W.heap.size + 1 := by rw [hW0.out]; simp
    have h1 : Blk (W0.alloc (.cells z5 40)) (W.heap.size + 1) 40 z5 := Blk.new' hs.symm
    refine ⟨(hb.block _ h1.lt (by omega)).trans h1, ?_⟩
    have h2 : Frm (fun b => b = g) W W0 := by rw [hW0.out]; exact (Frm.refl _ W).alloc _
    exact (h2.alloc _).trans hb (fun _ h => .inl h)
  have cU := fun w h => ruint_any g f xs S w h
  have cI := fun w h => rint_any g f xs w h
  have cN := fun w h => rnum_any g xs f w h
  have cR := fun w h => rraw_any g f xs hx S hs' w h
  unfold pv
  by_cases h1 : K = 1
  · subst h1
    obtain ⟨e1, e2⟩ : (stepR 1 S xs f).s = 0 ∧ (stepR 1 S xs f).raw = [] := step_rest1 S xs f
    unfold gv
    rw [e1, e2]
    generalize stepR 1 S xs f = r at cU ⊢
    obtain ⟨r1, r2, r3, r4, r5⟩ := r
    clear e1 e2  cI cN cR
    have hw := hW0.out
    subst hw
    go_enter Try.func15, Try.ntmps15
    go_wp2_with (go_at_call 31; refine (cU _ (hR2 _)).mono ?_; rintro e w1 ⟨rfl, hR1, hb⟩; obtain ⟨m1, hb1⟩ := hc _ hb; obtain ⟨c0, c1, c2, c3, c4, c5⟩ := five_cells m1)
    refine bodyPost_ret (v := .agg #[.int .u64 (r1 : Int), .int .i64 0, .slice none 0 0, .int .i64 0, .int .i64 0]) ?_ rfl ⟨none, 0, 0, rfl, Bt.nil _ _, hR1.part m1 z5_bytes hne (five_frm _ _ _ _ _ _ _), hb1.trans (five_frm _ _ _ _ _ _ _) (fun b hb => .inr (by omega))⟩
    obtain ⟨d0, d1, d2, d3, d4, d5⟩ := five_cells (five_set m1 (.int .u64 (r1 : Int)) (.int .i64 0) (.slice none 0 0) (.int .i64 0) (.int .i64 0))
    simp [results, Try.results15, go_sem, d0, d1, d2, d3, d4]
  by_cases h2 : K = 2
  · subst h2
    obtain ⟨e1, e2⟩ : (stepR 2 S xs f).n = 0 ∧ (stepR 2 S xs f).raw = [] := step_rest2 S xs f
    unfold gv
    rw [e1, e2]
    have e3 : stepR 2 S xs f = stepR 2 0 xs f := rfl
    rw [e3]
    generalize stepR 2 0 xs f = r at cI ⊢
    obtain ⟨r1, r2, r3, r4, r5⟩ := r
    clear e1 e2 e3 cU cN cR
    have hw := hW0.out
    subst hw
    go_enter Try.func15, Try.ntmps15
    go_wp2_with (go_at_call 32; refine (cI _ (hR2 _)).mono ?_; rintro e w1 ⟨rfl, hR1, hb⟩; obtain ⟨m1, hb1⟩ := hc _ hb; obtain ⟨c0, c1, c2, c3, c4, c5⟩ := five_cells m1)
    refine bodyPost_ret (v := .agg #[.int .u64 0, .int .i64 r2, .slice none 0 0, .int .i64 0, .int .i64 0]) ?_ rfl ⟨none, 0, 0, rfl, Bt.nil _ _, hR1.part m1 z5_bytes hne (five_frm _ _ _ _ _ _ _), hb1.trans (five_frm _ _ _ _ _ _ _) (fun b hb => .inr (by omega))⟩
    obtain ⟨d0, d1, d2, d3, d4, d5⟩ := five_cells (five_set m1 (.int .u64 0) (.int .i64 r2) (.slice none 0 0) (.int .i64 0) (.int .i64 0))
    simp [results, Try.results15, go_sem, d0, d1, d2, d3, d4]
  by_cases h3 : K = 3
  · subst h3
    obtain ⟨e1, e2⟩ : (stepR 3 S xs f).s = 0 ∧ (stepR 3 S xs f).raw = [] := step_rest3 S xs f
    unfold gv
    rw [e1, e2]
    have e3 : stepR 3 S xs f = stepR 3 0 xs f := rfl
    rw [e3]
    generalize stepR 3 0 xs f = r at cN ⊢
    obtain ⟨r1, r2, r3, r4, r5⟩ := r
    clear e1 e2 e3 cU cI cR
    have hw := hW0.out
    subst hw
    go_enter Try.func15, Try.ntmps15
    go_wp2_with (go_at_call 20; refine (cN _ (hR2 _)).mono ?_; rintro e w1 ⟨rfl, hR1, hb⟩; obtain ⟨m1, hb1⟩ := hc _ hb; obtain ⟨c0, c1, c2, c3, c4, c5⟩ := five_cells m1)
    refine bodyPost_ret (v := .agg #[.int .u64 (r1 : Int), .int .i64 0, .slice none 0 0, .int .i64 0, .int .i64 0]) ?_ rfl ⟨none, 0, 0, rfl, Bt.nil _ _, hR1.part m1 z5_bytes hne (five_frm _ _ _ _ _ _ _), hb1.trans (five_frm _ _ _ _ _ _ _) (fun b hb => .inr (by omega))⟩
    obtain ⟨d0, d1, d2, d3, d4, d5⟩ := five_cells (five_set m1 (.int .u64 (r1 : Int)) (.int .i64 0) (.slice none 0 0) (.int .i64 0) (.int .i64 0))
    simp [results, Try.results15, go_sem, d0, d1, d2, d3, d4]
  clear cU cI cN
  by_cases h4 : K = 4
  · subst h4
    obtain ⟨e1, e2⟩ : (stepR 4 S xs f).n = 0 ∧ (stepR 4 S xs f).s = 0 := step_rest4 S xs f
    unfold gv
    rw [e1, e2]
    generalize stepR 4 S xs f = r at cR ⊢
    obtain ⟨r1, r2, r3, r4, r5⟩ := r
    clear e1 e2
    have hw := hW0.out
    subst hw
    go_enter Try.func15, Try.ntmps15
    go_wp2_with (go_at_call 33; refine (cR _ (hR2 _)).mono ?_; rintro e w1 ⟨ao', cap', k', rfl, hB', hR1, hb⟩; obtain ⟨m1, hb1⟩ := hc _ hb; obtain ⟨c0, c1, c2, c3, c4, c5⟩ := five_cells m1)
    refine bodyPost_ret (v := .agg #[.int .u64 0, .int .i64 0, .slice ao' r3.length cap', .int .i64 0, .int .i64 0]) ?_ rfl ⟨ao', cap', k', rfl, hB'.part m1 z5_bytes (five_frm _ _ _ _ _ _ _), hR1.part m1 z5_bytes hne (five_frm _ _ _ _ _ _ _), hb1.trans (five_frm _ _ _ _ _ _ _) (fun b hb => .inr (by omega))⟩
    obtain ⟨d0, d1, d2, d3, d4, d5⟩ := five_cells (five_set m1 (.int .u64 0) (.int .i64 0) (.slice ao' r3.length cap') (.int .i64 0) (.int .i64 0))
    simp [results, Try.results15, go_sem, d0, d1, d2, d3, d4]
  · have e : stepR K S xs f = ⟨0, 0, [], 0, f⟩ := by
      by_cases hf : f = 0
      · subst hf; unfold stepR rd; rw [if_pos rfl, if_neg h1, if_neg h2, if_neg h3, if_neg h4]
      · exact step_fault hf
    rw [e]
    have t1 : (K == 1) = false := by simpa using h1
    have t2 : (K == 2) = false := by simpa using h2
    have t3 : (K == 3) = false := by simpa using h3
    have t4 : (K == 4) = false := by simpa using h4
    obtain ⟨m0, hb0⟩ := hc _ (Frm.refl _ _)
    have hR3 := hR2 (.cells z5 40)
    have hw := hW0.out
    subst hw
    clear cR e hR2 hc
    go_enter Try.func15, Try.ntmps15
    go_wp2
    refine bodyPost_ret (v := .agg z5) ?_ rfl ⟨none, 0, rfl, ⟨0, Bt.nil _ _⟩, hR3, hb0⟩
    simp [results, Try.results15, go_sem, z5]
/-- A nil reader reads nothing. -/
theorem gotNil_any (p : Prt) (ro : Option Addr) (rc : Nat) (W : World) :
    Calls Try.prog 15 #[.pointer none, pv p ro rc] W fun e w' => ∃ ao' cap', e = .returned (.agg #[.int .u64 0, .int .i64 0, .slice ao' 0 cap', .int .i64 0, .int .i64 0]) ∧ Below W.heap.size W w' := by
  obtain ⟨K, S, n, s, raw⟩ := p
  obtain ⟨W0, hW0⟩ : ∃ W0, Hid (W0 = W.alloc (.cells #[.int .i64 K, .int .i64 S, .int .u64 (n : Int), .int .i64 s, .slice ro raw.length rc] 32)) := ⟨_, rfl⟩
  have hc : ∀ w1, Below (W0.alloc (.cells z5 40)).heap.size (W0.alloc (.cells z5 40)) w1 → Blk w1 (W.heap.size + 1) 40 z5 ∧ Below W.heap.size W w1 := fun w1 hb => by
    have hs : W0.heap.size = W.heap.size + 1 := by rw [hW0.out]; simp
    have h1 : Blk (W0.alloc (.cells z5 40)) (W.heap.size + 1) 40 z5 := Blk.new' hs.symm
    refine ⟨h1.below hb h1.lt, ?_⟩
    have h2 : Below W.heap.size W W0 := by rw [hW0.out]; exact (Below.refl _ W).alloc (Nat.le_refl _) _
    exact (h2.alloc h2.size _).trans (hb.mono (by simp [hs]; omega))
  have cU : ∀ w, Calls Try.prog 31 #[.pointer none, .int .i64 S] w fun e w' => e = .returned (.int .u64 0) ∧ Below w.heap.size w w' := fun w => (ruint_nil S w).mono fun e w' h => ⟨h.1, h.2 ▸ Below.refl _ _⟩
  have cI : ∀ w, Calls Try.prog 32 #[.pointer none] w fun e w' => e = .returned (.int .i64 0) ∧ Below w.heap.size w w' := fun w => (rint_nil w).mono fun e w' h => ⟨h.1, h.2 ▸ Below.refl _ _⟩
  have cN : ∀ w, Calls Try.prog 20 #[.pointer none] w fun e w' => e = .returned (.int .u64 0) ∧ Below w.heap.size w w' := fun w => (rnum_nil w).mono fun e w' h => ⟨h.1, h.2 ▸ Below.refl _ _⟩
  have cR := fun w => rraw_nil S w
  have hc0 := hc _ (Below.refl _ _)
  have hw := hW0.out
  subst hw
  unfold pv
  go_enter Try.func15, Try.ntmps15
  go_wp2_with (first | (go_at_call 31; refine (cU _).mono ?_; rintro e w1 ⟨rfl, hb⟩; obtain ⟨m1, hb1⟩ := hc _ hb; obtain ⟨c0, c1, c2, c3, c4, c5⟩ := five_cells m1) | (go_at_call 32; refine (cI _).mono ?_; rintro e w1 ⟨rfl, hb⟩; obtain ⟨m1, hb1⟩ := hc _ hb; obtain ⟨c0, c1, c2, c3, c4, c5⟩ := five_cells m1) | (go_at_call 20; refine (cN _).mono ?_; rintro e w1 ⟨rfl, hb⟩; obtain ⟨m1, hb1⟩ := hc _ hb; obtain ⟨c0, c1, c2, c3, c4, c5⟩ := five_cells m1) | (go_at_call 33; refine (cR _).mono ?_; rintro e w1 ⟨ao1, cap1, rfl, hb⟩; obtain ⟨m1, hb1⟩ := hc _ hb; obtain ⟨c0, c1, c2, c3, c4, c5⟩ := five_cells m1))
  all_goals first
    | (refine bodyPost_ret (v := .agg #[.int .u64 0, .int .i64 0, .slice none 0 0, .int .i64 0, .int .i64 0]) ?_ rfl ⟨none, 0, rfl, five_below hb1 (by omega) _ _ _ _ _⟩
       obtain ⟨d0, d1, d2, d3, d4, d5⟩ := five_cells (five_set m1 (.int .u64 0) (.int .i64 0) (.slice none 0 0) (.int .i64 0) (.int .i64 0))
       simp [results, Try.results15, go_sem, d0, d1, d2, d3, d4]
       done)
    | (refine bodyPost_ret (v := .agg #[.int .u64 0, .int .i64 0, .slice ao1 0 cap1, .int .i64 0, .int .i64 0]) ?_ rfl ⟨ao1, cap1, rfl, five_below hb1 (by omega) _ _ _ _ _⟩
       obtain ⟨d0, d1, d2, d3, d4, d5⟩ := five_cells (five_set m1 (.int .u64 0) (.int .i64 0) (.slice ao1 0 cap1) (.int .i64 0) (.int .i64 0))
       simp [results, Try.results15, go_sem, d0, d1, d2, d3, d4]
       done)
    | (refine bodyPost_ret (v := .agg #[.int .u64 0, .int .i64 0, .slice none 0 0, .int .i64 0, .int .i64 0]) ?_ rfl ⟨⟨none, 0, rfl⟩, hc0.2⟩
       simp [results, Try.results15, go_sem]
       done)
end Go.Proofs.Ytniccdnjaaepcaa
