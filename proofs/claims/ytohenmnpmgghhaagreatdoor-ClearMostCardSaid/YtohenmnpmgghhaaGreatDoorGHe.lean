/-
  The document's far, Less, Of of an auction's prices. (Written by gen/p_clb.py.)
  The allowed prices as a walk over the prices of a band makes them. (No Go text.)
  The document's Allowed.
  The document's Choose and Free.
-/
import Derived.Test.YtohenmnpmgghhaaGreatDoorGHb
import Derived.Test.YtohenmnpmgghhaaGreatDoorCvnq
import Derived.Test.YtohenmnpmgghhaaGreatDoorGCe
namespace Go.Proofs.YtohenmnpmgghhaaGreatDoor
open Go.RowKit
set_option linter.unusedSimpArgs false
theorem rfar_any (a b : Int) (ha : 0 ≤ a ∧ a ≤ 1099511627776) (hb : 0 ≤ b ∧ b ≤ 1099511627776) (w : World) : Calls Tryz.prog 34 #[.int .i64 a, .int .i64 b] w fun e w' => e = .returned (.int .i64 (farI a b)) ∧ w' = w := by
  obtain ⟨a1, a2⟩ := ha
  obtain ⟨b1, b2⟩ := hb
  unfold farI
  by_cases h : b < a
  · rw [if_pos h]
    go_enter Tryz.func34, Tryz.ntmps34
    go_wp2
    all_goals first | (exfalso; omega) | (go_ret; first | exact ⟨rfl, rfl⟩ | exact ⟨congrArg (fun z => Ending.returned (.int .i64 z)) (by omega), rfl⟩)
  · rw [if_neg h]
    go_enter Tryz.func34, Tryz.ntmps34
    go_wp2
    all_goals first | (exfalso; omega) | (go_ret; first | exact ⟨rfl, rfl⟩ | exact ⟨congrArg (fun z => Ending.returned (.int .i64 z)) (by omega), rfl⟩)
set_option maxRecDepth 8000 in
set_option maxHeartbeats 4000000 in
theorem rless_any (a b : Prc) (r : Int) (ha : 0 ≤ a.price ∧ a.price ≤ 1099511627776) (hb : 0 ≤ b.price ∧ b.price ≤ 1099511627776) (hr : 0 ≤ r ∧ r ≤ 1099511627776) (W : World) : Calls Tryz.prog 19 #[vPrc a, vPrc b, .int .i64 r] W fun e w' => e = .returned (.bool (lessP a b r)) ∧ Below W.heap.size W w' := by
  obtain ⟨W1, hW1⟩ : ∃ W1, W1 = (W.alloc (.cells (cPrc a) 35)).alloc (.cells (cPrc b) 35) := ⟨_, rfl⟩
  have m1 : Mem W [(W.heap.size + 1, 35, cPrc b), (W.heap.size, 35, cPrc a)] W1 := by
    rw [hW1]
    exact ((Mem.start W).new _ _).new' _ _ (by simp)
  have hA := m1.blk W.heap.size 35 (cPrc a) (by simp)
  have hB := m1.blk (W.heap.size + 1) 35 (cPrc b) (by simp)
  have hb1 := m1.below
  have hC := fun w (h : Below W1.heap.size W1 w) => (⟨Prc.cells (hA.below h hA.lt), Prc.cells (hB.below h hB.lt)⟩ : _ ∧ _)
  obtain ⟨a0, a1, a2⟩ := Prc.cells hA
  obtain ⟨b0, b1, b2⟩ := Prc.cells hB
  have cA := fun w => rfar_any a.price r ha hr w
  have cB := fun w => rfar_any b.price r hb hr w
  have key : ((a.volume != b.volume) = true ∧ lessP a b r = decide (b.volume < a.volume)) ∨ ((a.volume != b.volume) = false ∧ (((a.odds != b.odds) = true ∧ lessP a b r = decide (a.odds < b.odds)) ∨ ((a.odds != b.odds) = false ∧ (((farI a.price r != farI b.price r) = true ∧ lessP a b r = decide (farI a.price r < farI b.price r)) ∨ ((farI a.price r != farI b.price r) = false ∧ lessP a b r = decide (a.price < b.price)))))) := by
    unfold lessP
    by_cases h1 : a.volume = b.volume
    · refine .inr ⟨by simpa using h1, ?_⟩
      rw [if_neg (by simpa using h1)]
      by_cases h2 : a.odds = b.odds
      · refine .inr ⟨by simpa using h2, ?_⟩
        rw [if_neg (by simpa using h2)]
        by_cases h3 : farI a.price r = farI b.price r
        · exact .inr ⟨by simpa using h3, if_neg (by simpa using h3)⟩
        · exact .inl ⟨by simpa using h3, if_pos h3⟩
      · exact .inl ⟨by simpa using h2, if_pos h2⟩
    · exact .inl ⟨by simpa using h1, if_pos h1⟩
  clear hA hB m1 ha hb hr
  generalize farI a.price r = fa at *
  generalize farI b.price r = fb at *
  obtain ⟨ap, av, ao⟩ := a
  obtain ⟨bp, bv, bo⟩ := b
  simp only at key cA cB hC a0 a1 a2 b0 b1 b2
  simp only [vPrc, cPrc] at hW1 ⊢
  rcases key with ⟨d1, e⟩ | ⟨d1, ⟨d2, e⟩ | ⟨d2, ⟨d3, e⟩ | ⟨d3, e⟩⟩⟩
  · rw [e]
    clear e
    go_enter Tryz.func19, Tryz.ntmps19
    go_wp2_with (first | (rw [← hW1]; clear hW1) | fail)
    go_ret
    exact ⟨rfl, hb1⟩
  · rw [e]
    clear e
    go_enter Tryz.func19, Tryz.ntmps19
    go_wp2_with (first | (rw [← hW1]; clear hW1) | fail)
    go_ret
    exact ⟨rfl, hb1⟩
  · rw [e]
    clear e
    obtain ⟨z, hz⟩ : ∃ z, decide (fa < fb) = z := ⟨_, rfl⟩
    rw [hz]
    go_enter Tryz.func19, Tryz.ntmps19
    go_wp2_with (first | (rw [← hW1]; clear hW1) | fail)
    clear a0 a1 a2 b0 b1 b2
    refine wp_region_S (S := fun _ w => Below W1.heap.size W1 w) (by kernel_rfl) (Below.refl _ _).drew ?_
    refine AllS.next (v := ?_) rfl rfl rfl (by kernel_rfl) ?_ ?_
    rotate_left
    · refine yieldsS_run (fun _ _ h => h) (by rfl) ?_
      intro L wx hS
      go_simp
      all_goals first
        | done
        | with_reducible rfl
        | assumption
        | (simp_all; done)
    try simp only [Act.put, List.setIfInBounds_toArray, List.set_cons_zero, List.set_cons_succ, List.getElem_toArray, List.getElem_cons_zero, List.getElem_cons_succ]
    refine AllS.next (v := ?_) rfl rfl rfl (by kernel_rfl) ?_ ?_
    rotate_left
    · refine yieldsS_run (fun _ _ h => h) (by rfl) ?_
      intro L wx hS
      obtain ⟨⟨a0, a1, a2⟩, b0, b1, b2⟩ := hC wx hS
      go_simp
      all_goals first
        | done
        | with_reducible rfl
        | assumption
        | (simp_all; done)
    try simp only [Act.put, List.setIfInBounds_toArray, List.set_cons_zero, List.set_cons_succ, List.getElem_toArray, List.getElem_cons_zero, List.getElem_cons_succ]
    refine AllS.next (v := ?_) rfl rfl rfl (by kernel_rfl) ?_ ?_
    rotate_left
    · refine yieldsS_run (fun _ _ h => h) (by rfl) ?_
      intro L wx hS
      go_simp
      all_goals first
        | done
        | with_reducible rfl
        | assumption
        | (simp_all; done)
    try simp only [Act.put, List.setIfInBounds_toArray, List.set_cons_zero, List.set_cons_succ, List.getElem_toArray, List.getElem_cons_zero, List.getElem_cons_succ]
    refine AllS.next (v := (.int .i64 fa)) rfl rfl rfl (by kernel_rfl) ?_ ?_
    · refine yieldsS_call (f := 34) (args := #[.int .i64 ap, .int .i64 r]) (by rfl) ?_ ?_
      · intro wx
        go_simp
        try with_reducible rfl
      · intro L wx hS
        exact (cA wx).mono fun e w h => ⟨h.1, by rw [h.2]; exact hS⟩
    try simp only [Act.put, List.setIfInBounds_toArray, List.set_cons_zero, List.set_cons_succ, List.getElem_toArray, List.getElem_cons_zero, List.getElem_cons_succ]
    refine AllS.next (v := ?_) rfl rfl rfl (by kernel_rfl) ?_ ?_
    rotate_left
    · refine yieldsS_run (fun _ _ h => h) (by rfl) ?_
      intro L wx hS
      go_simp
      all_goals first
        | done
        | with_reducible rfl
        | assumption
        | (simp_all; done)
    try simp only [Act.put, List.setIfInBounds_toArray, List.set_cons_zero, List.set_cons_succ, List.getElem_toArray, List.getElem_cons_zero, List.getElem_cons_succ]
    refine AllS.next (v := ?_) rfl rfl rfl (by kernel_rfl) ?_ ?_
    rotate_left
    · refine yieldsS_run (fun _ _ h => h) (by rfl) ?_
      intro L wx hS
      obtain ⟨⟨a0, a1, a2⟩, b0, b1, b2⟩ := hC wx hS
      go_simp
      all_goals first
        | done
        | with_reducible rfl
        | assumption
        | (simp_all; done)
    try simp only [Act.put, List.setIfInBounds_toArray, List.set_cons_zero, List.set_cons_succ, List.getElem_toArray, List.getElem_cons_zero, List.getElem_cons_succ]
    refine AllS.next (v := ?_) rfl rfl rfl (by kernel_rfl) ?_ ?_
    rotate_left
    · refine yieldsS_run (fun _ _ h => h) (by rfl) ?_
      intro L wx hS
      go_simp
      all_goals first
        | done
        | with_reducible rfl
        | assumption
        | (simp_all; done)
    try simp only [Act.put, List.setIfInBounds_toArray, List.set_cons_zero, List.set_cons_succ, List.getElem_toArray, List.getElem_cons_zero, List.getElem_cons_succ]
    refine AllS.next (v := (.int .i64 fb)) rfl rfl rfl (by kernel_rfl) ?_ ?_
    · refine yieldsS_call (f := 34) (args := #[.int .i64 bp, .int .i64 r]) (by rfl) ?_ ?_
      · intro wx
        go_simp
        try with_reducible rfl
      · intro L wx hS
        exact (cB wx).mono fun e w h => ⟨h.1, by rw [h.2]; exact hS⟩
    try simp only [Act.put, List.setIfInBounds_toArray, List.set_cons_zero, List.set_cons_succ, List.getElem_toArray, List.getElem_cons_zero, List.getElem_cons_succ]
    refine AllS.next (v := (.bool true)) rfl rfl rfl (by kernel_rfl) ?_ ?_
    · refine yieldsS_run (fun _ _ h => h) (by rfl) ?_
      intro L wx hS
      go_simp
      all_goals first
        | done
        | with_reducible rfl
        | assumption
        | (simp_all; done)
    try simp only [Act.put, List.setIfInBounds_toArray, List.set_cons_zero, List.set_cons_succ, List.getElem_toArray, List.getElem_cons_zero, List.getElem_cons_succ]
    refine AllS.done (by kernel_rfl) ?_
    intro w5 hS5
    go_wp2_with fail
    refine wp_region_S (S := fun _ w => Below W1.heap.size W1 w) (by kernel_rfl) (hS5).drew ?_
    refine AllS.next (v := ?_) rfl rfl rfl (by kernel_rfl) ?_ ?_
    rotate_left
    · refine yieldsS_run (fun _ _ h => h) (by rfl) ?_
      intro L wx hS
      go_simp
      all_goals first
        | done
        | with_reducible rfl
        | assumption
        | (simp_all; done)
    try simp only [Act.put, List.setIfInBounds_toArray, List.set_cons_zero, List.set_cons_succ, List.getElem_toArray, List.getElem_cons_zero, List.getElem_cons_succ]
    refine AllS.next (v := ?_) rfl rfl rfl (by kernel_rfl) ?_ ?_
    rotate_left
    · refine yieldsS_run (fun _ _ h => h) (by rfl) ?_
      intro L wx hS
      obtain ⟨⟨a0, a1, a2⟩, b0, b1, b2⟩ := hC wx hS
      go_simp
      all_goals first
        | done
        | with_reducible rfl
        | assumption
        | (simp_all; done)
    try simp only [Act.put, List.setIfInBounds_toArray, List.set_cons_zero, List.set_cons_succ, List.getElem_toArray, List.getElem_cons_zero, List.getElem_cons_succ]
    refine AllS.next (v := ?_) rfl rfl rfl (by kernel_rfl) ?_ ?_
    rotate_left
    · refine yieldsS_run (fun _ _ h => h) (by rfl) ?_
      intro L wx hS
      go_simp
      all_goals first
        | done
        | with_reducible rfl
        | assumption
        | (simp_all; done)
    try simp only [Act.put, List.setIfInBounds_toArray, List.set_cons_zero, List.set_cons_succ, List.getElem_toArray, List.getElem_cons_zero, List.getElem_cons_succ]
    refine AllS.next (v := (.int .i64 fa)) rfl rfl rfl (by kernel_rfl) ?_ ?_
    · refine yieldsS_call (f := 34) (args := #[.int .i64 ap, .int .i64 r]) (by rfl) ?_ ?_
      · intro wx
        go_simp
        try with_reducible rfl
      · intro L wx hS
        exact (cA wx).mono fun e w h => ⟨h.1, by rw [h.2]; exact hS⟩
    try simp only [Act.put, List.setIfInBounds_toArray, List.set_cons_zero, List.set_cons_succ, List.getElem_toArray, List.getElem_cons_zero, List.getElem_cons_succ]
    refine AllS.next (v := ?_) rfl rfl rfl (by kernel_rfl) ?_ ?_
    rotate_left
    · refine yieldsS_run (fun _ _ h => h) (by rfl) ?_
      intro L wx hS
      go_simp
      all_goals first
        | done
        | with_reducible rfl
        | assumption
        | (simp_all; done)
    try simp only [Act.put, List.setIfInBounds_toArray, List.set_cons_zero, List.set_cons_succ, List.getElem_toArray, List.getElem_cons_zero, List.getElem_cons_succ]
    refine AllS.next (v := ?_) rfl rfl rfl (by kernel_rfl) ?_ ?_
    rotate_left
    · refine yieldsS_run (fun _ _ h => h) (by rfl) ?_
      intro L wx hS
      obtain ⟨⟨a0, a1, a2⟩, b0, b1, b2⟩ := hC wx hS
      go_simp
      all_goals first
        | done
        | with_reducible rfl
        | assumption
        | (simp_all; done)
    try simp only [Act.put, List.setIfInBounds_toArray, List.set_cons_zero, List.set_cons_succ, List.getElem_toArray, List.getElem_cons_zero, List.getElem_cons_succ]
    refine AllS.next (v := ?_) rfl rfl rfl (by kernel_rfl) ?_ ?_
    rotate_left
    · refine yieldsS_run (fun _ _ h => h) (by rfl) ?_
      intro L wx hS
      go_simp
      all_goals first
        | done
        | with_reducible rfl
        | assumption
        | (simp_all; done)
    try simp only [Act.put, List.setIfInBounds_toArray, List.set_cons_zero, List.set_cons_succ, List.getElem_toArray, List.getElem_cons_zero, List.getElem_cons_succ]
    refine AllS.next (v := (.int .i64 fb)) rfl rfl rfl (by kernel_rfl) ?_ ?_
    · refine yieldsS_call (f := 34) (args := #[.int .i64 bp, .int .i64 r]) (by rfl) ?_ ?_
      · intro wx
        go_simp
        try with_reducible rfl
      · intro L wx hS
        exact (cB wx).mono fun e w h => ⟨h.1, by rw [h.2]; exact hS⟩
    try simp only [Act.put, List.setIfInBounds_toArray, List.set_cons_zero, List.set_cons_succ, List.getElem_toArray, List.getElem_cons_zero, List.getElem_cons_succ]
    refine AllS.next (v := (.bool z)) rfl rfl rfl (by kernel_rfl) ?_ ?_
    · refine yieldsS_run (fun _ _ h => h) (by rfl) ?_
      intro L wx hS
      go_simp
      all_goals first
        | done
        | with_reducible rfl
        | assumption
        | (simp_all; done)
    try simp only [Act.put, List.setIfInBounds_toArray, List.set_cons_zero, List.set_cons_succ, List.getElem_toArray, List.getElem_cons_zero, List.getElem_cons_succ]
    refine AllS.next (v := ?_) rfl rfl rfl (by kernel_rfl) ?_ ?_
    rotate_left
    · refine yieldsS_run (fun _ _ h => h) (by rfl) ?_
      intro L wx hS
      go_simp
      all_goals first
        | done
        | with_reducible rfl
        | assumption
        | (simp_all; done)
    try simp only [Act.put, List.setIfInBounds_toArray, List.set_cons_zero, List.set_cons_succ, List.getElem_toArray, List.getElem_cons_zero, List.getElem_cons_succ]
    refine AllS.done (by kernel_rfl) ?_
    intro w6 hS6
    go_wp2_with fail
    go_ret
    exact ⟨rfl, hb1.trans (hS6.mono hb1.size)⟩
  · rw [e]
    clear e
    go_enter Tryz.func19, Tryz.ntmps19
    go_wp2_with (first | (rw [← hW1]; clear hW1) | fail)
    clear a0 a1 a2 b0 b1 b2
    refine wp_region_S (S := fun _ w => Below W1.heap.size W1 w) (by kernel_rfl) (Below.refl _ _).drew ?_
    refine AllS.next (v := ?_) rfl rfl rfl (by kernel_rfl) ?_ ?_
    rotate_left
    · refine yieldsS_run (fun _ _ h => h) (by rfl) ?_
      intro L wx hS
      go_simp
      all_goals first
        | done
        | with_reducible rfl
        | assumption
        | (simp_all; done)
    try simp only [Act.put, List.setIfInBounds_toArray, List.set_cons_zero, List.set_cons_succ, List.getElem_toArray, List.getElem_cons_zero, List.getElem_cons_succ]
    refine AllS.next (v := ?_) rfl rfl rfl (by kernel_rfl) ?_ ?_
    rotate_left
    · refine yieldsS_run (fun _ _ h => h) (by rfl) ?_
      intro L wx hS
      obtain ⟨⟨a0, a1, a2⟩, b0, b1, b2⟩ := hC wx hS
      go_simp
      all_goals first
        | done
        | with_reducible rfl
        | assumption
        | (simp_all; done)
    try simp only [Act.put, List.setIfInBounds_toArray, List.set_cons_zero, List.set_cons_succ, List.getElem_toArray, List.getElem_cons_zero, List.getElem_cons_succ]
    refine AllS.next (v := ?_) rfl rfl rfl (by kernel_rfl) ?_ ?_
    rotate_left
    · refine yieldsS_run (fun _ _ h => h) (by rfl) ?_
      intro L wx hS
      go_simp
      all_goals first
        | done
        | with_reducible rfl
        | assumption
        | (simp_all; done)
    try simp only [Act.put, List.setIfInBounds_toArray, List.set_cons_zero, List.set_cons_succ, List.getElem_toArray, List.getElem_cons_zero, List.getElem_cons_succ]
    refine AllS.next (v := (.int .i64 fa)) rfl rfl rfl (by kernel_rfl) ?_ ?_
    · refine yieldsS_call (f := 34) (args := #[.int .i64 ap, .int .i64 r]) (by rfl) ?_ ?_
      · intro wx
        go_simp
        try with_reducible rfl
      · intro L wx hS
        exact (cA wx).mono fun e w h => ⟨h.1, by rw [h.2]; exact hS⟩
    try simp only [Act.put, List.setIfInBounds_toArray, List.set_cons_zero, List.set_cons_succ, List.getElem_toArray, List.getElem_cons_zero, List.getElem_cons_succ]
    refine AllS.next (v := ?_) rfl rfl rfl (by kernel_rfl) ?_ ?_
    rotate_left
    · refine yieldsS_run (fun _ _ h => h) (by rfl) ?_
      intro L wx hS
      go_simp
      all_goals first
        | done
        | with_reducible rfl
        | assumption
        | (simp_all; done)
    try simp only [Act.put, List.setIfInBounds_toArray, List.set_cons_zero, List.set_cons_succ, List.getElem_toArray, List.getElem_cons_zero, List.getElem_cons_succ]
    refine AllS.next (v := ?_) rfl rfl rfl (by kernel_rfl) ?_ ?_
    rotate_left
    · refine yieldsS_run (fun _ _ h => h) (by rfl) ?_
      intro L wx hS
      obtain ⟨⟨a0, a1, a2⟩, b0, b1, b2⟩ := hC wx hS
      go_simp
      all_goals first
        | done
        | with_reducible rfl
        | assumption
        | (simp_all; done)
    try simp only [Act.put, List.setIfInBounds_toArray, List.set_cons_zero, List.set_cons_succ, List.getElem_toArray, List.getElem_cons_zero, List.getElem_cons_succ]
    refine AllS.next (v := ?_) rfl rfl rfl (by kernel_rfl) ?_ ?_
    rotate_left
    · refine yieldsS_run (fun _ _ h => h) (by rfl) ?_
      intro L wx hS
      go_simp
      all_goals first
        | done
        | with_reducible rfl
        | assumption
        | (simp_all; done)
    try simp only [Act.put, List.setIfInBounds_toArray, List.set_cons_zero, List.set_cons_succ, List.getElem_toArray, List.getElem_cons_zero, List.getElem_cons_succ]
    refine AllS.next (v := (.int .i64 fb)) rfl rfl rfl (by kernel_rfl) ?_ ?_
    · refine yieldsS_call (f := 34) (args := #[.int .i64 bp, .int .i64 r]) (by rfl) ?_ ?_
      · intro wx
        go_simp
        try with_reducible rfl
      · intro L wx hS
        exact (cB wx).mono fun e w h => ⟨h.1, by rw [h.2]; exact hS⟩
    try simp only [Act.put, List.setIfInBounds_toArray, List.set_cons_zero, List.set_cons_succ, List.getElem_toArray, List.getElem_cons_zero, List.getElem_cons_succ]
    refine AllS.next (v := (.bool false)) rfl rfl rfl (by kernel_rfl) ?_ ?_
    · refine yieldsS_run (fun _ _ h => h) (by rfl) ?_
      intro L wx hS
      go_simp
      all_goals first
        | done
        | with_reducible rfl
        | assumption
        | (simp_all; done)
    try simp only [Act.put, List.setIfInBounds_toArray, List.set_cons_zero, List.set_cons_succ, List.getElem_toArray, List.getElem_cons_zero, List.getElem_cons_succ]
    refine AllS.done (by kernel_rfl) ?_
    intro w5 hS5
    obtain ⟨⟨a0, a1, a2⟩, b0, b1, b2⟩ := hC _ hS5
    go_wp2_with fail
    go_ret
    exact ⟨rfl, hb1.trans (hS5.mono hb1.size)⟩
section
variable {W : World} {r : Nat} {S : Nat → Prop} {b : Bk}
theorem sum_all {f : Ord → Int} (hb : b.Ok) (h : ∀ x ∈ b.L, 0 ≤ f x ∧ f x ≤ 4294967296) : 0 ≤ sumO f b.L ∧ sumO f b.L ≤ 2147483648000 := by
  have := sum_take hb h b.L.length
  rwa [List.take_length] at this
theorem catL_fit (hb : b.Ok) (y : Int) : (0 ≤ (catL b.L y).demand ∧ (catL b.L y).demand < 9223372036854775808) ∧ (0 ≤ (catL b.L y).supply ∧ (catL b.L y).supply < 9223372036854775808) := by
  have h1 := sum_all hb (demS_bound hb y)
  have h2 := sum_all hb (supS_bound hb y)
  unfold catL
  simp only
  omega
set_option maxRecDepth 8000 in
set_option maxHeartbeats 4000000 in
theorem rof17_any (y : Int) (hok : b.Ok) (h : RK W r S b) : Calls Tryz.prog 20 #[.pointer (some ⟨r, 0, none⟩), .int .i64 y] W fun e w' => e = .returned (vPrc (prcOf b.L y)) ∧ Below W.heap.size W w' := by
  obtain ⟨W1, hW1⟩ : ∃ W1, W1 = W.alloc (.cells (cPrc .zero) 35) := ⟨_, rfl⟩
  have hb1 : Below W.heap.size W W1 := by rw [hW1]; exact (Below.refl _ _).alloc (Nat.le_refl _) _
  have hR1 : Blk W1 W.heap.size 35 (cPrc .zero) := by rw [hW1]; exact Blk.new _ _ _
  have cA := rat_any y hok (h.below hb1)
  obtain ⟨f1, f2⟩ := catL_fit hok y
  have cV := fun w => rvol_any (catL b.L y) w
  have cO := fun w => rodd_any (catL b.L y) f1 f2 w
  unfold prcOf
  have hcp : (catL b.L y).price = y := rfl
  generalize catL b.L y = m at *
  generalize volP m = vo at *
  generalize oddP m = od at *
  clear f1 f2 h hok
  obtain ⟨y', d, s⟩ := m
  simp only at hcp
  subst hcp
  have hnx : ∀ w2, Below W1.heap.size W1 w2 → ∃ V, V = w2.alloc (.cells #[.int .i64 y', .int .i64 d, .int .i64 s] 71) ∧ Below W.heap.size W V ∧ Blk V W.heap.size 35 (cPrc .zero) ∧ W.heap.size < w2.heap.size ∧ ∀ w, Frm (fun c => c = W.heap.size) V w → w.cell? ⟨w2.heap.size, 0, none⟩ = some (.int .i64 y') ∧ w.cell? ⟨w2.heap.size, 1, none⟩ = some (.int .i64 d) ∧ w.cell? ⟨w2.heap.size, 2, none⟩ = some (.int .i64 s) := fun w2 hb => by
    have hlt := hR1.lt
    have hsz := hb.size
    refine ⟨_, rfl, (hb1.trans (hb.mono hb1.size)).alloc (by omega) _, (hR1.below hb hlt).alloc _, by omega, fun w hf => ?_⟩
    have hP := blk_frmK (Blk.new w2 71 #[.int .i64 y', .int .i64 d, .int .i64 s]) hf (by omega)
    exact ⟨hP.cell_eq 0 _ rfl, hP.cell_eq 1 _ rfl, hP.cell_eq 2 _ rfl⟩
  simp only [vPnt, cPnt] at cA cV cO
  simp only [cPrc, Prc.zero] at hW1
  go_enter Tryz.func20, Tryz.ntmps20
  go_wp2_with (first
    | (rw [← hW1]; clear hW1)
    | (go_at_call 35; refine cA.mono ?_; rintro e w2 ⟨rfl, hb2⟩; clear cA; obtain ⟨V, hV, hbV, hR, hlt, hC⟩ := hnx w2 hb2; clear hnx)
    | (rw [← hV]; clear hV)
    | fail)
  have hst : ∀ L wx, 6 < L.size → L.getD 6 false = false → Stl V W.heap.size 35 (cPrc .zero) #[.int .i64 y', .int .i64 vo, .int .i64 od] 6 L wx → Stl V W.heap.size 35 (cPrc .zero) #[.int .i64 y', .int .i64 vo, .int .i64 od] 6 (L.setIfInBounds 6 true) (((wx.setCell ⟨W.heap.size, 0, none⟩ (.int .i64 y')).setCell ⟨W.heap.size, 1, none⟩ (.int .i64 vo)).setCell ⟨W.heap.size, 2, none⟩ (.int .i64 od)) := fun L wx h1 h2 hS => hS.done h1 (Prc.frm (S := fun c => c = W.heap.size) (Frm.refl _ _) (.inl rfl) _ _ _) (Prc.lay (hS.ahead h2) y' vo od)
  refine wp_region_S (S := fun L w => Stl V W.heap.size 35 (cPrc .zero) #[.int .i64 y', .int .i64 vo, .int .i64 od] 6 L w) (by kernel_rfl) (Stl.start hR _) ?_
  refine AllS.next (v := ?_) rfl rfl rfl (by kernel_rfl) ?_ ?_
  rotate_left
  · refine yieldsS_run (fun _ _ h => h.other (by decide)) (by rfl) ?_
    intro L wx hS
    go_simp
    all_goals first
      | done
      | with_reducible rfl
      | assumption
      | (simp_all; done)
  try simp only [Act.put, List.setIfInBounds_toArray, List.set_cons_zero, List.set_cons_succ, List.getElem_toArray, List.getElem_cons_zero, List.getElem_cons_succ]
  refine AllS.next (v := ?_) rfl rfl rfl (by kernel_rfl) ?_ ?_
  rotate_left
  · refine yieldsS_run (fun _ _ h => h.other (by decide)) (by rfl) ?_
    intro L wx hS
    obtain ⟨c0, c1, c2⟩ := hC wx hS.frm
    go_simp
    all_goals first
      | done
      | with_reducible rfl
      | assumption
      | (simp_all; done)
  try simp only [Act.put, List.setIfInBounds_toArray, List.set_cons_zero, List.set_cons_succ, List.getElem_toArray, List.getElem_cons_zero, List.getElem_cons_succ]
  refine AllS.next (v := (.int .i64 vo)) rfl rfl rfl (by kernel_rfl) ?_ ?_
  · refine yieldsS_call (f := 36) (args := #[(.agg #[.int .i64 y', .int .i64 d, .int .i64 s])]) (by rfl) ?_ ?_
    · intro wx
      go_simp
      try with_reducible rfl
    · intro L wx hS
      exact (cV wx).mono fun e w h => ⟨h.1, hS.call (by decide) h.2⟩
  try simp only [Act.put, List.setIfInBounds_toArray, List.set_cons_zero, List.set_cons_succ, List.getElem_toArray, List.getElem_cons_zero, List.getElem_cons_succ]
  refine AllS.next (v := ?_) rfl rfl rfl (by kernel_rfl) ?_ ?_
  rotate_left
  · refine yieldsS_run (fun _ _ h => h.other (by decide)) (by rfl) ?_
    intro L wx hS
    obtain ⟨c0, c1, c2⟩ := hC wx hS.frm
    go_simp
    all_goals first
      | done
      | with_reducible rfl
      | assumption
      | (simp_all; done)
  try simp only [Act.put, List.setIfInBounds_toArray, List.set_cons_zero, List.set_cons_succ, List.getElem_toArray, List.getElem_cons_zero, List.getElem_cons_succ]
  refine AllS.next (v := (.int .i64 od)) rfl rfl rfl (by kernel_rfl) ?_ ?_
  · refine yieldsS_call (f := 37) (args := #[(.agg #[.int .i64 y', .int .i64 d, .int .i64 s])]) (by rfl) ?_ ?_
    · intro wx
      go_simp
      try with_reducible rfl
    · intro L wx hS
      exact (cO wx).mono fun e w h => ⟨h.1, hS.call (by decide) h.2⟩
  try simp only [Act.put, List.setIfInBounds_toArray, List.set_cons_zero, List.set_cons_succ, List.getElem_toArray, List.getElem_cons_zero, List.getElem_cons_succ]
  refine AllS.next (v := ?_) rfl rfl rfl (by kernel_rfl) ?_ ?_
  rotate_left
  · refine yieldsS_run (fun _ _ h => h.other (by decide)) (by rfl) ?_
    intro L wx hS
    go_simp
    all_goals first
      | done
      | with_reducible rfl
      | assumption
      | (simp_all; done)
  try simp only [Act.put, List.setIfInBounds_toArray, List.set_cons_zero, List.set_cons_succ, List.getElem_toArray, List.getElem_cons_zero, List.getElem_cons_succ]
  refine AllS.next (v := undef) rfl rfl rfl (by kernel_rfl) ?_ ?_
  · refine .inl ⟨by rfl, fun L wx hL hS => .inr (.inl ⟨rfl, _, ?_, hst L wx (ready_lt hL) (ready_not hL) hS⟩)⟩
    obtain ⟨z0, z1, z2⟩ := Prc.cells (m := .zero) (hS.ahead (ready_not hL))
    have hfr := (hS.ahead (ready_not hL)).free
    simp only [Prc.zero] at z0 z1 z2
    go_simp
    try with_reducible rfl
  try simp only [Act.put, List.setIfInBounds_toArray, List.set_cons_zero, List.set_cons_succ, List.getElem_toArray, List.getElem_cons_zero, List.getElem_cons_succ]
  refine AllS.done (by kernel_rfl) ?_
  intro w9 hS9
  obtain ⟨hB9, hF9⟩ := hS9.end' (m := 0) (by rfl)
  have g0 := hB9.cell_eq 0 _ rfl
  have g1 := hB9.cell_eq 1 _ rfl
  have g2 := hB9.cell_eq 2 _ rfl
  have hfin := hbV.trans (hF9.below hbV.size (fun c e => by omega))
  clear hS9 hB9 hF9 hst hC cV cO
  go_wp2_with fail
  refine bodyPost_ret (v := .agg #[.int .i64 y', .int .i64 vo, .int .i64 od]) ?_ rfl ?_
  rotate_left
  · exact ⟨rfl, hfin⟩
  simp [results, Tryz.results20, go_sem, g0, g1, g2]
end
end Go.Proofs.YtohenmnpmgghhaaGreatDoor
namespace Go.Proofs.YtohenmnpmgghhaaGreatDoor
def nwTo (q : List Int) (m : Int) : Nat → List Int × Bool
  | 0 => ([], false)
  | i + 1 => match q[i]? with
    | none => nwTo q m i
    | some x => if (nwTo q m i).2 = false ∧ m ≤ x then ((if x = m then (nwTo q m i).1 else (nwTo q m i).1 ++ [m]) ++ [x], true) else ((nwTo q m i).1 ++ [x], (nwTo q m i).2)
section
variable {q : List Int} {m : Int}
theorem nwTo_some {i : Nat} {x : Int} (h : q[i]? = some x) : nwTo q m (i + 1) = if (nwTo q m i).2 = false ∧ m ≤ x then ((if x = m then (nwTo q m i).1 else (nwTo q m i).1 ++ [m]) ++ [x], true) else ((nwTo q m i).1 ++ [x], (nwTo q m i).2) := by
  conv => lhs; unfold nwTo
  rw [h]
theorem nwTo_len (q : List Int) (m : Int) (i : Nat) : (nwTo q m i).1.length ≤ i + 1 ∧ ((nwTo q m i).2 = false → (nwTo q m i).1.length ≤ i) := by
  induction i with
  | zero => exact ⟨Nat.zero_le _, fun _ => Nat.le_refl _⟩
  | succ i ih =>
    cases hx : q[i]? with
    | none =>
      have : nwTo q m (i + 1) = nwTo q m i := by conv => lhs; unfold nwTo; rw [hx]
      rw [this]
      exact ⟨by omega, fun h => by have := ih.2 h; omega⟩
    | some x =>
      rw [nwTo_some hx]
      split
      · next h =>
        have := ih.2 h.1
        refine ⟨?_, fun h => (by cases h)⟩
        split <;> simp <;> omega
      · simp only [List.length_append, List.length_singleton]
        exact ⟨by omega, fun h => by have := ih.2 h; omega⟩
theorem nwTo_inv (hq : Rise q) (i : Nat) (hi : i ≤ q.length) : ((nwTo q m i).2 = false → (nwTo q m i).1 = q.take i ∧ ∀ z ∈ q.take i, z < m) ∧
    ((nwTo q m i).2 = true → Rise (nwTo q m i).1 ∧ (∀ z, z ∈ (nwTo q m i).1 ↔ z ∈ q.take i ∨ z = m) ∧ ∃ y ∈ q.take i, m ≤ y) := by
  induction i with
  | zero => exact ⟨fun _ => ⟨rfl, fun z hz => (by simp at hz)⟩, fun h => (by cases h)⟩
  | succ i ih =>
    obtain ⟨x, hx⟩ : ∃ x, q[i]? = some x := ⟨_, List.getElem?_eq_getElem (by omega)⟩
    obtain ⟨ih1, ih2⟩ := ih (by omega)
    have htk : q.take (i + 1) = q.take i ++ [x] := by rw [List.take_add_one, hx]; rfl
    have hlt : ∀ z ∈ q.take i, z < x := fun z hz => by
      obtain ⟨k, hk⟩ := List.mem_iff_getElem?.1 hz
      have hki : k < i := by
        have := (List.getElem?_eq_some_iff.1 hk).1
        rw [List.length_take] at this
        omega
      rw [List.getElem?_take_of_lt hki] at hk
      rw [Rise, List.pairwise_iff_getElem] at hq
      obtain ⟨a1, a2⟩ := List.getElem?_eq_some_iff.1 hk
      obtain ⟨b1, b2⟩ := List.getElem?_eq_some_iff.1 hx
      have := hq k i a1 b1 hki
      rw [a2, b2] at this
      exact this
    have hsn : ∀ l : List Int, Rise l → (∀ z ∈ l, z < x) → Rise (l ++ [x]) := fun l h1 h2 => by
      rw [Rise, List.pairwise_append]
      exact ⟨h1, List.pairwise_singleton _ _, fun a ha b hb => by rw [List.mem_singleton] at hb; subst hb; exact h2 a ha⟩
    have hqi : Rise (q.take i) := hq.sublist (List.take_sublist _ _)
    rw [nwTo_some hx, htk]
    by_cases hc : (nwTo q m i).2 = false ∧ m ≤ x
    · rw [if_pos hc]
      obtain ⟨e1, e2⟩ := ih1 hc.1
      refine ⟨fun h => (by cases h), fun _ => ?_⟩
      simp only [e1]
      by_cases hxm : x = m
      · rw [if_pos hxm]
        refine ⟨hsn _ hqi hlt, fun z => ?_, x, by simp, hc.2⟩
        simp only [List.mem_append, List.mem_singleton]
        constructor
        · exact .inl
        · rintro (h | h)
          · exact h
          · exact .inr (h.trans hxm.symm)
      · rw [if_neg hxm]
        refine ⟨hsn _ ?_ fun z hz => ?_, fun z => ?_, x, by simp, hc.2⟩
        · rw [Rise, List.pairwise_append]
          exact ⟨hqi, List.pairwise_singleton _ _, fun a ha b hb => by rw [List.mem_singleton] at hb; subst hb; exact e2 a ha⟩
        · rw [List.mem_append, List.mem_singleton] at hz
          rcases hz with hz | rfl
          · exact hlt z hz
          · omega
        · simp only [List.mem_append, List.mem_singleton]
          constructor
          · rintro ((h | h) | h)
            · exact .inl (.inl h)
            · exact .inr h
            · exact .inl (.inr h)
          · rintro ((h | h) | h)
            · exact .inl (.inl h)
            · exact .inr h
            · exact .inl (.inr h)
    · rw [if_neg hc]
      refine ⟨fun h => ?_, fun h => ?_⟩
      · obtain ⟨e1, e2⟩ := ih1 h
        refine ⟨by simp only [e1], fun z hz => ?_⟩
        rw [List.mem_append, List.mem_singleton] at hz
        rcases hz with hz | rfl
        · exact e2 z hz
        · exact Int.not_le.1 fun g => hc ⟨h, g⟩
      · obtain ⟨e1, e2, y, hy, hmy⟩ := ih2 h
        refine ⟨hsn _ e1 fun z hz => ?_, fun z => ?_, y, by simp [hy], hmy⟩
        · rcases (e2 z).1 hz with hz | rfl
          · exact hlt z hz
          · have := hlt y hy
            omega
        · simp only [List.mem_append, List.mem_singleton, e2]
          constructor
          · rintro ((h | h) | h)
            · exact .inl (.inl h)
            · exact .inr h
            · exact .inl (.inr h)
          · rintro ((h | h) | h)
            · exact .inl (.inl h)
            · exact .inr h
            · exact .inl (.inr h)
/-- What the walk makes of a list that rises. -/
theorem nwTo_end (hq : Rise q) : (if (nwTo q m q.length).2 = true then (nwTo q m q.length).1 else (nwTo q m q.length).1 ++ [m]) = cins m m q m := by
  obtain ⟨h1, h2⟩ := nwTo_inv (m := m) hq q.length (Nat.le_refl _)
  rw [List.take_length] at h1 h2
  refine rise_ext ?_ (cins_rise hq) fun z => ?_
  · cases hp : (nwTo q m q.length).2 with
    | true => rw [if_pos rfl]; exact (h2 hp).1
    | false =>
      obtain ⟨e1, e2⟩ := h1 hp
      rw [if_neg (by simp), e1, Rise, List.pairwise_append]
      exact ⟨hq, List.pairwise_singleton _ _, fun a ha b hb => by rw [List.mem_singleton] at hb; subst hb; exact e2 a ha⟩
  · rw [cins_mem]
    cases hp : (nwTo q m q.length).2 with
    | true =>
      rw [if_pos rfl, (h2 hp).2.1]
      constructor
      · rintro (h | h)
        · exact .inl h
        · exact .inr ⟨h, Int.le_refl _, Int.le_refl _⟩
      · rintro (h | h)
        · exact .inl h
        · exact .inr h.1
    | false =>
      rw [if_neg (by simp), (h1 hp).1, List.mem_append, List.mem_singleton]
      constructor
      · rintro (h | h)
        · exact .inl h
        · exact .inr ⟨h, Int.le_refl _, Int.le_refl _⟩
      · rintro (h | h)
        · exact .inl h
        · exact .inr h.1
end
end Go.Proofs.YtohenmnpmgghhaaGreatDoor
namespace Go.Proofs.YtohenmnpmgghhaaGreatDoor
open Go.RowKit
set_option linter.unusedSimpArgs false
theorem max_fact (a c m : Int) (h : m = if a < c then c else a) : ∀ ts t w, (Builtin.max_ ts t #[.int .i64 a, .int .i64 c]).run Tryz.prog w = .ok (.int .i64 m) w := by
  intro ts t w
  rw [run_max_int2, h]
theorem min_fact (a c m : Int) (h : m = if c < a then c else a) : ∀ ts t w, (Builtin.min_ ts t #[.int .i64 a, .int .i64 c]).run Tryz.prog w = .ok (.int .i64 m) w := by
  intro ts t w
  rw [run_min_int2, h]
section
variable {W : World} {r : Nat} {S : Nat → Prop} {b : Bk}
set_option maxRecDepth 8000 in
set_option maxHeartbeats 8000000 in
theorem rallow_any (rf lo hi : Int) (hok : b.Ok) (h : RK W r S b) : Calls Tryz.prog 17 #[.pointer (some ⟨r, 0, none⟩), .int .i64 rf, .agg #[.int .i64 lo, .int .i64 hi]] W fun e w' => ∃ ko' cap' ao', e = .returned (.slice ao' (alwL b.L rf lo hi).length cap') ∧ Gr 2 1 cI64 W w' (alwL b.L rf lo hi) ko' cap' ao' := by
  obtain ⟨i1, hi1, e1⟩ := Option.map_eq_some_iff.1 infoI64
  simp only [Prod.mk.injEq] at e1
  obtain ⟨hz1, hs1, hb1⟩ := e1
  obtain ⟨W1, hW1⟩ : ∃ W1, W1 = W.alloc (.cells #[.int .i64 lo, .int .i64 hi] 24) := ⟨_, rfl⟩
  have hbl : Below W.heap.size W W1 := by rw [hW1]; exact (Below.refl _ _).alloc (Nat.le_refl _) _
  have hB1 : Blk W1 W.heap.size 24 #[.int .i64 lo, .int .i64 hi] := by rw [hW1]; exact Blk.new _ _ _
  obtain ⟨W2, hW2⟩ : ∃ W2, W2 = W1.setCell ⟨W.heap.size, 0, none⟩ (.int .i64 (bLo lo)) := ⟨_, rfl⟩
  have hB2 : Blk W2 W.heap.size 24 #[.int .i64 (bLo lo), .int .i64 hi] := by rw [hW2]; exact hB1.set 0 _
  have hbl2 : Below W.heap.size W W2 := by rw [hW2]; exact hbl.setCell (p := ⟨W.heap.size, 0, none⟩) (Nat.le_refl _) _
  obtain ⟨W3, hW3⟩ : ∃ W3, W3 = W2.setCell ⟨W.heap.size, 1, none⟩ (.int .i64 (bHi hi)) := ⟨_, rfl⟩
  have hB3 : Blk W3 W.heap.size 24 #[.int .i64 (bLo lo), .int .i64 (bHi hi)] := by rw [hW3]; exact hB2.set 1 _
  have hbl3 : Below W.heap.size W W3 := by rw [hW3]; exact hbl2.setCell (p := ⟨W.heap.size, 1, none⟩) (Nat.le_refl _) _
  have a0 := hB1.cell_eq 0 _ rfl
  have af := hB1.free 0
  have b1 := hB2.cell_eq 1 _ rfl
  have bf := hB2.free 1
  have c0 := hB3.cell_eq 0 _ rfl
  have c1 := hB3.cell_eq 1 _ rfl
  have x1 := max_fact lo 1 (bLo lo) rfl
  have x2 := min_fact hi 1099511627776 (bHi hi) (by unfold bHi; split <;> split <;> omega)
  have hlen : b.L.length ≤ 500 := by
    have := hok.len
    have := hok.s2
    omega
  have hwf : ∀ z ∈ cpr (bLo lo) (bHi hi) b.L, (Lit.int .i64 z).wf = true := fun z hz => by
    obtain ⟨⟨o, h1, h2⟩, -⟩ := cpr_mem.1 hz
    have := hok.ok o h1
    have h3 := this.p1
    have h4 := this.p2
    simp [Lit.wf]
    exact ⟨by show (-9223372036854775808 : Int) ≤ z; omega, by omega⟩
  have cP : Calls Tryz.prog 33 #[.pointer (some ⟨r, 0, none⟩), .int .i64 (bLo lo), .int .i64 (bHi hi)] W3 fun e w' => ∃ cap ao, e = .returned (.slice ao (cpr (bLo lo) (bHi hi) b.L).length cap) ∧ It .i64 w' ao cap (cpr (bLo lo) (bHi hi) b.L) ∧ Below W3.heap.size W3 w' := by
    refine (rprices_any (bLo lo) (bHi hi) (h.below hbl3) (by omega)).mono ?_
    rintro e w' ⟨ko, cap, ao, he, hg⟩
    have how : OwG 2 1 w' ko ao cap (cpr (bLo lo) (bHi hi) b.L).length (ics (cpr (bLo lo) (bHi hi) b.L)) := hg.ow
    rw [ics_map] at how
    exact ⟨cap, ao, he, It.of_own hwf how, hg.bel⟩
  have hql := cpr_len (bLo lo) (bHi hi) b.L
  have hrise := cpr_rise (bLo lo) (bHi hi) b.L
  by_cases hn : bHi hi < bLo lo
  · have d0 : decide (bHi hi < bLo lo) = true := decide_eq_true hn
    rw [alw_nil hn]
    generalize bLo lo = lo' at *
    generalize bHi hi = hi' at *
    clear cP hB1 hB2 hB3 h hok hn hwf
    go_enter Tryz.func17, Tryz.ntmps17
    go_wp2_with (first
      | (rw [← hW1]; clear hW1)
      | (rw [← hW2]; clear hW2)
      | (rw [← hW3]; clear hW3)
      | fail)
    go_ret
    exact ⟨none, 0, none, rfl, OwG.nil _ _ _, fun k e => (by cases e), hbl3⟩
  have d0 : decide (bHi hi < bLo lo) = false := decide_eq_false hn
  have x3 := min_fact rf (bHi hi) (if rf < bHi hi then rf else bHi hi) (by split <;> split <;> omega)
  have x4 := max_fact (if rf < bHi hi then rf else bHi hi) (bLo lo) (nearI rf (bLo lo) (bHi hi)) rfl
  have hend := nwTo_end (m := nearI rf (bLo lo) (bHi hi)) hrise
  have hA : alwL b.L rf lo hi = cins (nearI rf (bLo lo) (bHi hi)) (nearI rf (bLo lo) (bHi hi)) (cpr (bLo lo) (bHi hi) b.L) (nearI rf (bLo lo) (bHi hi)) := by unfold alwL; rw [if_neg hn]
  rw [← hA] at hend
  clear hA hrise hn hok h hwf hB1 hB2 hB3
  generalize alwL b.L rf lo hi = R at *
  generalize nearI rf (bLo lo) (bHi hi) = m at *
  generalize (if rf < bHi hi then rf else bHi hi) = m1 at *
  generalize cpr (bLo lo) (bHi hi) b.L = q at *
  generalize bLo lo = lo' at *
  generalize bHi hi = hi' at *
  obtain ⟨n, hqn⟩ : ∃ n, n = q.length := ⟨_, rfl⟩
  have hn5 : n ≤ 500 := by omega
  rw [← hqn] at cP hend
  replace hqn := Lib.hid hqn
  replace hend := Lib.hid hend
  clear hql hlen
  go_enter Tryz.func17, Tryz.ntmps17
  go_wp2_with (first
    | (rw [← hW1]; clear hW1)
    | (rw [← hW2]; clear hW2)
    | (rw [← hW3]; clear hW3)
    | (go_at_call 33; refine cP.mono ?_; rintro e V ⟨cap, ao, rfl, hI, hbV⟩; clear cP)
    | fail)
  have hbW : Below W.heap.size W V := hbl3.trans (hbV.mono hbl3.size)
  have hstep : ∀ (P : List Int) (z : Int) (wr : World) (ko : Option Nat) (oc : Nat) (oo : Option Addr), Gr 2 1 cI64 V wr P ko oc oo → ∀ ao' cap' ko' w', OwG 2 1 w' ko' ao' cap' (P.length + 1) (ics P ++ (cI64 z).toList) → Frm (fun b => ko = some b) (wr.alloc (.cells (cI64 z) 2)) w' → Moved (wr.alloc (.cells (cI64 z) 2)) ko ko' → Gr 2 1 cI64 V w' (P ++ [z]) ko' cap' ao' := fun P z wr ko oc oo hG ao' cap' ko' w' ho hf hm => (hG.alloc _).app ho hf hm
  have hone : ∀ z : Int, ∀ u ∈ (cI64 z).toList, u.oneCell' = true := by intro z u hu; simp at hu; subst hu; rfl
  have hpost : ∀ w P ko oc oo, Gr 2 1 cI64 V w P ko oc oo → P = R → Ending.returned (Value.slice oo P.length oc) = .returned (.slice oo R.length oc) ∧ Gr 2 1 cI64 W w R ko oc oo := by
    rintro w P ko oc oo hG rfl
    exact ⟨rfl, hG.ow, fun k e => Nat.le_trans hbW.size (hG.own k e), hbW.trans (hG.bel.mono hbW.size)⟩
  replace hpost := Lib.hid hpost
  replace hstep := Lib.hid hstep
  clear hbl hbl2 hbl3 hbV hbW a0 af b1 bf c0 c1 x1 x2 x3 x4
  go_loopg [9, 10, 11] n (fun j p9 p10 p11 wr => ∃ (i : Nat) (P : List Int) (put : Bool) (ko : Option Nat) (oc : Nat) (oo : Option Addr), i + j = n ∧ p11 = .int .i64 (i : Int) ∧ p9 = .slice oo P.length oc ∧ p10 = .bool put ∧ Hid (nwTo q m i = (P, put)) ∧ Gr 2 1 cI64 V wr P ko oc oo)
  case atStart => exact ⟨0, [], false, none, 0, none, by omega, rfl, rfl, rfl, Lib.hid rfl, Gr.start V⟩
  case round =>
    obtain ⟨i, P, put, ko, oc, oo, hij, rfl, rfl, rfl, hN, hG⟩ := hrel
    have hP5 : P.length ≤ 501 := by
      have := (nwTo_len q m i).1
      rw [hN.out] at this
      simp only at this
      omega
    by_cases hin : i < n
    · obtain ⟨x, hx⟩ : ∃ x, q[i]? = some x := ⟨_, List.getElem?_eq_getElem (by rw [← hqn.out]; exact hin)⟩
      have hst := nwTo_some (m := m) hx
      rw [hN.out] at hst
      simp only at hst
      obtain ⟨bq, oq, rfl, y0⟩ := hI.get hx
      have u0 := y0 wr hG.bel
      have hil : (i : Int) < (n : Int) := by omega
      have hs1' := hstep.out P
      have hl2 : (P ++ [m]).length = P.length + 1 := by simp
      have hc2 : ics (P ++ [m]) = ics P ++ (cI64 m).toList := by simp [ics]
      have hGo := hG.ow
      by_cases hput : put = true
      · subst hput
        rw [if_neg (by simp)] at hst
        have hst' := Lib.hid hst
        clear hst hx hN
        have hG1 := hs1' x wr ko oc oo hG
        replace hG1 := Lib.hid hG1
        clear hs1' hG hl2 hc2
        go_wp2_with (first
          | (at_builtin; refine wpList_appG rfl (.tmp 68) (.tmp 73) 42 2 i1 _ 1 8 Tryz.underlying42 hi1 hz1 hs1 hb1 rfl (by decide) rfl (hGo.alloc _) (SrcG.row (cs := cI64 x) (Blk.new _ _ _) rfl (hone x)) rfl rfl (by omega) (by omega) ?_; intro ao' cap' ko' w2 ho2 hf2 hm2; have hG2 := hG1.out _ _ _ _ ho2 hf2 hm2; clear hG1 hGo ho2 hf2 hm2)
          | fail)
        go_roundg (n - (i + 1))
        case measure => omega
        case rel => exact ⟨i + 1, P ++ [x], true, ko', cap', ao', by omega, by go_num, by simp, rfl, hst', hG2⟩
      · obtain rfl : put = false := by simpa using hput
        by_cases hmx : m ≤ x
        · have d1 : decide (m ≤ x) = true := decide_eq_true hmx
          rw [if_pos ⟨rfl, hmx⟩] at hst
          by_cases hxm : x = m
          · rw [if_pos hxm] at hst
            have d2 : (x != m) = false := by simpa using hxm
            have hst' := Lib.hid hst
            clear hst hx hN hxm
            have hG1 := hs1' x wr ko oc oo hG
            replace hG1 := Lib.hid hG1
            clear hs1' hG hl2 hc2 hmx
            go_wp2_with (first
              | (at_builtin; refine wpList_appG rfl (.tmp 68) (.tmp 73) 42 2 i1 _ 1 8 Tryz.underlying42 hi1 hz1 hs1 hb1 rfl (by decide) rfl (hGo.alloc _) (SrcG.row (cs := cI64 x) (Blk.new _ _ _) rfl (hone x)) rfl rfl (by omega) (by omega) ?_; intro ao' cap' ko' w2 ho2 hf2 hm2; have hG2 := hG1.out _ _ _ _ ho2 hf2 hm2; clear hG1 hGo ho2 hf2 hm2)
              | fail)
            go_roundg (n - (i + 1))
            case measure => omega
            case rel => exact ⟨i + 1, P ++ [x], true, ko', cap', ao', by omega, by go_num, by simp, rfl, hst', hG2⟩
          · rw [if_neg hxm] at hst
            have d2 : (x != m) = true := by simpa using hxm
            have hst' := Lib.hid hst
            clear hst hx hN hxm
            have hG1 := hs1' m wr ko oc oo hG
            replace hG1 := Lib.hid hG1
            have hG3 : Hid (∀ wr ko oc oo, Gr 2 1 cI64 V wr (P ++ [m]) ko oc oo → ∀ ao' cap' ko' w', OwG 2 1 w' ko' ao' cap' (P.length + 1 + 1) (ics P ++ (cI64 m).toList ++ (cI64 x).toList) → Frm (fun b => ko = some b) (wr.alloc (.cells (cI64 x) 2)) w' → Moved (wr.alloc (.cells (cI64 x) 2)) ko ko' → Gr 2 1 cI64 V w' (P ++ [m] ++ [x]) ko' cap' ao') := Lib.hid (by
              have := hstep.out (P ++ [m]) x
              rw [hl2, hc2] at this
              exact this)
            clear hs1' hG hl2 hc2 hmx
            go_wp2_with (first
              | (at_builtin; refine wpList_appG rfl (.tmp 64) (.tmp 66) 42 2 i1 _ 1 8 Tryz.underlying42 hi1 hz1 hs1 hb1 rfl (by decide) rfl (hGo.alloc _) (SrcG.row (cs := cI64 m) (Blk.new _ _ _) rfl (hone m)) rfl rfl (by omega) (by omega) ?_; intro ao1 cap1 ko1 w1 ho1 hf1 hm1; have hG2 := hG1.out _ _ _ _ ho1 hf1 hm1; have v0 := y0 w1 hG2.bel; clear hG1 hGo hf1 hm1)
              | (at_builtin; refine wpList_appG rfl (.tmp 68) (.tmp 73) 42 2 i1 _ 1 8 Tryz.underlying42 hi1 hz1 hs1 hb1 rfl (by decide) rfl (ho1.alloc _) (SrcG.row (cs := cI64 x) (Blk.new _ _ _) rfl (hone x)) rfl rfl (by omega) (by omega) ?_; intro ao' cap' ko' w2 ho2 hf2 hm2; have hG4 := hG3.out _ _ _ _ hG2 _ _ _ _ ho2 hf2 hm2; clear hG3 hG2 ho1 ho2 hf2 hm2)
              | fail)
            go_roundg (n - (i + 1))
            case measure => omega
            case rel => exact ⟨i + 1, P ++ [m] ++ [x], true, ko', cap', ao', by omega, by go_num, by simp, rfl, hst', hG4⟩
        · have d1 : decide (m ≤ x) = false := decide_eq_false hmx
          rw [if_neg (fun g => hmx g.2)] at hst
          have hst' := Lib.hid hst
          clear hst hx hN hmx
          have hG1 := hs1' x wr ko oc oo hG
          replace hG1 := Lib.hid hG1
          clear hs1' hG hl2 hc2
          go_wp2_with (first
            | (at_builtin; refine wpList_appG rfl (.tmp 68) (.tmp 73) 42 2 i1 _ 1 8 Tryz.underlying42 hi1 hz1 hs1 hb1 rfl (by decide) rfl (hGo.alloc _) (SrcG.row (cs := cI64 x) (Blk.new _ _ _) rfl (hone x)) rfl rfl (by omega) (by omega) ?_; intro ao' cap' ko' w2 ho2 hf2 hm2; have hG2 := hG1.out _ _ _ _ ho2 hf2 hm2; clear hG1 hGo ho2 hf2 hm2)
            | fail)
          go_roundg (n - (i + 1))
          case measure => omega
          case rel => exact ⟨i + 1, P ++ [x], false, ko', cap', ao', by omega, by go_num, by simp, rfl, hst', hG2⟩
    · have e : i = n := by omega
      subst e
      have hil : ¬ (i : Int) < (i : Int) := by omega
      have hfin := hend.out
      rw [hN.out] at hfin
      simp only at hfin
      cases put with
      | true =>
        rw [if_pos rfl] at hfin
        have hp := hpost.out wr P ko oc oo hG hfin
        replace hp := Lib.hid hp
        clear hfin hend hN hG hI hpost hstep hqn
        go_wp2_with fail
        go_ret
        exact ⟨ko, oc, oo, hp.out⟩
      | false =>
        rw [if_neg (by simp)] at hfin
        have hG1 := hstep.out P m wr ko oc oo hG
        have hGo := hG.ow
        have hl2 : (P ++ [m]).length = P.length + 1 := by simp
        have hp : Hid (∀ w ko oc oo, Gr 2 1 cI64 V w (P ++ [m]) ko oc oo → Ending.returned (Value.slice oo (P.length + 1) oc) = .returned (.slice oo R.length oc) ∧ Gr 2 1 cI64 W w R ko oc oo) := Lib.hid fun w ko oc oo h => by
          have := hpost.out w (P ++ [m]) ko oc oo h hfin
          rw [hl2] at this
          exact this
        replace hG1 := Lib.hid hG1
        clear hfin hend hN hG hI hpost hstep hqn hl2
        go_wp2_with (first
          | (at_builtin; refine wpList_appG rfl (.tmp 77) (.tmp 79) 42 2 i1 _ 1 8 Tryz.underlying42 hi1 hz1 hs1 hb1 rfl (by decide) rfl (hGo.alloc _) (SrcG.row (cs := cI64 m) (Blk.new _ _ _) rfl (hone m)) rfl rfl (by omega) (by omega) ?_; intro ao' cap' ko' w2 ho2 hf2 hm2; have hG2 := hG1.out _ _ _ _ ho2 hf2 hm2; have hp2 := Lib.hid (hp.out _ _ _ _ hG2); clear hG1 hGo ho2 hf2 hm2 hG2 hp)
          | fail)
        go_ret
        exact ⟨ko', cap', ao', hp2.out⟩
end
end Go.Proofs.YtohenmnpmgghhaaGreatDoor
namespace Go.Proofs.YtohenmnpmgghhaaGreatDoor
open Go.RowKit
set_option linter.unusedSimpArgs false
/-- The best one so far. -/
def bsI (L : List Ord) (r : Int) (l : List Int) : Nat → Prc
  | 0 => .zero
  | i + 1 => match l[i]? with
    | some p => if i = 0 ∨ lessP (prcOf L p) (bsI L r l i) r = true then prcOf L p else bsI L r l i
    | none => bsI L r l i
theorem bsI_some {L : List Ord} {r : Int} {l : List Int} {i : Nat} {p : Int} (h : l[i]? = some p) : bsI L r l (i + 1) = if i = 0 ∨ lessP (prcOf L p) (bsI L r l i) r = true then prcOf L p else bsI L r l i := by
  conv => lhs; unfold bsI
  rw [h]
theorem bestTo_snoc (L : List Ord) (r : Int) (t : List Int) (p : Int) : ∀ z, bestTo L r (t ++ [p]) z = if lessP (prcOf L p) (bestTo L r t z) r = true then prcOf L p else bestTo L r t z := by
  induction t with
  | nil => intro z; rfl
  | cons x t ih => intro z; exact ih _
theorem bsI_cons (L : List Ord) (r : Int) (x : Int) (t : List Int) (i : Nat) (hi : i ≤ t.length) : bsI L r (x :: t) (i + 1) = bestTo L r (t.take i) (prcOf L x) := by
  induction i with
  | zero => rw [bsI_some (p := x) rfl, if_pos (.inl rfl)]; rfl
  | succ i ih =>
    obtain ⟨p, hp⟩ : ∃ p, t[i]? = some p := ⟨_, List.getElem?_eq_getElem (by omega)⟩
    rw [bsI_some (p := p) (by simpa using hp), ih (by omega), List.take_add_one, hp]
    show _ = bestTo L r (t.take i ++ [p]) (prcOf L x)
    rw [bestTo_snoc]
    by_cases h : lessP (prcOf L p) (bestTo L r (t.take i) (prcOf L x)) r = true
    · rw [if_pos (.inr h), if_pos h]
    · rw [if_neg (by rintro (g | g); omega; exact h g), if_neg h]
theorem bsI_all (L : List Ord) (r : Int) (l : List Int) : bsI L r l l.length = bestL L r l := by
  cases l with
  | nil => rfl
  | cons x t =>
    rw [List.length_cons, bsI_cons L r x t t.length (Nat.le_refl _), List.take_length]
    rfl
theorem bsI_price (L : List Ord) (r : Int) (l : List Int) (h : ∀ p ∈ l, 0 ≤ p ∧ p ≤ 1099511627776) (i : Nat) : 0 ≤ (bsI L r l i).price ∧ (bsI L r l i).price ≤ 1099511627776 := by
  induction i with
  | zero => exact ⟨Int.le_refl _, by simp [bsI, Prc.zero]⟩
  | succ i ih =>
    unfold bsI
    split
    · next p hp =>
      split
      · exact h p (List.mem_of_getElem? hp)
      · exact ih
    · exact ih
section
variable {W : World} {r : Nat} {S : Nat → Prop} {b : Bk}
set_option maxRecDepth 8000 in
set_option maxHeartbeats 8000000 in
theorem rchoose_any (rf lo hi : Int) (hrf : 0 ≤ rf ∧ rf ≤ 1099511627776) (hok : b.Ok) (h : RK W r S b) : Calls Tryz.prog 11 #[.pointer (some ⟨r, 0, none⟩), .int .i64 rf, .agg #[.int .i64 lo, .int .i64 hi]] W fun e w' => e = .returned (.tuple #[vPrc (chsL b.L rf lo hi).1, .bool (chsL b.L rf lo hi).2]) ∧ Below W.heap.size W w' := by
  obtain ⟨W1, hW1⟩ : ∃ W1, W1 = (W.alloc (.cells #[.int .i64 lo, .int .i64 hi] 24)).alloc (.cells (cPrc .zero) 35) := ⟨_, rfl⟩
  have m1 : Mem W [(W.heap.size + 1, 35, cPrc .zero), (W.heap.size, 24, #[.int .i64 lo, .int .i64 hi])] W1 := by
    rw [hW1]
    exact ((Mem.start W).new _ _).new' _ _ (by simp)
  have hbl := m1.below
  have hRb := m1.blk (W.heap.size + 1) 35 (cPrc .zero) (by simp)
  have hBd := m1.blk W.heap.size 24 #[.int .i64 lo, .int .i64 hi] (by simp)
  have d0 := hBd.cell_eq 0 _ rfl
  have d1 := hBd.cell_eq 1 _ rfl
  have h1 := h.below hbl
  have cA := rallow_any rf lo hi hok h1
  have hlen : (alwL b.L rf lo hi).length ≤ 501 := by
    have := alw_len b.L rf lo hi
    have := hok.len
    have := hok.s2
    omega
  have hin : ∀ p ∈ alwL b.L rf lo hi, 0 ≤ p ∧ p ≤ 1099511627776 := fun p hp => by
    obtain ⟨h1, h2, -⟩ := alw_in hp
    have e1 : 1 ≤ bLo lo := by unfold bLo; split <;> omega
    have e2 : bHi hi ≤ 1099511627776 := by unfold bHi; split <;> omega
    omega
  have hwf : ∀ z ∈ alwL b.L rf lo hi, (Lit.int .i64 z).wf = true := fun z hz => by
    have := hin z hz
    simp [Lit.wf]
    exact ⟨by show (-9223372036854775808 : Int) ≤ z; omega, by omega⟩
  have hall : Hid (bsI b.L rf (alwL b.L rf lo hi) (alwL b.L rf lo hi).length = bestL b.L rf (alwL b.L rf lo hi)) := Lib.hid (bsI_all _ _ _)
  unfold chsL
  obtain ⟨l, hl⟩ : ∃ l, l = alwL b.L rf lo hi := ⟨_, rfl⟩
  rw [← hl] at cA hlen hin hwf hall
  simp only [← hl]
  clear hl
  have cA' : Calls Tryz.prog 17 #[.pointer (some ⟨r, 0, none⟩), .int .i64 rf, .agg #[.int .i64 lo, .int .i64 hi]] W1 fun e w' => ∃ cap ao, e = .returned (.slice ao l.length cap) ∧ It .i64 w' ao cap l ∧ Below W1.heap.size W1 w' := by
    refine cA.mono ?_
    rintro e w' ⟨ko, cap, ao, he, hg⟩
    have how : OwG 2 1 w' ko ao cap l.length (ics l) := hg.ow
    rw [ics_map] at how
    exact ⟨cap, ao, he, It.of_own hwf how, hg.bel⟩
  have hpr := bsI_price b.L rf l hin
  have cO := fun (w : World) (hb : Below W1.heap.size W1 w) (y : Int) => rof17_any y hok (h1.below hb)
  generalize b.L = L at *
  generalize bestL L rf l = z9 at *
  clear cA hwf m1 hBd h h1 hok
  obtain ⟨n, hn⟩ : ∃ n, n = l.length := ⟨_, rfl⟩
  rw [← hn] at cA' hlen hall
  replace hn := Lib.hid hn
  have hbx : ∀ w, ∃ V, V = w.alloc (.cells (cPrc .zero) 35) ∧ Below w.heap.size w V ∧ Blk V w.heap.size 35 (cPrc .zero) := fun w => ⟨_, rfl, (Below.refl _ _).alloc (Nat.le_refl _) _, Blk.new _ _ _⟩
  simp only [cPrc, Prc.zero] at hW1 hbx
  go_enter Tryz.func11, Tryz.ntmps11
  go_wp2_with (first
    | (rw [← hW1]; clear hW1)
    | (go_at_call 17; refine cA'.mono ?_; rintro e V ⟨cap, ao, rfl, hI, hbV⟩; clear cA'; obtain ⟨V2, hV2, hb2, hB2⟩ := hbx V; clear hbx)
    | fail)
  have hRV := hRb.below hbV hRb.lt
  have hb1V : Below W.heap.size W V := hbl.trans (hbV.mono hbl.size)
  have hlt := hRV.lt
  clear hRb hbl d0 d1
  rw [← hV2]
  clear hV2
  go_loopg [10] n (fun j p10 wr => ∃ (i : Nat) (z : Prc), i + j = n ∧ p10 = .int .i64 (i : Int) ∧ Hid (z = bsI L rf l i) ∧ Blk wr V.heap.size 35 (cPrc z) ∧ Below V.heap.size V wr)
  case atStart => exact ⟨0, .zero, by omega, rfl, Lib.hid rfl, hB2, hb2⟩
  case round =>
    clear hB2 hb2
    obtain ⟨i, z, hij, rfl, hz, hB, hbr⟩ := hrel
    by_cases hin' : i < n
    · obtain ⟨y, hy⟩ : ∃ y, l[i]? = some y := ⟨_, List.getElem?_eq_getElem (by rw [← hn.out]; exact hin')⟩
      obtain ⟨bq, oq, rfl, y0⟩ := hI.get hy
      have u0 := y0 wr hbr
      have hil : (i : Int) < (n : Int) := by omega
      have hcO := cO wr (hbV.trans (hbr.mono hbV.size)) y
      have hnx := bsI_some (L := L) (r := rf) hy
      rw [← hz.out] at hnx
      have hzp := hpr i
      rw [← hz.out] at hzp
      have hyp := hin y (List.mem_of_getElem? hy)
      have cLs := fun w => rless_any (prcOf L y) z rf hyp hzp hrf w
      obtain ⟨g, hg⟩ : ∃ g, g = lessP (prcOf L y) z rf := ⟨_, rfl⟩
      rw [← hg] at hnx cLs
      clear hg
      generalize prcOf L y = u at *
      have hpx : ∀ w3, Below wr.heap.size wr w3 → ∃ V3, V3 = w3.alloc (.cells (cPrc u) 35) ∧ (∀ w, Below V3.heap.size V3 w → Blk w V.heap.size 35 (cPrc z) ∧ Blk w w3.heap.size 35 (cPrc u) ∧ Below V.heap.size V w) := fun w3 hb => by
        refine ⟨_, rfl, fun w hw => ?_⟩
        have hal : Below w3.heap.size w3 (w3.alloc (.cells (cPrc u) 35)) := (Below.refl _ _).alloc (Nat.le_refl _) _
        have h1 := ((hB.below hb hB.lt).below hal (hB.below hb hB.lt).lt)
        have h2 : Blk (w3.alloc (.cells (cPrc u) 35)) w3.heap.size 35 (cPrc u) := Blk.new _ _ _
        exact ⟨h1.below hw h1.lt, h2.below hw h2.lt, (hbr.trans (hb.mono hbr.size)).trans ((hal.trans (hw.mono hal.size)).mono (by have := hbr.size; have := hb.size; omega))⟩
      have hset : ∀ w, Blk w V.heap.size 35 (cPrc z) → Below V.heap.size V w → Blk (((w.setCell ⟨V.heap.size, 0, none⟩ (.int .i64 u.price)).setCell ⟨V.heap.size, 1, none⟩ (.int .i64 u.volume)).setCell ⟨V.heap.size, 2, none⟩ (.int .i64 u.odds)) V.heap.size 35 (cPrc u) ∧ Below V.heap.size V (((w.setCell ⟨V.heap.size, 0, none⟩ (.int .i64 u.price)).setCell ⟨V.heap.size, 1, none⟩ (.int .i64 u.volume)).setCell ⟨V.heap.size, 2, none⟩ (.int .i64 u.odds)) := fun w h1 h2 => ⟨Prc.lay h1 _ _ _, Prc.below h2 (Nat.le_refl _) _ _ _⟩
      replace hset := Lib.hid hset
      replace hz := Lib.hid hz
      clear hy hI y0 cO hpr hin hB hbr hRV hall hzp hyp hb1V
      obtain ⟨uu, uv, uo⟩ := u
      simp only [vPrc, cPrc] at hcO cLs hpx
      by_cases hi0 : i = 0
      · rw [if_pos (.inl hi0)] at hnx
        have hnx' := Lib.hid hnx
        have e0 : ((i : Int) == 0) = true := by simp; omega
        clear hnx cLs hi0
        go_wp2_with (first
          | (go_at_call 20; refine hcO.mono ?_; rintro e w3 ⟨rfl, hb3⟩; clear hcO; obtain ⟨V3, hV3, hfac⟩ := hpx w3 hb3; clear hpx; obtain ⟨hZ, hU, hbb⟩ := hfac V3 (Below.refl _ _); obtain ⟨p0, p1, p2⟩ := Prc.cells (m := ⟨uu, uv, uo⟩) hU; obtain ⟨q0, q1, q2⟩ := Prc.cells hZ; have hfz := hZ.free; have hdn := Lib.hid (hset.out _ hZ hbb); clear hset hfac)
          | (rw [← hV3]; clear hV3)
          | fail)
        go_roundg (n - (i + 1))
        case measure => omega
        case rel => exact ⟨i + 1, ⟨uu, uv, uo⟩, by omega, by go_num, Lib.hid hnx'.out.symm, hdn.out.1, hdn.out.2⟩
      · have e0 : ((i : Int) == 0) = false := by simp; omega
        cases g with
        | true =>
          rw [if_pos (.inr rfl)] at hnx
          have hnx' := Lib.hid hnx
          clear hnx hi0
          go_wp2_with (first
            | (go_at_call 20; refine hcO.mono ?_; rintro e w3 ⟨rfl, hb3⟩; clear hcO; obtain ⟨V3, hV3, hfac⟩ := hpx w3 hb3; clear hpx; obtain ⟨hZ, hU, hbb⟩ := hfac V3 (Below.refl _ _); obtain ⟨p0, p1, p2⟩ := Prc.cells (m := ⟨uu, uv, uo⟩) hU; obtain ⟨q0, q1, q2⟩ := Prc.cells hZ)
            | (rw [← hV3]; clear hV3)
            | (go_at_call 19; refine (cLs _).mono ?_; rintro e w4 ⟨rfl, hb4⟩; clear cLs p0 p1 p2 q0 q1 q2 hZ hU hbb; obtain ⟨hZ, hU, hbb⟩ := hfac w4 hb4; obtain ⟨p0, p1, p2⟩ := Prc.cells (m := ⟨uu, uv, uo⟩) hU; obtain ⟨q0, q1, q2⟩ := Prc.cells hZ; have hfz := hZ.free; have hdn := Lib.hid (hset.out _ hZ hbb); clear hset hfac)
            | fail)
          go_roundg (n - (i + 1))
          case measure => omega
          case rel => exact ⟨i + 1, ⟨uu, uv, uo⟩, by omega, by go_num, Lib.hid hnx'.out.symm, hdn.out.1, hdn.out.2⟩
        | false =>
          rw [if_neg (by rintro (e | e); exact hi0 e; cases e)] at hnx
          have hnx' := Lib.hid hnx
          clear hnx hi0
          go_wp2_with (first
            | (go_at_call 20; refine hcO.mono ?_; rintro e w3 ⟨rfl, hb3⟩; clear hcO; obtain ⟨V3, hV3, hfac⟩ := hpx w3 hb3; clear hpx; obtain ⟨hZ, hU, hbb⟩ := hfac V3 (Below.refl _ _); obtain ⟨p0, p1, p2⟩ := Prc.cells (m := ⟨uu, uv, uo⟩) hU; obtain ⟨q0, q1, q2⟩ := Prc.cells hZ)
            | (rw [← hV3]; clear hV3)
            | (go_at_call 19; refine (cLs _).mono ?_; rintro e w4 ⟨rfl, hb4⟩; clear cLs p0 p1 p2 q0 q1 q2 hZ hU hbb; obtain ⟨hZ, hU, hbb⟩ := hfac w4 hb4; clear hset hfac)
            | fail)
          go_roundg (n - (i + 1))
          case measure => omega
          case rel => exact ⟨i + 1, z, by omega, by go_num, Lib.hid hnx'.out.symm, hZ, hbb⟩
    · have e : i = n := by omega
      subst e
      have hil : ¬ (i : Int) < (i : Int) := by omega
      have hze : z = z9 := by rw [hz.out, hall.out]
      subst hze
      have hR := hRV.below hbr hlt
      have hbW : Below W.heap.size W wr := hb1V.trans (hbr.mono hb1V.size)
      obtain ⟨q0, q1, q2⟩ := Prc.cells hB
      obtain ⟨z0, z1, z2⟩ := Prc.cells (m := .zero) hR
      have hfr := hR.free
      have hlay := fun (m : Prc) => Prc.cells (Prc.lay hR m.price m.volume m.odds)
      have hfin := fun (m : Prc) => Prc.below hbW (b := W.heap.size + 1) (by omega) (.int .i64 m.price) (.int .i64 m.volume) (.int .i64 m.odds)
      simp only [Prc.zero] at z0 z1 z2
      clear hz hB hbr hRV hR hI cO hpr hin hall hbW hb1V
      obtain ⟨zp, zv, zo⟩ := z
      simp only at q0 q1 q2
      by_cases h0 : zv = 0
      · have e0 : (zv == 0) = true := by simpa using h0
        obtain ⟨g0, g1, g2⟩ := hlay .zero
        have hf := hfin .zero
        have hh := Lib.hid h0
        simp only [Prc.zero] at g0 g1 g2 hf
        clear hlay hfin h0
        go_wp2_with fail
        refine bodyPost_ret (v := .tuple #[.agg #[.int .i64 0, .int .i64 0, .int .i64 0], .bool false]) ?_ rfl ?_
        rotate_left
        · exact ⟨by first | rfl | (rw [if_pos hh.out]; rfl), hf⟩
        simp [results, Tryz.results11, go_sem, g0, g1, g2]
      · have e0 : (zv == 0) = false := by simpa using h0
        obtain ⟨g0, g1, g2⟩ := hlay ⟨zp, zv, zo⟩
        have hf := hfin ⟨zp, zv, zo⟩
        have hh := Lib.hid h0
        simp only at g0 g1 g2 hf
        clear hlay hfin h0
        go_wp2_with fail
        refine bodyPost_ret (v := .tuple #[.agg #[.int .i64 zp, .int .i64 zv, .int .i64 zo], .bool true]) ?_ rfl ?_
        rotate_left
        · exact ⟨by first | rfl | rw [if_neg hh.out], hf⟩
        simp [results, Tryz.results11, go_sem, g0, g1, g2]
set_option maxRecDepth 8000 in
theorem rfree_any (rf : Int) (hrf : 0 ≤ rf ∧ rf ≤ 1099511627776) (hok : b.Ok) (h : RK W r S b) : Calls Tryz.prog 13 #[.pointer (some ⟨r, 0, none⟩), .int .i64 rf] W fun e w' => e = .returned (.tuple #[vPrc (chsL b.L rf 1 1099511627776).1, .bool (chsL b.L rf 1 1099511627776).2]) ∧ Below W.heap.size W w' := by
  obtain ⟨W1, hW1⟩ : ∃ W1, W1 = W.alloc (.cells (cPrc .zero) 35) := ⟨_, rfl⟩
  have hb1 : Below W.heap.size W W1 := by rw [hW1]; exact (Below.refl _ _).alloc (Nat.le_refl _) _
  have hR1 : Blk W1 W.heap.size 35 (cPrc .zero) := by rw [hW1]; exact Blk.new _ _ _
  have cC := rchoose_any rf 1 1099511627776 hrf hok (h.below hb1)
  generalize (chsL b.L rf 1 1099511627776).1 = z at *
  generalize (chsL b.L rf 1 1099511627776).2 = q at *
  clear h hok hrf
  obtain ⟨zp, zv, zo⟩ := z
  have hnx : ∀ w2, Below W1.heap.size W1 w2 → (w2.cell? ⟨W.heap.size, 0, none⟩ = some (.int .i64 0) ∧ w2.cell? ⟨W.heap.size, 1, none⟩ = some (.int .i64 0) ∧ w2.cell? ⟨W.heap.size, 2, none⟩ = some (.int .i64 0)) ∧ (∀ i, w2.frozen? ⟨W.heap.size, i, none⟩ = false) ∧ Hid (∀ V, V = ((w2.setCell ⟨W.heap.size, 0, none⟩ (.int .i64 zp)).setCell ⟨W.heap.size, 1, none⟩ (.int .i64 zv)).setCell ⟨W.heap.size, 2, none⟩ (.int .i64 zo) → (V.cell? ⟨W.heap.size, 0, none⟩ = some (.int .i64 zp) ∧ V.cell? ⟨W.heap.size, 1, none⟩ = some (.int .i64 zv) ∧ V.cell? ⟨W.heap.size, 2, none⟩ = some (.int .i64 zo)) ∧ Below W.heap.size W V) := fun w2 hb => by
    have h := hR1.below hb hR1.lt
    refine ⟨Prc.cells (m := .zero) h, h.free, Lib.hid ?_⟩
    rintro V rfl
    exact ⟨Prc.cells (m := ⟨zp, zv, zo⟩) (Prc.lay h zp zv zo), Prc.below (hb1.trans (hb.mono hb1.size)) (Nat.le_refl _) _ _ _⟩
  simp only [vPrc, cPrc, Prc.zero] at hW1 cC ⊢
  clear hR1
  go_enter Tryz.func13, Tryz.ntmps13
  go_wp2_with (first
    | (rw [← hW1]; clear hW1)
    | (go_at_call 11; refine cC.mono ?_; rintro e w2 ⟨rfl, hb2⟩; clear cC; obtain ⟨⟨z0, z1, z2⟩, zf, hrest⟩ := hnx w2 hb2; clear hnx)
    | fail)
  obtain ⟨⟨g0, g1, g2⟩, hf⟩ := hrest.out _ rfl
  refine bodyPost_ret (v := .tuple #[.agg #[.int .i64 zp, .int .i64 zv, .int .i64 zo], .bool q]) ?_ rfl ?_
  rotate_left
  · exact ⟨rfl, hf⟩
  simp [results, Tryz.results13, go_sem, g0, g1, g2]
end
end Go.Proofs.YtohenmnpmgghhaaGreatDoor
