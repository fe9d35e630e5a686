/-
  CurveNumbers. (Written by gen/p_cnm.py.)
-/
import Derived.Test.YtpadjlhleaboaaaGreatDoorGCg
import Derived.Test.YtpadjlhleaboaaaGreatDoorGC
namespace Go.Proofs.YtpadjlhleaboaaaGreatDoor
open Go.RowKit
set_option linter.unusedSimpArgs false
set_option maxRecDepth 8000 in
set_option maxHeartbeats 8000000 in
theorem cnumbers_any (x d s : Int) (hd : In64 d) (hs : In64 s) (W : World) (hG : Gl W) : Calls Tryz.prog 5 #[.int .i64 x, .int .i64 d, .int .i64 s] W fun e w' => e = .returned (.bool true) ∧ Below W.heap.size W w' := by
  have cA := fun w (h : Gl w) => alive16_any w h
  by_cases h0 : d < 0
  · have d0 : decide (d < 0) = true := decide_eq_true h0
    clear h0 hd hs
    go_enter Tryz.func5, Tryz.ntmps5
    go_wp2_with (first | (go_at_call 7; refine (cA _ hG).mono ?_; rintro e w2 ⟨rfl, hb2⟩) | fail)
    go_ret
    exact ⟨rfl, hb2⟩
  have d0 : decide (d < 0) = false := decide_eq_false h0
  by_cases h1 : s < 0
  · have d1 : decide (s < 0) = true := decide_eq_true h1
    clear h0 h1 hd hs
    go_enter Tryz.func5, Tryz.ntmps5
    go_wp2_with (first | (go_at_call 7; refine (cA _ hG).mono ?_; rintro e w2 ⟨rfl, hb2⟩) | fail)
    go_ret
    exact ⟨rfl, hb2⟩
  have d1 : decide (s < 0) = false := decide_eq_false h1
  obtain ⟨V, hV⟩ : ∃ V, V = W.alloc (.cells (cPnt ⟨x, d, s⟩) 34) := ⟨_, rfl⟩
  have hbV : Below W.heap.size W V := by rw [hV]; exact (Below.refl _ _).alloc (Nat.le_refl _) _
  have hB : Blk V W.heap.size 34 (cPnt ⟨x, d, s⟩) := by rw [hV]; exact Blk.new _ _ _
  have hC := fun w (h : Below V.heap.size V w) => Pnt.three (hB.below h hB.lt)
  have cW := fun w => own16_any ⟨x, d, s⟩ w
  have cV := fun w => cvol_any ⟨x, d, s⟩ w
  have cR := fun w => rvol_any ⟨x, d, s⟩ w
  have hd2 := hd.2
  have hs2 := hs.2
  have cO := fun w => codd_any ⟨x, d, s⟩ ⟨by show 0 ≤ d; omega, by show d < _; omega⟩ ⟨by show 0 ≤ s; omega, by show s < _; omega⟩ w
  have cQ := fun w => rodd_any ⟨x, d, s⟩ ⟨by show 0 ≤ d; omega, by show d < _; omega⟩ ⟨by show 0 ≤ s; omega, by show s < _; omega⟩ w
  replace hG := hG.below hbV
  generalize volP ⟨x, d, s⟩ = v at *
  generalize oddP ⟨x, d, s⟩ = o at *
  simp only [cPnt] at hV
  simp only [vPnt, cPnt] at cW cV cR cO cQ
  simp only at hC
  clear hB hd hs hd2 hs2 h0 h1
  go_enter Tryz.func5, Tryz.ntmps5
  go_wp2_with (first | (rw [← hV]; clear hV) | fail)
  refine wp_region_S (S := (fun _ w => Below V.heap.size V w)) (by kernel_rfl) (Below.refl _ _).drew ?_
  refine AllS.next (v := ?_) rfl rfl rfl (by kernel_rfl) ?_ ?_
  rotate_left
  · refine yieldsS_run (fun _ _ h => h) (by rfl) ?_
    intro L wx hS
    obtain ⟨c0, c1, c2⟩ := hC wx hS
    go_simp
    try with_reducible rfl
  try simp only [Act.put, List.setIfInBounds_toArray, List.set_cons_zero, List.set_cons_succ, List.getElem_toArray, List.getElem_cons_zero, List.getElem_cons_succ]
  refine AllS.next (v := (.agg #[.int .i64 x, .int .i64 d, .int .i64 s])) rfl rfl rfl (by kernel_rfl) ?_ ?_
  · refine yieldsS_call (f := 11) (args := #[(.agg #[.int .i64 x, .int .i64 d, .int .i64 s])]) (by rfl) ?_ ?_
    · intro wx
      go_simp
      try with_reducible rfl
    · intro L wx hS
      exact (cW wx).mono fun e w h => ⟨h.1, hS.trans (h.2.mono hS.size)⟩
  try simp only [Act.put, List.setIfInBounds_toArray, List.set_cons_zero, List.set_cons_succ, List.getElem_toArray, List.getElem_cons_zero, List.getElem_cons_succ]
  refine AllS.next (v := (.int .i64 v)) rfl rfl rfl (by kernel_rfl) ?_ ?_
  · refine yieldsS_call (f := 17) (args := #[(.agg #[.int .i64 x, .int .i64 d, .int .i64 s])]) (by rfl) ?_ ?_
    · intro wx
      go_simp
      try with_reducible rfl
    · intro L wx hS
      exact (cV wx).mono fun e w h => ⟨h.1, hS.trans (h.2.mono hS.size)⟩
  try simp only [Act.put, List.setIfInBounds_toArray, List.set_cons_zero, List.set_cons_succ, List.getElem_toArray, List.getElem_cons_zero, List.getElem_cons_succ]
  refine AllS.next (v := ?_) rfl rfl rfl (by kernel_rfl) ?_ ?_
  rotate_left
  · refine yieldsS_run (fun _ _ h => h) (by rfl) ?_
    intro L wx hS
    obtain ⟨c0, c1, c2⟩ := hC wx hS
    go_simp
    try with_reducible rfl
  try simp only [Act.put, List.setIfInBounds_toArray, List.set_cons_zero, List.set_cons_succ, List.getElem_toArray, List.getElem_cons_zero, List.getElem_cons_succ]
  refine AllS.next (v := (.int .i64 v)) rfl rfl rfl (by kernel_rfl) ?_ ?_
  · refine yieldsS_call (f := 18) (args := #[(.agg #[.int .i64 x, .int .i64 d, .int .i64 s])]) (by rfl) ?_ ?_
    · intro wx
      go_simp
      try with_reducible rfl
    · intro L wx hS
      exact (cR wx).mono fun e w h => ⟨h.1, hS.trans (h.2.mono hS.size)⟩
  try simp only [Act.put, List.setIfInBounds_toArray, List.set_cons_zero, List.set_cons_succ, List.getElem_toArray, List.getElem_cons_zero, List.getElem_cons_succ]
  refine AllS.next (v := (.bool true)) rfl rfl rfl (by kernel_rfl) ?_ ?_
  · refine yieldsS_run (fun _ _ h => h) (by rfl) ?_
    intro L wx hS
    go_simp
    all_goals first
      | done
      | with_reducible rfl
      | assumption
      | (simp_all; done)
  try simp only [Act.put, List.setIfInBounds_toArray, List.set_cons_zero, List.set_cons_succ, List.getElem_toArray, List.getElem_cons_zero, List.getElem_cons_succ]
  refine AllS.next (v := ?_) rfl rfl rfl (by kernel_rfl) ?_ ?_
  rotate_left
  · refine yieldsS_run (fun _ _ h => h) (by rfl) ?_
    intro L wx hS
    go_simp
    try with_reducible rfl
  try simp only [Act.put, List.setIfInBounds_toArray, List.set_cons_zero, List.set_cons_succ, List.getElem_toArray, List.getElem_cons_zero, List.getElem_cons_succ]
  refine AllS.next (v := ?_) rfl rfl rfl (by kernel_rfl) ?_ ?_
  rotate_left
  · refine yieldsS_run (fun _ _ h => h) (by rfl) ?_
    intro L wx hS
    obtain ⟨c0, c1, c2⟩ := hC wx hS
    go_simp
    try with_reducible rfl
  try simp only [Act.put, List.setIfInBounds_toArray, List.set_cons_zero, List.set_cons_succ, List.getElem_toArray, List.getElem_cons_zero, List.getElem_cons_succ]
  refine AllS.next (v := (.agg #[.int .i64 x, .int .i64 d, .int .i64 s])) rfl rfl rfl (by kernel_rfl) ?_ ?_
  · refine yieldsS_call (f := 11) (args := #[(.agg #[.int .i64 x, .int .i64 d, .int .i64 s])]) (by rfl) ?_ ?_
    · intro wx
      go_simp
      try with_reducible rfl
    · intro L wx hS
      exact (cW wx).mono fun e w h => ⟨h.1, hS.trans (h.2.mono hS.size)⟩
  try simp only [Act.put, List.setIfInBounds_toArray, List.set_cons_zero, List.set_cons_succ, List.getElem_toArray, List.getElem_cons_zero, List.getElem_cons_succ]
  refine AllS.next (v := (.int .i64 o)) rfl rfl rfl (by kernel_rfl) ?_ ?_
  · refine yieldsS_call (f := 19) (args := #[(.agg #[.int .i64 x, .int .i64 d, .int .i64 s])]) (by rfl) ?_ ?_
    · intro wx
      go_simp
      try with_reducible rfl
    · intro L wx hS
      exact (cO wx).mono fun e w h => ⟨h.1, hS.trans (h.2.mono hS.size)⟩
  try simp only [Act.put, List.setIfInBounds_toArray, List.set_cons_zero, List.set_cons_succ, List.getElem_toArray, List.getElem_cons_zero, List.getElem_cons_succ]
  refine AllS.next (v := ?_) rfl rfl rfl (by kernel_rfl) ?_ ?_
  rotate_left
  · refine yieldsS_run (fun _ _ h => h) (by rfl) ?_
    intro L wx hS
    obtain ⟨c0, c1, c2⟩ := hC wx hS
    go_simp
    try with_reducible rfl
  try simp only [Act.put, List.setIfInBounds_toArray, List.set_cons_zero, List.set_cons_succ, List.getElem_toArray, List.getElem_cons_zero, List.getElem_cons_succ]
  refine AllS.next (v := (.int .i64 o)) rfl rfl rfl (by kernel_rfl) ?_ ?_
  · refine yieldsS_call (f := 20) (args := #[(.agg #[.int .i64 x, .int .i64 d, .int .i64 s])]) (by rfl) ?_ ?_
    · intro wx
      go_simp
      try with_reducible rfl
    · intro L wx hS
      exact (cQ wx).mono fun e w h => ⟨h.1, hS.trans (h.2.mono hS.size)⟩
  try simp only [Act.put, List.setIfInBounds_toArray, List.set_cons_zero, List.set_cons_succ, List.getElem_toArray, List.getElem_cons_zero, List.getElem_cons_succ]
  refine AllS.next (v := (.bool true)) rfl rfl rfl (by kernel_rfl) ?_ ?_
  · refine yieldsS_run (fun _ _ h => h) (by rfl) ?_
    intro L wx hS
    go_simp
    all_goals first
      | done
      | with_reducible rfl
      | assumption
      | (simp_all; done)
  try simp only [Act.put, List.setIfInBounds_toArray, List.set_cons_zero, List.set_cons_succ, List.getElem_toArray, List.getElem_cons_zero, List.getElem_cons_succ]
  refine AllS.next (v := (.bool true)) rfl rfl rfl (by kernel_rfl) ?_ ?_
  · refine yieldsS_run (fun _ _ h => h) (by rfl) ?_
    intro L wx hS
    go_simp
    all_goals first
      | done
      | with_reducible rfl
      | assumption
      | (simp_all; done)
  try simp only [Act.put, List.setIfInBounds_toArray, List.set_cons_zero, List.set_cons_succ, List.getElem_toArray, List.getElem_cons_zero, List.getElem_cons_succ]
  refine AllS.next (v := ?_) rfl rfl rfl (by kernel_rfl) ?_ ?_
  rotate_left
  · refine yieldsS_run (fun _ _ h => h) (by rfl) ?_
    intro L wx hS
    go_simp
    try with_reducible rfl
  try simp only [Act.put, List.setIfInBounds_toArray, List.set_cons_zero, List.set_cons_succ, List.getElem_toArray, List.getElem_cons_zero, List.getElem_cons_succ]
  refine AllS.next (v := (.bool true)) rfl rfl rfl (by kernel_rfl) ?_ ?_
  · refine yieldsS_call (f := 7) (args := #[]) (by rfl) ?_ ?_
    · intro wx
      go_simp
      try with_reducible rfl
    · intro L wx hS
      exact (cA wx (hG.below hS)).mono fun e w h => ⟨h.1, hS.trans (h.2.mono hS.size)⟩
  try simp only [Act.put, List.setIfInBounds_toArray, List.set_cons_zero, List.set_cons_succ, List.getElem_toArray, List.getElem_cons_zero, List.getElem_cons_succ]
  refine AllS.next (v := (.bool true)) rfl rfl rfl (by kernel_rfl) ?_ ?_
  · refine yieldsS_run (fun _ _ h => h) (by rfl) ?_
    intro L wx hS
    go_simp
    all_goals first
      | done
      | with_reducible rfl
      | assumption
      | (simp_all; done)
  try simp only [Act.put, List.setIfInBounds_toArray, List.set_cons_zero, List.set_cons_succ, List.getElem_toArray, List.getElem_cons_zero, List.getElem_cons_succ]
  refine AllS.next (v := ?_) rfl rfl rfl (by kernel_rfl) ?_ ?_
  rotate_left
  · refine yieldsS_run (fun _ _ h => h) (by rfl) ?_
    intro L wx hS
    go_simp
    try with_reducible rfl
  try simp only [Act.put, List.setIfInBounds_toArray, List.set_cons_zero, List.set_cons_succ, List.getElem_toArray, List.getElem_cons_zero, List.getElem_cons_succ]
  refine AllS.done (by kernel_rfl) ?_
  intro w9 hS9
  go_wp2_with fail
  go_ret
  exact ⟨rfl, hbV.trans (hS9.mono hbV.size)⟩
end Go.Proofs.YtpadjlhleaboaaaGreatDoor
