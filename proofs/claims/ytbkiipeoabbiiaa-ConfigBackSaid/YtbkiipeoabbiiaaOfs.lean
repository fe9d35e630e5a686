/-
  The contracts of ofSymbol, ofRow, ofMarket: pointers to the numbers.
-/
import Derived.Test.YtbkiipeoabbiiaaPassW
import Derived.StillTailTactics
namespace Go.Proofs.Ytbkiipeoabbiiaa
open Go.RowKit
abbrev K2 : List Bool := [true, false]
abbrev K6 : List Bool := [true, false, false, false, true, true]
abbrev K16 : List Bool := [true, true, false, false, true, false, true, true, true, false, false, false, false, false, false, false]
theorem one_field (bs : Nat) (ks : List Bool) (o : Nat) : ((fieldC bs o ks).toArray.all (·.oneCell')) = true := by
  have h : ∀ (ks : List Bool) (o : Nat), ∀ v ∈ fieldC bs o ks, v.oneCell' = true := by
    intro ks
    induction ks with
    | nil => intro o v hv; simp [fieldC] at hv
    | cons k t ih =>
      intro o v hv
      cases k <;> simp only [fieldC, List.mem_cons] at hv <;> rcases hv with rfl | rfl | hv
      all_goals first | rfl | exact ih _ v hv
  rw [Array.all_eq_true_iff_forall_mem]
  intro v hv
  exact h ks o v (by simpa using hv)
theorem sizeF_row : (Try.prog.info? 101).map (·.size) = some 4 := by kernel_rfl
set_option maxRecDepth 100000 in
set_option maxHeartbeats 4000000 in
theorem ofrow_any (bs o : Nat) (W : World) :
    Calls Try.prog 68 #[.pointer (some ⟨bs, o, none⟩)] W fun e w' => e = .returned (.agg (fieldC bs o K2).toArray) ∧ Below W.heap.size W w' := by
  have hb0 := Below.alK (Below.refl W.heap.size W) (.cells #[.pointer none, .pointer none, .pointer none, .pointer none] 101)
  have hR := Blk.new W 101 #[.pointer none, .pointer none, .pointer none, .pointer none]
  go_enter Try.func68, Try.ntmps68
  go_wp2_with fail
  go_still_tail 9, (by kernel_rfl)
  change wpList _ _ _ _ _ (World.drew _)
  replace hb0 := hb0.drew
  replace hR := hR.drew
  generalize World.drew _ = w2 at *
  refine wpList_store_row rfl 101 (.tmp 2) (.tmp 11) rfl W.heap.size (fieldC bs o K2).toArray rfl rfl 101 _ hR sizeF_row rfl (one_field _ _ _) ?_
  go_wp2_with fail
  refine bodyPost_ret (v := .agg (fieldC bs o K2).toArray) ?_ rfl ⟨rfl, below_setRow hb0 (Nat.le_refl _) _⟩
  exact results_cell_row rfl _ _ _ _ _ _ _ rfl (hR.setRow _) Try.underlying101 rfl sizeF_row
theorem sizeF_mkt : (Try.prog.info? 104).map (·.size) = some 12 := by kernel_rfl
set_option maxRecDepth 100000 in
set_option maxHeartbeats 4000000 in
theorem ofmkt_any (bs : Nat) (W : World) :
    Calls Try.prog 69 #[.pointer (some ⟨bs, 0, none⟩)] W fun e w' => e = .returned (.agg (fieldC bs 2 K6).toArray) ∧ Below W.heap.size W w' := by
  have hb0 := Below.alK (Below.refl W.heap.size W) (.cells #[.pointer none, .pointer none, .pointer none, .pointer none, .pointer none, .pointer none, .pointer none, .pointer none, .pointer none, .pointer none, .pointer none, .pointer none] 104)
  have hR := Blk.new W 104 #[.pointer none, .pointer none, .pointer none, .pointer none, .pointer none, .pointer none, .pointer none, .pointer none, .pointer none, .pointer none, .pointer none, .pointer none]
  go_enter Try.func69, Try.ntmps69
  go_wp2_with fail
  go_still_tail 30, (by kernel_rfl)
  change wpList _ _ _ _ _ (World.drew _)
  replace hb0 := hb0.drew
  replace hR := hR.drew
  generalize World.drew _ = w2 at *
  refine wpList_store_row rfl 104 (.tmp 2) (.tmp 32) rfl W.heap.size (fieldC bs 2 K6).toArray rfl rfl 104 _ hR sizeF_mkt rfl (one_field _ _ _) ?_
  go_wp2_with fail
  refine bodyPost_ret (v := .agg (fieldC bs 2 K6).toArray) ?_ rfl ⟨rfl, below_setRow hb0 (Nat.le_refl _) _⟩
  exact results_cell_row rfl _ _ _ _ _ _ _ rfl (hR.setRow _) Try.underlying104 rfl sizeF_mkt
theorem sizeF_symb : (Try.prog.info? 94).map (·.size) = some 32 := by kernel_rfl
set_option maxRecDepth 100000 in
set_option maxHeartbeats 4000000 in
theorem ofsymb_any (bs o : Nat) (W : World) :
    Calls Try.prog 65 #[.pointer (some ⟨bs, o, none⟩)] W fun e w' => e = .returned (.agg (fieldC bs o K16).toArray) ∧ Below W.heap.size W w' := by
  have hb0 := Below.alK (Below.refl W.heap.size W) (.cells #[.pointer none, .pointer none, .pointer none, .pointer none, .pointer none, .pointer none, .pointer none, .pointer none, .pointer none, .pointer none, .pointer none, .pointer none, .pointer none, .pointer none, .pointer none, .pointer none, .pointer none, .pointer none, .pointer none, .pointer none, .pointer none, .pointer none, .pointer none, .pointer none, .pointer none, .pointer none, .pointer none, .pointer none, .pointer none, .pointer none, .pointer none, .pointer none] 94)
  have hR := Blk.new W 94 #[.pointer none, .pointer none, .pointer none, .pointer none, .pointer none, .pointer none, .pointer none, .pointer none, .pointer none, .pointer none, .pointer none, .pointer none, .pointer none, .pointer none, .pointer none, .pointer none, .pointer none, .pointer none, .pointer none, .pointer none, .pointer none, .pointer none, .pointer none, .pointer none, .pointer none, .pointer none, .pointer none, .pointer none, .pointer none, .pointer none, .pointer none, .pointer none]
  go_enter Try.func65, Try.ntmps65
  go_wp2_with fail
  simp only [List.append_eq, List.cons_append, List.nil_append]
  go_still_tail 65, (by kernel_rfl)
  change wpList _ _ _ _ _ (World.drew _)
  replace hb0 := hb0.drew
  replace hR := hR.drew
  generalize World.drew _ = w2 at *
  refine wpList_store_row rfl 94 (.tmp 2) (.tmp 67) rfl W.heap.size (fieldC bs o K16).toArray rfl rfl 94 _ hR sizeF_symb rfl (one_field _ _ _) ?_
  go_wp2_with fail
  refine bodyPost_ret (v := .agg (fieldC bs o K16).toArray) ?_ rfl ⟨rfl, below_setRow hb0 (Nat.le_refl _) _⟩
  exact results_cell_row rfl _ _ _ _ _ _ _ rfl (hR.setRow _) Try.underlying94 rfl sizeF_symb
end Go.Proofs.Ytbkiipeoabbiiaa
