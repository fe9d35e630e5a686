/-
  The walk of FifoNils.
-/
import Derived.Test.YtipmhialflincaaDoorFiz
import Derived.Test.YtipmhialflincaaDoorEnt
namespace Go.Proofs.YtipmhialflincaaDoor
open Go.RowKit
attribute [local go_sem] Oper.semAt_some
attribute [local go_sem] wide_fn
set_option maxRecDepth 100000 in
set_option maxHeartbeats 2000000 in
theorem nils_any (i x : Int) (W : World) (hG : Gl W) :
    Calls Tryd.prog 6 #[.int .i64 i, .int .i64 x] W fun e w' => e = .returned (.bool true) ∧ Below W.heap.size W w' := by
  obtain ⟨W1, hW1⟩ : ∃ W1, W1 = W.alloc (.cells #[.bool false] 4) := ⟨_, rfl⟩
  have m1 : Mem W [(W.heap.size, 4, #[.bool false])] W1 := by
    rw [hW1]
    exact (Mem.start W).new _ _
  have hG1 : Gl W1 := by rw [hW1]; exact hG.below ((Below.refl _ _).alloc (Nat.le_refl _) _)
  refine (callsIn_wide (n := 6)).1 ?_
  refine callsIn_of_wp_marks Tryd.func6 rfl trivial ?_ rfl
  simp only [Tryd.ntmps6, List.size_toArray, List.length_cons, List.length_nil, Nat.reduceAdd, Nat.reduceSub, Array.replicate_succ, Array.replicate_zero, List.push_toArray, List.append_toArray, List.nil_append, List.cons_append]
  gi_wp2_with (first
    | (gi_at_call 7; rw [← hW1]; refine (callsIn_wide.2 (alive_any W1 hG1)).mono ?_; rintro e w2 ⟨rfl, hb2⟩; have m2 := m1.keep hb2; clear m1 hW1 hb2)
    | (gi_at_call 13; refine (callsIn_wide.2 (each_any none i w2)).mono ?_; rintro e w3 ⟨rfl, hb3, T1, T3, hB1, hB3⟩; have m3 := m2.keep hb3))
  have hs3 := hb3.size
  have hW2 : W.heap.size < w2.heap.size := (m2.blk W.heap.size 4 #[.bool false] (by simp)).lt
  refine range_law4 (F := Fence.wide) rfl (by omega) (gf := 25) (lb := #[.pointer (some ⟨w2.heap.size, 0, none⟩), .pointer (some ⟨w2.heap.size + 1, 0, none⟩)]) rfl trivial (goes_of Tryd.func25 (by kernel_rfl) rfl) (enc := encF) (fun _ => rfl) (fun _ => False) (fun _ e => e.elim) (G := fun _ _ _ => False) goodNo_put
    (eachNil_seqs Fence.wide rfl (6 - 1) (by omega) w2.heap.size (w2.heap.size + 1) T1 T3 i w3 hB1 hB3 _)
    (fun _ A => Frm (fun q => w3.heap.size ≤ q) w3 A) (fun _ _ _ => False) (fun pre A B h hf => h.trans hf (fun q h => .inl (by omega))) (fun c pre A B h hf => h) (Frm.refl _ _) ?a1 ?assign ?body ?done ?stop
  case assign =>
    intro l x V K hK
    gi_wp2
    exact hK
  case body =>
    rintro lb pre x A h1 hgood
    exact hgood.elim
  case stop =>
    rintro D c pre V hD hsp
    exact hsp.elim
  case done =>
    rintro D ys V hD hys h4 hK
    have hbV : Below w3.heap.size w3 V := h4.below (Nat.le_refl _) (fun q h => h)
    have mV := m3.keep hbV
    have hDW : W.heap.size < D := by omega
    clear h4 hbV hB1 hB3 hb3 m3 hs3 hW2 hD m2
    have hlV : D < V.heap.size := (Array.getElem?_eq_some_iff.1 hK).1
    have hdr : ∀ n, Mem W [(W.heap.size, 4, #[.bool false])] (V.drewN n) := fun n => mV.keep (below_drewN (Below.refl _ _) n)
    have hcl : ∀ n, (V.drewN n).cell? ⟨W.heap.size, 0, none⟩ = some (.bool false) := fun n => ((hdr n).blk W.heap.size 4 #[.bool false] (by simp)).cell_eq 0 _ rfl
    have hfz : ∀ n, (V.drewN n).frozen? ⟨W.heap.size, 0, none⟩ = false := fun n => ((hdr n).blk W.heap.size 4 #[.bool false] (by simp)).free 0
    have hKd : ∀ n, (V.drewN n).heap[D]? = some (.deferred (some [])) := fun n => hK
    have cP := fun w => popNil_any i w
    have cF := fun w => frontNil_any i w
    have cR := fun w => removeNil_any x w
    have cO := fun w => ofNil_any x w
    have cU := fun w => pushNil_any i w x
    have cL := fun w => lenNil_any i w
    gi_wp2_with (first
      | (gi_at_call 16; refine (callsIn_wide.2 (cP _)).mono ?_; rintro e w4 ⟨rfl, n4, rfl⟩)
      | (gi_at_call 17; refine (callsIn_wide.2 (cF _)).mono ?_; rintro e w4 ⟨rfl, n5, rfl⟩)
      | (gi_at_call 15; refine (callsIn_wide.2 (cR _)).mono ?_; rintro e w4 ⟨rfl, n6, rfl⟩)
      | (gi_at_call 18; refine (callsIn_wide.2 (cO _)).mono ?_; rintro e w4 ⟨rfl, n7, rfl⟩)
      | (gi_at_call 14; refine (callsIn_wide.2 (cU _)).mono ?_; rintro e w4 ⟨rfl, n8, rfl⟩; have c2 : (((((V.drewN n4).drewN n5).drewN n6).drewN n7).drewN n8).cell? ⟨W.heap.size, 0, none⟩ = some (.bool false) := hcl 0; have c3 : (((((V.drewN n4).drewN n5).drewN n6).drewN n7).drewN n8).frozen? ⟨W.heap.size, 0, none⟩ = false := hfz 0)
      | (gi_at_call 12; refine (callsIn_wide.2 (cL _)).mono ?_; rintro e w4 ⟨rfl, rfl⟩))
    have m7 := hdr (n4 + n5 + n6 + n7 + n8)
    have hK7 := hKd (n4 + n5 + n6 + n7 + n8)
    obtain ⟨w7, hw7⟩ : ∃ w7, w7 = V.drewN (n4 + n5 + n6 + n7 + n8) := ⟨_, rfl⟩
    rw [← hw7] at m7 hK7 ⊢
    have h2 := m7.blk W.heap.size 4 #[.bool false] (by simp)
    obtain ⟨V2, hV2⟩ : ∃ V2, V2 = w7.setCell ⟨W.heap.size, 0, none⟩ (.bool true) := ⟨_, rfl⟩
    have hK' : V2.heap[D]? = some (.deferred (some [])) := by rw [hV2]; exact (Below.heap_setCell _ _ _ _ (by show D ≠ W.heap.size; omega)).trans hK7
    have hfin : Below W.heap.size W (V2.putObj D (.deferred none)) := by
      have g2 : Below W.heap.size W V2 := by rw [hV2]; exact m7.below.setCell (p := ⟨W.heap.size, 0, none⟩) (by simp) _
      exact g2.trans ((Frm.put (S := fun q => q = D) V2 D (.deferred none) rfl).below g2.size (fun q h => by omega))
    have hcr : (V2.putObj D (.deferred none)).cell? ⟨W.heap.size, 0, none⟩ = some (.bool true) := by
      refine (World.cell?_of_block (a := ⟨W.heap.size, 0, none⟩) (World.putObj_heap_other (by show W.heap.size ≠ D; omega))).trans ?_
      rw [hV2]
      exact (h2.set 0 (.bool true)).cell_eq 0 _ rfl
    rw [← hV2]
    refine ⟨by simp, .inl ⟨_, _, rfl, run_takeDeferred hK', ?_⟩⟩
    refine ⟨.bool true, ?_, rfl, hfin⟩
    simp [results, Tryd.results6, go_sem, hcr]
end Go.Proofs.YtipmhialflincaaDoor
