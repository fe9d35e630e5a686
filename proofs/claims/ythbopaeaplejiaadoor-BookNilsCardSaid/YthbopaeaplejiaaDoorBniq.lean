/-
  The walk of BookNils.
-/
import Derived.Test.YthbopaeaplejiaaDoorBalq
import Derived.Test.YthbopaeaplejiaaDoorGR
import Derived.Test.YthbopaeaplejiaaDoorGB
import Derived.RangeFuncCalls
import Derived.Shelf.RegionOpen
import Derived.OwnWalkIn
import Derived.TacticsInMore
import Derived.LoopNIn
import Derived.LoopIn
import Derived.Stop.RegionWithIn
import Derived.Sort.QuietTacIn
namespace Go.Proofs.YthbopaeaplejiaaDoor
open Go.RowKit
set_option linter.unusedSimpArgs false
attribute [local go_sem] Oper.semAt_some
theorem wide_fnB (f : FuncId) : Fence.wide.fn f = True := by simp [Fence.wide]
attribute [local go_sem] wide_fnB
theorem goodNoB_put (pre : List Ord) (x : Ord) (A : World) (l : Nat) (o o' : Obj) (h : (fun (_ : List Ord) (_ : Ord) (_ : World) => False) pre x A) (_ : A.heap[l]? = some o) (_ : o.isCells = false) : (fun (_ : List Ord) (_ : Ord) (_ : World) => False) pre x (A.putObj l o') := h
set_option maxRecDepth 100000 in
set_option maxHeartbeats 4000000 in
theorem bnils_any (side id a c : Int) (W : World) (hG : Gl W) :
    Calls Tryd.prog 5 #[.int .i64 side, .int .i64 id, .int .i64 a, .int .i64 c] W fun e w' => e = .returned (.bool true) ∧ Below W.heap.size W w' := by
  obtain ⟨W1, hW1⟩ : ∃ W1, W1 = W.alloc (.cells #[.bool false] 4) := ⟨_, rfl⟩
  have m1 : Mem W [(W.heap.size, 4, #[.bool false])] W1 := by
    rw [hW1]
    exact (Mem.start W).new _ _
  refine (callsIn_wide (n := 6)).1 ?_
  refine callsIn_of_wp_marks Tryd.func5 rfl trivial ?_ rfl
  simp only [Tryd.ntmps5, List.size_toArray, List.length_cons, List.length_nil, Nat.reduceAdd, Nat.reduceSub, Array.replicate_succ, Array.replicate_zero, List.push_toArray, List.append_toArray, List.nil_append, List.cons_append]
  gi_wp2_with (first
    | (gi_at_call 6; rw [← hW1]; refine (callsIn_wide.2 (alive_any W1 (hG.below m1.below))).mono ?_; rintro e w2 ⟨rfl, hb2⟩; have m2 := m1.keep hb2; clear m1 hW1 hb2)
    | (gi_at_call 12; refine (callsIn_wide.2 (pbNil_each side w2)).mono ?_; rintro e w3 ⟨lb, rfl, hb3, hseq⟩; have m3 := m2.keep hb3))
  have hs3 := hb3.size
  have hW2 : W.heap.size < w2.heap.size := (m2.blk W.heap.size 4 #[.bool false] (by simp)).lt
  refine range_law4 (F := Fence.wide) rfl (by omega) (gf := 36) (lb := lb) rfl trivial (goes_of Tryd.func36 (by kernel_rfl) rfl) (enc := encO) (fun _ => rfl) (fun _ => False) (fun _ e => e.elim) (G := fun _ _ _ => False) goodNoB_put
    (hseq _)
    (fun _ A => Frm (fun q => w3.heap.size ≤ q) w3 A) (fun _ _ _ => False) (fun pre A B h hf => h.trans hf (fun q h => .inl (by omega))) (fun c pre A B h hf => h) (Frm.refl _ _) ?a1 ?assign ?body ?done ?stop
  case assign =>
    intro l x V K hK
    gi_wp2
    exact hK
  case body =>
    rintro lb pre x A h1 hgood
    exact hgood.elim
  case stop =>
    rintro D c pre V hD hsp
    exact hsp.elim
  case done =>
    rintro D ys V hD hys h4 hK
    have hbV : Below w3.heap.size w3 V := h4.below (Nat.le_refl _) (fun q h => h)
    have mV := m3.keep hbV
    have hDW : W.heap.size < D := by omega
    clear h4 hbV hb3 m3 hs3 hW2 hD m2 hseq
    have hlV : D < V.heap.size := (Array.getElem?_eq_some_iff.1 hK).1
    have hall : ∀ w, Below V.heap.size V w → w.cell? ⟨W.heap.size, 0, none⟩ = some (.bool false) ∧ w.frozen? ⟨W.heap.size, 0, none⟩ = false ∧ w.heap[D]? = some (.deferred (some [])) ∧ Mem W [(W.heap.size, 4, #[.bool false])] w := fun w hb => by
      have m := mV.keep hb
      have k := m.blk W.heap.size 4 #[.bool false] (by simp)
      exact ⟨k.cell_eq 0 _ rfl, k.free 0, (hb.block _ hlV).trans hK, m⟩
    replace hall := Lib.hid hall
    have hbc := Below.refl V.heap.size V
    have cR := fun w => pbNil_rem id w
    have cD := fun w => pbNil_red id 1 w
    have cG := fun w => pbNil_get id w
    have cF := fun w => pbNil_front side w
    have cA := fun w => pbNil_add ⟨id, 0, 0, 0, 0, 0, 0⟩ w
    simp only [Ord.zero, vOrd] at cR cD cG cF cA
    obtain ⟨q, hq⟩ : ∃ q, bett side a c = q := ⟨_, rfl⟩
    have cB := fun w => pb_better side a c w
    have cC := fun w => kbetter_any side a c w
    rw [hq] at cB cC
    clear hq
    gi_wp2_with (first
      | (gi_at_call 18; refine (callsIn_wide.2 (cR _)).mono ?_; rintro e w4 ⟨rfl, hb4⟩; clear cR; replace hbc := hbc.trans (hb4.mono hbc.size); clear hb4; replace hbc := hbc.alloc hbc.size (.cells #[.int .i64 0, .int .i64 0, .int .i64 0, .int .i64 0, .int .i64 0, .int .i64 0, .int .i64 0] 34))
      | (gi_at_call 19; refine (callsIn_wide.2 (cD _)).mono ?_; rintro e w5 ⟨rfl, hb5⟩; clear cD; replace hbc := hbc.trans (hb5.mono hbc.size); clear hb5; replace hbc := hbc.alloc hbc.size (.cells #[.int .i64 0, .int .i64 0, .int .i64 0, .int .i64 0, .int .i64 0, .int .i64 0, .int .i64 0] 34))
      | (gi_at_call 20; refine (callsIn_wide.2 (cG _)).mono ?_; rintro e w6 ⟨rfl, hb6⟩; clear cG; replace hbc := hbc.trans (hb6.mono hbc.size); clear hb6; replace hbc := hbc.alloc hbc.size (.cells #[.int .i64 0, .int .i64 0, .int .i64 0, .int .i64 0, .int .i64 0, .int .i64 0, .int .i64 0] 34))
      | (gi_at_call 15; refine (callsIn_wide.2 (cF _)).mono ?_; rintro e w7 ⟨rfl, hb7⟩; clear cF; replace hbc := hbc.trans (hb7.mono hbc.size); clear hb7; replace hbc := hbc.alloc hbc.size (.cells #[.int .i64 0, .int .i64 0, .int .i64 0, .int .i64 0, .int .i64 0, .int .i64 0, .int .i64 0] 34))
      | (gi_at_call 21; refine (callsIn_wide.2 (pbNil_best side _)).mono ?_; rintro e w8 ⟨rfl, hb8⟩; replace hbc := hbc.trans (hb8.mono hbc.size); clear hb8)
      | (gi_at_call 13; refine (callsIn_wide.2 (cA _)).mono ?_; rintro e w9 ⟨rfl, hb9⟩; clear cA; replace hbc := hbc.trans (hb9.mono hbc.size); clear hb9)
      | (gi_at_call 22; refine (callsIn_wide.2 (pbNil_at side a _)).mono ?_; rintro e w10 ⟨rfl, hb10⟩; replace hbc := hbc.trans (hb10.mono hbc.size); clear hb10)
      | (gi_at_call 23; refine (callsIn_wide.2 (pbNil_worth side a _)).mono ?_; rintro e w11 ⟨rfl, hb11⟩; replace hbc := hbc.trans (hb11.mono hbc.size); clear hb11)
      | (gi_at_call 24; refine (callsIn_wide.2 (pbNil_room side a _)).mono ?_; rintro e w12 ⟨rfl, hb12⟩; replace hbc := hbc.trans (hb12.mono hbc.size); clear hb12)
      | (gi_at_call 25; refine (callsIn_wide.2 (pbNil_fits side a _)).mono ?_; rintro e w13 ⟨rfl, hb13⟩; replace hbc := hbc.trans (hb13.mono hbc.size); clear hb13)
      | (gi_at_call 14; refine (callsIn_wide.2 (pbNil_len _)).mono ?_; rintro e w14 ⟨rfl, hb14⟩; replace hbc := hbc.trans (hb14.mono hbc.size); clear hb14)
      | (gi_at_call 26; refine (callsIn_wide.2 (pbNil_crossed _)).mono ?_; rintro e w15 ⟨rfl, hb15⟩; replace hbc := hbc.trans (hb15.mono hbc.size); clear hb15)
      | (gi_at_call 16; refine (callsIn_wide.2 (cB _)).mono ?_; rintro e w16 ⟨rfl, hw16⟩; subst w16; clear cB)
      | (gi_at_call 27; refine (callsIn_wide.2 (cC _)).mono ?_; rintro e w17 ⟨rfl, hw17⟩; subst w17; clear cC; obtain ⟨c2, c3, c4, m7⟩ := hall.out _ hbc))
    have h2 := m7.blk W.heap.size 4 #[.bool false] (by simp)
    obtain ⟨V2, hV2⟩ : ∃ V2, V2 = w15.setCell ⟨W.heap.size, 0, none⟩ (.bool true) := ⟨_, rfl⟩
    have hK' : V2.heap[D]? = some (.deferred (some [])) := by rw [hV2]; exact (Below.heap_setCell _ _ _ _ (by show D ≠ W.heap.size; omega)).trans c4
    have hfin : Below W.heap.size W (V2.putObj D (.deferred none)) := by
      have g2 : Below W.heap.size W V2 := by rw [hV2]; exact m7.below.setCell (p := ⟨W.heap.size, 0, none⟩) (by simp) _
      exact g2.trans ((Frm.put (S := fun q => q = D) V2 D (.deferred none) rfl).below g2.size (fun q h => by omega))
    have hcr : (V2.putObj D (.deferred none)).cell? ⟨W.heap.size, 0, none⟩ = some (.bool true) := by
      refine (World.cell?_of_block (a := ⟨W.heap.size, 0, none⟩) (World.putObj_heap_other (by show W.heap.size ≠ D; omega))).trans ?_
      rw [hV2]
      exact (h2.set 0 (.bool true)).cell_eq 0 _ rfl
    try simp only [beq_self_eq_true]
    rw [← hV2]
    refine ⟨by simp, .inl ⟨_, _, rfl, run_takeDeferred hK', ?_⟩⟩
    refine ⟨.bool true, ?_, rfl, hfin⟩
    simp [results, Tryd.results5, go_sem, hcr]
end Go.Proofs.YthbopaeaplejiaaDoor
