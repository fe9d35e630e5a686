/-
  The walk of ArenaNils.
-/
import Derived.Test.YtbkdakabpmpiiaaArk
import Derived.Test.YtbkdakabpmpiiaaArw
import Derived.Test.YtbkdakabpmpiiaaEnt
namespace Go.Proofs.Ytbkdakabpmpiiaa
open Go.RowKit
attribute [local go_sem] Oper.semAt_some
attribute [local go_sem] wide_fn
theorem goodN_put (pre : List (Nat × Ord)) (x : Nat × Ord) (A : World) (l : Nat) (o o' : Obj) (h : (fun (_ : List (Nat × Ord)) (_ : Nat × Ord) (_ : World) => False) pre x A) (_ : A.heap[l]? = some o) (_ : o.isCells = false) : (fun (_ : List (Nat × Ord)) (_ : Nat × Ord) (_ : World) => False) pre x (A.putObj l o') := h
set_option maxRecDepth 100000 in
set_option maxHeartbeats 2000000 in
theorem nils_any (x : Int) (o : Ord) (W : World) :
    Calls Try.prog 6 #[.int .i64 x, vOrd o] W fun e w' => e = .returned (.bool true) ∧ Below W.heap.size W w' := by
  obtain ⟨W1, hW1⟩ : ∃ W1, W1 = (W.alloc (.cells (cOrd o) 33)).alloc (.cells #[.bool false] 4) := ⟨_, rfl⟩
  have m1 : Mem W [(W.heap.size + 1, 4, #[.bool false]), (W.heap.size, 33, cOrd o)] W1 := by
    rw [hW1]
    exact ((Mem.start W).new _ _).new' _ _ (by simp)
  obtain ⟨a1, a2, a3, a4, a5, a6, a7⟩ := o
  refine (callsIn_wide (n := 6)).1 ?_
  refine callsIn_of_wp_marks Try.func6 rfl trivial ?_ rfl
  simp only [Try.ntmps6, List.size_toArray, List.length_cons, List.length_nil, Nat.reduceAdd, Nat.reduceSub, Array.replicate_succ, Array.replicate_zero, List.push_toArray, List.append_toArray, List.nil_append, List.cons_append]
  gi_wp2_with (first
    | (gi_at_call 7; rw [← hW1]; refine (callsIn_wide.2 (alive9_any W1)).mono ?_; rintro e w2 ⟨rfl, hb2⟩; have m2 := m1.keep hb2; clear m1 hW1 hb2)
    | (gi_at_call 14; refine (callsIn_wide.2 (each_any none w2)).mono ?_; rintro e w3 ⟨rfl, hb3, T1, T3, hB1, hB3⟩; have m3 := m2.keep hb3))
  have hs3 := hb3.size
  have hW2 : W.heap.size + 1 < w2.heap.size := (m2.blk (W.heap.size + 1) 4 #[.bool false] (by simp)).lt
  have ho3 := m3.blk W.heap.size 33 (cOrd ⟨a1, a2, a3, a4, a5, a6, a7⟩) (by simp)
  have hr3 := m3.blk (W.heap.size + 1) 4 #[.bool false] (by simp)
  refine range_law (F := Fence.wide) rfl (by omega) (gf := 24) (lb := #[.pointer (some ⟨w2.heap.size, 0, none⟩), .pointer (some ⟨w2.heap.size + 1, 0, none⟩)]) rfl trivial (goes_of Try.func24 (by kernel_rfl) rfl) (enc := encE) (fun _ => rfl) (fun _ => False) (fun _ e => e.elim) (G := fun _ _ _ => False) goodN_put
    (eachNil_seqs Fence.wide rfl (6 - 1) (by omega) w2.heap.size (w2.heap.size + 1) T1 w3 hB1 _)
    (fun _ A => Frm (fun q => w3.heap.size ≤ q) w3 A) (fun _ _ _ => False) (fun pre A B h hf => h.trans hf (fun q h => .inl h)) (fun c pre A B h hf => h) (Frm.refl _ _) ?a1 ?assign ?body ?done ?stop
  case assign =>
    intro l x V K hK
    gi_wp2
    exact hK
  case body =>
    rintro lb pre x A h1 hgood
    exact hgood.elim
  case stop =>
    rintro D c pre V hD hsp
    exact hsp.elim
  case done =>
    rintro D ys V hD hys h4 hK
    have hbV : Below w3.heap.size w3 V := h4.below (Nat.le_refl _) (fun q h => h)
    have mV := m3.keep hbV
    have hDW : W.heap.size + 1 < D := by omega
    clear h4 hbV hB1 hB3 hb3 m3 hs3 ho3 hr3 hW2 hD m2
    obtain ⟨x0, x1, x2, x3, x4, x5, x6⟩ := Ord.cells (mV.blk W.heap.size 33 (cOrd ⟨a1, a2, a3, a4, a5, a6, a7⟩) (by simp))
    simp only at x0 x1 x2 x3 x4 x5 x6
    have hE := fun w => eql_Ord Ord.zero Ord.zero w
    rw [eqOrd_self] at hE
    have hw0 : IntKind.i64.wrap 0 = 0 := by decide
    have cG := fun w => getNil_any x w
    simp only [Ord.zero] at hE cG
    have hlV : D < V.heap.size := (Array.getElem?_eq_some_iff.1 hK).1
    gi_wp2_with (first
      | (gi_at_call 16; refine (callsIn_wide.2 (takeNil_any ⟨a1, a2, a3, a4, a5, a6, a7⟩ V)).mono ?_; rintro e w4 ⟨rfl, hb4⟩; have m4 := mV.keep hb4; have hK4 : w4.heap[D]? = some (.deferred (some [])) := (hb4.block _ hlV).trans hK; clear x0 x1 x2 x3 x4 x5 x6 mV hK)
      | (gi_at_call 17; refine (callsIn_wide.2 (cG w4)).mono ?_; rintro e w5 ⟨rfl, hb5⟩; have m5 := m4.keep hb5; have hK5 : w5.heap[D]? = some (.deferred (some [])) := (hb5.block _ (Array.getElem?_eq_some_iff.1 hK4).1).trans hK4; clear m4 hK4 hb5)
      | (gi_at_call 18; obtain ⟨w6, hw6⟩ : ∃ w6, w6 = w5.alloc (.cells (cOrd ⟨0, 0, 0, 0, 0, 0, 0⟩) 33) := ⟨_, rfl⟩; have m6 := m5.new 33 (cOrd ⟨0, 0, 0, 0, 0, 0, 0⟩); have hK6 : (w5.alloc (.cells (cOrd ⟨0, 0, 0, 0, 0, 0, 0⟩) 33)).heap[D]? = some (.deferred (some [])) := (Below.heap_alloc _ _ _ (Array.getElem?_eq_some_iff.1 hK5).1).trans hK5; rw [← hw6] at m6 hK6; simp only [cOrd] at hw6; rw [← hw6]; clear m5 hK5 hw6; obtain ⟨x0, x1, x2, x3, x4, x5, x6⟩ := Ord.cells (m6.blk W.heap.size 33 (cOrd ⟨a1, a2, a3, a4, a5, a6, a7⟩) (by simp)); simp only at x0 x1 x2 x3 x4 x5 x6; refine (callsIn_wide.2 (dropNil_any x w6)).mono ?_; rintro e w6 ⟨rfl, rfl⟩)
      | (gi_at_call 19; refine (callsIn_wide.2 (setNil_any x ⟨a1, a2, a3, a4, a5, a6, a7⟩ w6)).mono ?_; rintro e w7 ⟨rfl, hb7⟩; have m7 := m6.keep hb7; have hK7 : w7.heap[D]? = some (.deferred (some [])) := (hb7.block _ (Array.getElem?_eq_some_iff.1 hK6).1).trans hK6; clear x0 x1 x2 x3 x4 x5 x6 m6 hK6)
      | (gi_at_call 11; refine (callsIn_wide.2 (usedNil_any w7)).mono ?_; rintro e w7 ⟨rfl, rfl⟩)
      | (gi_at_call 13; refine (callsIn_wide.2 (roomNil_any w7)).mono ?_; rintro e w7 ⟨rfl, rfl⟩; have h2 := m7.blk (W.heap.size + 1) 4 #[.bool false] (by simp); have c2 : w7.cell? ⟨W.heap.size + 1, 0, none⟩ = some (.bool false) := h2.cell_eq 0 _ rfl; have c3 := h2.free 0))
    obtain ⟨V2, hV2⟩ : ∃ V2, V2 = w7.setCell ⟨W.heap.size + 1, 0, none⟩ (.bool true) := ⟨_, rfl⟩
    have hK' : V2.heap[D]? = some (.deferred (some [])) := by rw [hV2]; exact (Below.heap_setCell _ _ _ _ (by show D ≠ W.heap.size + 1; omega)).trans hK7
    have hfin : Below W.heap.size W (V2.putObj D (.deferred none)) := by
      have g2 : Below W.heap.size W V2 := by rw [hV2]; exact m7.below.setCell (p := ⟨W.heap.size + 1, 0, none⟩) (by simp) _
      exact g2.trans ((Frm.put (S := fun q => q = D) V2 D (.deferred none) rfl).below g2.size (fun q h => by omega))
    have hcr : (V2.putObj D (.deferred none)).cell? ⟨W.heap.size + 1, 0, none⟩ = some (.bool true) := by
      refine (World.cell?_of_block (a := ⟨W.heap.size + 1, 0, none⟩) (World.putObj_heap_other (by show W.heap.size + 1 ≠ D; omega))).trans ?_
      rw [hV2]
      exact (h2.set 0 (.bool true)).cell_eq 0 _ rfl
    rw [← hV2]
    refine ⟨by simp, .inl ⟨_, _, rfl, run_takeDeferred hK', ?_⟩⟩
    refine ⟨.bool true, ?_, rfl, hfin⟩
    simp [results, Try.results6, go_sem, hcr]
end Go.Proofs.Ytbkdakabpmpiiaa
