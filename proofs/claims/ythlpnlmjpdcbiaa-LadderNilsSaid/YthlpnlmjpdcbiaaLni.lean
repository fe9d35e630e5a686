/-
  What a nil ladder answers; the walk of LadderNils.
-/
import Derived.Test.YthlpnlmjpdcbiaaLwo
import Derived.Test.YthlpnlmjpdcbiaaLal
namespace Go.Proofs.Ythlpnlmjpdcbiaa
open Go.RowKit
set_option linter.unusedSimpArgs false
attribute [local go_sem] Oper.semAt_some
attribute [local go_sem] wide_fn
theorem goodNo_put (pre : List Lvl) (x : Lvl) (A : World) (l : Nat) (o o' : Obj) (h : (fun (_ : List Lvl) (_ : Lvl) (_ : World) => False) pre x A) (_ : A.heap[l]? = some o) (_ : o.isCells = false) : (fun (_ : List Lvl) (_ : Lvl) (_ : World) => False) pre x (A.putObj l o') := h
section
variable (x y : Int) (W : World)
theorem putNil_any : Calls Try.prog 17 #[.pointer none, .int .i64 x, .int .i64 y] W fun e w' => e = .returned (.tuple #[.int .i64 0, .int .i64 1]) ∧ w' = W := by
  go_enter Try.func17, Try.ntmps17
  go_wp2_with fail
  all_goals go_ret2
  all_goals exact ⟨rfl, rfl⟩
theorem takeNil_any (gone : Bool) : Calls Try.prog 19 #[.pointer none, .int .i64 x, .int .i64 y, .bool gone] W fun e w' => e = .returned (.tuple #[.int .i64 0, .int .i64 1]) ∧ w' = W := by
  go_enter Try.func19, Try.ntmps19
  go_wp2_with fail
  all_goals go_ret2
  all_goals exact ⟨rfl, rfl⟩
theorem lenNil_any : Calls Try.prog 12 #[.pointer none] W fun e w' => e = .returned (.int .i64 0) ∧ w' = W := by
  go_enter Try.func12, Try.ntmps12
  go_wp2_with fail
  all_goals go_ret
  all_goals exact ⟨rfl, rfl⟩
theorem fitsNil_any : Calls Try.prog 21 #[.pointer none, .int .i64 x] W fun e w' => e = .returned (.bool false) ∧ w' = W := by
  go_enter Try.func21, Try.ntmps21
  go_wp2_with fail
  all_goals go_ret
  all_goals exact ⟨rfl, rfl⟩
set_option maxRecDepth 8000 in
set_option maxHeartbeats 1000000 in
theorem bestNil_any : Calls Try.prog 13 #[.pointer none] W fun e w' => e = .returned (.tuple #[vLvl Lvl.zero, .bool false]) ∧ Below W.heap.size W w' := by
  obtain ⟨W1, hW1⟩ : ∃ W1, W1 = W.alloc (.cells (cLvl Lvl.zero) 40) := ⟨_, rfl⟩
  have hBx : Blk W1 W.heap.size 40 (cLvl Lvl.zero) := by rw [hW1]; exact Blk.new _ _ _
  have hF : Below W.heap.size W W1 := by rw [hW1]; exact (Below.refl _ _).alloc (Nat.le_refl _) _
  have cH := lenNil_any W1
  obtain ⟨b0, b1, b2, b3⟩ := Lvl.cells hBx
  have hfr := hBx.free
  obtain ⟨c0, c1, c2, c3⟩ := Lvl.cells (Lvl.lay hBx 0 0 0 0)
  have hbel := Lvl.below hF (Nat.le_refl _) (.int .i64 0) (.int .i64 0) (.int .i64 0) (.int .i64 0)
  simp only [Lvl.zero] at b0 b1 b2 b3
  simp only at c0 c1 c2 c3
  simp only [Lvl.zero, cLvl] at hW1
  clear hBx hF
  go_enter Try.func13, Try.ntmps13
  go_wp2_with (go_at_call 12; rw [← hW1]; (with_reducible refine cH.mono ?_); rintro e w1 ⟨rfl, hw1⟩; subst w1; clear hW1 cH)
  refine bodyPost_ret (v := .tuple #[.agg #[.int .i64 0, .int .i64 0, .int .i64 0, .int .i64 0], .bool false]) ?_ rfl ⟨rfl, hbel⟩
  simp [results, Try.results13, go_sem, c0, c1, c2, c3]
set_option maxRecDepth 8000 in
set_option maxHeartbeats 1000000 in
theorem findNil_any : Calls Try.prog 20 #[.pointer none, .int .i64 x] W fun e w' => e = .returned (.tuple #[vLvl Lvl.zero, .bool false]) ∧ Below W.heap.size W w' := by
  obtain ⟨W1, hW1⟩ : ∃ W1, W1 = W.alloc (.cells (cLvl Lvl.zero) 40) := ⟨_, rfl⟩
  have hBx : Blk W1 W.heap.size 40 (cLvl Lvl.zero) := by rw [hW1]; exact Blk.new _ _ _
  have hF : Below W.heap.size W W1 := by rw [hW1]; exact (Below.refl _ _).alloc (Nat.le_refl _) _
  obtain ⟨c0, c1, c2, c3⟩ := Lvl.cells hBx
  have hbel := hF
  simp only [Lvl.zero, cLvl] at hW1 c0 c1 c2 c3
  rw [hW1] at hbel c0 c1 c2 c3
  clear hBx hF hW1
  go_enter Try.func20, Try.ntmps20
  go_wp2_with fail
  refine bodyPost_ret (v := .tuple #[.agg #[.int .i64 0, .int .i64 0, .int .i64 0, .int .i64 0], .bool false]) ?_ rfl ⟨rfl, hbel⟩
  simp [results, Try.results20, go_sem, c0, c1, c2, c3]
set_option maxRecDepth 100000 in
set_option maxHeartbeats 4000000 in
theorem worthNil_any : Calls Try.prog 22 #[.pointer none, .int .i64 x] W fun e w' => e = .returned (.int .i64 0) ∧ Below W.heap.size W w' := by
  obtain ⟨W3, hW3⟩ : ∃ W3, W3 = ((W.alloc (.cells #[.pointer none] 25)).alloc (.cells #[.int .i64 x] 2)).alloc (.cells #[.int .i64 0] 2) := ⟨_, rfl⟩
  have hb3 : Below W.heap.size W W3 := by rw [hW3]; exact (((Below.refl _ _).alloc (Nat.le_refl _) _).alloc (by simp) _).alloc (by simp; omega) _
  have hs3 : W3.heap.size = W.heap.size + 3 := by rw [hW3]; simp
  have k2 : Blk W3 (W.heap.size + 2) 2 #[.int .i64 0] := by rw [hW3]; exact Blk.new' (by simp)
  have cE := peach_any none W3
  refine (callsIn_wide (n := 6)).1 ?_
  refine callsIn_of_wp_marks Try.func22 rfl trivial ?_ rfl
  simp only [Try.ntmps22, List.size_toArray, List.length_cons, List.length_nil, Nat.reduceAdd, Nat.reduceSub, Array.replicate_succ, Array.replicate_zero, List.push_toArray, List.append_toArray, List.nil_append, List.cons_append]
  refine wpIn_wide.2 ?_
  go_wp2_with fail
  go_step3
  go_wp2_with fail
  go_step3
  go_wp2_with (go_at_call 16; rw [← hW3]; refine cE.mono ?_; rintro e w8 ⟨rfl, hb8, T1, hB1⟩; clear cE hW3)
  refine (wpIn_wide (n := 6)).1 ?_
  have hs8 := hB1.lt
  have k28 := k2.below hb8 (by omega)
  have hb08 : Below W.heap.size W w8 := hb3.trans (hb8.mono (by omega))
  rw [hs3] at hB1 hs8
  try rw [hs3]
  clear k2 hb3 hb8
  have hseq := peachNil_seqs Fence.wide rfl (6 - 1) (by omega) (W.heap.size + 3) T1 w8 hB1 (fun _ => False)
  refine range_law5 (F := Fence.wide) rfl (by omega) (gf := 28) (lb := #[.pointer (some ⟨W.heap.size + 3, 0, none⟩)]) rfl trivial (goes_of Try.func28 (by kernel_rfl) rfl) (enc := encL) (fun _ => rfl) (fun _ => False) (fun b e => e.elim) (G := fun _ _ _ => False) goodNo_put hseq
    (fun _ A => Frm (fun b => w8.heap.size ≤ b) w8 A) (fun _ _ _ => False)
    (fun pre A B h hf => h.trans hf (fun b h => .inl (by omega))) (fun c pre A B h hf => h) (Frm.refl _ _)
    ?a1 (fun x A => A.alloc (.cells (cLvl x) 40)) (fun x A => (Below.refl _ _).alloc (Nat.le_refl _) _) (fun _ _ _ h => h) ?assign ?body ?done ?stop
  case assign =>
    intro l x V K hK
    simp only [encL]
    gi_wp2
    exact hK
  case body =>
    rintro lb pre x A0 A h1 hgood
    exact hgood.elim
  case stop =>
    rintro D c pre V hD hsp
    exact hsp.elim
  case done =>
    rintro D ys U hD hys h3 hK
    have c5 : U.cell? ⟨W.heap.size + 1 + 1, 0, none⟩ = some (.int .i64 0) := (blk_frm k28 h3 (by omega)).cell_eq 0 _ rfl
    have hbU : Below W.heap.size W U := hb08.trans (h3.below hb08.size (fun b h => by have := hb08.size; omega))
    have hfin : Below W.heap.size W (U.putObj D (.deferred none)) := hbU.trans ((Frm.put (S := fun b => b = D) U D (.deferred none) rfl).below hbU.size (fun b h => by have := hb08.size; omega))
    clear hseq k28 hb08 hB1 h3 hys hs3
    go_wp2_with fail
    rw [Exit.noGoto_ret]
    refine ⟨by simp, .inl ⟨_, _, rfl, run_takeDeferred hK, ?_⟩⟩
    refine ⟨.int .i64 0, ?_, rfl, hfin⟩
    simp [results, Try.results22, go_sem]
end
set_option maxRecDepth 100000 in
set_option maxHeartbeats 4000000 in
theorem nils_any (x y : Int) (W : World) :
    Calls Try.prog 6 #[.int .i64 x, .int .i64 y] W fun e w' => e = .returned (.bool true) ∧ Below W.heap.size W w' := by
  obtain ⟨W1, hW1⟩ : ∃ W1, W1 = W.alloc (.cells #[.bool false] 4) := ⟨_, rfl⟩
  have m1 : Mem W [(W.heap.size, 4, #[.bool false])] W1 := by
    rw [hW1]
    exact (Mem.start W).new _ _
  refine (callsIn_wide (n := 6)).1 ?_
  refine callsIn_of_wp_marks Try.func6 rfl trivial ?_ rfl
  simp only [Try.ntmps6, List.size_toArray, List.length_cons, List.length_nil, Nat.reduceAdd, Nat.reduceSub, Array.replicate_succ, Array.replicate_zero, List.push_toArray, List.append_toArray, List.nil_append, List.cons_append]
  gi_wp2_with (first
    | (gi_at_call 8; rw [← hW1]; refine (callsIn_wide.2 (alive_any W1)).mono ?_; rintro e w2 ⟨rfl, hb2⟩; have m2 := m1.keep hb2; clear m1 hW1 hb2)
    | (gi_at_call 16; refine (callsIn_wide.2 (peach_any none w2)).mono ?_; rintro e w3 ⟨rfl, hb3, T1, hB1⟩; have m3 := m2.keep hb3))
  have hs3 := hb3.size
  have hW2 : W.heap.size < w2.heap.size := (m2.blk W.heap.size 4 #[.bool false] (by simp)).lt
  refine range_law4 (F := Fence.wide) rfl (by omega) (gf := 28) (lb := #[.pointer (some ⟨w2.heap.size, 0, none⟩)]) rfl trivial (goes_of Try.func28 (by kernel_rfl) rfl) (enc := encL) (fun _ => rfl) (fun _ => False) (fun _ e => e.elim) (G := fun _ _ _ => False) goodNo_put
    (peachNil_seqs Fence.wide rfl (6 - 1) (by omega) w2.heap.size T1 w3 hB1 _)
    (fun _ A => Frm (fun q => w3.heap.size ≤ q) w3 A) (fun _ _ _ => False) (fun pre A B h hf => h.trans hf (fun q h => .inl (by omega))) (fun c pre A B h hf => h) (Frm.refl _ _) ?a1 ?assign ?body ?done ?stop
  case assign =>
    intro l x V K hK
    gi_wp2
    exact hK
  case body =>
    rintro lb pre x A h1 hgood
    exact hgood.elim
  case stop =>
    rintro D c pre V hD hsp
    exact hsp.elim
  case done =>
    rintro D ys V hD hys h4 hK
    have hbV : Below w3.heap.size w3 V := h4.below (Nat.le_refl _) (fun q h => h)
    have mV := m3.keep hbV
    have hDW : W.heap.size < D := by omega
    clear h4 hbV hB1 hb3 m3 hs3 hW2 hD m2
    have hlV : D < V.heap.size := (Array.getElem?_eq_some_iff.1 hK).1
    have cB := fun w => bestNil_any w
    have cF := fun w => findNil_any x w
    have cW := fun w => worthNil_any x w
    simp only [Lvl.zero] at cB cF
    have hall : ∀ w, Below V.heap.size V w → w.cell? ⟨W.heap.size, 0, none⟩ = some (.bool false) ∧ w.frozen? ⟨W.heap.size, 0, none⟩ = false ∧ w.heap[D]? = some (.deferred (some [])) ∧ Mem W [(W.heap.size, 4, #[.bool false])] w := fun w hb => by
      have m := mV.keep hb
      have k := m.blk W.heap.size 4 #[.bool false] (by simp)
      exact ⟨k.cell_eq 0 _ rfl, k.free 0, (hb.block _ hlV).trans hK, m⟩
    replace hall := Lib.hid hall
    gi_wp2_with (first
      | (gi_at_call 17; refine (callsIn_wide.2 (putNil_any x y _)).mono ?_; rintro e w4 ⟨rfl, hw4⟩; subst w4)
      | (gi_at_call 19; refine (callsIn_wide.2 (takeNil_any x y _ true)).mono ?_; rintro e w4 ⟨rfl, hw4⟩; subst w4)
      | (gi_at_call 13; refine (callsIn_wide.2 (cB _)).mono ?_; rintro e w5 ⟨rfl, hb5⟩; clear cB; have hb6 := hb5.alloc hb5.size (.cells (cLvl ⟨0, 0, 0, 0⟩) 40))
      | (gi_at_call 20; refine (callsIn_wide.2 (cF _)).mono ?_; rintro e w6 ⟨rfl, hb7⟩; clear cF; have hb8 := hb6.trans (hb7.mono hb6.size); have hb9 := hb8.alloc hb8.size (.cells (cLvl ⟨0, 0, 0, 0⟩) 40))
      | (gi_at_call 21; refine (callsIn_wide.2 (fitsNil_any x _)).mono ?_; rintro e w7 ⟨rfl, hw7⟩; subst w7)
      | (gi_at_call 22; refine (callsIn_wide.2 (cW _)).mono ?_; rintro e w8 ⟨rfl, hb10⟩; clear cW; have hb11 := hb9.trans (hb10.mono hb9.size); obtain ⟨c2, c3, c4, m7⟩ := hall.out _ hb11)
      | (gi_at_call 12; refine (callsIn_wide.2 (lenNil_any _)).mono ?_; rintro e w9 ⟨rfl, hw9⟩; subst w9))
    have h2 := m7.blk W.heap.size 4 #[.bool false] (by simp)
    obtain ⟨V2, hV2⟩ : ∃ V2, V2 = w8.setCell ⟨W.heap.size, 0, none⟩ (.bool true) := ⟨_, rfl⟩
    have hK' : V2.heap[D]? = some (.deferred (some [])) := by rw [hV2]; exact (Below.heap_setCell _ _ _ _ (by show D ≠ W.heap.size; omega)).trans c4
    have hfin : Below W.heap.size W (V2.putObj D (.deferred none)) := by
      have g2 : Below W.heap.size W V2 := by rw [hV2]; exact m7.below.setCell (p := ⟨W.heap.size, 0, none⟩) (by simp) _
      exact g2.trans ((Frm.put (S := fun q => q = D) V2 D (.deferred none) rfl).below g2.size (fun q h => by omega))
    have hcr : (V2.putObj D (.deferred none)).cell? ⟨W.heap.size, 0, none⟩ = some (.bool true) := by
      refine (World.cell?_of_block (a := ⟨W.heap.size, 0, none⟩) (World.putObj_heap_other (by show W.heap.size ≠ D; omega))).trans ?_
      rw [hV2]
      exact (h2.set 0 (.bool true)).cell_eq 0 _ rfl
    rw [← hV2]
    refine ⟨by simp, .inl ⟨_, _, rfl, run_takeDeferred hK', ?_⟩⟩
    refine ⟨.bool true, ?_, rfl, hfin⟩
    simp [results, Try.results6, go_sem, hcr]
end Go.Proofs.Ythlpnlmjpdcbiaa
