/-
  ClearChooses. (Written by gen/p_cch.py.)
-/
import Derived.Test.YtohenmnpmgghhaaGreatDoorGHf
import Derived.Test.YtohenmnpmgghhaaGreatDoorGC
namespace Go.Proofs.YtohenmnpmgghhaaGreatDoor
open Go.RowKit
set_option linter.unusedSimpArgs false
theorem bbRChoose {w0 w : World} {S0 : Nat → Prop} {g r k : Nat} {b t : Bk} (rf lo hi : Int) (hrf : 0 ≤ rf ∧ rf ≤ 1099511627776) (hok : t.Ok) (h : Bb w0 S0 g r k b t w) : Calls Tryz.prog 11 #[.pointer (some ⟨r, 0, none⟩), .int .i64 rf, .agg #[.int .i64 lo, .int .i64 hi]] w fun e w' => e = .returned (.tuple #[vPrc (chsL t.L rf lo hi).1, .bool (chsL t.L rf lo hi).2]) ∧ Bb w0 S0 g r k b t w' ∧ Below w.heap.size w w' := by
  obtain ⟨Sp, Sr, -, h2, -⟩ := h.both
  exact (rchoose_any rf lo hi hrf hok h2).mono fun e w' q => ⟨q.1, h.below q.2, q.2⟩
theorem bbRFree {w0 w : World} {S0 : Nat → Prop} {g r k : Nat} {b t : Bk} (rf : Int) (hrf : 0 ≤ rf ∧ rf ≤ 1099511627776) (hok : t.Ok) (h : Bb w0 S0 g r k b t w) : Calls Tryz.prog 13 #[.pointer (some ⟨r, 0, none⟩), .int .i64 rf] w fun e w' => e = .returned (.tuple #[vPrc (chsL t.L rf 1 1099511627776).1, .bool (chsL t.L rf 1 1099511627776).2]) ∧ Bb w0 S0 g r k b t w' ∧ Below w.heap.size w w' := by
  obtain ⟨Sp, Sr, -, h2, -⟩ := h.both
  exact (rfree_any rf hrf hok h2).mono fun e w' q => ⟨q.1, h.below q.2, q.2⟩
theorem bbAllow {w0 w : World} {S0 : Nat → Prop} {g r k : Nat} {b t : Bk} (rf lo hi : Int) (hrf : 0 ≤ rf ∧ rf ≤ 1099511627776) (hlo : In64 lo) (hhi : In64 hi) (h : Bb w0 S0 g r k b t w) : Calls Tryz.prog 16 #[.pointer (some ⟨g, 0, none⟩), .int .i64 rf, .agg #[.int .i64 lo, .int .i64 hi]] w fun e w' => ∃ ao cap, e = .returned (.slice ao (alwL b.L rf lo hi).length cap) ∧ It .i64 w' ao cap (alwL b.L rf lo hi) ∧ Below w.heap.size w w' := by
  obtain ⟨Sp, Sr, h1, -⟩ := h.both
  exact cl_allowed rf lo hi hrf hlo hhi h1
theorem bbRAllow {w0 w : World} {S0 : Nat → Prop} {g r k : Nat} {b t : Bk} (rf lo hi : Int) (hok : t.Ok) (h : Bb w0 S0 g r k b t w) : Calls Tryz.prog 17 #[.pointer (some ⟨r, 0, none⟩), .int .i64 rf, .agg #[.int .i64 lo, .int .i64 hi]] w fun e w' => ∃ cap ao, e = .returned (.slice ao (alwL t.L rf lo hi).length cap) ∧ It .i64 w' ao cap (alwL t.L rf lo hi) ∧ Below w.heap.size w w' := by
  obtain ⟨Sp, Sr, -, h2, -⟩ := h.both
  refine (rallow_any rf lo hi hok h2).mono ?_
  rintro e w' ⟨ko, cap, ao, he, hg⟩
  have how : OwG 2 1 w' ko ao cap (alwL t.L rf lo hi).length (ics (alwL t.L rf lo hi)) := hg.ow
  rw [ics_map] at how
  refine ⟨cap, ao, he, It.of_own (fun z hz => ?_) how, hg.bel⟩
  obtain ⟨h1, h2, -⟩ := alw_in hz
  have e1 : 1 ≤ bLo lo := by unfold bLo; split <;> omega
  have e2 : bHi hi ≤ 1099511627776 := by unfold bHi; split <;> omega
  simp [Lit.wf]
  exact ⟨by show (-9223372036854775808 : Int) ≤ z; omega, by omega⟩
set_option maxRecDepth 8000 in
set_option maxHeartbeats 16000000 in
theorem cchooses_any (ao : Option Addr) (cap : Nat) (l : List Ord) (r lo hi : Int) (hr : In64 r) (hlo : In64 lo) (hhi : In64 hi) (W : World) (hG : Gl W) (hL : Ords W ao cap l) (hF : ∀ m ∈ l, m.Fit) :
    Calls Tryz.prog 3 #[.slice ao l.length cap, .int .i64 r, .agg #[.int .i64 lo, .int .i64 hi]] W fun e w' => e = .returned (.bool true) ∧ Below W.heap.size W w' := by
  have hl1 := hL.len
  have hl2 := hL.top
  unfold maxLen at hl2
  have hl3 : l.length ≤ 9223372036854775807 := by omega
  clear hl1 hl2
  have cA := fun w (h : Gl w) => alive17_any w h
  obtain ⟨W1, V, hW1, hV, hb1, hbV, hb1V, hI, hlt, hC⟩ := band_boxes lo hi r hr W
  have cP : Calls Tryz.prog 7 #[.slice (some ⟨W1.heap.size, 0, none⟩) 1 1] V fun e w' => e = .returned (.bool (pricedB [r])) ∧ w' = V := priced_any [r] (by simp) V hI
  obtain ⟨c0, c1⟩ := hC W1 (Below.refl _ _)
  obtain ⟨v0, v1⟩ := hC V hb1V
  rw [priced_one] at cP
  clear hI
  by_cases h60 : 60 < l.length
  · have d60 : decide ((60 : Int) < (l.length : Int)) = true := decide_eq_true (by omega)
    clear h60 cP hV hbV v0 v1 hC
    go_enter Tryz.func3, Tryz.ntmps3
    go_wp2_with (first
      | (go_at_call 8; rw [← hW1]; refine (cA _ (hG.below hb1)).mono ?_; rintro e w3 ⟨rfl, hb3⟩; clear cA)
      | fail)
    go_ret
    exact ⟨rfl, hb1.trans (hb3.mono hb1.size)⟩
  have d60 : decide ((60 : Int) < (l.length : Int)) = false := decide_eq_false (by omega)
  by_cases hp : 0 ≤ r ∧ r ≤ 1099511627776
  rotate_left
  · rw [decide_eq_false hp] at cP
    clear hp h60 hC
    go_enter Tryz.func3, Tryz.ntmps3
    go_wp2_with (first
      | (rw [← hW1]; clear hW1)
      | (go_at_call 7; rw [← hV]; refine cP.mono ?_; rintro e w2 ⟨rfl, hw2⟩; subst w2; clear cP hV)
      | (go_at_call 8; refine (cA _ (hG.below hbV)).mono ?_; rintro e w3 ⟨rfl, hb3⟩; clear cA)
      | fail)
    go_ret
    exact ⟨rfl, hbV.trans (hb3.mono hbV.size)⟩
  rw [decide_eq_true hp] at cP
  have cB := books_any ao cap l V (hG.below hbV) (hL.below hbV) hF (by omega)
  have hok := bks_ok hF
  clear hL hF h60 hl3
  generalize bks l = b at *
  have cC := fun g k t w (h : Bb V (fun _ => False) g t k b b w) => bbChoose r lo hi hp hlo hhi h
  have cRC := fun g k t w (h : Bb V (fun _ => False) g t k b b w) => bbRChoose r lo hi hp hok h
  have cF := fun g k t w (h : Bb V (fun _ => False) g t k b b w) => bbFree r hp h
  have cRF := fun g k t w (h : Bb V (fun _ => False) g t k b b w) => bbRFree r hp hok h
  have cN := fun w => cl_free_nil r hp w
  have cAl := fun g k t w (h : Bb V (fun _ => False) g t k b b w) => bbAllow r lo hi hp hlo hhi h
  have cRA := fun g k t w (h : Bb V (fun _ => False) g t k b b w) => bbRAllow r lo hi hok h
  have cL3 := fun w => cl_allowed_nil r lo hi w
  have cS := fun (ao ao' : Option Addr) (cap cap' : Nat) (w : World) (h1 : It .i64 w ao cap (alwL b.L r lo hi)) (h2 : It .i64 w ao' cap' (alwL b.L r lo hi)) => same16_any (alwL b.L r lo hi) w h1 h2
  have fin : ∀ g t k w, Bb V (fun _ => False) g t k b b w → Below V.heap.size V w := fun g t k w h => h.frm.below (Nat.le_refl _) (fun _ f => f.elim)
  have hcell : ∀ w, Below V.heap.size V w → w.cell? ⟨W.heap.size, 0, none⟩ = some (.int .i64 lo) ∧ w.cell? ⟨W.heap.size, 1, none⟩ = some (.int .i64 hi) := fun w h => hC w (hb1V.trans (h.mono hb1V.size))
  have hgl' : ∀ w, Below V.heap.size V w → Gl w ∧ Below W.heap.size W w := fun w h => by
    have := hbV.trans (h.mono hbV.size)
    exact ⟨hG.below this, this⟩
  generalize chsL b.L r lo hi = z at *
  generalize chsL b.L r 1 1099511627776 = z' at *
  generalize alwL b.L r lo hi = A at *
  obtain ⟨⟨pp, pv, po⟩, is⟩ := z
  obtain ⟨⟨fp, fv, fo⟩, is'⟩ := z'
  simp only at cC cRC cF cRF
  have cW1 := fun w => own17_any ⟨pp, pv, po⟩ w
  have cW2 := fun w => own17_any ⟨fp, fv, fo⟩ w
  have qE1 := fun w => eql_Pcc ⟨pp, pv, po⟩ ⟨pp, pv, po⟩ w
  have qE2 := fun w => eql_Pcc ⟨fp, fv, fo⟩ ⟨fp, fv, fo⟩ w
  rw [eqPrc_self] at qE1 qE2
  simp only [vPrc, cPrc] at cC cRC cF cRF cW1 cW2 qE1 qE2
  simp only [vPrc, cPrc, Prc.zero] at cN
  have hb2 : (is == is) = true := by simp
  have hb3 : (is' == is') = true := by simp
  have hnx : ∀ (T : TypeId) (m : Prc) g k t w, Bb V (fun _ => False) g t k b b w → ∃ U, U = w.alloc (.cells #[.int .i64 m.price, .int .i64 m.volume, .int .i64 m.odds] T) ∧ Bb V (fun _ => False) g t k b b U ∧ Below w.heap.size w U ∧ ∀ w', Below U.heap.size U w' → w'.cell? ⟨w.heap.size, 0, none⟩ = some (.int .i64 m.price) ∧ w'.cell? ⟨w.heap.size, 1, none⟩ = some (.int .i64 m.volume) ∧ w'.cell? ⟨w.heap.size, 2, none⟩ = some (.int .i64 m.odds) := fun T m g k t w h => by
    have hN := Blk.new w T (cPrc m)
    exact ⟨_, rfl, h.below ((Below.refl _ _).alloc (Nat.le_refl _) _), (Below.refl _ _).alloc (Nat.le_refl _) _, fun w' hb => Prc.cells (hN.below hb hN.lt)⟩
  clear hp hok hlo hhi hr hC
  go_enter Tryz.func3, Tryz.ntmps3
  go_wp2_with (first
    | (rw [← hW1]; clear hW1)
    | (go_at_call 7; rw [← hV]; refine cP.mono ?_; rintro e w2 ⟨rfl, hw2⟩; subst w2; clear cP hV)
    | (go_at_call 9; refine cB.mono ?_; rintro e w4 ⟨g, t, rfl, k4⟩; clear cB v0 v1; obtain ⟨v0, v1⟩ := hcell _ (fin _ _ _ _ k4))
    | (go_at_call 10; refine (cC _ _ _ _ k4).mono ?_; rintro e w5 ⟨rfl, k5, -⟩; clear cC k4; obtain ⟨U5, hU5, k5', hs5, z5⟩ := hnx 32 ⟨pp, pv, po⟩ _ _ _ _ k5; simp only at hU5 z5; clear v0 v1; obtain ⟨v0, v1⟩ := hcell _ (fin _ _ _ _ k5'))
    | (rw [← hU5]; clear hU5)
    | (go_at_call 11; refine (cRC _ _ _ _ k5').mono ?_; rintro e w6 ⟨rfl, k6, hb6⟩; clear cRC k5' k5; obtain ⟨U6, hU6, k6', hs6, z6⟩ := hnx 35 ⟨pp, pv, po⟩ _ _ _ _ k6; simp only at hU6 z6; clear v0 v1; obtain ⟨v0, v1⟩ := hcell _ (fin _ _ _ _ k6'))
    | (rw [← hU6]; clear hU6)
    | (go_at_call 12; (with_reducible refine (cF _ _ _ _ k6').mono ?_); rintro e w7 ⟨rfl, k7, hb7⟩; clear cF k6' k6; obtain ⟨U7, hU7, k7', hs7, z7⟩ := hnx 32 ⟨fp, fv, fo⟩ _ _ _ _ k7; simp only at hU7 z7; clear v0 v1; obtain ⟨v0, v1⟩ := hcell _ (fin _ _ _ _ k7'))
    | (rw [← hU7]; clear hU7)
    | (go_at_call 13; refine (cRF _ _ _ _ k7').mono ?_; rintro e w8 ⟨rfl, k8, hb8⟩; clear cRF k7' k7; obtain ⟨U8, hU8, k8', hs8, z8⟩ := hnx 35 ⟨fp, fv, fo⟩ _ _ _ _ k8; simp only at hU8 z8; clear v0 v1; obtain ⟨v0, v1⟩ := hcell _ (fin _ _ _ _ k8'))
    | (rw [← hU8]; clear hU8)
    | (go_at_call 12; (with_reducible refine (cN _).mono ?_); rintro e w9 ⟨rfl, hb9⟩; clear cN; have k9 := k8'.below hb9; clear k8' k8; obtain ⟨U9, hU9, k9', hs9, z9⟩ := hnx 32 .zero _ _ _ _ k9; simp only [Prc.zero] at hU9; clear v0 v1; obtain ⟨v0, v1⟩ := hcell _ (fin _ _ _ _ k9'))
    | fail)
  rw [← hU9]
  clear hU9
  have s8 : Below U8.heap.size U8 U9 := hb9.trans (hs9.mono hb9.size)
  have s7 : Below U7.heap.size U7 U9 := (hb8.trans (hs8.mono hb8.size)).trans (s8.mono (hb8.trans (hs8.mono hb8.size)).size)
  have s6 : Below U6.heap.size U6 U9 := (hb7.trans (hs7.mono hb7.size)).trans (s7.mono (hb7.trans (hs7.mono hb7.size)).size)
  have s5 : Below U5.heap.size U5 U9 := (hb6.trans (hs6.mono hb6.size)).trans (s6.mono (hb6.trans (hs6.mono hb6.size)).size)
  have sV := fin _ _ _ _ k9'
  have hfac : ∀ w, Below U9.heap.size U9 w → (w.cell? ⟨W.heap.size, 0, none⟩ = some (.int .i64 lo) ∧ w.cell? ⟨W.heap.size, 1, none⟩ = some (.int .i64 hi)) ∧ (w.cell? ⟨w5.heap.size, 0, none⟩ = some (.int .i64 pp) ∧ w.cell? ⟨w5.heap.size, 1, none⟩ = some (.int .i64 pv) ∧ w.cell? ⟨w5.heap.size, 2, none⟩ = some (.int .i64 po)) ∧
      (w.cell? ⟨w6.heap.size, 0, none⟩ = some (.int .i64 pp) ∧ w.cell? ⟨w6.heap.size, 1, none⟩ = some (.int .i64 pv) ∧ w.cell? ⟨w6.heap.size, 2, none⟩ = some (.int .i64 po)) ∧ (w.cell? ⟨w7.heap.size, 0, none⟩ = some (.int .i64 fp) ∧ w.cell? ⟨w7.heap.size, 1, none⟩ = some (.int .i64 fv) ∧ w.cell? ⟨w7.heap.size, 2, none⟩ = some (.int .i64 fo)) ∧
      w.cell? ⟨w8.heap.size, 0, none⟩ = some (.int .i64 fp) ∧ w.cell? ⟨w8.heap.size, 1, none⟩ = some (.int .i64 fv) ∧ w.cell? ⟨w8.heap.size, 2, none⟩ = some (.int .i64 fo) := fun w h =>
    ⟨hcell w (sV.trans (h.mono sV.size)), z5 w (s5.trans (h.mono s5.size)), z6 w (s6.trans (h.mono s6.size)), z7 w (s7.trans (h.mono s7.size)), z8 w (s8.trans (h.mono s8.size))⟩
  have cL1 := fun w (h : Below U9.heap.size U9 w) => cAl _ _ _ w (k9'.below h)
  have cL2 := fun w (h : Below U9.heap.size U9 w) => cRA _ _ _ w (k9'.below h)
  have hgl : ∀ w, Below U9.heap.size U9 w → Gl w := fun w h => (hgl' w (sV.trans (h.mono sV.size))).1
  have hend : ∀ w, Below U9.heap.size U9 w → Below W.heap.size W w := fun w h => (hgl' w (sV.trans (h.mono sV.size))).2
  replace hfac := Lib.hid hfac
  replace hend := Lib.hid hend
  clear v0 v1 z5 z6 z7 z8 z9 s5 s6 s7 s8 sV hcell hgl' cAl cRA hnx k9 k9' hs5 hs6 hs7 hs8 hs9 hb6 hb7 hb8 hb9 hbV hb1 hb1V c0 c1
  refine GoL.start (S := fun _ w => Below U9.heap.size U9 w) (by kernel_rfl) (Below.refl _ _).drew ?_
  have hS : Below U9.heap.size U9 U9.drew := (Below.refl _ _).drew
  refine GoL.take (i := 0) (v := ?_) rfl rfl (by kernel_rfl) (fun _ _ _ h => h) (fun _ _ => Iff.rfl) (by rfl) ?_ ?_
  rotate_left
  · intro wx hwx
    have hwx := Wi.at' hwx
    obtain ⟨⟨v0, v1⟩, ⟨p0, p1, p2⟩, ⟨q0, q1, q2⟩, ⟨u0, u1, u2⟩, r0, r1, r2⟩ := hfac.out wx hwx
    go_simp
    all_goals first
      | done
      | with_reducible rfl
      | assumption
      | (simp_all; done)
  try simp only [Act.put, List.setIfInBounds_toArray, List.set_cons_zero, List.set_cons_succ, List.getElem_toArray, List.getElem_cons_zero, List.getElem_cons_succ]
  refine GoL.take (i := 1) (v := ?_) rfl rfl (by kernel_rfl) (fun _ _ _ h => h) (fun _ _ => Iff.rfl) (by rfl) ?_ ?_
  rotate_left
  · intro wx hwx
    have hwx := Wi.at' hwx
    obtain ⟨⟨v0, v1⟩, ⟨p0, p1, p2⟩, ⟨q0, q1, q2⟩, ⟨u0, u1, u2⟩, r0, r1, r2⟩ := hfac.out wx hwx
    go_simp
    all_goals first
      | done
      | with_reducible rfl
      | assumption
      | (simp_all; done)
  try simp only [Act.put, List.setIfInBounds_toArray, List.set_cons_zero, List.set_cons_succ, List.getElem_toArray, List.getElem_cons_zero, List.getElem_cons_succ]
  refine GoL.on (rs := [2]) (by kernel_rfl) (by decide) ?_
  refine OnL.cons rfl ?_ OnL.nil
  intro K hK
  replace hK := Lib.hid hK
  go_simp
  refine (cW1 _).mono ?_
  rintro e wa ⟨rfl, hbx⟩
  have hS := hS.trans (hbx.mono hS.size)
  clear hbx
  refine hK.out _ _ hS ?_
  clear hK
  try simp only [Act.put, List.setIfInBounds_toArray, List.set_cons_zero, List.set_cons_succ, List.getElem_toArray, List.getElem_cons_zero, List.getElem_cons_succ]
  refine GoL.take (i := 3) (v := (.bool true)) rfl rfl (by kernel_rfl) (fun _ _ _ h => h) (fun _ _ => Iff.rfl) (by rfl) ?_ ?_
  · intro wx hwx
    have hwx := Wi.at' hwx
    go_simp
    all_goals first
      | done
      | with_reducible rfl
      | assumption
      | (simp_all; done)
  try simp only [Act.put, List.setIfInBounds_toArray, List.set_cons_zero, List.set_cons_succ, List.getElem_toArray, List.getElem_cons_zero, List.getElem_cons_succ]
  refine GoL.take (i := 4) (v := ?_) rfl rfl (by kernel_rfl) (fun _ _ _ h => h) (fun _ _ => Iff.rfl) (by rfl) ?_ ?_
  rotate_left
  · intro wx hwx
    have hwx := Wi.at' hwx
    go_simp
    all_goals first
      | done
      | with_reducible rfl
      | assumption
      | (simp_all; done)
  try simp only [Act.put, List.setIfInBounds_toArray, List.set_cons_zero, List.set_cons_succ, List.getElem_toArray, List.getElem_cons_zero, List.getElem_cons_succ]
  refine GoL.take (i := 5) (v := ?_) rfl rfl (by kernel_rfl) (fun _ _ _ h => h) (fun _ _ => Iff.rfl) (by rfl) ?_ ?_
  rotate_left
  · intro wx hwx
    have hwx := Wi.at' hwx
    go_simp
    all_goals first
      | done
      | with_reducible rfl
      | assumption
      | (simp_all; done)
  try simp only [Act.put, List.setIfInBounds_toArray, List.set_cons_zero, List.set_cons_succ, List.getElem_toArray, List.getElem_cons_zero, List.getElem_cons_succ]
  refine GoL.take (i := 6) (v := ?_) rfl rfl (by kernel_rfl) (fun _ _ _ h => h) (fun _ _ => Iff.rfl) (by rfl) ?_ ?_
  rotate_left
  · intro wx hwx
    have hwx := Wi.at' hwx
    go_simp
    all_goals first
      | done
      | with_reducible rfl
      | assumption
      | (simp_all; done)
  try simp only [Act.put, List.setIfInBounds_toArray, List.set_cons_zero, List.set_cons_succ, List.getElem_toArray, List.getElem_cons_zero, List.getElem_cons_succ]
  refine GoL.take (i := 7) (v := (.bool true)) rfl rfl (by kernel_rfl) (fun _ _ _ h => h) (fun _ _ => Iff.rfl) (by rfl) ?_ ?_
  · intro wx hwx
    have hwx := Wi.at' hwx
    go_simp
    all_goals first
      | done
      | with_reducible rfl
      | assumption
      | (simp_all; done)
  try simp only [Act.put, List.setIfInBounds_toArray, List.set_cons_zero, List.set_cons_succ, List.getElem_toArray, List.getElem_cons_zero, List.getElem_cons_succ]
  refine GoL.take (i := 8) (v := (.bool true)) rfl rfl (by kernel_rfl) (fun _ _ _ h => h) (fun _ _ => Iff.rfl) (by rfl) ?_ ?_
  · intro wx hwx
    have hwx := Wi.at' hwx
    go_simp
    all_goals first
      | done
      | with_reducible rfl
      | assumption
      | (simp_all; done)
  try simp only [Act.put, List.setIfInBounds_toArray, List.set_cons_zero, List.set_cons_succ, List.getElem_toArray, List.getElem_cons_zero, List.getElem_cons_succ]
  refine GoL.take (i := 9) (v := ?_) rfl rfl (by kernel_rfl) (fun _ _ _ h => h) (fun _ _ => Iff.rfl) (by rfl) ?_ ?_
  rotate_left
  · intro wx hwx
    have hwx := Wi.at' hwx
    go_simp
    all_goals first
      | done
      | with_reducible rfl
      | assumption
      | (simp_all; done)
  try simp only [Act.put, List.setIfInBounds_toArray, List.set_cons_zero, List.set_cons_succ, List.getElem_toArray, List.getElem_cons_zero, List.getElem_cons_succ]
  refine GoL.take (i := 10) (v := ?_) rfl rfl (by kernel_rfl) (fun _ _ _ h => h) (fun _ _ => Iff.rfl) (by rfl) ?_ ?_
  rotate_left
  · intro wx hwx
    have hwx := Wi.at' hwx
    obtain ⟨⟨v0, v1⟩, ⟨p0, p1, p2⟩, ⟨q0, q1, q2⟩, ⟨u0, u1, u2⟩, r0, r1, r2⟩ := hfac.out wx hwx
    go_simp
    all_goals first
      | done
      | with_reducible rfl
      | assumption
      | (simp_all; done)
  try simp only [Act.put, List.setIfInBounds_toArray, List.set_cons_zero, List.set_cons_succ, List.getElem_toArray, List.getElem_cons_zero, List.getElem_cons_succ]
  refine GoL.take (i := 11) (v := ?_) rfl rfl (by kernel_rfl) (fun _ _ _ h => h) (fun _ _ => Iff.rfl) (by rfl) ?_ ?_
  rotate_left
  · intro wx hwx
    have hwx := Wi.at' hwx
    obtain ⟨⟨v0, v1⟩, ⟨p0, p1, p2⟩, ⟨q0, q1, q2⟩, ⟨u0, u1, u2⟩, r0, r1, r2⟩ := hfac.out wx hwx
    go_simp
    all_goals first
      | done
      | with_reducible rfl
      | assumption
      | (simp_all; done)
  try simp only [Act.put, List.setIfInBounds_toArray, List.set_cons_zero, List.set_cons_succ, List.getElem_toArray, List.getElem_cons_zero, List.getElem_cons_succ]
  refine GoL.on (rs := [12]) (by kernel_rfl) (by decide) ?_
  refine OnL.cons rfl ?_ OnL.nil
  intro K hK
  replace hK := Lib.hid hK
  go_simp
  refine (cW2 _).mono ?_
  rintro e wb ⟨rfl, hbx⟩
  have hS := hS.trans (hbx.mono hS.size)
  clear hbx
  refine hK.out _ _ hS ?_
  clear hK
  try simp only [Act.put, List.setIfInBounds_toArray, List.set_cons_zero, List.set_cons_succ, List.getElem_toArray, List.getElem_cons_zero, List.getElem_cons_succ]
  refine GoL.take (i := 13) (v := (.bool true)) rfl rfl (by kernel_rfl) (fun _ _ _ h => h) (fun _ _ => Iff.rfl) (by rfl) ?_ ?_
  · intro wx hwx
    have hwx := Wi.at' hwx
    go_simp
    all_goals first
      | done
      | with_reducible rfl
      | assumption
      | (simp_all; done)
  try simp only [Act.put, List.setIfInBounds_toArray, List.set_cons_zero, List.set_cons_succ, List.getElem_toArray, List.getElem_cons_zero, List.getElem_cons_succ]
  refine GoL.take (i := 14) (v := (.bool true)) rfl rfl (by kernel_rfl) (fun _ _ _ h => h) (fun _ _ => Iff.rfl) (by rfl) ?_ ?_
  · intro wx hwx
    have hwx := Wi.at' hwx
    go_simp
    all_goals first
      | done
      | with_reducible rfl
      | assumption
      | (simp_all; done)
  try simp only [Act.put, List.setIfInBounds_toArray, List.set_cons_zero, List.set_cons_succ, List.getElem_toArray, List.getElem_cons_zero, List.getElem_cons_succ]
  refine GoL.take (i := 15) (v := ?_) rfl rfl (by kernel_rfl) (fun _ _ _ h => h) (fun _ _ => Iff.rfl) (by rfl) ?_ ?_
  rotate_left
  · intro wx hwx
    have hwx := Wi.at' hwx
    go_simp
    all_goals first
      | done
      | with_reducible rfl
      | assumption
      | (simp_all; done)
  try simp only [Act.put, List.setIfInBounds_toArray, List.set_cons_zero, List.set_cons_succ, List.getElem_toArray, List.getElem_cons_zero, List.getElem_cons_succ]
  refine GoL.take (i := 16) (v := ?_) rfl rfl (by kernel_rfl) (fun _ _ _ h => h) (fun _ _ => Iff.rfl) (by rfl) ?_ ?_
  rotate_left
  · intro wx hwx
    have hwx := Wi.at' hwx
    go_simp
    all_goals first
      | done
      | with_reducible rfl
      | assumption
      | (simp_all; done)
  try simp only [Act.put, List.setIfInBounds_toArray, List.set_cons_zero, List.set_cons_succ, List.getElem_toArray, List.getElem_cons_zero, List.getElem_cons_succ]
  refine GoL.take (i := 17) (v := ?_) rfl rfl (by kernel_rfl) (fun _ _ _ h => h) (fun _ _ => Iff.rfl) (by rfl) ?_ ?_
  rotate_left
  · intro wx hwx
    have hwx := Wi.at' hwx
    go_simp
    all_goals first
      | done
      | with_reducible rfl
      | assumption
      | (simp_all; done)
  try simp only [Act.put, List.setIfInBounds_toArray, List.set_cons_zero, List.set_cons_succ, List.getElem_toArray, List.getElem_cons_zero, List.getElem_cons_succ]
  refine GoL.take (i := 18) (v := (.bool true)) rfl rfl (by kernel_rfl) (fun _ _ _ h => h) (fun _ _ => Iff.rfl) (by rfl) ?_ ?_
  · intro wx hwx
    have hwx := Wi.at' hwx
    go_simp
    all_goals first
      | done
      | with_reducible rfl
      | assumption
      | (simp_all; done)
  try simp only [Act.put, List.setIfInBounds_toArray, List.set_cons_zero, List.set_cons_succ, List.getElem_toArray, List.getElem_cons_zero, List.getElem_cons_succ]
  refine GoL.take (i := 19) (v := (.bool true)) rfl rfl (by kernel_rfl) (fun _ _ _ h => h) (fun _ _ => Iff.rfl) (by rfl) ?_ ?_
  · intro wx hwx
    have hwx := Wi.at' hwx
    go_simp
    all_goals first
      | done
      | with_reducible rfl
      | assumption
      | (simp_all; done)
  try simp only [Act.put, List.setIfInBounds_toArray, List.set_cons_zero, List.set_cons_succ, List.getElem_toArray, List.getElem_cons_zero, List.getElem_cons_succ]
  refine GoL.take (i := 20) (v := ?_) rfl rfl (by kernel_rfl) (fun _ _ _ h => h) (fun _ _ => Iff.rfl) (by rfl) ?_ ?_
  rotate_left
  · intro wx hwx
    have hwx := Wi.at' hwx
    go_simp
    all_goals first
      | done
      | with_reducible rfl
      | assumption
      | (simp_all; done)
  try simp only [Act.put, List.setIfInBounds_toArray, List.set_cons_zero, List.set_cons_succ, List.getElem_toArray, List.getElem_cons_zero, List.getElem_cons_succ]
  refine GoL.take (i := 21) (v := ?_) rfl rfl (by kernel_rfl) (fun _ _ _ h => h) (fun _ _ => Iff.rfl) (by rfl) ?_ ?_
  rotate_left
  · intro wx hwx
    have hwx := Wi.at' hwx
    go_simp
    all_goals first
      | done
      | with_reducible rfl
      | assumption
      | (simp_all; done)
  try simp only [Act.put, List.setIfInBounds_toArray, List.set_cons_zero, List.set_cons_succ, List.getElem_toArray, List.getElem_cons_zero, List.getElem_cons_succ]
  refine GoL.take (i := 22) (v := ?_) rfl rfl (by kernel_rfl) (fun _ _ _ h => h) (fun _ _ => Iff.rfl) (by rfl) ?_ ?_
  rotate_left
  · intro wx hwx
    have hwx := Wi.at' hwx
    go_simp
    all_goals first
      | done
      | with_reducible rfl
      | assumption
      | (simp_all; done)
  try simp only [Act.put, List.setIfInBounds_toArray, List.set_cons_zero, List.set_cons_succ, List.getElem_toArray, List.getElem_cons_zero, List.getElem_cons_succ]
  refine GoL.take (i := 23) (v := ?_) rfl rfl (by kernel_rfl) (fun _ _ _ h => h) (fun _ _ => Iff.rfl) (by rfl) ?_ ?_
  rotate_left
  · intro wx hwx
    have hwx := Wi.at' hwx
    obtain ⟨⟨v0, v1⟩, ⟨p0, p1, p2⟩, ⟨q0, q1, q2⟩, ⟨u0, u1, u2⟩, r0, r1, r2⟩ := hfac.out wx hwx
    go_simp
    all_goals first
      | done
      | with_reducible rfl
      | assumption
      | (simp_all; done)
  try simp only [Act.put, List.setIfInBounds_toArray, List.set_cons_zero, List.set_cons_succ, List.getElem_toArray, List.getElem_cons_zero, List.getElem_cons_succ]
  refine GoL.take (i := 25) (v := ?_) rfl rfl (by kernel_rfl) (fun _ _ _ h => h) (fun _ _ => Iff.rfl) (by rfl) ?_ ?_
  rotate_left
  · intro wx hwx
    have hwx := Wi.at' hwx
    go_simp
    all_goals first
      | done
      | with_reducible rfl
      | assumption
      | (simp_all; done)
  try simp only [Act.put, List.setIfInBounds_toArray, List.set_cons_zero, List.set_cons_succ, List.getElem_toArray, List.getElem_cons_zero, List.getElem_cons_succ]
  refine GoL.take (i := 26) (v := ?_) rfl rfl (by kernel_rfl) (fun _ _ _ h => h) (fun _ _ => Iff.rfl) (by rfl) ?_ ?_
  rotate_left
  · intro wx hwx
    have hwx := Wi.at' hwx
    go_simp
    all_goals first
      | done
      | with_reducible rfl
      | assumption
      | (simp_all; done)
  try simp only [Act.put, List.setIfInBounds_toArray, List.set_cons_zero, List.set_cons_succ, List.getElem_toArray, List.getElem_cons_zero, List.getElem_cons_succ]
  refine GoL.take (i := 27) (v := ?_) rfl rfl (by kernel_rfl) (fun _ _ _ h => h) (fun _ _ => Iff.rfl) (by rfl) ?_ ?_
  rotate_left
  · intro wx hwx
    have hwx := Wi.at' hwx
    obtain ⟨⟨v0, v1⟩, ⟨p0, p1, p2⟩, ⟨q0, q1, q2⟩, ⟨u0, u1, u2⟩, r0, r1, r2⟩ := hfac.out wx hwx
    go_simp
    all_goals first
      | done
      | with_reducible rfl
      | assumption
      | (simp_all; done)
  try simp only [Act.put, List.setIfInBounds_toArray, List.set_cons_zero, List.set_cons_succ, List.getElem_toArray, List.getElem_cons_zero, List.getElem_cons_succ]
  refine GoL.on (rs := [24]) (by kernel_rfl) (by decide) ?_
  refine OnL.cons rfl ?_ OnL.nil
  intro K hK
  replace hK := Lib.hid hK
  go_simp
  refine (cL1 _ hS).mono ?_
  rintro e wc ⟨ao1, cap1, rfl, hI1, hbx⟩
  have hS := hS.trans (hbx.mono hS.size)
  clear hbx
  refine hK.out _ _ hS ?_
  clear hK
  try simp only [Act.put, List.setIfInBounds_toArray, List.set_cons_zero, List.set_cons_succ, List.getElem_toArray, List.getElem_cons_zero, List.getElem_cons_succ]
  refine GoL.on (rs := [28]) (by kernel_rfl) (by decide) ?_
  refine OnL.cons rfl ?_ OnL.nil
  intro K hK
  replace hK := Lib.hid hK
  go_simp
  refine (cL2 _ hS).mono ?_
  rintro e wd ⟨cap2, ao2, rfl, hI2, hbx⟩
  replace hI1 := hI1.below hbx
  have hS := hS.trans (hbx.mono hS.size)
  clear hbx
  refine hK.out _ _ hS ?_
  clear hK
  try simp only [Act.put, List.setIfInBounds_toArray, List.set_cons_zero, List.set_cons_succ, List.getElem_toArray, List.getElem_cons_zero, List.getElem_cons_succ]
  refine GoL.on (rs := [29]) (by kernel_rfl) (by decide) ?_
  refine OnL.cons rfl ?_ OnL.nil
  intro K hK
  replace hK := Lib.hid hK
  go_simp
  refine (cS _ _ _ _ _ hI1 hI2).mono ?_
  rintro e we ⟨rfl, hbx⟩
  clear hI1 hI2
  have hS := hS.trans (hbx.mono hS.size)
  clear hbx
  refine hK.out _ _ hS ?_
  clear hK
  try simp only [Act.put, List.setIfInBounds_toArray, List.set_cons_zero, List.set_cons_succ, List.getElem_toArray, List.getElem_cons_zero, List.getElem_cons_succ]
  refine GoL.take (i := 30) (v := (.bool true)) rfl rfl (by kernel_rfl) (fun _ _ _ h => h) (fun _ _ => Iff.rfl) (by rfl) ?_ ?_
  · intro wx hwx
    have hwx := Wi.at' hwx
    go_simp
    all_goals first
      | done
      | with_reducible rfl
      | assumption
      | (simp_all; done)
  try simp only [Act.put, List.setIfInBounds_toArray, List.set_cons_zero, List.set_cons_succ, List.getElem_toArray, List.getElem_cons_zero, List.getElem_cons_succ]
  refine GoL.take (i := 31) (v := ?_) rfl rfl (by kernel_rfl) (fun _ _ _ h => h) (fun _ _ => Iff.rfl) (by rfl) ?_ ?_
  rotate_left
  · intro wx hwx
    have hwx := Wi.at' hwx
    go_simp
    all_goals first
      | done
      | with_reducible rfl
      | assumption
      | (simp_all; done)
  try simp only [Act.put, List.setIfInBounds_toArray, List.set_cons_zero, List.set_cons_succ, List.getElem_toArray, List.getElem_cons_zero, List.getElem_cons_succ]
  refine GoL.take (i := 32) (v := ?_) rfl rfl (by kernel_rfl) (fun _ _ _ h => h) (fun _ _ => Iff.rfl) (by rfl) ?_ ?_
  rotate_left
  · intro wx hwx
    have hwx := Wi.at' hwx
    go_simp
    all_goals first
      | done
      | with_reducible rfl
      | assumption
      | (simp_all; done)
  try simp only [Act.put, List.setIfInBounds_toArray, List.set_cons_zero, List.set_cons_succ, List.getElem_toArray, List.getElem_cons_zero, List.getElem_cons_succ]
  refine GoL.take (i := 33) (v := ?_) rfl rfl (by kernel_rfl) (fun _ _ _ h => h) (fun _ _ => Iff.rfl) (by rfl) ?_ ?_
  rotate_left
  · intro wx hwx
    have hwx := Wi.at' hwx
    obtain ⟨⟨v0, v1⟩, ⟨p0, p1, p2⟩, ⟨q0, q1, q2⟩, ⟨u0, u1, u2⟩, r0, r1, r2⟩ := hfac.out wx hwx
    go_simp
    all_goals first
      | done
      | with_reducible rfl
      | assumption
      | (simp_all; done)
  try simp only [Act.put, List.setIfInBounds_toArray, List.set_cons_zero, List.set_cons_succ, List.getElem_toArray, List.getElem_cons_zero, List.getElem_cons_succ]
  refine GoL.on (rs := [34]) (by kernel_rfl) (by decide) ?_
  refine OnL.cons rfl ?_ OnL.nil
  intro K hK
  replace hK := Lib.hid hK
  go_simp
  refine (cL3 _).mono ?_
  rintro e wf ⟨ao3, cap3, rfl, hbx⟩
  have hS := hS.trans (hbx.mono hS.size)
  clear hbx
  refine hK.out _ _ hS ?_
  clear hK
  try simp only [Act.put, List.setIfInBounds_toArray, List.set_cons_zero, List.set_cons_succ, List.getElem_toArray, List.getElem_cons_zero, List.getElem_cons_succ]
  refine GoL.take (i := 35) (v := ?_) rfl rfl (by kernel_rfl) (fun _ _ _ h => h) (fun _ _ => Iff.rfl) (by rfl) ?_ ?_
  rotate_left
  · intro wx hwx
    have hwx := Wi.at' hwx
    go_simp
    all_goals first
      | done
      | with_reducible rfl
      | assumption
      | (simp_all; done)
  try simp only [Act.put, List.setIfInBounds_toArray, List.set_cons_zero, List.set_cons_succ, List.getElem_toArray, List.getElem_cons_zero, List.getElem_cons_succ]
  refine GoL.take (i := 36) (v := (.bool true)) rfl rfl (by kernel_rfl) (fun _ _ _ h => h) (fun _ _ => Iff.rfl) (by rfl) ?_ ?_
  · intro wx hwx
    have hwx := Wi.at' hwx
    go_simp
    all_goals first
      | done
      | with_reducible rfl
      | assumption
      | (simp_all; done)
  try simp only [Act.put, List.setIfInBounds_toArray, List.set_cons_zero, List.set_cons_succ, List.getElem_toArray, List.getElem_cons_zero, List.getElem_cons_succ]
  refine GoL.take (i := 37) (v := (.bool true)) rfl rfl (by kernel_rfl) (fun _ _ _ h => h) (fun _ _ => Iff.rfl) (by rfl) ?_ ?_
  · intro wx hwx
    have hwx := Wi.at' hwx
    go_simp
    all_goals first
      | done
      | with_reducible rfl
      | assumption
      | (simp_all; done)
  try simp only [Act.put, List.setIfInBounds_toArray, List.set_cons_zero, List.set_cons_succ, List.getElem_toArray, List.getElem_cons_zero, List.getElem_cons_succ]
  refine GoL.take (i := 38) (v := ?_) rfl rfl (by kernel_rfl) (fun _ _ _ h => h) (fun _ _ => Iff.rfl) (by rfl) ?_ ?_
  rotate_left
  · intro wx hwx
    have hwx := Wi.at' hwx
    go_simp
    all_goals first
      | done
      | with_reducible rfl
      | assumption
      | (simp_all; done)
  try simp only [Act.put, List.setIfInBounds_toArray, List.set_cons_zero, List.set_cons_succ, List.getElem_toArray, List.getElem_cons_zero, List.getElem_cons_succ]
  refine GoL.take (i := 39) (v := ?_) rfl rfl (by kernel_rfl) (fun _ _ _ h => h) (fun _ _ => Iff.rfl) (by rfl) ?_ ?_
  rotate_left
  · intro wx hwx
    have hwx := Wi.at' hwx
    go_simp
    all_goals first
      | done
      | with_reducible rfl
      | assumption
      | (simp_all; done)
  try simp only [Act.put, List.setIfInBounds_toArray, List.set_cons_zero, List.set_cons_succ, List.getElem_toArray, List.getElem_cons_zero, List.getElem_cons_succ]
  refine GoL.take (i := 40) (v := (.bool true)) rfl rfl (by kernel_rfl) (fun _ _ _ h => h) (fun _ _ => Iff.rfl) (by rfl) ?_ ?_
  · intro wx hwx
    have hwx := Wi.at' hwx
    go_simp
    all_goals first
      | done
      | with_reducible rfl
      | assumption
      | (simp_all; done)
  try simp only [Act.put, List.setIfInBounds_toArray, List.set_cons_zero, List.set_cons_succ, List.getElem_toArray, List.getElem_cons_zero, List.getElem_cons_succ]
  refine GoL.take (i := 41) (v := (.bool true)) rfl rfl (by kernel_rfl) (fun _ _ _ h => h) (fun _ _ => Iff.rfl) (by rfl) ?_ ?_
  · intro wx hwx
    have hwx := Wi.at' hwx
    go_simp
    all_goals first
      | done
      | with_reducible rfl
      | assumption
      | (simp_all; done)
  try simp only [Act.put, List.setIfInBounds_toArray, List.set_cons_zero, List.set_cons_succ, List.getElem_toArray, List.getElem_cons_zero, List.getElem_cons_succ]
  refine GoL.take (i := 42) (v := ?_) rfl rfl (by kernel_rfl) (fun _ _ _ h => h) (fun _ _ => Iff.rfl) (by rfl) ?_ ?_
  rotate_left
  · intro wx hwx
    have hwx := Wi.at' hwx
    go_simp
    all_goals first
      | done
      | with_reducible rfl
      | assumption
      | (simp_all; done)
  try simp only [Act.put, List.setIfInBounds_toArray, List.set_cons_zero, List.set_cons_succ, List.getElem_toArray, List.getElem_cons_zero, List.getElem_cons_succ]
  refine GoL.on (rs := [43]) (by kernel_rfl) (by decide) ?_
  refine OnL.cons rfl ?_ OnL.nil
  intro K hK
  replace hK := Lib.hid hK
  go_simp
  refine (cA _ (hgl _ hS)).mono ?_
  rintro e wg ⟨rfl, hbx⟩
  have hS := hS.trans (hbx.mono hS.size)
  clear hbx
  refine hK.out _ _ hS ?_
  clear hK
  try simp only [Act.put, List.setIfInBounds_toArray, List.set_cons_zero, List.set_cons_succ, List.getElem_toArray, List.getElem_cons_zero, List.getElem_cons_succ]
  refine GoL.take (i := 44) (v := (.bool true)) rfl rfl (by kernel_rfl) (fun _ _ _ h => h) (fun _ _ => Iff.rfl) (by rfl) ?_ ?_
  · intro wx hwx
    have hwx := Wi.at' hwx
    go_simp
    all_goals first
      | done
      | with_reducible rfl
      | assumption
      | (simp_all; done)
  try simp only [Act.put, List.setIfInBounds_toArray, List.set_cons_zero, List.set_cons_succ, List.getElem_toArray, List.getElem_cons_zero, List.getElem_cons_succ]
  refine GoL.take (i := 45) (v := ?_) rfl rfl (by kernel_rfl) (fun _ _ _ h => h) (fun _ _ => Iff.rfl) (by rfl) ?_ ?_
  rotate_left
  · intro wx hwx
    have hwx := Wi.at' hwx
    go_simp
    all_goals first
      | done
      | with_reducible rfl
      | assumption
      | (simp_all; done)
  try simp only [Act.put, List.setIfInBounds_toArray, List.set_cons_zero, List.set_cons_succ, List.getElem_toArray, List.getElem_cons_zero, List.getElem_cons_succ]
  refine GoL.done (by kernel_rfl) ?_
  refine NoPanic.normal ?_
  have hfin := hend.out _ hS
  clear cW1 cW2 qE1 qE2 cL1 cL2 cL3 cS hfac hend
  go_wp2_with fail
  go_ret
  exact ⟨rfl, hfin⟩
end Go.Proofs.YtohenmnpmgghhaaGreatDoor
