/-
  What stage 17's laws call beside: priced, Own, has; alive; '==' of prices.
  ClearOrders. (Written by gen/p_cor.py.)
  ClearStays.
  ClearMost. (Written by gen/p_cmo.py.)
-/
import Derived.Test.YtohenmnpmgghhaaGreatDoorClsq
import Derived.Test.YtohenmnpmgghhaaGreatDoorGCg
namespace Go.Proofs.YtohenmnpmgghhaaGreatDoor
open Go.RowKit
set_option linter.unusedSimpArgs false
theorem eqIn_Pcc (a b : Prc) (w : World) : (Op.equalIn 10000 32 (vPrc a) (vPrc b)).run Tryz.prog w = .ok (eqPrc a b) w := by
  have hu := Tryz.underlying32
  have hf : Tryz.prog.underlying 32 = some (.struct (Tryz.prog.fieldsOf 32)) := by rw [Program.fieldsOf, hu]
  have uint64 := Tryz.underlying2
  rw [show (10000 : Nat) = 9999 + 1 from rfl, run_equalIn_agg w 9999 _ _ _ hf (by kernel_rfl), Program.fieldsOf, hu]
  simp only [Op.eqFields]
  unfold eqPrc
  simp [go_sem, part]
  clear hu hf uint64
  simp only [Bool.and_assoc]
  exact eqPrc_step _ _ w (eqPrc_step _ _ w (eqPrc_last _ w))
theorem eql_Pcc (a b : Prc) (w : World) : (binOp .eql 32 (vPrc a) (vPrc b)).run Tryz.prog w = .ok (.bool (eqPrc a b)) w := by
  rw [run_eql_struct, eqIn_Pcc]; rfl
theorem neq_Pcc (a b : Prc) (w : World) : (binOp .neq 32 (vPrc a) (vPrc b)).run Tryz.prog w = .ok (.bool (!eqPrc a b)) w := by
  rw [run_neq_struct, eqIn_Pcc]; rfl
/-- A price as the program's. -/
theorem own17_any (m : Prc) (W : World) : Calls Tryz.prog 14 #[vPrc m] W fun e w' => e = .returned (vPrc m) ∧ Below W.heap.size W w' := by
  obtain ⟨x, d, s⟩ := m
  simp only [vPrc, cPrc]
  obtain ⟨W1, hW1⟩ : ∃ W1, W1 = (W.alloc (.cells #[.int .i64 x, .int .i64 d, .int .i64 s] 35)).alloc (.cells #[.int .i64 0, .int .i64 0, .int .i64 0] 32) := ⟨_, rfl⟩
  have hB : Blk W1 W.heap.size 35 (cPrc ⟨x, d, s⟩) := by rw [hW1]; exact (Blk.new _ _ _).alloc _
  have hR : Blk W1 (W.heap.size + 1) 32 (cPrc .zero) := by rw [hW1]; exact Blk.new' (by simp)
  have hF : Frm (fun _ => False) W W1 := by rw [hW1]; exact ((Frm.refl _ _).alloc _).alloc _
  obtain ⟨c0, c1, c2⟩ := Prc.cells hB
  obtain ⟨z0, z1, z2⟩ := Prc.cells hR
  have hfr := hR.free
  obtain ⟨q0, q1, q2⟩ := Prc.cells (Prc.lay hR x d s)
  have hbel := (Prc.frm hF (.inr (show W.heap.size ≤ W.heap.size + 1 by omega)) (.int .i64 x) (.int .i64 d) (.int .i64 s)).below (Nat.le_refl _) (fun _ h => h.elim)
  simp only [Prc.zero] at c0 c1 c2 z0 z1 z2 q0 q1 q2
  clear hB hR hF
  go_enter Tryz.func14, Tryz.ntmps14
  go_wp2_with (rw [← hW1]; clear hW1)
  refine bodyPost_ret (v := .agg #[.int .i64 x, .int .i64 d, .int .i64 s]) ?_ rfl ?_
  rotate_left
  · exact ⟨rfl, hbel⟩
  simp [results, Tryz.results14, go_sem, q0, q1, q2]
def pricedB (l : List Int) : Bool := l.all fun z => decide (0 ≤ z ∧ z ≤ 1099511627776)
set_option maxRecDepth 8000 in
theorem priced_any {ao : Option Addr} {cap : Nat} (l : List Int) (hl : l.length ≤ 100) (W : World) (h : It .i64 W ao cap l) : Calls Tryz.prog 7 #[.slice ao l.length cap] W fun e w' => e = .returned (.bool (pricedB l)) ∧ w' = W := by
  obtain ⟨n, hn⟩ : ∃ n, n = l.length := ⟨_, rfl⟩
  rw [← hn] at hl ⊢
  replace hn := Lib.hid hn
  have hall : Hid ((l.take l.length).all (fun z => decide (0 ≤ z ∧ z ≤ 1099511627776)) = pricedB l) := Lib.hid (by rw [List.take_length]; rfl)
  go_enter Tryz.func7, Tryz.ntmps7
  go_wp2_with fail
  go_loopg [3] n (fun j p3 wr => ∃ q : Nat, q + j = n ∧ p3 = .int .i64 (q : Int) ∧ wr = W ∧ Hid ((l.take q).all (fun z => decide (0 ≤ z ∧ z ≤ 1099511627776)) = true))
  case atStart => exact ⟨0, by omega, rfl, rfl, Lib.hid rfl⟩
  case round =>
    obtain ⟨q, hqj, rfl, rfl, hq⟩ := hrel
    by_cases hqn : q < n
    · obtain ⟨x, hx⟩ : ∃ x, l[q]? = some x := ⟨_, List.getElem?_eq_getElem (by rw [← hn.out]; exact hqn)⟩
      obtain ⟨b1, o1, rfl, y1⟩ := h.get hx
      have u1 := y1 wr (Below.refl _ _)
      have hql : (q : Int) < (n : Int) := by omega
      have hbad : ¬ (0 ≤ x ∧ x ≤ 1099511627776) → Hid (pricedB l = false) := fun g => Lib.hid (by
        unfold pricedB
        rw [List.all_eq_false]
        exact ⟨x, List.mem_of_getElem? hx, by simpa using g⟩)
      have hgood : (0 ≤ x ∧ x ≤ 1099511627776) → Hid ((l.take (q + 1)).all (fun z => decide (0 ≤ z ∧ z ≤ 1099511627776)) = true) := fun g => Lib.hid (by
        rw [List.take_add_one, hx, List.all_append, hq.out]
        simp [g])
      clear h hx hq hall y1
      by_cases g1 : x < 0
      · have e1 : decide (x < 0) = true := decide_eq_true g1
        have hb := hbad (by omega)
        clear hbad hgood g1
        go_wp2_with fail
        go_ret
        exact ⟨by rw [hb.out]; rfl, rfl⟩
      · have e1 : decide (x < 0) = false := decide_eq_false g1
        by_cases g2 : 1099511627776 < x
        · have e2 : decide (1099511627776 < x) = true := decide_eq_true g2
          have hb := hbad (by omega)
          clear hbad hgood g1 g2
          go_wp2_with fail
          go_ret
          exact ⟨by rw [hb.out]; rfl, rfl⟩
        · have e2 : decide (1099511627776 < x) = false := decide_eq_false g2
          have hg := hgood (by omega)
          clear hbad hgood g1 g2
          go_wp2_with fail
          go_roundg (n - (q + 1))
          case measure => omega
          case rel => exact ⟨q + 1, by omega, by go_num, rfl, hg⟩
    · have e : q = n := by omega
      subst e
      have hql : ¬ (q : Int) < (q : Int) := by omega
      have hp : Hid (true = pricedB l) := Lib.hid (by rw [← hall.out, ← hn.out]; exact hq.out.symm)
      clear hall hq hn h
      go_wp2_with fail
      go_ret
      exact ⟨by rw [← hp.out]; rfl, rfl⟩
def oc1' : Ord := ⟨1, 0, 0, 10, 3, 0, 0⟩
def oc2' : Ord := ⟨2, 0, 1, 9, 2, 0, 0⟩
theorem oc_fit' : oc1'.Fit ∧ oc2'.Fit := by
  refine ⟨⟨?_, ?_, ?_, ?_, ?_, ?_, ?_⟩, ⟨?_, ?_, ?_, ?_, ?_, ?_, ?_⟩⟩ <;> (unfold In64; simp only [oc1', oc2']; omega)
theorem chs_ex : chsL (bks [oc1', oc2']).L 8 1 1099511627776 = (⟨9, 2, 1⟩, true) := rfl
set_option maxRecDepth 8000 in
set_option maxHeartbeats 4000000 in
theorem alive17_any (W : World) (hG : Gl W) : Calls Tryz.prog 8 #[] W fun e w' => e = .returned (.bool true) ∧ Below W.heap.size W w' := by
  obtain ⟨f1, f2⟩ := oc_fit'
  obtain ⟨W1, hW1⟩ : ∃ W1, W1 = W.alloc (.cells #[.int .i64 1, .int .i64 0, .int .i64 0, .int .i64 10, .int .i64 3, .int .i64 0, .int .i64 0, .int .i64 2, .int .i64 0, .int .i64 1, .int .i64 9, .int .i64 2, .int .i64 0, .int .i64 0] 52) := ⟨_, rfl⟩
  have hb1 : Below W.heap.size W W1 := by rw [hW1]; exact (Below.refl _ _).alloc (Nat.le_refl _) _
  have hB1 : Blk W1 W.heap.size 52 #[.int .i64 1, .int .i64 0, .int .i64 0, .int .i64 10, .int .i64 3, .int .i64 0, .int .i64 0, .int .i64 2, .int .i64 0, .int .i64 1, .int .i64 9, .int .i64 2, .int .i64 0, .int .i64 0] := by rw [hW1]; exact Blk.new _ _ _
  have hL : Ords W1 (some ⟨W.heap.size, 0, none⟩) 2 [oc1', oc2'] := by
    refine ⟨by simp, by simp [maxLen], .inr ⟨_, _, rfl, fun i m hi j v hj => ?_⟩⟩
    rcases i with _ | _ | i
    · cases hi
      have hlt : j < 7 := (Array.getElem?_eq_some_iff.1 hj).1
      refine hB1.cell_eq _ _ ?_
      rcases j with _ | _ | _ | _ | _ | _ | _ | j <;> first | exact hj | omega
    · cases hi
      have hlt : j < 7 := (Array.getElem?_eq_some_iff.1 hj).1
      refine hB1.cell_eq _ _ ?_
      rcases j with _ | _ | _ | _ | _ | _ | _ | j <;> first | exact hj | omega
    · simp at hi
  have hFF : ∀ m ∈ [oc1', oc2'], m.Fit := by
    intro m hm
    simp only [List.mem_cons, List.not_mem_nil, or_false] at hm
    rcases hm with rfl | rfl
    · exact f1
    · exact f2
  have cB : Calls Tryz.prog 9 #[.slice (some ⟨W.heap.size, 0, none⟩) 2 2] W1 _ := books_any _ _ [oc1', oc2'] W1 (hG.below hb1) hL hFF (by simp)
  have cF : ∀ g r w, Bb W1 (fun _ => False) g r 2 (bks [oc1', oc2']) (bks [oc1', oc2']) w → Calls Tryz.prog 12 #[.pointer (some ⟨g, 0, none⟩), .int .i64 8] w fun e w' => e = .returned (.tuple #[.agg #[.int .i64 9, .int .i64 2, .int .i64 1], .bool true]) ∧ Below W.heap.size W w' := by
    intro g r w h
    obtain ⟨Sp, Sr, h1, -⟩ := h.both
    have := cl_free 8 ⟨by omega, by omega⟩ h1
    rw [chs_ex] at this
    refine this.mono ?_
    rintro e w' ⟨he, hb⟩
    have hbw := hb1.trans ((h.frm.below (Nat.le_refl _) (fun _ f => f.elim)).mono hb1.size)
    exact ⟨he, hbw.trans (hb.mono hbw.size)⟩
  have q9 := fun w => eql_Pcc ⟨9, 2, 1⟩ ⟨9, 2, 1⟩ w
  rw [eqPrc_self] at q9
  simp only [vPrc, cPrc] at q9
  have hnx : ∀ w3, Below W.heap.size W w3 → ∃ V, V = w3.alloc (.cells #[.int .i64 9, .int .i64 2, .int .i64 1] 32) ∧ Below W.heap.size W V ∧ V.cell? ⟨w3.heap.size, 0, none⟩ = some (.int .i64 9) ∧ V.cell? ⟨w3.heap.size, 1, none⟩ = some (.int .i64 2) ∧ V.cell? ⟨w3.heap.size, 2, none⟩ = some (.int .i64 1) := fun w3 hb => by
    have hN := Blk.new w3 32 (cPrc ⟨9, 2, 1⟩)
    obtain ⟨z0, z1, z2⟩ := Prc.cells hN
    exact ⟨_, rfl, hb.alloc hb.size _, z0, z1, z2⟩
  clear hB1 hL hFF f1 f2
  go_enter Tryz.func8, Tryz.ntmps8
  go_wp2_with (first
    | (go_at_call 9; rw [← hW1]; refine cB.mono ?_; rintro e w2 ⟨g, r, rfl, k2⟩; clear cB hW1)
    | (go_at_call 12; (with_reducible refine (cF _ _ _ k2).mono ?_); rintro e w3 ⟨rfl, hb3⟩; clear cF; obtain ⟨V, hV, hbV, z0, z1, z2⟩ := hnx w3 hb3; clear hnx)
    | (rw [← hV]; clear hV)
    | fail)
  go_ret
  exact ⟨rfl, hbV⟩
section
variable {W : World} {r : Nat} {S : Nat → Prop} {b : Bk}
def hasB (L : List Ord) (p : Int) : Bool := L.any fun o => o.price == p
set_option maxRecDepth 8000 in
theorem has_any (p : Int) (hok : b.Ok) (h : RK W r S b) : Calls Tryz.prog 21 #[.pointer (some ⟨r, 0, none⟩), .int .i64 p] W fun e w' => e = .returned (.bool (hasB b.L p)) ∧ Below W.heap.size W w' := by
  obtain ⟨ko, ao, cap, h⟩ := h
  have hC := fun w (hb : Below W.heap.size W w) => (h.below hb).c2
  have hRw := fun w (hb : Below W.heap.size W w) => (h.below hb).rows
  have hlen : b.L.length ≤ 500 := by
    have := hok.len
    have := hok.s2
    omega
  have hall : Hid ((b.L.take b.L.length).any (fun o => o.price == p) = hasB b.L p) := Lib.hid (by rw [List.take_length]; rfl)
  clear h hok
  generalize b.L = l at *
  obtain ⟨n, hn⟩ : ∃ n, n = l.length := ⟨_, rfl⟩
  rw [← hn] at hall hlen
  simp only [← hn] at hC
  replace hn := Lib.hid hn
  go_enter Tryz.func21, Tryz.ntmps21
  go_wp2_with fail
  go_loopg [5] n (fun j p5 wr => ∃ q : Nat, q + j = n ∧ p5 = .int .i64 (q : Int) ∧ Below W.heap.size W wr ∧ Hid ((l.take q).any (fun o => o.price == p) = false))
  case atStart => exact ⟨0, by omega, rfl, Below.refl _ _, Lib.hid rfl⟩
  case round =>
    obtain ⟨q, hqj, rfl, hb, hq⟩ := hrel
    have c2 := hC _ hb
    by_cases hqn : q < n
    · obtain ⟨x, hx⟩ : ∃ x, l[q]? = some x := ⟨_, List.getElem?_eq_getElem (by rw [← hn.out]; exact hqn)⟩
      obtain ⟨bx, offx, rfl, -, -, -, y3, -⟩ := (hRw _ hb).get hx
      have hql : (q : Int) < (n : Int) := by omega
      have hyes : (x.price == p) = true → Hid (hasB l p = true) := fun g => Lib.hid (by
        unfold hasB
        rw [List.any_eq_true]
        exact ⟨x, List.mem_of_getElem? hx, g⟩)
      have hno : (x.price == p) = false → Hid ((l.take (q + 1)).any (fun o => o.price == p) = false) := fun g => Lib.hid (by
        rw [List.take_add_one, hx, List.any_append, hq.out]
        simp [g])
      clear hx hq hall hRw
      generalize x.price = xp at *
      cases g : (xp == p) with
      | true =>
        have hy := hyes g
        clear hyes hno
        go_wp2_with fail
        go_ret
        exact ⟨by rw [hy.out]; rfl, hb⟩
      | false =>
        have hn2 := hno g
        clear hyes hno
        go_wp2_with fail
        go_roundg (n - (q + 1))
        case measure => omega
        case rel => exact ⟨q + 1, by omega, by go_num, hb, hn2⟩
    · have e : q = n := by omega
      subst e
      have hql : ¬ (q : Int) < (q : Int) := by omega
      have hp : Hid (false = hasB l p) := Lib.hid (by rw [← hall.out]; exact hq.out.symm)
      clear hall hq hn hRw
      go_wp2_with fail
      go_ret
      exact ⟨by rw [← hp.out]; rfl, hb⟩
end
end Go.Proofs.YtohenmnpmgghhaaGreatDoor
namespace Go.Proofs.YtohenmnpmgghhaaGreatDoor
open Go.RowKit
set_option linter.unusedSimpArgs false
set_option maxRecDepth 8000 in
set_option maxHeartbeats 8000000 in
theorem corders_any (a b : Prc) (r : Int) (ha : a.Fit) (hb : b.Fit) (hr : In64 r) (W : World) (hG : Gl W) : Calls Tryz.prog 4 #[vPrc a, vPrc b, .int .i64 r] W fun e w' => e = .returned (.bool true) ∧ Below W.heap.size W w' := by
  obtain ⟨W1, hW1⟩ : ∃ W1, W1 = (W.alloc (.cells (cPrc a) 35)).alloc (.cells (cPrc b) 35) := ⟨_, rfl⟩
  have m1 : Mem W [(W.heap.size + 1, 35, cPrc b), (W.heap.size, 35, cPrc a)] W1 := by
    rw [hW1]
    exact ((Mem.start W).new _ _).new' _ _ (by simp)
  obtain ⟨V, hV⟩ : ∃ V, V = W1.alloc (.cells #[.int .i64 a.price, .int .i64 b.price, .int .i64 r] 2) := ⟨_, rfl⟩
  have hbV1 : Below W1.heap.size W1 V := by rw [hV]; exact (Below.refl _ _).alloc (Nat.le_refl _) _
  have hI : It .i64 V (some ⟨W1.heap.size, 0, none⟩) 3 [a.price, b.price, r] := by
    have hN : Blk V W1.heap.size 2 #[.int .i64 a.price, .int .i64 b.price, .int .i64 r] := by rw [hV]; exact Blk.new _ _ _
    exact It.row (l := [a.price, b.price, r]) hN rfl (by simp) (fun z hz => by
      simp only [List.mem_cons, List.not_mem_nil, or_false] at hz
      rcases hz with rfl | rfl | rfl
      · exact ha.price
      · exact hb.price
      · exact hr)
  have m2 := m1.keep hbV1
  have hA := m2.blk W.heap.size 35 (cPrc a) (by simp)
  have hB := m2.blk (W.heap.size + 1) 35 (cPrc b) (by simp)
  have hbV := m2.below
  have hC := fun w (h : Below V.heap.size V w) => (⟨Prc.cells (hA.below h hA.lt), Prc.cells (hB.below h hB.lt)⟩ : _ ∧ _)
  obtain ⟨z0, z1, z2⟩ := Prc.cells (m1.blk W.heap.size 35 (cPrc a) (by simp))
  obtain ⟨y0, y1, y2⟩ := Prc.cells (m1.blk (W.heap.size + 1) 35 (cPrc b) (by simp))
  have cP : Calls Tryz.prog 7 #[.slice (some ⟨W1.heap.size, 0, none⟩) 3 3] V fun e w' => e = .returned (.bool (pricedB [a.price, b.price, r])) ∧ w' = V := priced_any [a.price, b.price, r] (by simp) V hI
  have cV := fun w (h : Gl w) => alive17_any w h
  have hpr : pricedB [a.price, b.price, r] = true → (0 ≤ a.price ∧ a.price ≤ 1099511627776) ∧ (0 ≤ b.price ∧ b.price ≤ 1099511627776) ∧ 0 ≤ r ∧ r ≤ 1099511627776 := fun h => by
    unfold pricedB at h
    simp only [List.all_cons, List.all_nil, Bool.and_true, Bool.and_eq_true, decide_eq_true_eq] at h
    exact h
  generalize pricedB [a.price, b.price, r] = pb at *
  clear hI m1 m2 hA hB ha hb hr
  cases pb with
  | false =>
    clear hpr hC
    obtain ⟨ap, av, ao⟩ := a
    obtain ⟨bp, bv, bo⟩ := b
    simp only at z0 z1 z2 y0 y1 y2 hV
    simp only [vPrc, cPrc] at hW1 ⊢
    go_enter Tryz.func4, Tryz.ntmps4
    go_wp2_with (first
      | (rw [← hW1]; clear hW1)
      | (go_at_call 7; rw [← hV]; refine cP.mono ?_; rintro e w2 ⟨rfl, hw2⟩; subst w2; clear cP hV)
      | (go_at_call 8; refine (cV _ (hG.below hbV)).mono ?_; rintro e w3 ⟨rfl, hb3⟩; clear cV)
      | fail)
    go_ret
    exact ⟨rfl, hbV.trans (hb3.mono hbV.size)⟩
  | true =>
    obtain ⟨p1, p2, p3⟩ := hpr rfl
    have cL1 := fun w => cl_less a b r p1 p2 p3 w
    have cL2 := fun w => cl_less b a r p2 p1 p3 w
    have cR1 := fun w => rless_any a b r p1 p2 p3 w
    have cR2 := fun w => rless_any b a r p2 p1 p3 w
    have cA := fun w => own17_any a w
    have cB := fun w => own17_any b w
    generalize lessP a b r = p at *
    generalize lessP b a r = q at *
    clear hpr p1 p2 p3
    obtain ⟨ap, av, ao⟩ := a
    obtain ⟨bp, bv, bo⟩ := b
    simp only at z0 z1 z2 y0 y1 y2 hV hC
    simp only [vPrc, cPrc] at hW1 cL1 cL2 cR1 cR2 cA cB ⊢
    go_enter Tryz.func4, Tryz.ntmps4
    go_wp2_with (first
      | (rw [← hW1]; clear hW1)
      | (go_at_call 7; rw [← hV]; refine cP.mono ?_; rintro e w2 ⟨rfl, hw2⟩; subst w2; clear cP hV)
      | fail)
    clear z0 z1 z2 y0 y1 y2
    refine wp_region_S (S := fun _ w => Below V.heap.size V w) (by kernel_rfl) (Below.refl _ _).drew ?_
    refine AllS.next (v := ?_) rfl rfl rfl (by kernel_rfl) ?_ ?_
    rotate_left
    · refine yieldsS_run (fun _ _ h => h) (by rfl) ?_
      intro L wx hS
      obtain ⟨⟨a0, a1, a2⟩, b0, b1, b2⟩ := hC wx hS
      go_simp
      all_goals first
        | done
        | with_reducible rfl
        | assumption
        | (simp_all; done)
    try simp only [Act.put, List.setIfInBounds_toArray, List.set_cons_zero, List.set_cons_succ, List.getElem_toArray, List.getElem_cons_zero, List.getElem_cons_succ]
    refine AllS.next (v := (.agg #[.int .i64 ap, .int .i64 av, .int .i64 ao])) rfl rfl rfl (by kernel_rfl) ?_ ?_
    · refine yieldsS_call (f := 14) (args := #[(.agg #[.int .i64 ap, .int .i64 av, .int .i64 ao])]) (by rfl) ?_ ?_
      · intro wx
        go_simp
        try with_reducible rfl
      · intro L wx hS
        exact (cA wx).mono fun e w h => ⟨h.1, hS.trans (h.2.mono hS.size)⟩
    try simp only [Act.put, List.setIfInBounds_toArray, List.set_cons_zero, List.set_cons_succ, List.getElem_toArray, List.getElem_cons_zero, List.getElem_cons_succ]
    refine AllS.next (v := ?_) rfl rfl rfl (by kernel_rfl) ?_ ?_
    rotate_left
    · refine yieldsS_run (fun _ _ h => h) (by rfl) ?_
      intro L wx hS
      obtain ⟨⟨a0, a1, a2⟩, b0, b1, b2⟩ := hC wx hS
      go_simp
      all_goals first
        | done
        | with_reducible rfl
        | assumption
        | (simp_all; done)
    try simp only [Act.put, List.setIfInBounds_toArray, List.set_cons_zero, List.set_cons_succ, List.getElem_toArray, List.getElem_cons_zero, List.getElem_cons_succ]
    refine AllS.next (v := (.agg #[.int .i64 bp, .int .i64 bv, .int .i64 bo])) rfl rfl rfl (by kernel_rfl) ?_ ?_
    · refine yieldsS_call (f := 14) (args := #[(.agg #[.int .i64 bp, .int .i64 bv, .int .i64 bo])]) (by rfl) ?_ ?_
      · intro wx
        go_simp
        try with_reducible rfl
      · intro L wx hS
        exact (cB wx).mono fun e w h => ⟨h.1, hS.trans (h.2.mono hS.size)⟩
    try simp only [Act.put, List.setIfInBounds_toArray, List.set_cons_zero, List.set_cons_succ, List.getElem_toArray, List.getElem_cons_zero, List.getElem_cons_succ]
    refine AllS.next (v := ?_) rfl rfl rfl (by kernel_rfl) ?_ ?_
    rotate_left
    · refine yieldsS_run (fun _ _ h => h) (by rfl) ?_
      intro L wx hS
      go_simp
      all_goals first
        | done
        | with_reducible rfl
        | assumption
        | (simp_all; done)
    try simp only [Act.put, List.setIfInBounds_toArray, List.set_cons_zero, List.set_cons_succ, List.getElem_toArray, List.getElem_cons_zero, List.getElem_cons_succ]
    refine AllS.next (v := (.bool p)) rfl rfl rfl (by kernel_rfl) ?_ ?_
    · refine yieldsS_call (f := 18) (args := #[(.agg #[.int .i64 ap, .int .i64 av, .int .i64 ao]), (.agg #[.int .i64 bp, .int .i64 bv, .int .i64 bo]), .int .i64 r]) (by rfl) ?_ ?_
      · intro wx
        go_simp
        try with_reducible rfl
      · intro L wx hS
        exact (cL1 wx).mono fun e w h => ⟨h.1, hS.trans (h.2.mono hS.size)⟩
    try simp only [Act.put, List.setIfInBounds_toArray, List.set_cons_zero, List.set_cons_succ, List.getElem_toArray, List.getElem_cons_zero, List.getElem_cons_succ]
    refine AllS.next (v := ?_) rfl rfl rfl (by kernel_rfl) ?_ ?_
    rotate_left
    · refine yieldsS_run (fun _ _ h => h) (by rfl) ?_
      intro L wx hS
      obtain ⟨⟨a0, a1, a2⟩, b0, b1, b2⟩ := hC wx hS
      go_simp
      all_goals first
        | done
        | with_reducible rfl
        | assumption
        | (simp_all; done)
    try simp only [Act.put, List.setIfInBounds_toArray, List.set_cons_zero, List.set_cons_succ, List.getElem_toArray, List.getElem_cons_zero, List.getElem_cons_succ]
    refine AllS.next (v := ?_) rfl rfl rfl (by kernel_rfl) ?_ ?_
    rotate_left
    · refine yieldsS_run (fun _ _ h => h) (by rfl) ?_
      intro L wx hS
      obtain ⟨⟨a0, a1, a2⟩, b0, b1, b2⟩ := hC wx hS
      go_simp
      all_goals first
        | done
        | with_reducible rfl
        | assumption
        | (simp_all; done)
    try simp only [Act.put, List.setIfInBounds_toArray, List.set_cons_zero, List.set_cons_succ, List.getElem_toArray, List.getElem_cons_zero, List.getElem_cons_succ]
    refine AllS.next (v := ?_) rfl rfl rfl (by kernel_rfl) ?_ ?_
    rotate_left
    · refine yieldsS_run (fun _ _ h => h) (by rfl) ?_
      intro L wx hS
      go_simp
      all_goals first
        | done
        | with_reducible rfl
        | assumption
        | (simp_all; done)
    try simp only [Act.put, List.setIfInBounds_toArray, List.set_cons_zero, List.set_cons_succ, List.getElem_toArray, List.getElem_cons_zero, List.getElem_cons_succ]
    refine AllS.next (v := (.bool p)) rfl rfl rfl (by kernel_rfl) ?_ ?_
    · refine yieldsS_call (f := 19) (args := #[(.agg #[.int .i64 ap, .int .i64 av, .int .i64 ao]), (.agg #[.int .i64 bp, .int .i64 bv, .int .i64 bo]), .int .i64 r]) (by rfl) ?_ ?_
      · intro wx
        go_simp
        try with_reducible rfl
      · intro L wx hS
        exact (cR1 wx).mono fun e w h => ⟨h.1, hS.trans (h.2.mono hS.size)⟩
    try simp only [Act.put, List.setIfInBounds_toArray, List.set_cons_zero, List.set_cons_succ, List.getElem_toArray, List.getElem_cons_zero, List.getElem_cons_succ]
    refine AllS.next (v := (.bool true)) rfl rfl rfl (by kernel_rfl) ?_ ?_
    · refine yieldsS_run (fun _ _ h => h) (by rfl) ?_
      intro L wx hS
      go_simp
      all_goals first
        | done
        | with_reducible rfl
        | assumption
        | (simp_all; done)
    try simp only [Act.put, List.setIfInBounds_toArray, List.set_cons_zero, List.set_cons_succ, List.getElem_toArray, List.getElem_cons_zero, List.getElem_cons_succ]
    refine AllS.next (v := ?_) rfl rfl rfl (by kernel_rfl) ?_ ?_
    rotate_left
    · refine yieldsS_run (fun _ _ h => h) (by rfl) ?_
      intro L wx hS
      go_simp
      all_goals first
        | done
        | with_reducible rfl
        | assumption
        | (simp_all; done)
    try simp only [Act.put, List.setIfInBounds_toArray, List.set_cons_zero, List.set_cons_succ, List.getElem_toArray, List.getElem_cons_zero, List.getElem_cons_succ]
    refine AllS.next (v := ?_) rfl rfl rfl (by kernel_rfl) ?_ ?_
    rotate_left
    · refine yieldsS_run (fun _ _ h => h) (by rfl) ?_
      intro L wx hS
      obtain ⟨⟨a0, a1, a2⟩, b0, b1, b2⟩ := hC wx hS
      go_simp
      all_goals first
        | done
        | with_reducible rfl
        | assumption
        | (simp_all; done)
    try simp only [Act.put, List.setIfInBounds_toArray, List.set_cons_zero, List.set_cons_succ, List.getElem_toArray, List.getElem_cons_zero, List.getElem_cons_succ]
    refine AllS.next (v := (.agg #[.int .i64 bp, .int .i64 bv, .int .i64 bo])) rfl rfl rfl (by kernel_rfl) ?_ ?_
    · refine yieldsS_call (f := 14) (args := #[(.agg #[.int .i64 bp, .int .i64 bv, .int .i64 bo])]) (by rfl) ?_ ?_
      · intro wx
        go_simp
        try with_reducible rfl
      · intro L wx hS
        exact (cB wx).mono fun e w h => ⟨h.1, hS.trans (h.2.mono hS.size)⟩
    try simp only [Act.put, List.setIfInBounds_toArray, List.set_cons_zero, List.set_cons_succ, List.getElem_toArray, List.getElem_cons_zero, List.getElem_cons_succ]
    refine AllS.next (v := ?_) rfl rfl rfl (by kernel_rfl) ?_ ?_
    rotate_left
    · refine yieldsS_run (fun _ _ h => h) (by rfl) ?_
      intro L wx hS
      obtain ⟨⟨a0, a1, a2⟩, b0, b1, b2⟩ := hC wx hS
      go_simp
      all_goals first
        | done
        | with_reducible rfl
        | assumption
        | (simp_all; done)
    try simp only [Act.put, List.setIfInBounds_toArray, List.set_cons_zero, List.set_cons_succ, List.getElem_toArray, List.getElem_cons_zero, List.getElem_cons_succ]
    refine AllS.next (v := (.agg #[.int .i64 ap, .int .i64 av, .int .i64 ao])) rfl rfl rfl (by kernel_rfl) ?_ ?_
    · refine yieldsS_call (f := 14) (args := #[(.agg #[.int .i64 ap, .int .i64 av, .int .i64 ao])]) (by rfl) ?_ ?_
      · intro wx
        go_simp
        try with_reducible rfl
      · intro L wx hS
        exact (cA wx).mono fun e w h => ⟨h.1, hS.trans (h.2.mono hS.size)⟩
    try simp only [Act.put, List.setIfInBounds_toArray, List.set_cons_zero, List.set_cons_succ, List.getElem_toArray, List.getElem_cons_zero, List.getElem_cons_succ]
    refine AllS.next (v := ?_) rfl rfl rfl (by kernel_rfl) ?_ ?_
    rotate_left
    · refine yieldsS_run (fun _ _ h => h) (by rfl) ?_
      intro L wx hS
      go_simp
      all_goals first
        | done
        | with_reducible rfl
        | assumption
        | (simp_all; done)
    try simp only [Act.put, List.setIfInBounds_toArray, List.set_cons_zero, List.set_cons_succ, List.getElem_toArray, List.getElem_cons_zero, List.getElem_cons_succ]
    refine AllS.next (v := (.bool q)) rfl rfl rfl (by kernel_rfl) ?_ ?_
    · refine yieldsS_call (f := 18) (args := #[(.agg #[.int .i64 bp, .int .i64 bv, .int .i64 bo]), (.agg #[.int .i64 ap, .int .i64 av, .int .i64 ao]), .int .i64 r]) (by rfl) ?_ ?_
      · intro wx
        go_simp
        try with_reducible rfl
      · intro L wx hS
        exact (cL2 wx).mono fun e w h => ⟨h.1, hS.trans (h.2.mono hS.size)⟩
    try simp only [Act.put, List.setIfInBounds_toArray, List.set_cons_zero, List.set_cons_succ, List.getElem_toArray, List.getElem_cons_zero, List.getElem_cons_succ]
    refine AllS.next (v := ?_) rfl rfl rfl (by kernel_rfl) ?_ ?_
    rotate_left
    · refine yieldsS_run (fun _ _ h => h) (by rfl) ?_
      intro L wx hS
      obtain ⟨⟨a0, a1, a2⟩, b0, b1, b2⟩ := hC wx hS
      go_simp
      all_goals first
        | done
        | with_reducible rfl
        | assumption
        | (simp_all; done)
    try simp only [Act.put, List.setIfInBounds_toArray, List.set_cons_zero, List.set_cons_succ, List.getElem_toArray, List.getElem_cons_zero, List.getElem_cons_succ]
    refine AllS.next (v := ?_) rfl rfl rfl (by kernel_rfl) ?_ ?_
    rotate_left
    · refine yieldsS_run (fun _ _ h => h) (by rfl) ?_
      intro L wx hS
      obtain ⟨⟨a0, a1, a2⟩, b0, b1, b2⟩ := hC wx hS
      go_simp
      all_goals first
        | done
        | with_reducible rfl
        | assumption
        | (simp_all; done)
    try simp only [Act.put, List.setIfInBounds_toArray, List.set_cons_zero, List.set_cons_succ, List.getElem_toArray, List.getElem_cons_zero, List.getElem_cons_succ]
    refine AllS.next (v := ?_) rfl rfl rfl (by kernel_rfl) ?_ ?_
    rotate_left
    · refine yieldsS_run (fun _ _ h => h) (by rfl) ?_
      intro L wx hS
      go_simp
      all_goals first
        | done
        | with_reducible rfl
        | assumption
        | (simp_all; done)
    try simp only [Act.put, List.setIfInBounds_toArray, List.set_cons_zero, List.set_cons_succ, List.getElem_toArray, List.getElem_cons_zero, List.getElem_cons_succ]
    refine AllS.next (v := (.bool q)) rfl rfl rfl (by kernel_rfl) ?_ ?_
    · refine yieldsS_call (f := 19) (args := #[(.agg #[.int .i64 bp, .int .i64 bv, .int .i64 bo]), (.agg #[.int .i64 ap, .int .i64 av, .int .i64 ao]), .int .i64 r]) (by rfl) ?_ ?_
      · intro wx
        go_simp
        try with_reducible rfl
      · intro L wx hS
        exact (cR2 wx).mono fun e w h => ⟨h.1, hS.trans (h.2.mono hS.size)⟩
    try simp only [Act.put, List.setIfInBounds_toArray, List.set_cons_zero, List.set_cons_succ, List.getElem_toArray, List.getElem_cons_zero, List.getElem_cons_succ]
    refine AllS.next (v := (.bool true)) rfl rfl rfl (by kernel_rfl) ?_ ?_
    · refine yieldsS_run (fun _ _ h => h) (by rfl) ?_
      intro L wx hS
      go_simp
      all_goals first
        | done
        | with_reducible rfl
        | assumption
        | (simp_all; done)
    try simp only [Act.put, List.setIfInBounds_toArray, List.set_cons_zero, List.set_cons_succ, List.getElem_toArray, List.getElem_cons_zero, List.getElem_cons_succ]
    refine AllS.next (v := (.bool true)) rfl rfl rfl (by kernel_rfl) ?_ ?_
    · refine yieldsS_run (fun _ _ h => h) (by rfl) ?_
      intro L wx hS
      go_simp
      all_goals first
        | done
        | with_reducible rfl
        | assumption
        | (simp_all; done)
    try simp only [Act.put, List.setIfInBounds_toArray, List.set_cons_zero, List.set_cons_succ, List.getElem_toArray, List.getElem_cons_zero, List.getElem_cons_succ]
    refine AllS.next (v := ?_) rfl rfl rfl (by kernel_rfl) ?_ ?_
    rotate_left
    · refine yieldsS_run (fun _ _ h => h) (by rfl) ?_
      intro L wx hS
      go_simp
      all_goals first
        | done
        | with_reducible rfl
        | assumption
        | (simp_all; done)
    try simp only [Act.put, List.setIfInBounds_toArray, List.set_cons_zero, List.set_cons_succ, List.getElem_toArray, List.getElem_cons_zero, List.getElem_cons_succ]
    refine AllS.next (v := (.bool true)) rfl rfl rfl (by kernel_rfl) ?_ ?_
    · refine yieldsS_call (f := 8) (args := #[]) (by rfl) ?_ ?_
      · intro wx
        go_simp
        try with_reducible rfl
      · intro L wx hS
        exact (cV wx (hG.below (hbV.trans (hS.mono hbV.size)))).mono fun e w h => ⟨h.1, hS.trans (h.2.mono hS.size)⟩
    try simp only [Act.put, List.setIfInBounds_toArray, List.set_cons_zero, List.set_cons_succ, List.getElem_toArray, List.getElem_cons_zero, List.getElem_cons_succ]
    refine AllS.next (v := (.bool true)) rfl rfl rfl (by kernel_rfl) ?_ ?_
    · refine yieldsS_run (fun _ _ h => h) (by rfl) ?_
      intro L wx hS
      go_simp
      all_goals first
        | done
        | with_reducible rfl
        | assumption
        | (simp_all; done)
    try simp only [Act.put, List.setIfInBounds_toArray, List.set_cons_zero, List.set_cons_succ, List.getElem_toArray, List.getElem_cons_zero, List.getElem_cons_succ]
    refine AllS.next (v := ?_) rfl rfl rfl (by kernel_rfl) ?_ ?_
    rotate_left
    · refine yieldsS_run (fun _ _ h => h) (by rfl) ?_
      intro L wx hS
      go_simp
      all_goals first
        | done
        | with_reducible rfl
        | assumption
        | (simp_all; done)
    try simp only [Act.put, List.setIfInBounds_toArray, List.set_cons_zero, List.set_cons_succ, List.getElem_toArray, List.getElem_cons_zero, List.getElem_cons_succ]
    refine AllS.done (by kernel_rfl) ?_
    intro w9 hS9
    go_wp2_with fail
    go_ret
    exact ⟨rfl, hbV.trans (hS9.mono hbV.size)⟩
end Go.Proofs.YtohenmnpmgghhaaGreatDoor
namespace Go.Proofs.YtohenmnpmgghhaaGreatDoor
open Go.RowKit
set_option linter.unusedSimpArgs false
theorem bbChoose {w0 w : World} {S0 : Nat → Prop} {g r k : Nat} {b t : Bk} (rf lo hi : Int) (hrf : 0 ≤ rf ∧ rf ≤ 1099511627776) (hlo : In64 lo) (hhi : In64 hi) (h : Bb w0 S0 g r k b t w) : Calls Tryz.prog 10 #[.pointer (some ⟨g, 0, none⟩), .int .i64 rf, .agg #[.int .i64 lo, .int .i64 hi]] w fun e w' => e = .returned (.tuple #[vPrc (chsL b.L rf lo hi).1, .bool (chsL b.L rf lo hi).2]) ∧ Bb w0 S0 g r k b t w' ∧ Below w.heap.size w w' := by
  obtain ⟨Sp, Sr, h1, -⟩ := h.both
  exact (cl_choose rf lo hi hrf hlo hhi h1).mono fun e w' q => ⟨q.1, h.below q.2, q.2⟩
theorem bbFree {w0 w : World} {S0 : Nat → Prop} {g r k : Nat} {b t : Bk} (rf : Int) (hrf : 0 ≤ rf ∧ rf ≤ 1099511627776) (h : Bb w0 S0 g r k b t w) : Calls Tryz.prog 12 #[.pointer (some ⟨g, 0, none⟩), .int .i64 rf] w fun e w' => e = .returned (.tuple #[vPrc (chsL b.L rf 1 1099511627776).1, .bool (chsL b.L rf 1 1099511627776).2]) ∧ Bb w0 S0 g r k b t w' ∧ Below w.heap.size w w' := by
  obtain ⟨Sp, Sr, h1, -⟩ := h.both
  exact (cl_free rf hrf h1).mono fun e w' q => ⟨q.1, h.below q.2, q.2⟩
/-- A band's box, and the row of one number that is asked of. -/
theorem band_boxes (lo hi r : Int) (hr : In64 r) (W : World) : ∃ W1 V, W1 = W.alloc (.cells #[.int .i64 lo, .int .i64 hi] 24) ∧ V = W1.alloc (.cells #[.int .i64 r] 2) ∧ Below W.heap.size W W1 ∧ Below W.heap.size W V ∧ Below W1.heap.size W1 V ∧ It .i64 V (some ⟨W1.heap.size, 0, none⟩) 1 [r] ∧ W.heap.size < W1.heap.size ∧ ∀ w, Below W1.heap.size W1 w → w.cell? ⟨W.heap.size, 0, none⟩ = some (.int .i64 lo) ∧ w.cell? ⟨W.heap.size, 1, none⟩ = some (.int .i64 hi) := by
  have hN := Blk.new W 24 #[.int .i64 lo, .int .i64 hi]
  have hM := Blk.new (W.alloc (.cells #[.int .i64 lo, .int .i64 hi] 24)) 2 #[.int .i64 r]
  have hb := (Below.refl W.heap.size W).alloc (Nat.le_refl _) (.cells #[.int .i64 lo, .int .i64 hi] 24)
  refine ⟨_, _, rfl, rfl, hb, hb.alloc (by simp) _, (Below.refl _ _).alloc (Nat.le_refl _) _, ?_, by simp, fun w h => ?_⟩
  · exact It.row (l := [r]) hM rfl (by simp) (fun z hz => by rw [List.mem_singleton] at hz; subst hz; exact hr)
  · have := hN.below h hN.lt
    exact ⟨this.cell_eq 0 _ rfl, this.cell_eq 1 _ rfl⟩
theorem priced_one (r : Int) : pricedB [r] = decide (0 ≤ r ∧ r ≤ 1099511627776) := by simp [pricedB]
set_option maxRecDepth 8000 in
set_option maxHeartbeats 8000000 in
theorem cstays_any (ao : Option Addr) (cap : Nat) (l : List Ord) (r lo hi : Int) (hr : In64 r) (hlo : In64 lo) (hhi : In64 hi) (W : World) (hG : Gl W) (hL : Ords W ao cap l) (hF : ∀ m ∈ l, m.Fit) :
    Calls Tryz.prog 6 #[.slice ao l.length cap, .int .i64 r, .agg #[.int .i64 lo, .int .i64 hi]] W fun e w' => e = .returned (.bool true) ∧ Below W.heap.size W w' := by
  have hl1 := hL.len
  have hl2 := hL.top
  unfold maxLen at hl2
  have hl3 : l.length ≤ 9223372036854775807 := by omega
  clear hl1 hl2
  have cA := fun w (h : Gl w) => alive17_any w h
  obtain ⟨W1, V, hW1, hV, hb1, hbV, hb1V, hI, hlt, hC⟩ := band_boxes lo hi r hr W
  have cP : Calls Tryz.prog 7 #[.slice (some ⟨W1.heap.size, 0, none⟩) 1 1] V fun e w' => e = .returned (.bool (pricedB [r])) ∧ w' = V := priced_any [r] (by simp) V hI
  obtain ⟨c0, c1⟩ := hC W1 (Below.refl _ _)
  obtain ⟨v0, v1⟩ := hC V hb1V
  rw [priced_one] at cP
  clear hI
  by_cases h60 : 60 < l.length
  · have d60 : decide ((60 : Int) < (l.length : Int)) = true := decide_eq_true (by omega)
    clear h60 cP hV hbV v0 v1 hC
    go_enter Tryz.func6, Tryz.ntmps6
    go_wp2_with (first
      | (go_at_call 8; rw [← hW1]; refine (cA _ (hG.below hb1)).mono ?_; rintro e w3 ⟨rfl, hb3⟩; clear cA)
      | fail)
    go_ret
    exact ⟨rfl, hb1.trans (hb3.mono hb1.size)⟩
  have d60 : decide ((60 : Int) < (l.length : Int)) = false := decide_eq_false (by omega)
  by_cases hp : 0 ≤ r ∧ r ≤ 1099511627776
  rotate_left
  · rw [decide_eq_false hp] at cP
    clear hp h60 hC
    go_enter Tryz.func6, Tryz.ntmps6
    go_wp2_with (first
      | (rw [← hW1]; clear hW1)
      | (go_at_call 7; rw [← hV]; refine cP.mono ?_; rintro e w2 ⟨rfl, hw2⟩; subst w2; clear cP hV)
      | (go_at_call 8; refine (cA _ (hG.below hbV)).mono ?_; rintro e w3 ⟨rfl, hb3⟩; clear cA)
      | fail)
    go_ret
    exact ⟨rfl, hbV.trans (hb3.mono hbV.size)⟩
  rw [decide_eq_true hp] at cP
  have key : (decide (lo < 1) = true ∨ (decide (lo < 1) = false ∧ (decide (1099511627776 < hi) = true ∨ (decide (1099511627776 < hi) = false ∧ (decide (r < lo) = true ∨ (decide (r < lo) = false ∧ decide (hi < r) = true)))))) ∨
      (decide (lo < 1) = false ∧ decide (1099511627776 < hi) = false ∧ decide (r < lo) = false ∧ decide (hi < r) = false ∧ 1 ≤ lo ∧ hi ≤ 1099511627776 ∧ lo ≤ r ∧ r ≤ hi) := by
    simp only [decide_eq_true_eq, decide_eq_false_iff_not]
    omega
  rcases key with key | ⟨e1, e2, e3, e4, q1, q2, q3, q4⟩
  · clear h60 hp hC
    rcases key with e1 | ⟨e1, e2 | ⟨e2, e3 | ⟨e3, e4⟩⟩⟩
    all_goals
      go_enter Tryz.func6, Tryz.ntmps6
      go_wp2_with (first
        | (rw [← hW1]; clear hW1)
        | (go_at_call 7; rw [← hV]; refine cP.mono ?_; rintro e w2 ⟨rfl, hw2⟩; subst w2; clear cP hV)
        | (go_at_call 8; refine (cA _ (hG.below hbV)).mono ?_; rintro e w3 ⟨rfl, hb3⟩; clear cA)
        | fail)
      go_ret
      exact ⟨rfl, hbV.trans (hb3.mono hbV.size)⟩
  have cB := books_any ao cap l V (hG.below hbV) (hL.below hbV) hF (by omega)
  have hst := fun h1 h2 h3 => chs_stays (L := (bks l).L) q1 q2 q3 q4 h1 h2 h3
  clear hL hF h60 hl3
  generalize bks l = b at *
  have cF := fun g k t w (h : Bb V (fun _ => False) g t k b b w) => bbFree r hp h
  have cC := fun g k t w (h : Bb V (fun _ => False) g t k b b w) => bbChoose r lo hi hp hlo hhi h
  have fin : ∀ g t k w, Bb V (fun _ => False) g t k b b w → Below V.heap.size V w := fun g t k w h => h.frm.below (Nat.le_refl _) (fun _ f => f.elim)
  have hcell : ∀ w, Below V.heap.size V w → w.cell? ⟨W.heap.size, 0, none⟩ = some (.int .i64 lo) ∧ w.cell? ⟨W.heap.size, 1, none⟩ = some (.int .i64 hi) := fun w h => hC w (hb1V.trans (h.mono hb1V.size))
  have hgl : ∀ w, Below V.heap.size V w → Gl w ∧ Below W.heap.size W w := fun w h => by
    have := hbV.trans (h.mono hbV.size)
    exact ⟨hG.below this, this⟩
  clear hp hlo hhi hr hC q1 q2 q3 q4
  obtain ⟨c, hc⟩ : ∃ c, c = chsL b.L r 1 1099511627776 := ⟨_, rfl⟩
  rw [← hc] at hst cF
  clear hc
  obtain ⟨⟨pp, pv, po⟩, is⟩ := c
  simp only at hst cF
  have hnx : ∀ w3, Below V.heap.size V w3 → ∃ U, U = w3.alloc (.cells #[.int .i64 pp, .int .i64 pv, .int .i64 po] 32) ∧ Below V.heap.size V U ∧ (∀ w, Below U.heap.size U w → w.cell? ⟨w3.heap.size, 0, none⟩ = some (.int .i64 pp) ∧ w.cell? ⟨w3.heap.size, 1, none⟩ = some (.int .i64 pv) ∧ w.cell? ⟨w3.heap.size, 2, none⟩ = some (.int .i64 po)) := fun w3 h => by
    have hN := Blk.new w3 32 (cPrc ⟨pp, pv, po⟩)
    exact ⟨_, rfl, h.alloc h.size _, fun w hb => Prc.cells (hN.below hb hN.lt)⟩
  have hnx2 : ∀ w3, Below V.heap.size V w3 → ∃ U, U = w3.alloc (.cells #[.int .i64 pp, .int .i64 pv, .int .i64 po] 32) ∧ Below V.heap.size V U ∧ Below w3.heap.size w3 U ∧ (U.cell? ⟨w3.heap.size, 0, none⟩ = some (.int .i64 pp) ∧ U.cell? ⟨w3.heap.size, 1, none⟩ = some (.int .i64 pv) ∧ U.cell? ⟨w3.heap.size, 2, none⟩ = some (.int .i64 po)) := fun w3 h => by
    have hN := Blk.new w3 32 (cPrc ⟨pp, pv, po⟩)
    exact ⟨_, rfl, h.alloc h.size _, (Below.refl _ _).alloc (Nat.le_refl _) _, Prc.cells hN⟩
  have hkeep : ∀ g t k w3 U, Bb V (fun _ => False) g t k b b w3 → U = w3.alloc (.cells #[.int .i64 pp, .int .i64 pv, .int .i64 po] 32) → Bb V (fun _ => False) g t k b b U := fun g t k w3 U h e => by rw [e]; exact h.below ((Below.refl _ _).alloc (Nat.le_refl _) _)
  have key2 : ((is = false) ∨ (is = true ∧ (decide (pp < lo) = true ∨ (decide (pp < lo) = false ∧ decide (hi < pp) = true)))) ∨ (is = true ∧ decide (pp < lo) = false ∧ decide (hi < pp) = false ∧ lo ≤ pp ∧ pp ≤ hi) := by
    cases is
    · exact .inl (.inl rfl)
    · simp only [decide_eq_true_eq, decide_eq_false_iff_not]
      simp
      omega
  rcases key2 with key2 | ⟨rfl, f1, f2, q1, q2⟩
  · clear hst cC
    rcases key2 with rfl | ⟨rfl, f1 | ⟨f1, f2⟩⟩
    all_goals
      simp only [vPrc, cPrc] at cF
      go_enter Tryz.func6, Tryz.ntmps6
      go_wp2_with (first
        | (rw [← hW1]; clear hW1)
        | (go_at_call 7; rw [← hV]; refine cP.mono ?_; rintro e w2 ⟨rfl, hw2⟩; subst w2; clear cP hV)
        | (go_at_call 9; refine cB.mono ?_; rintro e w4 ⟨g, t, rfl, k4⟩; clear cB)
        | (go_at_call 12; refine (cF _ _ _ _ k4).mono ?_; rintro e w5 ⟨rfl, k5, -⟩; clear cF k4; obtain ⟨U, hU, hbU, hz⟩ := hnx w5 (fin _ _ _ _ k5); obtain ⟨z0, z1, z2⟩ := hz U (Below.refl _ _); clear v0 v1; obtain ⟨v0, v1⟩ := hcell U hbU)
        | (rw [← hU]; clear hU)
        | (go_at_call 8; refine (cA _ (hgl _ hbU).1).mono ?_; rintro e w6 ⟨rfl, hb6⟩; clear cA)
        | fail)
      go_ret
      exact ⟨rfl, (hgl _ hbU).2.trans (hb6.mono (hgl _ hbU).2.size)⟩
  have hst2 := hst rfl q1 q2
  rw [hst2] at cC
  have qE := fun w => eql_Pcc ⟨pp, pv, po⟩ ⟨pp, pv, po⟩ w
  rw [eqPrc_self] at qE
  simp only [vPrc, cPrc] at cF cC qE
  clear hst hst2 q1 q2
  go_enter Tryz.func6, Tryz.ntmps6
  go_wp2_with (first
    | (rw [← hW1]; clear hW1)
    | (go_at_call 7; rw [← hV]; refine cP.mono ?_; rintro e w2 ⟨rfl, hw2⟩; subst w2; clear cP hV)
    | (go_at_call 9; refine cB.mono ?_; rintro e w4 ⟨g, t, rfl, k4⟩; clear cB)
    | (go_at_call 12; refine (cF _ _ _ _ k4).mono ?_; rintro e w5 ⟨rfl, k5, -⟩; clear cF k4; obtain ⟨U, hU, hbU, hz⟩ := hnx w5 (fin _ _ _ _ k5); obtain ⟨z0, z1, z2⟩ := hz U (Below.refl _ _); clear v0 v1; obtain ⟨v0, v1⟩ := hcell U hbU; have k6 := hkeep _ _ _ _ _ k5 hU)
    | (rw [← hU]; clear hU)
    | (go_at_call 10; refine (cC _ _ _ _ k6).mono ?_; rintro e w7 ⟨rfl, k7, hb7⟩; clear cC k6; obtain ⟨U2, hU2, hbU2, hU72, hz2⟩ := hnx2 w7 (fin _ _ _ _ k7); clear z0 z1 z2; obtain ⟨z0, z1, z2⟩ := hz U2 (hb7.trans (hU72.mono hb7.size)); obtain ⟨y0, y1, y2⟩ := hz2)
    | (rw [← hU2]; clear hU2)
    | (go_at_call 8; refine (cA _ (hgl _ hbU2).1).mono ?_; rintro e w8 ⟨rfl, hb8⟩; clear cA)
    | fail)
  go_ret
  exact ⟨rfl, (hgl _ hbU2).2.trans (hb8.mono (hgl _ hbU2).2.size)⟩
end Go.Proofs.YtohenmnpmgghhaaGreatDoor
namespace Go.Proofs.YtohenmnpmgghhaaGreatDoor
open Go.RowKit
set_option linter.unusedSimpArgs false
theorem hasB_iff {L : List Ord} {p : Int} : hasB L p = true ↔ ∃ o ∈ L, o.price = p := by
  unfold hasB
  rw [List.any_eq_true]
  constructor
  · rintro ⟨o, h1, h2⟩; exact ⟨o, h1, by simpa using h2⟩
  · rintro ⟨o, h1, h2⟩; exact ⟨o, h1, by simpa using h2⟩
set_option maxRecDepth 8000 in
set_option maxHeartbeats 8000000 in
theorem cmost_any (ao : Option Addr) (cap : Nat) (l : List Ord) (r lo hi x : Int) (hr : In64 r) (hlo : In64 lo) (hhi : In64 hi) (W : World) (hG : Gl W) (hL : Ords W ao cap l) (hF : ∀ m ∈ l, m.Fit) :
    Calls Tryz.prog 5 #[.slice ao l.length cap, .int .i64 r, .agg #[.int .i64 lo, .int .i64 hi], .int .i64 x] W fun e w' => e = .returned (.bool true) ∧ Below W.heap.size W w' := by
  have hl1 := hL.len
  have hl2 := hL.top
  unfold maxLen at hl2
  have hl3 : l.length ≤ 9223372036854775807 := by omega
  clear hl1 hl2
  have cA := fun w (h : Gl w) => alive17_any w h
  obtain ⟨W1, V, hW1, hV, hb1, hbV, hb1V, hI, hlt, hC⟩ := band_boxes lo hi r hr W
  have cP : Calls Tryz.prog 7 #[.slice (some ⟨W1.heap.size, 0, none⟩) 1 1] V fun e w' => e = .returned (.bool (pricedB [r])) ∧ w' = V := priced_any [r] (by simp) V hI
  obtain ⟨c0, c1⟩ := hC W1 (Below.refl _ _)
  obtain ⟨v0, v1⟩ := hC V hb1V
  rw [priced_one] at cP
  clear hI
  by_cases h60 : 60 < l.length
  · have d60 : decide ((60 : Int) < (l.length : Int)) = true := decide_eq_true (by omega)
    clear h60 cP hV hbV v0 v1 hC
    go_enter Tryz.func5, Tryz.ntmps5
    go_wp2_with (first
      | (go_at_call 8; rw [← hW1]; refine (cA _ (hG.below hb1)).mono ?_; rintro e w3 ⟨rfl, hb3⟩; clear cA)
      | fail)
    go_ret
    exact ⟨rfl, hb1.trans (hb3.mono hb1.size)⟩
  have d60 : decide ((60 : Int) < (l.length : Int)) = false := decide_eq_false (by omega)
  by_cases hp : 0 ≤ r ∧ r ≤ 1099511627776
  rotate_left
  · rw [decide_eq_false hp] at cP
    clear hp h60 hC
    go_enter Tryz.func5, Tryz.ntmps5
    go_wp2_with (first
      | (rw [← hW1]; clear hW1)
      | (go_at_call 7; rw [← hV]; refine cP.mono ?_; rintro e w2 ⟨rfl, hw2⟩; subst w2; clear cP hV)
      | (go_at_call 8; refine (cA _ (hG.below hbV)).mono ?_; rintro e w3 ⟨rfl, hb3⟩; clear cA)
      | fail)
    go_ret
    exact ⟨rfl, hbV.trans (hb3.mono hbV.size)⟩
  rw [decide_eq_true hp] at cP
  have key : (decide (x < lo) = true ∨ (decide (x < lo) = false ∧ (decide (hi < x) = true ∨ (decide (hi < x) = false ∧ (decide (lo < 1) = true ∨ (decide (lo < 1) = false ∧ decide (1099511627776 < hi) = true)))))) ∨
      (decide (x < lo) = false ∧ decide (hi < x) = false ∧ decide (lo < 1) = false ∧ decide (1099511627776 < hi) = false ∧ lo ≤ x ∧ x ≤ hi ∧ 1 ≤ lo ∧ hi ≤ 1099511627776) := by
    simp only [decide_eq_true_eq, decide_eq_false_iff_not]
    omega
  rcases key with key | ⟨e1, e2, e3, e4, q1, q2, q3, q4⟩
  · clear h60 hp hC
    rcases key with e1 | ⟨e1, e2 | ⟨e2, e3 | ⟨e3, e4⟩⟩⟩
    all_goals
      go_enter Tryz.func5, Tryz.ntmps5
      go_wp2_with (first
        | (rw [← hW1]; clear hW1)
        | (go_at_call 7; rw [← hV]; refine cP.mono ?_; rintro e w2 ⟨rfl, hw2⟩; subst w2; clear cP hV)
        | (go_at_call 8; refine (cA _ (hG.below hbV)).mono ?_; rintro e w3 ⟨rfl, hb3⟩; clear cA)
        | fail)
      go_ret
      exact ⟨rfl, hbV.trans (hb3.mono hbV.size)⟩
  have cB := books_any ao cap l V (hG.below hbV) (hL.below hbV) hF (by omega)
  have hok := bks_ok hF
  clear hL hF h60 hl3
  generalize bks l = b at *
  have hq0 : ∀ o ∈ b.L, 0 ≤ o.qty := fun o ho => by
    have := (hok.ok o ho).q1
    omega
  obtain ⟨hm1, hm2⟩ := chs_most (L := b.L) (r := r) (lo := lo) (hi := hi) (x := x) hq0 (by rw [bLo_eq q3]; exact q1) (by rw [bHi_eq q4]; exact q2)
  rw [bLo_eq q3, bHi_eq q4] at hm2
  have cC := fun g k t w (h : Bb V (fun _ => False) g t k b b w) => bbChoose r lo hi hp hlo hhi h
  have cR := fun (t : Nat) (S : Nat → Prop) (w : World) (h : RK w t S b) => rof17_any x hok h
  have cR2' := fun (t : Nat) (S : Nat → Prop) (w : World) (y : Int) (h : RK w t S b) => rof17_any y hok h
  have cH := fun (t : Nat) (S : Nat → Prop) (w : World) (h : RK w t S b) => has_any x hok h
  have fin : ∀ g t k w, Bb V (fun _ => False) g t k b b w → Below V.heap.size V w := fun g t k w h => h.frm.below (Nat.le_refl _) (fun _ f => f.elim)
  have hcell : ∀ w, Below V.heap.size V w → w.cell? ⟨W.heap.size, 0, none⟩ = some (.int .i64 lo) ∧ w.cell? ⟨W.heap.size, 1, none⟩ = some (.int .i64 hi) := fun w h => hC w (hb1V.trans (h.mono hb1V.size))
  have hgl : ∀ w, Below V.heap.size V w → Gl w ∧ Below W.heap.size W w := fun w h => by
    have := hbV.trans (h.mono hbV.size)
    exact ⟨hG.below this, this⟩
  obtain ⟨u, hu⟩ : ∃ u, u = prcOf b.L x := ⟨_, rfl⟩
  have hv : volP (catL b.L x) = u.volume := by rw [hu]; rfl
  have ho : oddP (catL b.L x) = u.odds := by rw [hu]; rfl
  rw [← hu] at cR
  rw [hv] at hm1 hm2
  rw [ho] at hm2
  have hhs := hasB_iff (L := b.L) (p := x)
  rw [← hhs] at hm2
  generalize hasB b.L x = hs at *
  obtain ⟨c, hc⟩ : ∃ c, c = chsL b.L r lo hi := ⟨_, rfl⟩
  rw [← hc] at hm1 hm2 cC
  have hcp : c.2 = true → prcOf b.L c.1.price = c.1 := fun h => (hm2 h).2.2.1.symm
  clear hc hu hv ho hp hlo hhi hr hC q1 q2 q3 q4 hq0 hhs
  obtain ⟨⟨pp, pv, po⟩, is⟩ := c
  obtain ⟨up, uv, uo⟩ := u
  simp only at hm1 hm2 cC hcp
  have hnx : ∀ w3, Below V.heap.size V w3 → ∃ U, U = w3.alloc (.cells #[.int .i64 pp, .int .i64 pv, .int .i64 po] 32) ∧ Below V.heap.size V U ∧ (∀ w, Below U.heap.size U w → w.cell? ⟨w3.heap.size, 0, none⟩ = some (.int .i64 pp) ∧ w.cell? ⟨w3.heap.size, 1, none⟩ = some (.int .i64 pv) ∧ w.cell? ⟨w3.heap.size, 2, none⟩ = some (.int .i64 po)) := fun w3 h => by
    have hN := Blk.new w3 32 (cPrc ⟨pp, pv, po⟩)
    exact ⟨_, rfl, h.alloc h.size _, fun w hb => Prc.cells (hN.below hb hN.lt)⟩
  have hnx2' : ∀ (U w3 : World) (n : Nat), (∀ w, Below U.heap.size U w → w.cell? ⟨n, 0, none⟩ = some (.int .i64 pp) ∧ w.cell? ⟨n, 1, none⟩ = some (.int .i64 pv) ∧ w.cell? ⟨n, 2, none⟩ = some (.int .i64 po)) → Below V.heap.size V U → Below U.heap.size U w3 → ∃ U2, U2 = w3.alloc (.cells #[.int .i64 up, .int .i64 uv, .int .i64 uo] 35) ∧ Below V.heap.size V U2 ∧ Below U.heap.size U U2 ∧
      Hid (∀ w, Below U2.heap.size U2 w → (w.cell? ⟨W.heap.size, 0, none⟩ = some (.int .i64 lo) ∧ w.cell? ⟨W.heap.size, 1, none⟩ = some (.int .i64 hi)) ∧ (w.cell? ⟨n, 0, none⟩ = some (.int .i64 pp) ∧ w.cell? ⟨n, 1, none⟩ = some (.int .i64 pv) ∧ w.cell? ⟨n, 2, none⟩ = some (.int .i64 po)) ∧ w.cell? ⟨w3.heap.size, 0, none⟩ = some (.int .i64 up) ∧ w.cell? ⟨w3.heap.size, 1, none⟩ = some (.int .i64 uv) ∧ w.cell? ⟨w3.heap.size, 2, none⟩ = some (.int .i64 uo)) := fun U w3 n h0 h1 h2 => by
    have hN := Blk.new w3 35 (cPrc ⟨up, uv, uo⟩)
    have hU2 : Below U.heap.size U (w3.alloc (.cells #[.int .i64 up, .int .i64 uv, .int .i64 uo] 35)) := h2.alloc h2.size _
    exact ⟨_, rfl, h1.trans (hU2.mono h1.size), hU2, Lib.hid fun w hb => ⟨hcell w ((h1.trans (hU2.mono h1.size)).trans (hb.mono (h1.trans (hU2.mono h1.size)).size)), h0 w (hU2.trans (hb.mono hU2.size)), Prc.cells (hN.below hb hN.lt)⟩⟩
  have hkeep : ∀ g t k w3 U, Bb V (fun _ => False) g t k b b w3 → U = w3.alloc (.cells #[.int .i64 pp, .int .i64 pv, .int .i64 po] 32) → Bb V (fun _ => False) g t k b b U := fun g t k w3 U h e => by rw [e]; exact h.below ((Below.refl _ _).alloc (Nat.le_refl _) _)
  simp only [vPrc, cPrc] at cC cR
  cases is with
  | false =>
    obtain ⟨hz0, hv0⟩ := hm1 rfl
    have dv : (uv == 0) = true := by simpa using hv0
    have qE := fun w => eql_Pcc ⟨pp, pv, po⟩ .zero w
    have he : eqPrc ⟨pp, pv, po⟩ .zero = true := by rw [hz0]; exact eqPrc_self _
    rw [he] at qE
    simp only [Prc.zero] at qE
    clear hz0 hv0 he
    simp only [vPrc, cPrc] at qE
    clear hm1 hm2 hcp cR2' cH
    go_enter Tryz.func5, Tryz.ntmps5
    go_wp2_with (first
      | (rw [← hW1]; clear hW1)
      | (go_at_call 7; rw [← hV]; refine cP.mono ?_; rintro e w2 ⟨rfl, hw2⟩; subst w2; clear cP hV)
      | (go_at_call 9; refine cB.mono ?_; rintro e w4 ⟨g, t, rfl, k4⟩; clear cB v0 v1; obtain ⟨v0, v1⟩ := hcell _ (fin _ _ _ _ k4))
      | (go_at_call 10; refine (cC _ _ _ _ k4).mono ?_; rintro e w5 ⟨rfl, k5, -⟩; clear cC k4; obtain ⟨U, hU, hbU, hz⟩ := hnx w5 (fin _ _ _ _ k5); have k6 := hkeep _ _ _ _ _ k5 hU; obtain ⟨Sp, Sr, -, hR6, -⟩ := k6.both; clear v0 v1)
      | (rw [← hU]; clear hU)
      | (go_at_call 20; refine (cR _ _ _ hR6).mono ?_; rintro e w7 ⟨rfl, hb7⟩; obtain ⟨U2, hU2, hbU2, hbUU, hfac⟩ := hnx2' _ _ _ hz hbU hb7; obtain ⟨⟨v0, v1⟩, ⟨z0, z1, z2⟩, y0, y1, y2⟩ := hfac.out U2 (Below.refl _ _))
      | (rw [← hU2]; clear hU2)
      | (go_at_call 8; refine (cA _ (hgl _ hbU2).1).mono ?_; rintro e w8 ⟨rfl, hb8⟩; clear cA)
      | fail)
    go_ret
    exact ⟨rfl, (hgl _ hbU2).2.trans (hb8.mono (hgl _ hbU2).2.size)⟩
  | true =>
    obtain ⟨g1, g2, -, g4, g5⟩ := hm2 rfl
    have hcp2 := hcp rfl
    have f1 : decide (pp < lo) = false := decide_eq_false (by omega)
    have f2 : decide (hi < pp) = false := decide_eq_false (by omega)
    have f3 : decide (pv < uv) = false := decide_eq_false (by omega)
    have key3 : hs = false ∨ (hs = true ∧ ((uv == pv) = false ∨ ((uv == pv) = true ∧ decide (uo < po) = false))) := by
      cases hs with
      | false => exact .inl rfl
      | true =>
        refine .inr ⟨rfl, ?_⟩
        by_cases e : uv = pv
        · exact .inr ⟨by simpa using e, decide_eq_false (by have := g5 rfl e; omega)⟩
        · exact .inl (by simpa using e)
    have cW := fun w => own17_any ⟨pp, pv, po⟩ w
    have qE := fun w => neq_Pcc ⟨pp, pv, po⟩ ⟨pp, pv, po⟩ w
    rw [eqPrc_self] at qE
    simp only [vPrc, cPrc, Bool.not_true] at qE cW
    have hR2 : ∀ (U2 : World) (t : Nat) (S : Nat → Prop), RK U2 t S b → Hid (∀ w, Below U2.heap.size U2 w → Calls Tryz.prog 20 #[.pointer (some ⟨t, 0, none⟩), .int .i64 pp] w fun e w' => e = .returned (.agg #[.int .i64 pp, .int .i64 pv, .int .i64 po]) ∧ Below w.heap.size w w') := fun U2 t S h => Lib.hid fun w hb => by
      have := cR2' t S w pp (h.below hb)
      rw [hcp2] at this
      exact this
    clear hm1 hm2 hcp hcp2 cR2' g1 g2 g4 g5
    go_enter Tryz.func5, Tryz.ntmps5
    go_wp2_with (first
      | (rw [← hW1]; clear hW1)
      | (go_at_call 7; rw [← hV]; refine cP.mono ?_; rintro e w2 ⟨rfl, hw2⟩; subst w2; clear cP hV)
      | (go_at_call 9; refine cB.mono ?_; rintro e w4 ⟨g, t, rfl, k4⟩; clear cB v0 v1; obtain ⟨v0, v1⟩ := hcell _ (fin _ _ _ _ k4))
      | (go_at_call 10; refine (cC _ _ _ _ k4).mono ?_; rintro e w5 ⟨rfl, k5, -⟩; clear cC k4; obtain ⟨U, hU, hbU, hz⟩ := hnx w5 (fin _ _ _ _ k5); have k6 := hkeep _ _ _ _ _ k5 hU; obtain ⟨Sp, Sr, -, hR6, -⟩ := k6.both; clear v0 v1)
      | (rw [← hU]; clear hU)
      | (go_at_call 20; refine (cR _ _ _ hR6).mono ?_; rintro e w7 ⟨rfl, hb7⟩; obtain ⟨U2, hU2, hbU2, hbUU, hfac⟩ := hnx2' _ _ _ hz hbU hb7; obtain ⟨⟨v0, v1⟩, ⟨z0, z1, z2⟩, y0, y1, y2⟩ := hfac.out U2 (Below.refl _ _))
      | (rw [← hU2]; clear hU2)
      | fail)
    have hRU := hR6.below hbUU
    have cR2 := hR2 U2 t Sr hRU
    clear v0 v1 z0 z1 z2 y0 y1 y2 hR2 hz hnx hnx2' hkeep
    refine wp_region_S (S := fun _ w => Below U2.heap.size U2 w) (by kernel_rfl) (Below.refl _ _).drew ?_
    refine AllS.next (v := ?_) rfl rfl rfl (by kernel_rfl) ?_ ?_
    rotate_left
    · refine yieldsS_run (fun _ _ h => h) (by rfl) ?_
      intro L wx hS
      go_simp
      all_goals first
        | done
        | with_reducible rfl
        | assumption
        | omega
        | (simp_all; done)
    try simp only [Act.put, List.setIfInBounds_toArray, List.set_cons_zero, List.set_cons_succ, List.getElem_toArray, List.getElem_cons_zero, List.getElem_cons_succ]
    refine AllS.next (v := ?_) rfl rfl rfl (by kernel_rfl) ?_ ?_
    rotate_left
    · refine yieldsS_run (fun _ _ h => h) (by rfl) ?_
      intro L wx hS
      obtain ⟨⟨v0, v1⟩, ⟨z0, z1, z2⟩, y0, y1, y2⟩ := hfac.out wx hS
      go_simp
      all_goals first
        | done
        | with_reducible rfl
        | assumption
        | omega
        | (simp_all; done)
    try simp only [Act.put, List.setIfInBounds_toArray, List.set_cons_zero, List.set_cons_succ, List.getElem_toArray, List.getElem_cons_zero, List.getElem_cons_succ]
    refine AllS.next (v := ?_) rfl rfl rfl (by kernel_rfl) ?_ ?_
    rotate_left
    · refine yieldsS_run (fun _ _ h => h) (by rfl) ?_
      intro L wx hS
      go_simp
      all_goals first
        | done
        | with_reducible rfl
        | assumption
        | omega
        | (simp_all; done)
    try simp only [Act.put, List.setIfInBounds_toArray, List.set_cons_zero, List.set_cons_succ, List.getElem_toArray, List.getElem_cons_zero, List.getElem_cons_succ]
    refine AllS.next (v := ?_) rfl rfl rfl (by kernel_rfl) ?_ ?_
    rotate_left
    · refine yieldsS_run (fun _ _ h => h) (by rfl) ?_
      intro L wx hS
      obtain ⟨⟨v0, v1⟩, ⟨z0, z1, z2⟩, y0, y1, y2⟩ := hfac.out wx hS
      go_simp
      all_goals first
        | done
        | with_reducible rfl
        | assumption
        | omega
        | (simp_all; done)
    try simp only [Act.put, List.setIfInBounds_toArray, List.set_cons_zero, List.set_cons_succ, List.getElem_toArray, List.getElem_cons_zero, List.getElem_cons_succ]
    refine AllS.next (v := (.bool false)) rfl rfl rfl (by kernel_rfl) ?_ ?_
    · refine yieldsS_run (fun _ _ h => h) (by rfl) ?_
      intro L wx hS
      go_simp
      all_goals first
        | done
        | with_reducible rfl
        | assumption
        | omega
        | (simp_all; done)
    try simp only [Act.put, List.setIfInBounds_toArray, List.set_cons_zero, List.set_cons_succ, List.getElem_toArray, List.getElem_cons_zero, List.getElem_cons_succ]
    refine AllS.next (v := ?_) rfl rfl rfl (by kernel_rfl) ?_ ?_
    rotate_left
    · refine yieldsS_run (fun _ _ h => h) (by rfl) ?_
      intro L wx hS
      go_simp
      all_goals first
        | done
        | with_reducible rfl
        | assumption
        | omega
        | (simp_all; done)
    try simp only [Act.put, List.setIfInBounds_toArray, List.set_cons_zero, List.set_cons_succ, List.getElem_toArray, List.getElem_cons_zero, List.getElem_cons_succ]
    refine AllS.next (v := ?_) rfl rfl rfl (by kernel_rfl) ?_ ?_
    rotate_left
    · refine yieldsS_run (fun _ _ h => h) (by rfl) ?_
      intro L wx hS
      go_simp
      all_goals first
        | done
        | with_reducible rfl
        | assumption
        | omega
        | (simp_all; done)
    try simp only [Act.put, List.setIfInBounds_toArray, List.set_cons_zero, List.set_cons_succ, List.getElem_toArray, List.getElem_cons_zero, List.getElem_cons_succ]
    refine AllS.next (v := ?_) rfl rfl rfl (by kernel_rfl) ?_ ?_
    rotate_left
    · refine yieldsS_run (fun _ _ h => h) (by rfl) ?_
      intro L wx hS
      obtain ⟨⟨v0, v1⟩, ⟨z0, z1, z2⟩, y0, y1, y2⟩ := hfac.out wx hS
      go_simp
      all_goals first
        | done
        | with_reducible rfl
        | assumption
        | omega
        | (simp_all; done)
    try simp only [Act.put, List.setIfInBounds_toArray, List.set_cons_zero, List.set_cons_succ, List.getElem_toArray, List.getElem_cons_zero, List.getElem_cons_succ]
    refine AllS.next (v := ?_) rfl rfl rfl (by kernel_rfl) ?_ ?_
    rotate_left
    · refine yieldsS_run (fun _ _ h => h) (by rfl) ?_
      intro L wx hS
      go_simp
      all_goals first
        | done
        | with_reducible rfl
        | assumption
        | omega
        | (simp_all; done)
    try simp only [Act.put, List.setIfInBounds_toArray, List.set_cons_zero, List.set_cons_succ, List.getElem_toArray, List.getElem_cons_zero, List.getElem_cons_succ]
    refine AllS.next (v := ?_) rfl rfl rfl (by kernel_rfl) ?_ ?_
    rotate_left
    · refine yieldsS_run (fun _ _ h => h) (by rfl) ?_
      intro L wx hS
      obtain ⟨⟨v0, v1⟩, ⟨z0, z1, z2⟩, y0, y1, y2⟩ := hfac.out wx hS
      go_simp
      all_goals first
        | done
        | with_reducible rfl
        | assumption
        | omega
        | (simp_all; done)
    try simp only [Act.put, List.setIfInBounds_toArray, List.set_cons_zero, List.set_cons_succ, List.getElem_toArray, List.getElem_cons_zero, List.getElem_cons_succ]
    refine AllS.next (v := (.bool false)) rfl rfl rfl (by kernel_rfl) ?_ ?_
    · refine yieldsS_run (fun _ _ h => h) (by rfl) ?_
      intro L wx hS
      go_simp
      all_goals first
        | done
        | with_reducible rfl
        | assumption
        | omega
        | (simp_all; done)
    try simp only [Act.put, List.setIfInBounds_toArray, List.set_cons_zero, List.set_cons_succ, List.getElem_toArray, List.getElem_cons_zero, List.getElem_cons_succ]
    refine AllS.next (v := (.bool false)) rfl rfl rfl (by kernel_rfl) ?_ ?_
    · refine yieldsS_run (fun _ _ h => h) (by rfl) ?_
      intro L wx hS
      go_simp
      all_goals first
        | done
        | with_reducible rfl
        | assumption
        | omega
        | (simp_all; done)
    try simp only [Act.put, List.setIfInBounds_toArray, List.set_cons_zero, List.set_cons_succ, List.getElem_toArray, List.getElem_cons_zero, List.getElem_cons_succ]
    refine AllS.next (v := ?_) rfl rfl rfl (by kernel_rfl) ?_ ?_
    rotate_left
    · refine yieldsS_run (fun _ _ h => h) (by rfl) ?_
      intro L wx hS
      go_simp
      all_goals first
        | done
        | with_reducible rfl
        | assumption
        | omega
        | (simp_all; done)
    try simp only [Act.put, List.setIfInBounds_toArray, List.set_cons_zero, List.set_cons_succ, List.getElem_toArray, List.getElem_cons_zero, List.getElem_cons_succ]
    refine AllS.next (v := ?_) rfl rfl rfl (by kernel_rfl) ?_ ?_
    rotate_left
    · refine yieldsS_run (fun _ _ h => h) (by rfl) ?_
      intro L wx hS
      obtain ⟨⟨v0, v1⟩, ⟨z0, z1, z2⟩, y0, y1, y2⟩ := hfac.out wx hS
      go_simp
      all_goals first
        | done
        | with_reducible rfl
        | assumption
        | omega
        | (simp_all; done)
    try simp only [Act.put, List.setIfInBounds_toArray, List.set_cons_zero, List.set_cons_succ, List.getElem_toArray, List.getElem_cons_zero, List.getElem_cons_succ]
    refine AllS.next (v := ?_) rfl rfl rfl (by kernel_rfl) ?_ ?_
    rotate_left
    · refine yieldsS_run (fun _ _ h => h) (by rfl) ?_
      intro L wx hS
      go_simp
      all_goals first
        | done
        | with_reducible rfl
        | assumption
        | omega
        | (simp_all; done)
    try simp only [Act.put, List.setIfInBounds_toArray, List.set_cons_zero, List.set_cons_succ, List.getElem_toArray, List.getElem_cons_zero, List.getElem_cons_succ]
    refine AllS.next (v := ?_) rfl rfl rfl (by kernel_rfl) ?_ ?_
    rotate_left
    · refine yieldsS_run (fun _ _ h => h) (by rfl) ?_
      intro L wx hS
      go_simp
      all_goals first
        | done
        | with_reducible rfl
        | assumption
        | omega
        | (simp_all; done)
    try simp only [Act.put, List.setIfInBounds_toArray, List.set_cons_zero, List.set_cons_succ, List.getElem_toArray, List.getElem_cons_zero, List.getElem_cons_succ]
    refine AllS.next (v := ?_) rfl rfl rfl (by kernel_rfl) ?_ ?_
    rotate_left
    · refine yieldsS_run (fun _ _ h => h) (by rfl) ?_
      intro L wx hS
      obtain ⟨⟨v0, v1⟩, ⟨z0, z1, z2⟩, y0, y1, y2⟩ := hfac.out wx hS
      go_simp
      all_goals first
        | done
        | with_reducible rfl
        | assumption
        | omega
        | (simp_all; done)
    try simp only [Act.put, List.setIfInBounds_toArray, List.set_cons_zero, List.set_cons_succ, List.getElem_toArray, List.getElem_cons_zero, List.getElem_cons_succ]
    refine AllS.next (v := (.agg #[.int .i64 pp, .int .i64 pv, .int .i64 po])) rfl rfl rfl (by kernel_rfl) ?_ ?_
    · refine yieldsS_call (f := 20) (args := #[.pointer (some ⟨t, 0, none⟩), .int .i64 pp]) (by rfl) ?_ ?_
      · intro wx
        go_simp
        try with_reducible rfl
      · intro L wx hS
        exact (cR2.out wx hS).mono fun e w h => ⟨h.1, hS.trans (h.2.mono hS.size)⟩
    try simp only [Act.put, List.setIfInBounds_toArray, List.set_cons_zero, List.set_cons_succ, List.getElem_toArray, List.getElem_cons_zero, List.getElem_cons_succ]
    refine AllS.next (v := (.agg #[.int .i64 pp, .int .i64 pv, .int .i64 po])) rfl rfl rfl (by kernel_rfl) ?_ ?_
    · refine yieldsS_call (f := 14) (args := #[(.agg #[.int .i64 pp, .int .i64 pv, .int .i64 po])]) (by rfl) ?_ ?_
      · intro wx
        go_simp
        try with_reducible rfl
      · intro L wx hS
        exact (cW wx).mono fun e w h => ⟨h.1, hS.trans (h.2.mono hS.size)⟩
    try simp only [Act.put, List.setIfInBounds_toArray, List.set_cons_zero, List.set_cons_succ, List.getElem_toArray, List.getElem_cons_zero, List.getElem_cons_succ]
    refine AllS.next (v := (.bool false)) rfl rfl rfl (by kernel_rfl) ?_ ?_
    · refine yieldsS_run (fun _ _ h => h) (by rfl) ?_
      intro L wx hS
      go_simp
      all_goals first
        | done
        | with_reducible rfl
        | assumption
        | omega
        | (simp_all; done)
    try simp only [Act.put, List.setIfInBounds_toArray, List.set_cons_zero, List.set_cons_succ, List.getElem_toArray, List.getElem_cons_zero, List.getElem_cons_succ]
    refine AllS.next (v := (.bool false)) rfl rfl rfl (by kernel_rfl) ?_ ?_
    · refine yieldsS_run (fun _ _ h => h) (by rfl) ?_
      intro L wx hS
      go_simp
      all_goals first
        | done
        | with_reducible rfl
        | assumption
        | omega
        | (simp_all; done)
    try simp only [Act.put, List.setIfInBounds_toArray, List.set_cons_zero, List.set_cons_succ, List.getElem_toArray, List.getElem_cons_zero, List.getElem_cons_succ]
    refine AllS.next (v := ?_) rfl rfl rfl (by kernel_rfl) ?_ ?_
    rotate_left
    · refine yieldsS_run (fun _ _ h => h) (by rfl) ?_
      intro L wx hS
      go_simp
      all_goals first
        | done
        | with_reducible rfl
        | assumption
        | omega
        | (simp_all; done)
    try simp only [Act.put, List.setIfInBounds_toArray, List.set_cons_zero, List.set_cons_succ, List.getElem_toArray, List.getElem_cons_zero, List.getElem_cons_succ]
    refine AllS.next (v := ?_) rfl rfl rfl (by kernel_rfl) ?_ ?_
    rotate_left
    · refine yieldsS_run (fun _ _ h => h) (by rfl) ?_
      intro L wx hS
      go_simp
      all_goals first
        | done
        | with_reducible rfl
        | assumption
        | omega
        | (simp_all; done)
    try simp only [Act.put, List.setIfInBounds_toArray, List.set_cons_zero, List.set_cons_succ, List.getElem_toArray, List.getElem_cons_zero, List.getElem_cons_succ]
    refine AllS.next (v := ?_) rfl rfl rfl (by kernel_rfl) ?_ ?_
    rotate_left
    · refine yieldsS_run (fun _ _ h => h) (by rfl) ?_
      intro L wx hS
      obtain ⟨⟨v0, v1⟩, ⟨z0, z1, z2⟩, y0, y1, y2⟩ := hfac.out wx hS
      go_simp
      all_goals first
        | done
        | with_reducible rfl
        | assumption
        | omega
        | (simp_all; done)
    try simp only [Act.put, List.setIfInBounds_toArray, List.set_cons_zero, List.set_cons_succ, List.getElem_toArray, List.getElem_cons_zero, List.getElem_cons_succ]
    refine AllS.next (v := ?_) rfl rfl rfl (by kernel_rfl) ?_ ?_
    rotate_left
    · refine yieldsS_run (fun _ _ h => h) (by rfl) ?_
      intro L wx hS
      go_simp
      all_goals first
        | done
        | with_reducible rfl
        | assumption
        | omega
        | (simp_all; done)
    try simp only [Act.put, List.setIfInBounds_toArray, List.set_cons_zero, List.set_cons_succ, List.getElem_toArray, List.getElem_cons_zero, List.getElem_cons_succ]
    refine AllS.next (v := ?_) rfl rfl rfl (by kernel_rfl) ?_ ?_
    rotate_left
    · refine yieldsS_run (fun _ _ h => h) (by rfl) ?_
      intro L wx hS
      obtain ⟨⟨v0, v1⟩, ⟨z0, z1, z2⟩, y0, y1, y2⟩ := hfac.out wx hS
      go_simp
      all_goals first
        | done
        | with_reducible rfl
        | assumption
        | omega
        | (simp_all; done)
    try simp only [Act.put, List.setIfInBounds_toArray, List.set_cons_zero, List.set_cons_succ, List.getElem_toArray, List.getElem_cons_zero, List.getElem_cons_succ]
    refine AllS.next (v := (.bool false)) rfl rfl rfl (by kernel_rfl) ?_ ?_
    · refine yieldsS_run (fun _ _ h => h) (by rfl) ?_
      intro L wx hS
      go_simp
      all_goals first
        | done
        | with_reducible rfl
        | assumption
        | omega
        | (simp_all; done)
    try simp only [Act.put, List.setIfInBounds_toArray, List.set_cons_zero, List.set_cons_succ, List.getElem_toArray, List.getElem_cons_zero, List.getElem_cons_succ]
    refine AllS.next (v := (.bool false)) rfl rfl rfl (by kernel_rfl) ?_ ?_
    · refine yieldsS_run (fun _ _ h => h) (by rfl) ?_
      intro L wx hS
      go_simp
      all_goals first
        | done
        | with_reducible rfl
        | assumption
        | omega
        | (simp_all; done)
    try simp only [Act.put, List.setIfInBounds_toArray, List.set_cons_zero, List.set_cons_succ, List.getElem_toArray, List.getElem_cons_zero, List.getElem_cons_succ]
    refine AllS.done (by kernel_rfl) ?_
    intro w9 hS9
    obtain ⟨⟨v0, v1⟩, ⟨z0, z1, z2⟩, y0, y1, y2⟩ := hfac.out _ hS9
    have cH9 := cH _ _ _ (hRU.below hS9)
    have hb29 := hbU2.trans (hS9.mono hbU2.size)
    clear cH cR2 cW qE f1 f2 f3
    rcases key3 with rfl | ⟨rfl, h3 | ⟨h3, h4⟩⟩
    all_goals
      go_wp2_with (first
        | (go_at_call 21; refine cH9.mono ?_; rintro e w10 ⟨rfl, hb10⟩; clear cH9 v0 v1 z0 z1 z2 y0 y1 y2; obtain ⟨⟨v0, v1⟩, ⟨z0, z1, z2⟩, y0, y1, y2⟩ := hfac.out _ (hS9.trans (hb10.mono hS9.size)); have hb210 := hb29.trans (hb10.mono hb29.size))
        | (go_at_call 8; refine (cA _ (hgl _ hb210).1).mono ?_; rintro e w8 ⟨rfl, hb8⟩; clear cA)
        | fail)
      go_ret
      exact ⟨rfl, (hgl _ hb210).2.trans (hb8.mono (hgl _ hb210).2.size)⟩
end Go.Proofs.YtohenmnpmgghhaaGreatDoor
