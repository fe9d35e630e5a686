/-
  The program's Fits, Room and Worth, Best and At.
  The program's judge.
-/
import Derived.Test.YtdmjcjheanedgaaDoorGR
import Derived.Test.YtdmjcjheanedgaaDoorGN
namespace Go.Proofs.YtdmjcjheanedgaaDoor
open Go.RowKit
set_option linter.unusedSimpArgs false
section
variable {w w' W : World} {g k lv ga gf gx g0 g1 : Nat} {S T So : Nat → Prop} {b : Bk} {a : Ar} {x : List Ixr} {f : Fq} {d : Int → Ld}
theorem half_field (u v : Value) (w : World) : (Instr.field 73 (.agg #[u, v]) 0).run Tryd.prog w = .ok u w := by kernel_rfl
theorem fits_walk (p : Option Addr) (s c : Int) (W : World) (l : Option Addr) (n : Int) (q : Bool) (cH : Calls Tryd.prog 38 #[.pointer p, .int .i64 s] W fun e w' => e = .returned (.agg #[.pointer l, .int .i64 n]) ∧ Below W.heap.size W w')
    (cL : ∀ w, Below W.heap.size W w → Calls Tryd.prog 88 #[.pointer l, .int .i64 c] w fun e w' => e = .returned (.bool q) ∧ Below w.heap.size w w') :
    Calls Tryd.prog 73 #[.pointer p, .int .i64 s, .int .i64 c] W fun e w' => e = .returned (.bool q) ∧ Below W.heap.size W w' := by
  have hfld := half_field (.pointer l) (.int .i64 n)
  go_enter Tryd.func73, Tryd.ntmps73
  go_wp2_with (first
    | (go_at_call 38; refine cH.mono ?_; rintro e w1 ⟨rfl, hb1⟩; clear cH; have cL1 := cL _ hb1; clear cL)
    | (go_at_call 88; refine cL1.mono ?_; rintro e w2 ⟨rfl, hb2⟩; clear cL1)
    | fail)
  go_ret
  exact ⟨rfl, hb1.trans (hb2.mono hb1.size)⟩
theorem fits_yes (s p : Int) (hs : s = 0 ∨ s = 1) (hB : Blk W g 77 (cBook lv ga gf gx g0 g1)) (hb : Bs W So ga gf gx g0 g1 k a x f d W) (hw : (d s).Wf 500) :
    Calls Tryd.prog 73 #[.pointer (some ⟨g, 0, none⟩), .int .i64 s, .int .i64 p] W fun e w' => e = .returned (.bool ((d s).fits p)) ∧ Below W.heap.size W w' :=
  fits_walk _ s p W _ _ _ (half_yes s hs hB) fun _ h => (hb.here h).lfits hs hw p
theorem fits_no (s p : Int) (hs : ¬ (s = 0 ∨ s = 1)) (g : Nat) (W : World) :
    Calls Tryd.prog 73 #[.pointer (some ⟨g, 0, none⟩), .int .i64 s, .int .i64 p] W fun e w' => e = .returned (.bool false) ∧ Below W.heap.size W w' :=
  fits_walk _ s p W _ _ _ (half_no s hs g W) fun w _ => (lfitsNil_any p w).mono fun e w' h => ⟨h.1, by rw [h.2]; exact Below.refl _ _⟩
theorem room_walk (p : Option Addr) (s c : Int) (W : World) (q : Bool) (n : Int) (cF : Calls Tryd.prog 73 #[.pointer p, .int .i64 s, .int .i64 c] W fun e w' => e = .returned (.bool q) ∧ Below W.heap.size W w')
    (hq : q = true → ∃ g ga, p = some ⟨g, 0, none⟩ ∧ ∀ w, Below W.heap.size W w → w.cell? ⟨g, 0, none⟩ = some (.pointer (some ⟨ga, 0, none⟩)) ∧ Calls Tryd.prog 56 #[.pointer (some ⟨ga, 0, none⟩)] w fun e w' => e = .returned (.int .i64 n) ∧ Below w.heap.size w w') :
    Calls Tryd.prog 55 #[.pointer p, .int .i64 s, .int .i64 c] W fun e w' => e = .returned (.bool (q && decide (0 < n))) ∧ Below W.heap.size W w' := by
  cases q
  · clear hq
    go_enter Tryd.func55, Tryd.ntmps55
    go_wp2_with (first
      | (go_at_call 73; refine cF.mono ?_; rintro e w1 ⟨rfl, hb1⟩; clear cF)
      | fail)
    go_ret
    exact ⟨by simp, hb1⟩
  · obtain ⟨g, ga, rfl, hr⟩ := hq rfl
    go_enter Tryd.func55, Tryd.ntmps55
    go_wp2_with (first
      | (go_at_call 73; refine cF.mono ?_; rintro e w1 ⟨rfl, hb1⟩; clear cF; obtain ⟨c0, cR⟩ := hr _ hb1; clear hr)
      | (go_at_call 56; refine cR.mono ?_; rintro e w2 ⟨rfl, hb2⟩; clear cR)
      | fail)
    go_ret
    exact ⟨by simp, hb1.trans (hb2.mono hb1.size)⟩
theorem room_yes (s p : Int) (hs : s = 0 ∨ s = 1) (hB : Blk W g 77 (cBook lv ga gf gx g0 g1)) (hb : Bs W So ga gf gx g0 g1 k a x f d W) (hw : (d s).Wf 500) :
    Calls Tryd.prog 55 #[.pointer (some ⟨g, 0, none⟩), .int .i64 s, .int .i64 p] W fun e w' => e = .returned (.bool ((d s).fits p && decide (0 < (a.fr.length : Int)))) ∧ Below W.heap.size W w' :=
  room_walk _ s p W _ _ (fits_yes s p hs hB hb hw) fun _ => ⟨g, ga, rfl, fun w h => ⟨(hB.below h hB.lt).cell_eq 0 _ rfl, ((hb.here h).room).mono fun e w' h => ⟨h.1, by
    obtain ⟨n, rfl⟩ := h.2
    exact Go.Proofs.YtdmjcjheanedgaaDoor.fbelow_drewN (Below.refl _ _) n⟩⟩⟩
theorem room_no (s p : Int) (hs : ¬ (s = 0 ∨ s = 1)) (g : Nat) (W : World) :
    Calls Tryd.prog 55 #[.pointer (some ⟨g, 0, none⟩), .int .i64 s, .int .i64 p] W fun e w' => e = .returned (.bool false) ∧ Below W.heap.size W w' :=
  room_walk _ s p W _ 0 (fits_no s p hs g W) fun h => by cases h
theorem pb_better (side a c : Int) (W : World) : Calls Tryd.prog 17 #[.int .i64 side, .int .i64 a, .int .i64 c] W fun e w' => e = .returned (.bool (bett side a c)) ∧ w' = W := by
  by_cases h0 : side = 0
  · subst h0
    rw [bett_buy]
    go_enter Tryd.func17, Tryd.ntmps17
    go_wp2_with fail
    all_goals go_ret
    all_goals exact ⟨by simp, rfl⟩
  · have d0 : (side == 0) = false := by simpa using h0
    by_cases h1 : side = 1
    · subst h1
      rw [bett_sell]
      go_enter Tryd.func17, Tryd.ntmps17
      go_wp2_with fail
      all_goals go_ret
      all_goals exact ⟨by simp, rfl⟩
    · have d1 : (side == 1) = false := by simpa using h1
      have hb : bett side a c = false := by unfold bett; simp [h0, h1]
      rw [hb]
      go_enter Tryd.func17, Tryd.ntmps17
      go_wp2_with fail
      all_goals go_ret
      all_goals exact ⟨rfl, rfl⟩
end
end Go.Proofs.YtdmjcjheanedgaaDoor
namespace Go.Proofs.YtdmjcjheanedgaaDoor
open Go.RowKit
set_option linter.unusedSimpArgs false
section
variable {w w' W : World} {g k lv ga gf gx g0 g1 : Nat} {S T So : Nat → Prop} {b : Bk} {a : Ar} {x : List Ixr} {f : Fq} {d : Int → Ld}
def judgeV (nil : Bool) (o : Ord) (q r : Bool) : Int :=
  if nil = true ∨ ¬ (o.side = 0 ∨ o.side = 1) then 1 else
  if o.price < 1 ∨ 1099511627776 < o.price ∨ o.qty < 1 ∨ 4294967296 < o.qty then 9 else
  if q then 6 else if r then 0 else 7
set_option maxRecDepth 20000 in
set_option maxHeartbeats 4000000 in
theorem judge_walk (p : Option Addr) (o z : Ord) (q r : Bool) (W : World) (cG : ∀ w, Below W.heap.size W w → Calls Tryd.prog 27 #[.pointer p, .int .i64 o.id] w fun e w' => e = .returned (.tuple #[vOrd z, .bool q]) ∧ Below w.heap.size w w')
    (cR : p ≠ none → ∀ w, Below W.heap.size W w → Calls Tryd.prog 55 #[.pointer p, .int .i64 o.side, .int .i64 o.price] w fun e w' => e = .returned (.bool r) ∧ Below w.heap.size w w') :
    Calls Tryd.prog 36 #[.pointer p, vOrd o] W fun e w' => e = .returned (.int .i64 (judgeV p.isNone o q r)) ∧ Below W.heap.size W w' := by
  obtain ⟨V, hV, hbV, hBV⟩ := ordBox W o
  have cV := cG V hbV
  have hnx : ∀ w, Below V.heap.size V w → ∃ V3, V3 = w.alloc (.cells (cOrd z) 44) ∧ Below W.heap.size W V3 ∧ Blk V3 W.heap.size 44 (cOrd o) := fun w h => ⟨_, rfl, (hbV.trans (h.mono hbV.size)).alloc (hbV.trans (h.mono hbV.size)).size _, (hBV.below h hBV.lt).alloc _⟩
  obtain ⟨y0, -, -, -, -, -, -⟩ := Ord.cells hBV
  have cI := fun w => isside_any o.side w
  obtain ⟨si, hsi⟩ : ∃ si, decide (o.side = 0 ∨ o.side = 1) = si := ⟨_, rfl⟩
  rw [hsi] at cI
  have hj : judgeV p.isNone o q r = if p.isNone = true ∨ si = false then 1 else if o.price < 1 ∨ 1099511627776 < o.price ∨ o.qty < 1 ∨ 4294967296 < o.qty then 9 else if q then 6 else if r then 0 else 7 := by
    unfold judgeV
    subst hsi
    by_cases hs : o.side = 0 ∨ o.side = 1 <;> simp [hs]
  rw [hj]
  clear hj hsi hBV cG
  obtain ⟨o0, o1, o2, o3, o4, o5, o6⟩ := o
  obtain ⟨z0, z1, z2, z3, z4, z5, z6⟩ := z
  simp only [cOrd] at hV
  simp only [vOrd] at cV
  simp only [vOrd]
  simp only [cOrd] at hnx
  simp only at y0 cR cI
  cases p with
  | none =>
    rw [if_pos (.inl rfl)]
    clear cR cI
    go_enter Tryd.func36, Tryd.ntmps36
    go_wp2_with (first
      | (rw [← hV]; clear hV)
      | (go_at_call 27; refine cV.mono ?_; rintro e w1 ⟨rfl, hb1⟩; clear cV; obtain ⟨V3, hV3, hb3, hB3⟩ := hnx _ hb1; clear hnx; obtain ⟨t0, t1, t2, t3, t4, t5, t6⟩ := Ord.cells (m := ⟨o0, o1, o2, o3, o4, o5, o6⟩) hB3; simp only at t0 t1 t2 t3 t4 t5 t6; clear hB3)
      | (rw [← hV3]; clear hV3)
      | fail)
    go_ret
    exact ⟨rfl, hb3⟩
  | some ad =>
    replace cR := cR (by simp)
    cases si with
    | false =>
      rw [if_pos (.inr rfl)]
      clear cR
      go_enter Tryd.func36, Tryd.ntmps36
      go_wp2_with (first
        | (rw [← hV]; clear hV)
        | (go_at_call 27; refine cV.mono ?_; rintro e w1 ⟨rfl, hb1⟩; clear cV; obtain ⟨V3, hV3, hb3, hB3⟩ := hnx _ hb1; clear hnx; obtain ⟨t0, t1, t2, t3, t4, t5, t6⟩ := Ord.cells (m := ⟨o0, o1, o2, o3, o4, o5, o6⟩) hB3; simp only at t0 t1 t2 t3 t4 t5 t6; clear hB3)
        | (rw [← hV3]; clear hV3)
        | (go_at_call 54; refine (cI _).mono ?_; rintro e w2 ⟨rfl, hw2⟩; subst w2; clear cI)
        | fail)
      go_ret
      exact ⟨rfl, hb3⟩
    | true =>
      by_cases hr : o3 < 1 ∨ 1099511627776 < o3 ∨ o4 < 1 ∨ 4294967296 < o4
      · have he : (if (some ad).isNone = true ∨ true = false then (1 : Int) else if o3 < 1 ∨ 1099511627776 < o3 ∨ o4 < 1 ∨ 4294967296 < o4 then 9 else if q then 6 else if r then 0 else 7) = 9 := by simp [hr]
        rw [he]
        clear cR he
        go_enter Tryd.func36, Tryd.ntmps36
        go_wp2_with (first
          | (rw [← hV]; clear hV)
          | (go_at_call 27; refine cV.mono ?_; rintro e w1 ⟨rfl, hb1⟩; clear cV; obtain ⟨V3, hV3, hb3, hB3⟩ := hnx _ hb1; clear hnx; obtain ⟨t0, t1, t2, t3, t4, t5, t6⟩ := Ord.cells (m := ⟨o0, o1, o2, o3, o4, o5, o6⟩) hB3; simp only at t0 t1 t2 t3 t4 t5 t6; clear hB3)
          | (rw [← hV3]; clear hV3)
          | (go_at_call 54; refine (cI _).mono ?_; rintro e w2 ⟨rfl, hw2⟩; subst w2; clear cI)
          | fail)
        all_goals first
          | (exfalso; omega)
          | go_ret
        all_goals exact ⟨rfl, hb3⟩
      · have he : (if (some ad).isNone = true ∨ true = false then (1 : Int) else if o3 < 1 ∨ 1099511627776 < o3 ∨ o4 < 1 ∨ 4294967296 < o4 then 9 else if q then 6 else if r then 0 else 7) = if q then 6 else if r then 0 else 7 := by simp [hr]
        rw [he]
        have d1 : decide (o3 < 1) = false := decide_eq_false (by omega)
        have d2 : decide (1099511627776 < o3) = false := decide_eq_false (by omega)
        have d3 : decide (o4 < 1) = false := decide_eq_false (by omega)
        have d4 : decide (4294967296 < o4) = false := decide_eq_false (by omega)
        clear he hr
        cases q
        · have he : (if false = true then (6 : Int) else if r = true then 0 else 7) = bif r then 0 else 7 := by cases r <;> rfl
          rw [he]
          clear he
          cases r
          all_goals go_enter Tryd.func36, Tryd.ntmps36
          all_goals go_wp2_with (first
            | (rw [← hV]; clear hV)
            | (go_at_call 27; refine cV.mono ?_; rintro e w1 ⟨rfl, hb1⟩; clear cV; obtain ⟨V3, hV3, hb3, hB3⟩ := hnx _ hb1; clear hnx; obtain ⟨t0, t1, t2, t3, t4, t5, t6⟩ := Ord.cells (m := ⟨o0, o1, o2, o3, o4, o5, o6⟩) hB3; simp only at t0 t1 t2 t3 t4 t5 t6; clear hB3)
            | (rw [← hV3]; clear hV3)
            | (go_at_call 54; refine (cI _).mono ?_; rintro e w2 ⟨rfl, hw2⟩; subst w2; clear cI)
            | (go_at_call 55; refine (cR _ hb3).mono ?_; rintro e w2 ⟨rfl, hb4⟩; clear cR)
            | fail)
          all_goals go_ret
          all_goals exact ⟨rfl, hb3.trans (hb4.mono hb3.size)⟩
        · rw [if_pos rfl]
          go_enter Tryd.func36, Tryd.ntmps36
          go_wp2_with (first
            | (rw [← hV]; clear hV)
            | (go_at_call 27; refine cV.mono ?_; rintro e w1 ⟨rfl, hb1⟩; clear cV; obtain ⟨V3, hV3, hb3, hB3⟩ := hnx _ hb1; clear hnx; obtain ⟨t0, t1, t2, t3, t4, t5, t6⟩ := Ord.cells (m := ⟨o0, o1, o2, o3, o4, o5, o6⟩) hB3; simp only at t0 t1 t2 t3 t4 t5 t6; clear hB3)
            | (rw [← hV3]; clear hV3)
            | (go_at_call 54; refine (cI _).mono ?_; rintro e w2 ⟨rfl, hw2⟩; subst w2; clear cI)
            | fail)
          all_goals go_ret
          all_goals exact ⟨rfl, hb3⟩
theorem judge_any (o : Ord) (ho : o.Fit) (hB : Blk W g 77 (cBook b.levels ga gf gx g0 g1)) {Z : List (Nat × Ord)} (hr : Rl b Z a x f d) (hb : Bs W So ga gf gx g0 g1 k a x f d W) :
    Calls Tryd.prog 36 #[.pointer (some ⟨g, 0, none⟩), vOrd o] W fun e w' => e = .returned (.int .i64 (b.addF o)) ∧ Below W.heap.size W w' := by
  have hrm := hr.room
  have key : ∀ z q, (bkf b.L o.id).isSome = q → (∀ w, Below W.heap.size W w → Calls Tryd.prog 27 #[.pointer (some ⟨g, 0, none⟩), .int .i64 o.id] w fun e w' => e = .returned (.tuple #[vOrd z, .bool q]) ∧ Below w.heap.size w w') →
      Calls Tryd.prog 36 #[.pointer (some ⟨g, 0, none⟩), vOrd o] W fun e w' => e = .returned (.int .i64 (b.addF o)) ∧ Below W.heap.size W w' := by
    intro z q hq cG
    have hv : ∀ r, (o.side = 0 ∨ o.side = 1 → r = b.room o.side o.price) → judgeV false o q r = b.addF o := by
      intro r hr'
      unfold judgeV Bk.addF
      by_cases hs : o.side = 0 ∨ o.side = 1
      · rw [if_neg (by simp only [Bool.false_eq_true, false_or]; omega), if_neg (by omega : ¬ (o.side ≠ 0 ∧ o.side ≠ 1)), hq, hr' hs]
      · rw [if_pos (.inr hs), if_pos (by omega)]
    by_cases hs : o.side = 0 ∨ o.side = 1
    · rw [← hv (b.room o.side o.price) (fun _ => rfl)]
      refine judge_walk (some ⟨g, 0, none⟩) o z q _ W cG fun _ w h => ?_
      have e : b.room o.side o.price = ((d o.side).fits o.price && decide (0 < (a.fr.length : Int))) := by
        unfold Bk.room
        rw [hr.fits hs, Bool.and_comm]
        congr 1
        exact decide_eq_decide.2 (by omega)
      rw [e]
      exact room_yes o.side o.price hs (hB.below h hB.lt) (hb.here h) (hr.l o.side hs).wf
    · rw [← hv false (fun h => absurd h hs)]
      exact judge_walk (some ⟨g, 0, none⟩) o z q _ W cG fun _ w h => room_no o.side o.price hs g w
  rcases hr.find o.id with ⟨hf, hx, -⟩ | ⟨n, i, o', hf, hz, hbo, he, hx, -, hi, ha, ho', hok⟩
  · exact key .zero false (by rw [hf]; rfl) fun w h => bget_no o.id ho.id (hB.below h hB.lt) (hb.here h) hx
  · exact key o' true (by rw [hf]; rfl) fun w h => bget_yes o.id ho.id (hB.below h hB.lt) (hb.here h) hx ha ho'
end
end Go.Proofs.YtdmjcjheanedgaaDoor
