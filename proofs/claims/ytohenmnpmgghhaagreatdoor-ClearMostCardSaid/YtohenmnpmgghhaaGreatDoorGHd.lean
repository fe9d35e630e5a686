/-
  evaluated of the program's clear: prices with their volumes and odds. (Written by gen/p_clv.py.)
  The contract of slices.Insert of one number, in a row that the slice owns. (Written by gen/p_ini.py out of XLin.)
  allowed of the program's clear, and the library's binary search at numbers. (Written by gen/p_clw.py.)
-/
import Derived.Test.YtohenmnpmgghhaaGreatDoorGHc
import Derived.Test.YtohenmnpmgghhaaGreatDoorGCc
import Derived.Test.YtohenmnpmgghhaaGreatDoorGB
import Derived.Test.YtohenmnpmgghhaaGreatDoorGI
import Derived.Test.YtohenmnpmgghhaaGreatDoorGCb
import Derived.Test.YtohenmnpmgghhaaGreatDoorGCd
import Derived.Test.YtohenmnpmgghhaaGreatDoorGC
namespace Go.Proofs.YtohenmnpmgghhaaGreatDoor
open Go.RowKit
set_option linter.unusedSimpArgs false
theorem infoPcc : (Tryz.prog.info? 32).map (fun i => (i.zero, i.size, i.bytes)) = some (some (.agg #[.int .i64 0, .int .i64 0, .int .i64 0]), 3, 24) := by kernel_rfl
/-- What lies behind a base world, and one block known whole. -/
def SvP (W : World) (tb : Nat) (T : TypeId) (cs : Array Value) (_ : Array Bool) (w : World) : Prop := Below W.heap.size W w ∧ Blk w tb T cs
theorem SvP.step {W w w' : World} {tb : Nat} {T : TypeId} {cs : Array Value} {L L' : Array Bool} (h : SvP W tb T cs L w) (hb : Below w.heap.size w w') : SvP W tb T cs L' w' := ⟨h.1.trans (hb.mono h.1.size), h.2.below hb h.2.lt⟩
theorem SvP.frm {W w w' : World} {tb : Nat} {T : TypeId} {cs : Array Value} {L L' : Array Bool} {ko : Option Nat} (h : SvP W tb T cs L w) (hf : Frm (fun b => ko = some b) w w') (hk : ∀ k, ko = some k → W.heap.size ≤ k ∧ k ≠ tb) : SvP W tb T cs L' w' :=
  ⟨h.1.trans (hf.below h.1.size fun k e => (hk k e).1), blk_frmK h.2 hf fun e => (hk tb e).2 rfl⟩
theorem sumO_bd {f : Ord → Int} {L : List Ord} (h : ∀ x ∈ L, 0 ≤ f x ∧ f x ≤ 4294967296) : 0 ≤ sumO f L ∧ sumO f L ≤ 4294967296 * L.length := by
  induction L with
  | nil => exact ⟨Int.le_refl _, by simp [sumO]⟩
  | cons x t ih =>
    obtain ⟨h1, h2⟩ := ih fun y hy => h y (List.mem_cons_of_mem _ hy)
    have h3 := h x List.mem_cons_self
    simp only [sumO, List.length_cons]
    omega
theorem catL_fitL {L : List Ord} (hL : LOk L) (y : Int) : (0 ≤ (catL L y).demand ∧ (catL L y).demand < 9223372036854775808) ∧ (0 ≤ (catL L y).supply ∧ (catL L y).supply < 9223372036854775808) := by
  have h1 := sumO_bd (f := demS y) (L := L) fun x hx => by
    have h1 := (hL.ok x hx).q1
    have h2 := (hL.ok x hx).q2
    unfold demS
    split <;> omega
  have h2 := sumO_bd (f := supS y) (L := L) fun x hx => by
    have h1 := (hL.ok x hx).q1
    have h2 := (hL.ok x hx).q2
    unfold supS
    split <;> omega
  have := hL.len
  unfold catL
  simp only
  omega
theorem cPrc_one (z : Prc) : ∀ u ∈ (cPrc z).toList, u.oneCell' = true := by simp [cPrc, Value.oneCell']
set_option maxRecDepth 8000 in
set_option maxHeartbeats 8000000 in
theorem evald_any {B : Nat} {L : List Ord} {c ao : Option Addr} {cap : Nat} (l : List Int) (W : World) (hI : It .i64 W ao cap l) (hc : CvP B W c L) (hl : l.length ≤ 600) :
    Calls Tryz.prog 27 #[.slice ao l.length cap, .func (.func 29) #[.pointer c] #[]] W fun e w' => ∃ ko cap' ao', e = .returned (.slice ao' l.length cap') ∧ Gr 32 3 cPrc W w' (l.map (prcOf L)) ko cap' ao' := by
  have hGo : Goes 29 := goes_of Tryz.func29 (by kernel_rfl) (by kernel_rfl)
  obtain ⟨i1, hi1, e1⟩ := Option.map_eq_some_iff.1 infoPcc
  simp only [Prod.mk.injEq] at e1
  obtain ⟨hz1, hs1, hb1⟩ := e1
  obtain ⟨n, hn⟩ : ∃ n, n = l.length := ⟨_, rfl⟩
  rw [← hn] at hl ⊢
  have hall : Hid ((l.take n).map (prcOf L) = l.map (prcOf L)) := Lib.hid (by rw [hn, List.take_length])
  replace hn := Lib.hid hn
  have hmk := run_make (P := Tryz.prog) W 61 32 i1 _ Tryz.underlying61 hi1 hz1 .i64 .i64 0 (n : Int) (by omega) (by omega) (by rw [hb1]; omega) (by omega)
  simp only [Int.toNat_zero, Int.toNat_natCast] at hmk
  rw [hs1] at hmk
  obtain ⟨V4, hV4⟩ : ∃ V4, V4 = W.alloc (.cells (madeCells (Value.agg #[.int .i64 0, .int .i64 0, .int .i64 0]).cells (n * 3)) 32) := ⟨_, rfl⟩
  have hb4 : Below W.heap.size W V4 := by rw [hV4]; exact (Below.refl _ _).alloc (Nat.le_refl _) _
  have hG4 : Gr 32 3 cPrc W V4 ([] : List Prc) (some W.heap.size) n (some ⟨W.heap.size, 0, none⟩) := by
    refine ⟨?_, fun k e => by cases e; exact Nat.le_refl _, hb4⟩
    rw [hV4]
    exact ⟨by simp, Nat.zero_le _, by unfold maxLen; omega, .inr ⟨_, _, rfl, rfl, World.alloc_heap_new _ _, by rw [size_madeCells], by simp⟩⟩
  rw [← hV4] at hmk
  clear hV4 hb4
  go_enter Tryz.func27, Tryz.ntmps27
  go_wp2_with fail
  clear hmk
  go_loopg [5, 14] n (fun j p5 p14 wr => ∃ (i : Nat) (P : List Prc) (ko : Option Nat) (oc : Nat) (oo : Option Addr), i + j = n ∧ p14 = .int .i64 (i : Int) ∧ p5 = .slice oo P.length oc ∧ Hid (P = (l.take i).map (prcOf L)) ∧ P.length ≤ i ∧ Gr 32 3 cPrc W wr P ko oc oo)
  case atStart => exact ⟨0, [], _, _, _, by omega, rfl, rfl, Lib.hid rfl, by simp, hG4⟩
  case round =>
    clear hG4
    obtain ⟨i, P, ko, oc, oo, hij, rfl, rfl, hP, hPl, hG⟩ := hrel
    by_cases hin : i < n
    · obtain ⟨x, hx⟩ : ∃ x, l[i]? = some x := ⟨_, List.getElem?_eq_getElem (by rw [← hn.out]; exact hin)⟩
      obtain ⟨bq, oq, rfl, y0⟩ := hI.get hx
      have u0 := y0 wr hG.bel
      have hil : (i : Int) < (n : Int) := by omega
      obtain ⟨f1, f2⟩ := catL_fitL hc.1 x
      have cA := cv_at x (hc.below hG.bel)
      have hQ1 : Hid (P ++ [prcOf L x] = (l.take (i + 1)).map (prcOf L)) := Lib.hid (by rw [List.take_add_one, hx, List.map_append, ← hP.out]; rfl)
      have hone := cPrc_one (prcOf L x)
      have cV := fun w => cvol_any (catL L x) w
      have cO := fun w => codd_any (catL L x) f1 f2 w
      have hzd : prcOf L x = ⟨x, volP (catL L x), oddP (catL L x)⟩ := rfl
      generalize prcOf L x = z at *
      have hG1 := hGo #[.pointer c, .int .i64 x]
      clear hx hI hP y0 f1 f2 hc
      generalize catL L x = M at *
      generalize volP M = vo at *
      generalize oddP M = od at *
      have hnx : ∀ w2, Below wr.heap.size wr w2 → ∃ V, V = w2.alloc (.cells (cPnt M) 106) ∧ Gr 32 3 cPrc W V P ko oc oo ∧ SvP W w2.heap.size 106 (cPnt M) #[] V ∧ ∀ k, ko = some k → k ≠ w2.heap.size := fun w2 hb => by
        have g2 := hG.call hb
        refine ⟨_, rfl, g2.alloc _, ⟨(g2.alloc _).bel, Blk.new _ _ _⟩, fun k e => ?_⟩
        have := g2.ow
        rw [e] at this
        have := this.lt
        omega
      obtain ⟨m0, m1, m2⟩ := M
      simp only [vPnt, cPnt] at cA cV cO
      go_wp2_with (first
        | ((with_reducible refine cA.mono ?_); rintro e w2 ⟨rfl, hb2⟩; clear cA; obtain ⟨V, hV, hGV, hS0, hkt⟩ := hnx w2 hb2; clear hnx)
        | (rw [← hV]; clear hV)
        | fail)
      try (rw [← hV]; clear hV)
      generalize w2.heap.size = tb at *
      have hz := hzd
      clear hG
      refine GoL.start (S := SvP W tb 106 (cPnt ⟨m0, m1, m2⟩)) (by kernel_rfl) (hS0.step (Below.refl _ _).drew) ?_
      have hS := hS0.step (L' := #[]) (Below.refl _ _).drew
      have hGd := hGV.call (Below.refl _ _).drew
      refine GoL.take (i := 0) (v := ?_) rfl rfl (by kernel_rfl) (fun _ _ _ h => h) (fun _ _ => Iff.rfl) (by rfl) ?_ ?_
      rotate_left
      · intro wx hwx
        have hwx := Wi.at' hwx
        go_simp
        all_goals first
          | done
          | with_reducible rfl
          | assumption
          | (simp_all; done)
      try simp only [Act.put, List.setIfInBounds_toArray, List.set_cons_zero, List.set_cons_succ, List.getElem_toArray, List.getElem_cons_zero, List.getElem_cons_succ]
      refine GoL.take (i := 1) (v := ?_) rfl rfl (by kernel_rfl) (fun _ _ _ h => h) (fun _ _ => Iff.rfl) (by rfl) ?_ ?_
      rotate_left
      · intro wx hwx
        have hwx := Wi.at' hwx
        go_simp
        all_goals first
          | done
          | with_reducible rfl
          | assumption
          | (simp_all; done)
      try simp only [Act.put, List.setIfInBounds_toArray, List.set_cons_zero, List.set_cons_succ, List.getElem_toArray, List.getElem_cons_zero, List.getElem_cons_succ]
      refine GoL.take (i := 2) (v := ?_) rfl rfl (by kernel_rfl) (fun _ _ _ h => h) (fun _ _ => Iff.rfl) (by rfl) ?_ ?_
      rotate_left
      · intro wx hwx
        have hwx := Wi.at' hwx
        obtain ⟨f0, f1, f2⟩ := Pnt.three hwx.2
        go_simp
        all_goals first
          | done
          | with_reducible rfl
          | assumption
          | (simp_all; done)
      try simp only [Act.put, List.setIfInBounds_toArray, List.set_cons_zero, List.set_cons_succ, List.getElem_toArray, List.getElem_cons_zero, List.getElem_cons_succ]
      refine GoL.take (i := 4) (v := ?_) rfl rfl (by kernel_rfl) (fun _ _ _ h => h) (fun _ _ => Iff.rfl) (by rfl) ?_ ?_
      rotate_left
      · intro wx hwx
        have hwx := Wi.at' hwx
        obtain ⟨f0, f1, f2⟩ := Pnt.three hwx.2
        go_simp
        all_goals first
          | done
          | with_reducible rfl
          | assumption
          | (simp_all; done)
      try simp only [Act.put, List.setIfInBounds_toArray, List.set_cons_zero, List.set_cons_succ, List.getElem_toArray, List.getElem_cons_zero, List.getElem_cons_succ]
      refine GoL.on (rs := [3]) (by kernel_rfl) (by decide) ?_
      refine OnL.cons rfl ?_ OnL.nil
      intro K hK
      replace hK := Lib.hid hK
      go_simp
      refine (cV _).mono ?_
      rintro e w3 ⟨rfl, hbx⟩
      have hS := hS.step (L' := #[]) hbx
      replace hGd := hGd.call hbx
      clear hbx
      refine hK.out _ _ hS ?_
      clear hK
      try simp only [Act.put, List.setIfInBounds_toArray, List.set_cons_zero, List.set_cons_succ, List.getElem_toArray, List.getElem_cons_zero, List.getElem_cons_succ]
      refine GoL.on (rs := [5]) (by kernel_rfl) (by decide) ?_
      refine OnL.cons rfl ?_ OnL.nil
      intro K hK
      replace hK := Lib.hid hK
      go_simp
      refine (cO _).mono ?_
      rintro e w4 ⟨rfl, hbx⟩
      have hS := hS.step (L' := #[]) hbx
      replace hGd := hGd.call hbx
      clear hbx
      refine hK.out _ _ hS ?_
      clear hK
      try simp only [Act.put, List.setIfInBounds_toArray, List.set_cons_zero, List.set_cons_succ, List.getElem_toArray, List.getElem_cons_zero, List.getElem_cons_succ]
      refine GoL.take (i := 6) (v := ?_) rfl rfl (by kernel_rfl) (fun _ _ _ h => h) (fun _ _ => Iff.rfl) (by rfl) ?_ ?_
      rotate_left
      · intro wx hwx
        have hwx := Wi.at' hwx
        go_simp
        all_goals first
          | done
          | with_reducible rfl
          | assumption
          | (simp_all; done)
      try simp only [Act.put, List.setIfInBounds_toArray, List.set_cons_zero, List.set_cons_succ, List.getElem_toArray, List.getElem_cons_zero, List.getElem_cons_succ]
      refine GoL.on (rs := [7]) (by kernel_rfl) (by decide) ?_
      refine OnL.cons rfl ?_ OnL.nil
      intro K hK
      replace hK := Lib.hid hK
      go_simp
      have hnew := Lib.hid (fun ao cap ko w ho hf hm => (hGd.alloc (.cells (cPrc z) 32)).app (m := z) (w3 := w) (oc' := cap) (oo' := ao) (ko' := ko) ho hf hm)
      have hS7 := hS.step (L' := #[]) ((Below.refl w4.heap.size w4).alloc (Nat.le_refl _) (.cells (cPrc z) 32))
      have hkl := fun k (e : ko = some k) => (show k ≠ tb from hkt k e)
      rw [hz] at hS7
      refine hK.out _ _ hS7 ?_
      clear hK
      try simp only [Act.put, List.setIfInBounds_toArray, List.set_cons_zero, List.set_cons_succ, List.getElem_toArray, List.getElem_cons_zero, List.getElem_cons_succ]
      refine GoL.on (rs := [8]) (by kernel_rfl) (by decide) ?_
      refine OnL.cons rfl ?_ OnL.nil
      intro K hK
      replace hK := Lib.hid hK
      refine step_appG rfl (.tmp 21) (.tmp 28) 61 32 i1 _ 3 24 Tryz.underlying61 hi1 hz1 hs1 hb1 rfl (by decide) rfl (hGd.ow.alloc _) (SrcG.row (cs := cPrc z) (by rw [hz]; exact Blk.new _ _ _) rfl hone) rfl rfl (by omega) (by omega) ?_
      intro ao1 cap1 ko1 w5 ho1 hf1 hm1
      have hG2 := hnew.out _ _ _ _ ho1 (by rw [hz]; exact hf1) (by rw [hz]; exact hm1)
      have hS8 := hS7.frm (L' := #[]) hf1 (fun k e => ⟨hGd.own k e, hkt k e⟩)
      refine hK.out _ _ hS8 ?_
      clear hK
      try simp only [Act.put, List.setIfInBounds_toArray, List.set_cons_zero, List.set_cons_succ, List.getElem_toArray, List.getElem_cons_zero, List.getElem_cons_succ]
      refine GoL.take (i := 9) (v := ?_) rfl rfl (by kernel_rfl) (fun _ _ _ h => h) (fun _ _ => Iff.rfl) (by rfl) ?_ ?_
      rotate_left
      · intro wx hwx
        have hwx := Wi.at' hwx
        go_simp
        all_goals first
          | done
          | with_reducible rfl
          | assumption
          | (simp_all; done)
      try simp only [Act.put, List.setIfInBounds_toArray, List.set_cons_zero, List.set_cons_succ, List.getElem_toArray, List.getElem_cons_zero, List.getElem_cons_succ]
      refine GoL.done (by kernel_rfl) ?_
      refine NoPanic.normal ?_
      clear hS hS7 hS8 hGd hnew
      go_wp2_with fail
      go_roundg (n - (i + 1))
      case measure => omega
      case rel => exact ⟨i + 1, P ++ [z], ko1, cap1, ao1, by omega, by go_num, by rw [List.length_append]; rfl, hQ1, by rw [List.length_append]; simp; omega, hG2⟩
    · have e : i = n := by omega
      subst e
      have hil : ¬ (i : Int) < (i : Int) := by omega
      have hPe : Hid (P = l.map (prcOf L)) := Lib.hid (by rw [hP.out, hall.out])
      clear hI hc hP
      go_wp2_with fail
      go_ret
      refine ⟨ko, oc, oo, ?_, by rw [← hPe.out]; exact hG⟩
      have hl2 : P.length = i := by rw [hPe.out, List.length_map, ← hn.out]
      rw [hl2]
      rfl
end Go.Proofs.YtohenmnpmgghhaaGreatDoor
namespace Go.Proofs.YtohenmnpmgghhaaGreatDoor
open Go.RowKit
theorem sizeI64 : (Tryz.prog.info? 2).map (·.size) = some 1 := by kernel_rfl
section
variable {w w' W : World} {ko : Option Nat} {ao : Option Addr} {cap n : Nat} {cs : List Value} {vs : Array Value} {vb : Nat}
set_option maxRecDepth 8000 in
set_option maxHeartbeats 1000000 in
theorem insI_end (hO : OwG 2 1 W ko ao cap n cs) (hn : n ≤ 1000) (hv : Blk W vb 2 vs) (hs : vs.size = 1) (h1 : ∀ u ∈ vs.toList, u.oneCell' = true) :
    Calls Tryz.prog 57 #[.slice ao n cap, .int .i64 (n : Int), .slice (some ⟨vb, 0, none⟩) 1 1] W fun e w' =>
      ∃ ao' cap', e = .returned (.slice ao' (n + 1) cap') ∧ ∃ ko', OwG 2 1 w' ko' ao' cap' (n + 1) (cs ++ vs.toList) ∧ Frm (fun b => ko = some b) W w' ∧ Moved W ko ko' := by
  obtain ⟨i1, hi1, e1⟩ := Option.map_eq_some_iff.1 infoI64
  simp only [Prod.mk.injEq] at e1
  obtain ⟨hz1, hs1, hb1⟩ := e1
  have hsrc := SrcG.row (cs := vs) hv hs h1
  have hnc := hO.len
  have hnc2 : (n : Int) ≤ (cap : Int) := by omega
  clear hv hs h1
  go_enter Tryz.func57, Tryz.ntmps57
  go_wp2_with (at_builtin; refine wpList_appG rfl (.tmp 23) (.tmp 24) 42 2 i1 _ 1 8 Tryz.underlying42 hi1 hz1 hs1 hb1 rfl (by decide) rfl hO hsrc rfl rfl (by omega) (by omega) ?_; intro ao' cap' ko' w1 ho hf hm)
  all_goals go_ret
  all_goals exact ⟨_, _, rfl, _, ho, hf, hm⟩
set_option maxRecDepth 8000 in
set_option maxHeartbeats 2000000 in
/-- There is no room: a new row. -/
theorem insI_grow (hO : OwG 2 1 W ko ao cap n cs) (hn : n ≤ 1000) {i : Nat} (hi : i < n) (hc : cap < n + 1) (hv : Blk W vb 2 vs) (hs : vs.size = 1) (h1 : ∀ u ∈ vs.toList, u.oneCell' = true) (h1c : ∀ u ∈ cs, u.oneCell' = true) :
    Calls Tryz.prog 57 #[.slice ao n cap, .int .i64 (i : Int), .slice (some ⟨vb, 0, none⟩) 1 1] W fun e w' =>
      ∃ ao' cap', e = .returned (.slice ao' (n + 1) cap') ∧ ∃ ko', OwG 2 1 w' ko' ao' cap' (n + 1) (cs.take (i) ++ vs.toList ++ cs.drop (i)) ∧ Frm (fun b => ko = some b) W w' ∧ Moved W ko ko' := by
  obtain ⟨i1, hi1, e1⟩ := Option.map_eq_some_iff.1 infoI64
  simp only [Prod.mk.injEq] at e1
  obtain ⟨hz1, hs1, hb1⟩ := e1
  have hcap : cap = n := by have := hO.len; omega
  subst hcap
  have hcl := hO.cells
  rw [Nat.mul_one] at hcl
  obtain ⟨k, cur, rfl, rfl, hk, hks, hkt⟩ : ∃ k cur, ko = some k ∧ ao = some ⟨k, 0, none⟩ ∧ W.heap[k]? = some (.cells cur 2 (0, 0)) ∧ cur.size = cap ∧ cur.toList.take (cap) = cs := by
    rcases hO.at' with ⟨-, -, h0⟩ | h0
    · omega
    · simpa only [Nat.mul_one] using h0
  have hcs : ∀ j v, cs[j]? = some v → W.cell? ⟨k, j, none⟩ = some v := fun j v hj => by
    obtain ⟨k', e', -, hc', -⟩ := hO.cell j v hj
    cases e'
    exact hc'
  have hkw : k < W.heap.size := (Array.getElem?_eq_some_iff.1 hk).1
  have hvw := hv.lt
  have hkk : (cap : Int) + 1 - (i : Int) = ((cap + 1 - i : Nat) : Int) := by omega
  have hik : i + (cap + 1 - i) = cap + 1 := by omega
  have hold : (Builtin.firstCells i1.size i (.slice (some ⟨k, 0, none⟩) i cap)).run Tryz.prog W.drew = .ok (cs.take (i)).toArray W.drew := by
    rw [hs1]
    exact run_firstCells_some W.drew 1 i ⟨k, 0, none⟩ i cap (cs.take (i)) (by rw [List.length_take]; omega) (fun j v hj => by
      rw [Addr.add_mid, Nat.zero_add]
      rw [List.getElem?_take] at hj
      split at hj
      · exact hcs j v hj
      · cases hj)
  have hrz : ∀ ty, (Builtin.append_ #[42, 3] ty #[.slice (some ⟨k, 0, none⟩) i cap, .int .i64 ((cap : Int) + 1 - (i : Int))]).run Tryz.prog W =
      .ok (.slice (some ⟨W.heap.size, 0, none⟩) (cap + 1) (grownCap W (cap + 1) cap 2)) (W.drew.alloc (.cells ((cs.take (i)).toArray ++ Builtin.zeroCells (Value.int .i64 0).cells (cap + 1 - i) ++ Builtin.zeroCells (Value.int .i64 0).cells (grownCap W (cap + 1) cap 2 - (cap + 1))) 2)) := fun ty => by
    have h := Lib.run_append_grow_zeros W 42 3 ty 2 i1 _ .i64 .i64 Tryz.underlying42 Tryz.underlying3 hi1 hz1 (some ⟨k, 0, none⟩) i cap (cs.take (i)) hold (cap + 1 - i) (by omega) (by rw [hs1]; omega) (by omega) (by omega) (by rw [hb1]; omega) (by rw [hb1, hik]; exact growslice_fits (by omega) (by omega))
    rw [hik] at h
    rw [hkk]
    exact h
  have hge := grownCap_ge W (cap + 1) cap 2
  have hle := grownCap_le_maxLen W (cap + 1) cap 2 (by unfold maxLen; omega)
  unfold maxLen at hle
  obtain ⟨G, hG⟩ : ∃ G, G = grownCap W (cap + 1) cap 2 := ⟨_, rfl⟩
  rw [← hG] at hrz hge hle
  obtain ⟨ROW, hROW⟩ : ∃ ROW : Array Value, ROW = (cs.take (i)).toArray ++ Builtin.zeroCells (Value.int .i64 0).cells (cap + 1 - i) ++ Builtin.zeroCells (Value.int .i64 0).cells (G - (cap + 1)) := ⟨_, rfl⟩
  rw [← hROW] at hrz
  have hRs : ROW.size = G := by
    rw [hROW]
    simp only [Array.size_append, size_zeroCells, List.size_toArray, List.length_take]
    have hz8 : (Value.int IntKind.i64 0).cells.size = 1 := rfl
    simp only [hz8]
    omega
  have hRt : ∀ j, j < i → ROW[j]? = cs[j]? := by
    intro j hj
    rw [hROW, Array.append_assoc, Array.getElem?_append_left (by simp; omega)]
    simp [hj]
  obtain ⟨B0, hB0⟩ : ∃ B0, B0 = W.heap.size := ⟨_, rfl⟩
  rw [← hB0] at hrz hkw hvw
  obtain ⟨W1, hW1⟩ : ∃ W1, W1 = W.drew.alloc (.cells ROW 2) := ⟨_, rfl⟩
  rw [← hW1] at hrz
  have hBl : Blk W1 B0 2 ROW := by rw [hW1, hB0]; exact Blk.new W.drew _ _
  have hbel : Below W.heap.size W W1 := by rw [hW1]; exact ((Below.refl _ W).drew).alloc (Nat.le_refl _) _
  have hcs1 : ∀ j v, cs[j]? = some v → W1.cell? ⟨k, j, none⟩ = some v := fun j v hj => ((bcell hbel).1 k j (by omega)).trans (hcs j v hj)
  have hv1 : Blk W1 vb 2 vs := hv.below hbel (by omega)
  obtain ⟨R1, hR1⟩ : ∃ R1, R1 = over ROW.toList (i) vs.toList := ⟨_, rfl⟩
  have hvl : vs.toList.length = 1 := by simpa using hs
  have hf1 : i + vs.toList.length ≤ ROW.toList.length := by rw [hvl, Array.length_toList]; omega
  have hR1l : R1.length = G := by rw [hR1, over_len hf1]; simpa using hRs
  have hcpA : ∀ V : World, V.heap = W1.heap → ∀ ty dc, (Builtin.copy_ #[42, 42] ty #[.slice (some ⟨B0, i, none⟩) (cap + 1 - i) dc, .slice (some ⟨vb, 0, none⟩) 1 1]).run Tryz.prog V = .ok (goInt (Nat.min 1 (cap + 1 - i))) (V.setRow B0 R1.toArray) := by
    intro V hV ty dc
    have hm : Nat.min 1 (cap + 1 - i) = 1 := Nat.min_eq_left (by omega)
    rw [hR1]
    exact run_copyZ V _ _ ty 2 1 B0 (i) (cap + 1 - i) dc ⟨vb, 0, none⟩ 1 1 ROW 2 vs.toList Tryz.underlying42 sizeI64 (by rw [hV]; exact hBl) (by rw [hm, hvl]) (fun j v hj => by
      rw [Addr.add_mid, Nat.zero_add]
      exact (World.cell?_of_block (a := ⟨vb, j, none⟩) (by rw [hV])).trans (hv1.cell_eq j v (by simpa using hj))) (by rw [hvl]; omega) h1
  have hdl : (cs.drop (i)).length = (cap - i) := by rw [List.length_drop, hcl]
  have hf2 : (i + 1) + (cs.drop (i)).length ≤ R1.length := by rw [hdl, hR1l]; omega
  have hcpB : ∀ V : World, V.heap = (W1.setRow B0 R1.toArray).heap → ∀ ty dc sc, (Builtin.copy_ #[42, 42] ty #[.slice (some ⟨B0, (i + 1), none⟩) (cap - i) dc, .slice (some ⟨k, i, none⟩) (cap - i) sc]).run Tryz.prog V = .ok (goInt (Nat.min (cap - i) (cap - i))) (V.setRow B0 (over R1 ((i + 1)) (cs.drop (i))).toArray) := by
    intro V hV ty dc sc
    have hm : Nat.min (cap - i) (cap - i) = cap - i := Nat.min_self _
    have hb : V.heap[B0]? = some (.cells R1.toArray 2 (0, 0)) := by rw [hV]; exact hBl.setRow R1.toArray
    exact run_copyZ V _ _ ty 2 1 B0 ((i + 1)) (cap - i) dc ⟨k, i, none⟩ (cap - i) sc R1.toArray 2 (cs.drop (i)) Tryz.underlying42 sizeI64 hb (by rw [hm, hdl, Nat.mul_one]) (fun j v hj => by
      rw [Addr.add_mid]
      rw [List.getElem?_drop] at hj
      refine (World.cell?_of_block (a := ⟨k, i + j, none⟩) ?_).trans (hcs1 _ _ hj)
      rw [hV]
      exact setRow_other W1 B0 k R1.toArray (by omega)) (by simpa using hf2) (fun v hv => h1c v (List.mem_of_mem_drop hv))
  obtain ⟨R2, hR2⟩ : ∃ R2, R2 = over R1 ((i + 1)) (cs.drop (i)) := ⟨_, rfl⟩
  rw [← hR2] at hcpB
  have hR2l : R2.length = G := by rw [hR2, over_len hf2, hR1l]
  have hend : ∀ V : World, V.os = W.os → V.tape = W.tape → V.output = W.output → V.heap = ((W1.setRow B0 R1.toArray).setRow B0 R2.toArray).heap → OwG 2 1 V (some B0) (some ⟨B0, 0, none⟩) G (cap + 1) (cs.take (i) ++ vs.toList ++ cs.drop (i)) ∧ Frm (fun b => some k = some b) W V ∧ Moved W (some k) (some B0) := by
    intro V e1 e2 e3 hV
    have hbk : Blk V B0 2 R2.toArray := by unfold Blk; rw [hV]; exact (hBl.setRow _).setRow _
    have hbl : Below W.heap.size W V := by
      have := below_setRow (below_setRow hbel (Nat.le_of_eq hB0.symm) R1.toArray) (Nat.le_of_eq hB0.symm) R2.toArray
      exact ⟨e1, e2, e3, by rw [hV]; exact this.size, fun b hb => by rw [hV]; exact this.block b hb⟩
    refine ⟨⟨by simp [hcl, hvl]; omega, hge, by unfold maxLen; omega, .inr ⟨B0, R2.toArray, rfl, rfl, hbk, by simpa using hR2l, ?_⟩⟩, Frm.of_below hbl, .inr (.inr ⟨B0, rfl, Nat.le_of_eq hB0.symm⟩)⟩
    rw [Nat.mul_one]
    refine shifted (m := 1) (n := cap) hcl (by omega) hvl (by show cap + 1 ≤ R2.length; rw [hR2l]; omega) (fun j hj => ?_) (fun j hj hj2 => ?_) (fun j hj hj2 => ?_)
    · show R2[j]? = cs[j]?
      rw [hR2, over_get hf2, if_neg (by omega), hR1, over_get hf1, if_neg (by omega)]
      simpa using hRt j hj
    · show R2[j]? = vs.toList[j - i]?
      rw [hR2, over_get hf2, if_neg (by omega), hR1, over_get hf1, if_pos ⟨hj, by rw [hvl]; omega⟩]
    · show R2[j]? = cs[j - 1]?
      rw [hR2, over_get hf2, if_pos ⟨by omega, by rw [hdl]; omega⟩, List.getElem?_drop]
      congr 1
      omega
  have hB0c : W.heap.size = B0 := hB0.symm
  have hGi : ¬ (G = i) := by omega
  have hGi1 : ¬ (G = i + 1) := by omega
  have hci : ¬ (cap = i) := by omega
  have hei : ¬ ((i : Int) = (cap : Int)) := by omega
  have hin : (i : Int) ≤ (cap : Int) := by omega
  have hcap63 : (cap : Int) ≤ 1000 := by omega
  replace hrz := Lib.hid hrz
  replace hcpA := Lib.hid hcpA
  replace hcpB := Lib.hid hcpB
  replace hend := Lib.hid hend
  replace hB0c := Lib.hid hB0c
  have hWh := Lib.hid hW1
  clear hROW hG hold hik hkk hks hkt hk hO hW1 hBl hbel hcs1 hv1 hR1 hR2 hf1 hf2 hR1l hR2l hdl hRs hRt hcl hcs hv hs h1 h1c hvl hB0 hkw hvw
  go_enter Tryz.func57, Tryz.ntmps57
  have hcA := hcpA.out W1 rfl
  go_wp2_with (first
    | (at_builtin; refine Lib.wpList_append_run _ rfl _ _ _ _ rfl _ _ rfl rfl _ _ (hrz.out _) ?_)
    | fail)
  have hcB := hcpB.out (W1.setRow B0 R1.toArray).drew rfl
  have hw1 : IntKind.i64.wrap ((i : Int) + 1) = (i : Int) + 1 := by rw [IntKind.wrap_i64]; omega
  have hb1' : (0 : Int) ≤ (i : Int) + 1 := by omega
  have htn : ((i : Int) + 1).toNat = i + 1 := by omega
  have hl1 : (i : Int) + 1 ≤ (cap : Int) + 1 := by omega
  have hl2 : i ≤ cap := by omega
  go_still_tail 8, (by kernel_rfl)
  change wpList _ _ _ _ _ (World.drew _)
  go_wp2_with fail
  go_ret
  have hfin := hend.out (((W1.setRow B0 R1.toArray).drew).setRow B0 R2.toArray)
  rw [hWh.out] at hfin ⊢
  exact ⟨_, _, rfl, _, hfin rfl rfl rfl rfl⟩
set_option maxRecDepth 8000 in
set_option maxHeartbeats 2000000 in
/-- There is room: what stands behind goes one place on. -/
theorem insI_room (hO : OwG 2 1 W ko ao cap n cs) (hn : n ≤ 1000) {i : Nat} (hi : i < n) (hc : n + 1 ≤ cap) (hv : Blk W vb 2 vs) (hvk : ∀ k, ko = some k → vb ≠ k) (hs : vs.size = 1) (h1 : ∀ u ∈ vs.toList, u.oneCell' = true) (h1c : ∀ u ∈ cs, u.oneCell' = true) :
    Calls Tryz.prog 57 #[.slice ao n cap, .int .i64 (i : Int), .slice (some ⟨vb, 0, none⟩) 1 1] W fun e w' =>
      ∃ ao' cap', e = .returned (.slice ao' (n + 1) cap') ∧ ∃ ko', OwG 2 1 w' ko' ao' cap' (n + 1) (cs.take (i) ++ vs.toList ++ cs.drop (i)) ∧ Frm (fun b => ko = some b) W w' ∧ Moved W ko ko' := by
  have hcl := hO.cells
  rw [Nat.mul_one] at hcl
  have htop := hO.top
  unfold maxLen at htop
  obtain ⟨k, cur, rfl, rfl, hk, hks, hkt⟩ : ∃ k cur, ko = some k ∧ ao = some ⟨k, 0, none⟩ ∧ W.heap[k]? = some (.cells cur 2 (0, 0)) ∧ cur.size = cap ∧ cur.toList.take (n) = cs := by
    rcases hO.at' with ⟨-, -, h0⟩ | h0
    · omega
    · simpa only [Nat.mul_one] using h0
  have hvk := hvk k rfl
  have hcs : ∀ j v, cs[j]? = some v → W.cell? ⟨k, j, none⟩ = some v := fun j v hj => by
    obtain ⟨k', e', -, hc', -⟩ := hO.cell j v hj
    cases e'
    exact hc'
  have hbk : Blk W k 2 cur := hk
  have hRt : ∀ j, j < i → cur.toList[j]? = cs[j]? := by
    intro j hj
    rw [← hkt, List.getElem?_take, if_pos (by omega)]
  have hov : ∀ lb cb, (callFunc 84 #[.slice (some ⟨vb, 0, none⟩) 1 1, .slice (some ⟨k, (i + 1), none⟩) lb cb]).run Tryz.prog W = .ok (.value (.bool false)) W := fun lb cb => by
    have hz : ∀ w, (Go.sizeOf 2).run Tryz.prog w = .ok 1 w := fun w => by
      obtain ⟨i1, hi1, e1⟩ := Option.map_eq_some_iff.1 infoI64
      simp only [Prod.mk.injEq] at e1
      simp [sizeOf, typeInfo, hi1, e1.2.1]
    rw [run_callFunc_extern Tryz.func84 (by kernel_rfl) (by kernel_rfl) (by kernel_rfl) (e := Extern.SlicesOverlaps.overlaps #[42, 42] #[4]) (by kernel_rfl),
      Lib.run_overlaps_apart W 42 4 2 Tryz.underlying42 1 hz ⟨vb, 0, none⟩ ⟨k, (i + 1), none⟩ 1 1 lb cb hvk 2 2 vs.size cur.size (by unfold Blk at hv; simp [World.shape?, hv]) (by simp [World.shape?, hk]) (by omega) (hv.free 0) (hv.free _)]
    rfl
  have hvl : vs.toList.length = 1 := by simpa using hs
  have hdl : (cs.drop (i)).length = (n - i) := by rw [List.length_drop, hcl]
  have hf1 : (i + 1) + (cs.drop (i)).length ≤ cur.toList.length := by rw [hdl, Array.length_toList]; omega
  obtain ⟨R1, hR1⟩ : ∃ R1, R1 = over cur.toList ((i + 1)) (cs.drop (i)) := ⟨_, rfl⟩
  have hR1l : R1.length = cap := by rw [hR1, over_len hf1]; simpa using hks
  have hf2 : i + vs.toList.length ≤ R1.length := by rw [hvl, hR1l]; omega
  obtain ⟨R2, hR2⟩ : ∃ R2, R2 = over R1 (i) vs.toList := ⟨_, rfl⟩
  have hR2l : R2.length = cap := by rw [hR2, over_len hf2, hR1l]
  have hcpA : ∀ V : World, V.heap = W.heap → ∀ ty dc sc, (Builtin.copy_ #[42, 42] ty #[.slice (some ⟨k, (i + 1), none⟩) (n - i) dc, .slice (some ⟨k, i, none⟩) (n + 1 - i) sc]).run Tryz.prog V = .ok (goInt (Nat.min (n + 1 - i) (n - i))) (V.setRow k R1.toArray) := by
    intro V hV ty dc sc
    have hm : Nat.min (n + 1 - i) (n - i) = n - i := Nat.min_eq_right (by omega)
    rw [hR1]
    exact run_copyZ V _ _ ty 2 1 k ((i + 1)) (n - i) dc ⟨k, i, none⟩ (n + 1 - i) sc cur 2 (cs.drop (i)) Tryz.underlying42 sizeI64 (by rw [hV]; exact hbk) (by rw [hm, hdl, Nat.mul_one]) (fun j v hj => by
      rw [Addr.add_mid]
      rw [List.getElem?_drop] at hj
      exact (World.cell?_of_block (a := ⟨k, i + j, none⟩) (by rw [hV])).trans (hcs _ _ hj)) (by simpa using hf1) (fun v hv => h1c v (List.mem_of_mem_drop hv))
  have hcpB : ∀ V : World, V.heap = (W.setRow k R1.toArray).heap → ∀ ty dc, (Builtin.copy_ #[42, 42] ty #[.slice (some ⟨k, i, none⟩) (n + 1 - i) dc, .slice (some ⟨vb, 0, none⟩) 1 1]).run Tryz.prog V = .ok (goInt (Nat.min 1 (n + 1 - i))) (V.setRow k R2.toArray) := by
    intro V hV ty dc
    have hm : Nat.min 1 (n + 1 - i) = 1 := Nat.min_eq_left (by omega)
    have hb : V.heap[k]? = some (.cells R1.toArray 2 (0, 0)) := by rw [hV]; exact hbk.setRow R1.toArray
    rw [hR2]
    exact run_copyZ V _ _ ty 2 1 k (i) (n + 1 - i) dc ⟨vb, 0, none⟩ 1 1 R1.toArray 2 vs.toList Tryz.underlying42 sizeI64 hb (by rw [hm, hvl]) (fun j v hj => by
      rw [Addr.add_mid, Nat.zero_add]
      refine (World.cell?_of_block (a := ⟨vb, j, none⟩) ?_).trans (hv.cell_eq j v (by simpa using hj))
      rw [hV]
      exact setRow_other W k vb R1.toArray hvk) (by simpa using hf2) h1
  have hend : ∀ V : World, V.os = W.os → V.tape = W.tape → V.output = W.output → V.heap = ((W.setRow k R1.toArray).setRow k R2.toArray).heap → OwG 2 1 V (some k) (some ⟨k, 0, none⟩) cap (n + 1) (cs.take (i) ++ vs.toList ++ cs.drop (i)) ∧ Frm (fun b => some k = some b) W V ∧ Moved W (some k) (some k) := by
    intro V e1 e2 e3 hV
    have hbk2 : Blk V k 2 R2.toArray := by unfold Blk; rw [hV]; exact (hbk.setRow _).setRow _
    refine ⟨⟨by simp [hcl, hvl]; omega, hc, hO.top, .inr ⟨k, R2.toArray, rfl, rfl, hbk2, by simpa using hR2l, ?_⟩⟩, ⟨e1, e2, e3, by rw [hV]; simp [World.setRow], fun b hb hne => ?_⟩, .inr (.inl rfl)⟩
    · rw [Nat.mul_one]
      refine shifted (m := 1) (n := n) hcl (by omega) hvl (by show n + 1 ≤ R2.length; rw [hR2l]; omega) (fun j hj => ?_) (fun j hj hj2 => ?_) (fun j hj hj2 => ?_)
      · show R2[j]? = cs[j]?
        rw [hR2, over_get hf2, if_neg (by omega), hR1, over_get hf1, if_neg (by omega)]
        exact hRt j hj
      · show R2[j]? = vs.toList[j - i]?
        rw [hR2, over_get hf2, if_pos ⟨hj, by rw [hvl]; omega⟩]
      · show R2[j]? = cs[j - 1]?
        rw [hR2, over_get hf2, if_neg (by rw [hvl]; omega), hR1, over_get hf1, if_pos ⟨by omega, by rw [hdl]; omega⟩, List.getElem?_drop]
        congr 1
        omega
    · have hbk' : b ≠ k := fun e => hne (by rw [e])
      rw [hV]
      exact (setRow_other _ k b _ hbk').trans (setRow_other W k b _ hbk')
  have hci : ¬ (cap = i) := by omega
  have hci1 : ¬ (cap = i + 1) := by omega
  have hei : ¬ ((i : Int) = (n : Int)) := by omega
  have hin : (i : Int) ≤ (n : Int) := by omega
  have hn63 : (n : Int) ≤ 1000 := by omega
  have hnc : (n : Int) + 1 ≤ (cap : Int) := by omega
  have hnc2 : ¬ ((cap : Int) < (n : Int) + 1) := by omega
  have hc63 : (cap : Int) ≤ 9223372036854775807 := by omega
  have hw1 : IntKind.i64.wrap ((i : Int) + 1) = (i : Int) + 1 := by rw [IntKind.wrap_i64]; omega
  have hw2 : IntKind.i64.wrap ((n : Int) + 1) = (n : Int) + 1 := by rw [IntKind.wrap_i64]; omega
  have hb1' : (0 : Int) ≤ (i : Int) + 1 := by omega
  have htn : ((i : Int) + 1).toNat = i + 1 := by omega
  have htn2 : ((n : Int) + 1).toNat = n + 1 := by omega
  have hl1 : (i : Int) + 1 ≤ (n : Int) + 1 := by omega
  have hl2 : i ≤ n := by omega
  have hcA := hcpA W.drew rfl
  have hcB := hcpB (W.drew.setRow k R1.toArray) rfl
  replace hend := Lib.hid hend
  clear hcpA hcpB hR1 hR2 hf1 hf2 hR1l hR2l hdl hRt hcl hcs hv hs h1 h1c hvl hbk hk hks hkt hO hvk
  go_enter Tryz.func57, Tryz.ntmps57
  go_wp2_with (simp only [hov])
  have hin2 : (i : Int) ≤ (n : Int) + 1 := by omega
  have hl3 : i ≤ n + 1 := by omega
  go_still_tail 8, (by kernel_rfl)
  change wpList _ _ _ _ _ (World.drew _)
  go_wp2_with fail
  go_ret
  exact ⟨_, _, rfl, _, hend.out _ rfl rfl rfl rfl⟩
/-- slices.Insert of one number, at whatever place. -/
theorem insI_any {q : List Int} {x : Int} {i : Nat} (hO : OwG 2 1 W ko ao cap q.length (ics q)) (hn : q.length ≤ 1000) (hi : i ≤ q.length) (hv : Blk W vb 2 #[.int .i64 x]) (hvk : ∀ k, ko = some k → vb ≠ k) :
    Calls Tryz.prog 57 #[.slice ao q.length cap, .int .i64 (i : Int), .slice (some ⟨vb, 0, none⟩) 1 1] W fun e w' =>
      ∃ ao' cap', e = .returned (.slice ao' (q.length + 1) cap') ∧ ∃ ko', OwG 2 1 w' ko' ao' cap' (q.length + 1) (ics (q.take i ++ x :: q.drop i)) ∧ Frm (fun b => ko = some b) W w' ∧ Moved W ko ko' := by
  have h1 : ∀ u ∈ (#[Value.int .i64 x] : Array Value).toList, u.oneCell' = true := by simp [Value.oneCell']
  have h1c : ∀ u ∈ ics q, u.oneCell' = true := fun u hu => by
    rw [ics_map] at hu
    obtain ⟨z, -, rfl⟩ := List.mem_map.1 hu
    rfl
  have e : ics (q.take i ++ x :: q.drop i) = (ics q).take i ++ (#[Value.int .i64 x] : Array Value).toList ++ (ics q).drop i := by
    simp only [ics_map, List.map_append, List.map_cons, List.map_take, List.map_drop, List.append_assoc]
    rfl
  rw [e]
  by_cases hin : i = q.length
  · subst hin
    have e2 : (ics q).take q.length ++ (#[Value.int .i64 x] : Array Value).toList ++ (ics q).drop q.length = ics q ++ (#[Value.int .i64 x] : Array Value).toList := by
      have hl : (ics q).length = q.length := by rw [ics_map, List.length_map]
      rw [List.take_of_length_le (by omega), List.drop_eq_nil_of_le (by omega), List.append_nil]
    rw [e2]
    exact insI_end hO hn hv rfl h1
  · by_cases hc : cap < q.length + 1
    · exact insI_grow hO hn (by omega) hc hv rfl h1 h1c
    · exact insI_room hO hn (by omega) (by omega) hv hvk rfl h1 h1c
end
end Go.Proofs.YtohenmnpmgghhaaGreatDoor
namespace Go.Proofs.YtohenmnpmgghhaaGreatDoor
open Go.RowKit
set_option linter.unusedSimpArgs false
theorem cless_any (x y : Int) (W : World) : Calls Tryz.prog 82 #[.int .i64 x, .int .i64 y] W fun e w' => e = .returned (.bool (decide (x < y))) ∧ w' = W := by
  have cN := fun x w => isnan_any x w
  go_enter Tryz.func82, Tryz.ntmps82
  go_wp2_with (go_at_call 86; refine (cN _ _).mono ?_; rintro e w2 ⟨rfl, rfl⟩)
  all_goals go_ret
  all_goals exact ⟨rfl, rfl⟩
theorem snan_any (x : Int) (W : World) : Calls Tryz.prog 83 #[.int .i64 x] W fun e w' => e = .returned (.bool false) ∧ w' = W := by
  go_enter Tryz.func83, Tryz.ntmps83
  go_wp2
  go_ret
  exact ⟨by simp, rfl⟩
set_option maxRecDepth 8000 in
set_option maxHeartbeats 4000000 in
theorem bs64_any {ao : Option Addr} {cap : Nat} {l : List Int} (x : Int) (n : Nat) (q : Bool) (W : World) (hl : It .i64 W ao cap l) (h5 : l.length ≤ 600) (hn : n ≤ l.length)
    (hlo : ∀ (k : Nat) y, l[k]? = some y → k < n → y < x) (hhi : ∀ (k : Nat) y, l[k]? = some y → n ≤ k → x ≤ y)
    (hq : (∃ y, l[n]? = some y ∧ q = decide (y = x)) ∨ (l.length ≤ n ∧ q = false)) :
    Calls Tryz.prog 56 #[.slice ao l.length cap, .int .i64 x] W fun e w' => e = .returned (.tuple #[.int .i64 (n : Int), .bool q]) ∧ w' = W := by
  have hC := fun y w => cless_any y x w
  have cS := fun y w => snan_any y w
  go_enter Tryz.func56, Tryz.ntmps56
  go_wp2_with fail
  go_loopg [7, 8] l.length (fun j p7 p8 wr => wr = W ∧ ∃ a b : Nat, a ≤ n ∧ n ≤ b ∧ b ≤ l.length ∧ b ≤ a + j ∧ p7 = .int .i64 (a : Int) ∧ p8 = .int .i64 (b : Int))
  case atStart => exact ⟨rfl, 0, l.length, by omega, hn, Nat.le_refl _, by omega, rfl, rfl⟩
  case round =>
    obtain ⟨rfl, a, b, ha, hb, hbn, hab, rfl, rfl⟩ := hrel
    by_cases hlt : a < b
    · obtain ⟨m, hm⟩ : ∃ m, m = (a + b) / 2 := ⟨_, rfl⟩
      have hm1 : a ≤ m := by omega
      have hm2 : m < b := by omega
      have em : (m : Int) = ((a : Int) + (b : Int)) / 2 := by omega
      obtain ⟨y, hy⟩ : ∃ y, l[m]? = some y := ⟨_, List.getElem?_eq_getElem (by omega)⟩
      obtain ⟨bb, off, rfl, u0'⟩ := hl.get hy
      have u0 := u0' wr (Below.refl _ _)
      have cR := hC y
      have hmn : m < n ↔ y < x := ⟨hlo m y hy, fun h => Classical.byContradiction fun g => by have := hhi m y hy (by omega); omega⟩
      clear hC cS hlo hhi hy hl u0' hq
      rw [hm] at u0
      by_cases hpm : m < n
      · rw [decide_eq_true (hmn.1 hpm)] at cR
        clear hmn
        go_wp2_with (first | (go_at_call 82; refine (cR _).mono ?_; rintro e w1 ⟨rfl, rfl⟩) | fail)
        go_roundg (b - (m + 1))
        case measure => omega
        case rel => exact ⟨rfl, m + 1, b, by omega, hb, hbn, by omega, by rw [Int.natCast_add, em]; go_num, rfl⟩
      · rw [decide_eq_false (fun h => hpm (hmn.2 h))] at cR
        clear hmn
        go_wp2_with (first | (go_at_call 82; refine (cR _).mono ?_; rintro e w1 ⟨rfl, rfl⟩) | fail)
        go_roundg (m - a)
        case measure => omega
        case rel => exact ⟨rfl, a, m, ha, by omega, by omega, by omega, rfl, by rw [em]⟩
    · obtain rfl : a = b := by omega
      obtain rfl : a = n := by omega
      clear hlo hhi hC
      rcases hq with ⟨y, hy, hqe⟩ | ⟨h9, hqe⟩
      · replace hqe := Lib.hid hqe
        have hal : a < l.length := (List.getElem?_eq_some_iff.1 hy).1
        obtain ⟨bb, off, rfl, u0'⟩ := hl.get hy
        have u0 := u0' wr (Below.refl _ _)
        have hai : (a : Int) < (l.length : Int) := by omega
        clear hl hy u0'
        by_cases hyx : y = x
        · have e1 : (y == x) = true := by simp [hyx]
          replace hqe := Lib.hid (hqe.out.trans (decide_eq_true hyx))
          clear hyx
          go_wp2_with (first | (go_at_call 83; refine (cS _ _).mono ?_; rintro e w1 ⟨rfl, rfl⟩) | fail)
          all_goals go_ret2
          all_goals exact ⟨by rw [hqe.out]; rfl, rfl⟩
        · have e1 : (y == x) = false := by simp [hyx]
          replace hqe := Lib.hid (hqe.out.trans (decide_eq_false hyx))
          clear hyx
          go_wp2_with (first | (go_at_call 83; refine (cS _ _).mono ?_; rintro e w1 ⟨rfl, rfl⟩) | fail)
          all_goals go_ret2
          all_goals exact ⟨by rw [hqe.out]; rfl, rfl⟩
      · have hai : ¬ (a : Int) < (l.length : Int) := by omega
        replace hqe := Lib.hid hqe
        clear hl
        go_wp2_with fail
        all_goals go_ret2
        all_goals exact ⟨by rw [hqe.out]; rfl, rfl⟩
section
variable {W : World} {B : Nat} {c : Option Addr} {L : List Ord}
theorem alw_wf (L : List Ord) (r lo hi : Int) : ∀ z ∈ alwL L r lo hi, (0 ≤ z ∧ z ≤ 1099511627776) ∧ (Lit.int .i64 z).wf = true := fun z hz => by
  obtain ⟨h1, h2, -⟩ := alw_in hz
  have e1 : 1 ≤ bLo lo := by unfold bLo; split <;> omega
  have e2 : bHi hi ≤ 1099511627776 := by unfold bHi; split <;> omega
  exact ⟨by omega, wf_of_in64q ⟨by omega, by omega⟩⟩
set_option maxRecDepth 8000 in
set_option maxHeartbeats 8000000 in
theorem allow_any (rf lo hi : Int) (h : CvP B W c L) : Calls Tryz.prog 28 #[.pointer c, .int .i64 rf, .agg #[.int .i64 lo, .int .i64 hi]] W fun e w' => ∃ ao cap, e = .returned (.slice ao (alwL L rf lo hi).length cap) ∧ It .i64 w' ao cap (alwL L rf lo hi) ∧ Below W.heap.size W w' := by
  obtain ⟨W1, hW1⟩ : ∃ W1, W1 = W.alloc (.cells #[.int .i64 lo, .int .i64 hi] 24) := ⟨_, rfl⟩
  have hb1 : Below W.heap.size W W1 := by rw [hW1]; exact (Below.refl _ _).alloc (Nat.le_refl _) _
  have hBd : Blk W1 W.heap.size 24 #[.int .i64 lo, .int .i64 hi] := by rw [hW1]; exact Blk.new _ _ _
  have hcell : ∀ w, Below W1.heap.size W1 w → w.cell? ⟨W.heap.size, 0, none⟩ = some (.int .i64 lo) ∧ w.cell? ⟨W.heap.size, 1, none⟩ = some (.int .i64 hi) := fun w hw => ⟨(hBd.below hw hBd.lt).cell_eq 0 _ rfl, (hBd.below hw hBd.lt).cell_eq 1 _ rfl⟩
  obtain ⟨z0, z1⟩ := hcell W1 (Below.refl _ _)
  have x1 := vmax_fact lo 1 (bLo lo) rfl
  have x2 := vmin_fact hi 1099511627776 (bHi hi) (by unfold bHi; split <;> split <;> omega)
  have a1 : 1 ≤ bLo lo := by unfold bLo; split <;> omega
  have c1 : bHi hi ≤ 1099511627776 := by unfold bHi; split <;> omega
  have hwf := alw_wf L rf lo hi
  have hL := h.1
  have hlen := cpr_len (bLo lo) (bHi hi) L
  have hri := cpr_rise (bLo lo) (bHi hi) L
  have hl5 := hL.len
  have hcp : ∀ z ∈ cpr (bLo lo) (bHi hi) L, (Lit.int .i64 z).wf = true := fun z hz => by
    have := (cpr_mem.1 hz).2
    exact wf_of_in64q ⟨by omega, by omega⟩
  have cP := fun w (hw : Below W1.heap.size W1 w) => cv_pricesO (bLo lo) (bHi hi) (h.below (hb1.trans (hw.mono hb1.size)))
  obtain ⟨A, hA⟩ : ∃ A, A = alwL L rf lo hi := ⟨_, rfl⟩
  rw [← hA] at hwf ⊢
  unfold alwL at hA
  have x3 := vmax_fact rf (bLo lo) (if rf < bLo lo then bLo lo else rf) rfl
  clear h hL
  by_cases hlt : bHi hi < bLo lo
  · rw [if_pos hlt] at hA
    subst hA
    clear cP hlen hl5 hcp x3 hri
    generalize bLo lo = a at *
    generalize bHi hi = c at *
    have hlt' : decide (c < a) = true := decide_eq_true hlt
    clear hBd hwf
    go_enter Tryz.func28, Tryz.ntmps28
    go_wp2_with (first | (rw [← hW1]; clear hW1) | fail)
    clear z0 z1
    refine wp_region_S (S := fun _ w => Below W1.heap.size W1 w) (by kernel_rfl) (Below.refl _ _).drew ?_
    refine AllS.next (v := ?_) rfl rfl rfl (by kernel_rfl) ?_ ?_
    rotate_left
    · refine yieldsS_run (fun _ _ h => h) (by rfl) ?_
      intro L wx hS
      go_simp
      all_goals first
        | done
        | with_reducible rfl
        | assumption
        | (simp_all; done)
    try simp only [Act.put, List.setIfInBounds_toArray, List.set_cons_zero, List.set_cons_succ, List.getElem_toArray, List.getElem_cons_zero, List.getElem_cons_succ]
    refine AllS.next (v := (.int .i64 lo)) rfl rfl rfl (by kernel_rfl) ?_ ?_
    · refine yieldsS_run (fun _ _ h => h) (by rfl) ?_
      intro L wx hS
      obtain ⟨v0, v1⟩ := hcell wx hS
      go_simp
      all_goals first
        | done
        | with_reducible rfl
        | assumption
        | (simp_all; done)
    try simp only [Act.put, List.setIfInBounds_toArray, List.set_cons_zero, List.set_cons_succ, List.getElem_toArray, List.getElem_cons_zero, List.getElem_cons_succ]
    refine AllS.next (v := (.int .i64 a)) rfl rfl rfl (by kernel_rfl) ?_ ?_
    · refine yieldsS_run (fun _ _ h => h) (by rfl) ?_
      intro L wx hS
      have e1 := x1
      go_simp
      all_goals first
        | done
        | with_reducible rfl
        | assumption
        | (simp_all; done)
    try simp only [Act.put, List.setIfInBounds_toArray, List.set_cons_zero, List.set_cons_succ, List.getElem_toArray, List.getElem_cons_zero, List.getElem_cons_succ]
    refine AllS.next (v := ?_) rfl rfl rfl (by kernel_rfl) ?_ ?_
    rotate_left
    · refine yieldsS_run (fun _ _ h => h) (by rfl) ?_
      intro L wx hS
      go_simp
      all_goals first
        | done
        | with_reducible rfl
        | assumption
        | (simp_all; done)
    try simp only [Act.put, List.setIfInBounds_toArray, List.set_cons_zero, List.set_cons_succ, List.getElem_toArray, List.getElem_cons_zero, List.getElem_cons_succ]
    refine AllS.next (v := (.int .i64 hi)) rfl rfl rfl (by kernel_rfl) ?_ ?_
    · refine yieldsS_run (fun _ _ h => h) (by rfl) ?_
      intro L wx hS
      obtain ⟨v0, v1⟩ := hcell wx hS
      go_simp
      all_goals first
        | done
        | with_reducible rfl
        | assumption
        | (simp_all; done)
    try simp only [Act.put, List.setIfInBounds_toArray, List.set_cons_zero, List.set_cons_succ, List.getElem_toArray, List.getElem_cons_zero, List.getElem_cons_succ]
    refine AllS.next (v := (.int .i64 c)) rfl rfl rfl (by kernel_rfl) ?_ ?_
    · refine yieldsS_run (fun _ _ h => h) (by rfl) ?_
      intro L wx hS
      have e1 := x2
      go_simp
      all_goals first
        | done
        | with_reducible rfl
        | assumption
        | (simp_all; done)
    try simp only [Act.put, List.setIfInBounds_toArray, List.set_cons_zero, List.set_cons_succ, List.getElem_toArray, List.getElem_cons_zero, List.getElem_cons_succ]
    refine AllS.next (v := ?_) rfl rfl rfl (by kernel_rfl) ?_ ?_
    rotate_left
    · refine yieldsS_run (fun _ _ h => h) (by rfl) ?_
      intro L wx hS
      go_simp
      all_goals first
        | done
        | with_reducible rfl
        | assumption
        | (simp_all; done)
    try simp only [Act.put, List.setIfInBounds_toArray, List.set_cons_zero, List.set_cons_succ, List.getElem_toArray, List.getElem_cons_zero, List.getElem_cons_succ]
    refine AllS.next (v := ?_) rfl rfl rfl (by kernel_rfl) ?_ ?_
    rotate_left
    · refine yieldsS_run (fun _ _ h => h) (by rfl) ?_
      intro L wx hS
      go_simp
      all_goals first
        | done
        | with_reducible rfl
        | assumption
        | (simp_all; done)
    try simp only [Act.put, List.setIfInBounds_toArray, List.set_cons_zero, List.set_cons_succ, List.getElem_toArray, List.getElem_cons_zero, List.getElem_cons_succ]
    refine AllS.done (by kernel_rfl) ?_
    intro w9 hS9
    clear hcell
    go_wp2_with fail
    go_ret
    exact ⟨none, 0, rfl, It.nil _ _, hb1.trans (hS9.mono hb1.size)⟩
  · rw [if_neg hlt] at hA
    have hnr : nearI rf (bLo lo) (bHi hi) = (if bHi hi < (if rf < bLo lo then bLo lo else rf) then bHi hi else (if rf < bLo lo then bLo lo else rf)) := by
      unfold nearI
      generalize bLo lo = a at *
      generalize bHi hi = c at *
      by_cases g1 : rf < a
      · rw [if_pos g1]
        by_cases g2 : rf < c
        · rw [if_pos g2, if_pos g1, if_neg (by omega)]
        · rw [if_neg g2]
          by_cases g3 : c < a
          · omega
          · rw [if_neg g3, if_neg (by omega)]; omega
      · rw [if_neg g1]
        by_cases g2 : rf < c
        · rw [if_pos g2, if_neg g1, if_neg (by omega)]
        · rw [if_neg g2, if_neg (by omega)]
          by_cases g3 : c < rf
          · rw [if_pos g3]
          · rw [if_neg g3]; omega
    have x4 := vmin_fact (if rf < bLo lo then bLo lo else rf) (bHi hi) (nearI rf (bLo lo) (bHi hi)) hnr
    clear hnr
    have hni := near_in (r := rf) (show bLo lo ≤ bHi hi by omega)
    generalize (if rf < bLo lo then bLo lo else rf) = m0 at *
    generalize nearI rf (bLo lo) (bHi hi) = nr at *
    generalize bLo lo = a at *
    generalize bHi hi = c at *
    generalize cpr a c L = P at *
    have hlt' : decide (c < a) = false := decide_eq_false hlt
    have hin : In64 nr := ⟨by omega, by omega⟩
    have hPl : P.length ≤ 500 := by omega
    clear hlen hl5 hni a1 c1 hlt
    obtain ⟨n, hn⟩ : ∃ n, n = cAt P nr := ⟨_, rfl⟩
    have hnl : n ≤ P.length := by rw [hn]; exact cAt_le _ _
    have hlow : ∀ (k : Nat) y, P[k]? = some y → k < n → y < nr := fun k y hy hk => cAt_lt hy (by rw [← hn]; exact hk)
    have hhi : ∀ (k : Nat) y, P[k]? = some y → n ≤ k → nr ≤ y := fun k y hy hk => by
      have hlt := (List.getElem?_eq_some_iff.1 hy).1
      obtain ⟨z, hz⟩ : ∃ z, P[n]? = some z := ⟨_, List.getElem?_eq_getElem (by omega)⟩
      have h1 := cAt_at (p := nr) (q := P) (y := z) (by rw [← hn]; exact hz)
      by_cases e : n = k
      · subst e; rw [hy] at hz; cases hz; exact h1
      · have := rise_lt hri hz hy (by omega); omega
    obtain ⟨q, hq⟩ : ∃ q, q = decide (P[n]? = some nr) := ⟨_, rfl⟩
    have hqq : (∃ y, P[n]? = some y ∧ q = decide (y = nr)) ∨ (P.length ≤ n ∧ q = false) := by
      by_cases hnP : n < P.length
      · obtain ⟨y, hy⟩ : ∃ y, P[n]? = some y := ⟨_, List.getElem?_eq_getElem hnP⟩
        exact .inl ⟨y, hy, by rw [hq, hy]; simp⟩
      · refine .inr ⟨by omega, ?_⟩
        rw [hq, List.getElem?_eq_none (by omega)]
        simp
    have hAq : A = if q = true then P else P.take n ++ nr :: P.drop n := by
      rw [hA]
      unfold cins
      rw [← hn]
      by_cases g : P[n]? = some nr
      · rw [if_neg (fun h => h.2 g), if_pos (by rw [hq]; exact decide_eq_true g)]
      · rw [if_pos ⟨⟨Int.le_refl _, Int.le_refl _⟩, g⟩, if_neg (by rw [hq, decide_eq_false g]; exact Bool.false_ne_true)]
    have cB : ∀ (ao : Option Addr) (cap : Nat) (ko : Option Nat) (w : World), OwG 2 1 w ko ao cap P.length (ics P) → Calls Tryz.prog 56 #[.slice ao P.length cap, .int .i64 nr] w fun e w' => e = .returned (.tuple #[.int .i64 (n : Int), .bool q]) ∧ w' = w := fun ao cap ko w ho =>
      bs64_any nr n q w (It.of_own hcp (by rw [ics_map] at ho; exact ho)) (by omega) hnl hlow hhi hqq
    clear hA hq hqq hlow hhi hn hri
    cases q with
    | true =>
      obtain rfl : A = P := by rw [hAq]; rfl
      have hend : ∀ w9, Below W1.heap.size W1 w9 → ∀ w3 ko ao cap, OwG 2 1 w3 ko ao cap A.length (ics A) → Below w9.heap.size w9 w3 → It .i64 w3 ao cap A ∧ Below W.heap.size W w3 := fun w9 h9 w3 ko ao cap ho hb =>
        ⟨It.of_own hcp (by rw [ics_map] at ho; exact ho), hb1.trans ((h9.trans (hb.mono h9.size)).mono hb1.size)⟩
      replace hend := Lib.hid hend
      clear hAq hBd hwf hcp
      go_enter Tryz.func28, Tryz.ntmps28
      go_wp2_with (first | (rw [← hW1]; clear hW1) | fail)
      clear z0 z1
      refine wp_region_S (S := fun _ w => Below W1.heap.size W1 w) (by kernel_rfl) (Below.refl _ _).drew ?_
      refine AllS.next (v := ?_) rfl rfl rfl (by kernel_rfl) ?_ ?_
      rotate_left
      · refine yieldsS_run (fun _ _ h => h) (by rfl) ?_
        intro L wx hS
        go_simp
        all_goals first
          | done
          | with_reducible rfl
          | assumption
          | (simp_all; done)
      try simp only [Act.put, List.setIfInBounds_toArray, List.set_cons_zero, List.set_cons_succ, List.getElem_toArray, List.getElem_cons_zero, List.getElem_cons_succ]
      refine AllS.next (v := (.int .i64 lo)) rfl rfl rfl (by kernel_rfl) ?_ ?_
      · refine yieldsS_run (fun _ _ h => h) (by rfl) ?_
        intro L wx hS
        obtain ⟨v0, v1⟩ := hcell wx hS
        go_simp
        all_goals first
          | done
          | with_reducible rfl
          | assumption
          | (simp_all; done)
      try simp only [Act.put, List.setIfInBounds_toArray, List.set_cons_zero, List.set_cons_succ, List.getElem_toArray, List.getElem_cons_zero, List.getElem_cons_succ]
      refine AllS.next (v := (.int .i64 a)) rfl rfl rfl (by kernel_rfl) ?_ ?_
      · refine yieldsS_run (fun _ _ h => h) (by rfl) ?_
        intro L wx hS
        have e1 := x1
        go_simp
        all_goals first
          | done
          | with_reducible rfl
          | assumption
          | (simp_all; done)
      try simp only [Act.put, List.setIfInBounds_toArray, List.set_cons_zero, List.set_cons_succ, List.getElem_toArray, List.getElem_cons_zero, List.getElem_cons_succ]
      refine AllS.next (v := ?_) rfl rfl rfl (by kernel_rfl) ?_ ?_
      rotate_left
      · refine yieldsS_run (fun _ _ h => h) (by rfl) ?_
        intro L wx hS
        go_simp
        all_goals first
          | done
          | with_reducible rfl
          | assumption
          | (simp_all; done)
      try simp only [Act.put, List.setIfInBounds_toArray, List.set_cons_zero, List.set_cons_succ, List.getElem_toArray, List.getElem_cons_zero, List.getElem_cons_succ]
      refine AllS.next (v := (.int .i64 hi)) rfl rfl rfl (by kernel_rfl) ?_ ?_
      · refine yieldsS_run (fun _ _ h => h) (by rfl) ?_
        intro L wx hS
        obtain ⟨v0, v1⟩ := hcell wx hS
        go_simp
        all_goals first
          | done
          | with_reducible rfl
          | assumption
          | (simp_all; done)
      try simp only [Act.put, List.setIfInBounds_toArray, List.set_cons_zero, List.set_cons_succ, List.getElem_toArray, List.getElem_cons_zero, List.getElem_cons_succ]
      refine AllS.next (v := (.int .i64 c)) rfl rfl rfl (by kernel_rfl) ?_ ?_
      · refine yieldsS_run (fun _ _ h => h) (by rfl) ?_
        intro L wx hS
        have e1 := x2
        go_simp
        all_goals first
          | done
          | with_reducible rfl
          | assumption
          | (simp_all; done)
      try simp only [Act.put, List.setIfInBounds_toArray, List.set_cons_zero, List.set_cons_succ, List.getElem_toArray, List.getElem_cons_zero, List.getElem_cons_succ]
      refine AllS.next (v := ?_) rfl rfl rfl (by kernel_rfl) ?_ ?_
      rotate_left
      · refine yieldsS_run (fun _ _ h => h) (by rfl) ?_
        intro L wx hS
        go_simp
        all_goals first
          | done
          | with_reducible rfl
          | assumption
          | (simp_all; done)
      try simp only [Act.put, List.setIfInBounds_toArray, List.set_cons_zero, List.set_cons_succ, List.getElem_toArray, List.getElem_cons_zero, List.getElem_cons_succ]
      refine AllS.next (v := ?_) rfl rfl rfl (by kernel_rfl) ?_ ?_
      rotate_left
      · refine yieldsS_run (fun _ _ h => h) (by rfl) ?_
        intro L wx hS
        go_simp
        all_goals first
          | done
          | with_reducible rfl
          | assumption
          | (simp_all; done)
      try simp only [Act.put, List.setIfInBounds_toArray, List.set_cons_zero, List.set_cons_succ, List.getElem_toArray, List.getElem_cons_zero, List.getElem_cons_succ]
      refine AllS.done (by kernel_rfl) ?_
      intro w9 hS9
      have cP9 := cP w9 hS9
      clear hcell cP
      go_wp2_with (first
        | (go_at_call 55; refine cP9.mono ?_; rintro e w3 ⟨ko, ao, cap, rfl, ho, -, hb3⟩; clear cP9; have cB3 := cB ao cap ko w3 ho; clear cB)
        | (go_at_call 56; refine cB3.mono ?_; rintro e w4 ⟨rfl, hw4⟩; subst w4; clear cB3)
        | fail)
      go_ret
      obtain ⟨hI, hbW⟩ := hend.out w9 hS9 w3 ko ao cap ho hb3
      exact ⟨ao, cap, rfl, hI, hbW⟩
    | false =>
      have hAl : A.length = P.length + 1 := by rw [hAq]; simp; omega
      have hAe : A = P.take n ++ nr :: P.drop n := by rw [hAq]; rfl
      have hnx : ∀ w9, Below W1.heap.size W1 w9 → ∀ w3 ko ao cap, OwG 2 1 w3 ko ao cap P.length (ics P) → (∀ k, ko = some k → w9.heap.size ≤ k) → Below w9.heap.size w9 w3 → ∃ V, V = w3.alloc (.cells #[.int .i64 nr] 2) ∧ Calls Tryz.prog 57 #[.slice ao P.length cap, .int .i64 (n : Int), .slice (some ⟨w3.heap.size, 0, none⟩) 1 1] V fun e w' => ∃ ao' cap', e = .returned (.slice ao' (P.length + 1) cap') ∧ It .i64 w' ao' cap' A ∧ Below W.heap.size W w' := fun w9 h9 w3 ko ao cap ho hk hb => by
        refine ⟨_, rfl, (insI_any (x := nr) (i := n) (vb := w3.heap.size) (ho.alloc _) (by omega) hnl (Blk.new _ _ _) (fun k e => ?_)).mono ?_⟩
        · rw [e] at ho
          have := ho.lt
          omega
        · rintro e w' ⟨ao', cap', he, ko', ho', hf, -⟩
          rw [← hAe, ← hAl] at ho'
          rw [← hAl] at he ⊢
          refine ⟨ao', cap', he, It.of_own (fun z hz => (hwf z hz).2) (by rw [ics_map] at ho'; exact ho'), ?_⟩
          have hbw := hb1.trans ((h9.trans (hb.mono h9.size)).mono hb1.size)
          have hba := hbw.alloc (Nat.le_trans hbw.size (Nat.le_refl _)) (.cells #[.int .i64 nr] 2)
          exact hba.trans (hf.below hba.size fun k e => Nat.le_trans (Nat.le_trans hb1.size h9.size) (hk k e))
      rw [hAl]
      clear hAq hBd hwf hcp hAe hAl
      replace hnx := Lib.hid hnx
      go_enter Tryz.func28, Tryz.ntmps28
      go_wp2_with (first | (rw [← hW1]; clear hW1) | fail)
      clear z0 z1
      refine wp_region_S (S := fun _ w => Below W1.heap.size W1 w) (by kernel_rfl) (Below.refl _ _).drew ?_
      refine AllS.next (v := ?_) rfl rfl rfl (by kernel_rfl) ?_ ?_
      rotate_left
      · refine yieldsS_run (fun _ _ h => h) (by rfl) ?_
        intro L wx hS
        go_simp
        all_goals first
          | done
          | with_reducible rfl
          | assumption
          | (simp_all; done)
      try simp only [Act.put, List.setIfInBounds_toArray, List.set_cons_zero, List.set_cons_succ, List.getElem_toArray, List.getElem_cons_zero, List.getElem_cons_succ]
      refine AllS.next (v := (.int .i64 lo)) rfl rfl rfl (by kernel_rfl) ?_ ?_
      · refine yieldsS_run (fun _ _ h => h) (by rfl) ?_
        intro L wx hS
        obtain ⟨v0, v1⟩ := hcell wx hS
        go_simp
        all_goals first
          | done
          | with_reducible rfl
          | assumption
          | (simp_all; done)
      try simp only [Act.put, List.setIfInBounds_toArray, List.set_cons_zero, List.set_cons_succ, List.getElem_toArray, List.getElem_cons_zero, List.getElem_cons_succ]
      refine AllS.next (v := (.int .i64 a)) rfl rfl rfl (by kernel_rfl) ?_ ?_
      · refine yieldsS_run (fun _ _ h => h) (by rfl) ?_
        intro L wx hS
        have e1 := x1
        go_simp
        all_goals first
          | done
          | with_reducible rfl
          | assumption
          | (simp_all; done)
      try simp only [Act.put, List.setIfInBounds_toArray, List.set_cons_zero, List.set_cons_succ, List.getElem_toArray, List.getElem_cons_zero, List.getElem_cons_succ]
      refine AllS.next (v := ?_) rfl rfl rfl (by kernel_rfl) ?_ ?_
      rotate_left
      · refine yieldsS_run (fun _ _ h => h) (by rfl) ?_
        intro L wx hS
        go_simp
        all_goals first
          | done
          | with_reducible rfl
          | assumption
          | (simp_all; done)
      try simp only [Act.put, List.setIfInBounds_toArray, List.set_cons_zero, List.set_cons_succ, List.getElem_toArray, List.getElem_cons_zero, List.getElem_cons_succ]
      refine AllS.next (v := (.int .i64 hi)) rfl rfl rfl (by kernel_rfl) ?_ ?_
      · refine yieldsS_run (fun _ _ h => h) (by rfl) ?_
        intro L wx hS
        obtain ⟨v0, v1⟩ := hcell wx hS
        go_simp
        all_goals first
          | done
          | with_reducible rfl
          | assumption
          | (simp_all; done)
      try simp only [Act.put, List.setIfInBounds_toArray, List.set_cons_zero, List.set_cons_succ, List.getElem_toArray, List.getElem_cons_zero, List.getElem_cons_succ]
      refine AllS.next (v := (.int .i64 c)) rfl rfl rfl (by kernel_rfl) ?_ ?_
      · refine yieldsS_run (fun _ _ h => h) (by rfl) ?_
        intro L wx hS
        have e1 := x2
        go_simp
        all_goals first
          | done
          | with_reducible rfl
          | assumption
          | (simp_all; done)
      try simp only [Act.put, List.setIfInBounds_toArray, List.set_cons_zero, List.set_cons_succ, List.getElem_toArray, List.getElem_cons_zero, List.getElem_cons_succ]
      refine AllS.next (v := ?_) rfl rfl rfl (by kernel_rfl) ?_ ?_
      rotate_left
      · refine yieldsS_run (fun _ _ h => h) (by rfl) ?_
        intro L wx hS
        go_simp
        all_goals first
          | done
          | with_reducible rfl
          | assumption
          | (simp_all; done)
      try simp only [Act.put, List.setIfInBounds_toArray, List.set_cons_zero, List.set_cons_succ, List.getElem_toArray, List.getElem_cons_zero, List.getElem_cons_succ]
      refine AllS.next (v := ?_) rfl rfl rfl (by kernel_rfl) ?_ ?_
      rotate_left
      · refine yieldsS_run (fun _ _ h => h) (by rfl) ?_
        intro L wx hS
        go_simp
        all_goals first
          | done
          | with_reducible rfl
          | assumption
          | (simp_all; done)
      try simp only [Act.put, List.setIfInBounds_toArray, List.set_cons_zero, List.set_cons_succ, List.getElem_toArray, List.getElem_cons_zero, List.getElem_cons_succ]
      refine AllS.done (by kernel_rfl) ?_
      intro w9 hS9
      have cP9 := cP w9 hS9
      clear hcell cP
      go_wp2_with (first
        | (go_at_call 55; refine cP9.mono ?_; rintro e w3 ⟨ko, ao, cap, rfl, ho, hk3, hb3⟩; clear cP9; have cB3 := cB ao cap ko w3 ho; clear cB)
        | (go_at_call 56; refine cB3.mono ?_; rintro e w4 ⟨rfl, hw4⟩; subst w4; clear cB3; obtain ⟨V, hV, cI⟩ := hnx.out w9 hS9 w3 ko ao cap ho hk3 hb3; clear hnx)
        | (go_at_call 57; refine cI.mono ?_; rintro e w5 ⟨ao5, cap5, rfl, hI5, hb5⟩; clear cI)
        | (rw [← hV]; clear hV)
        | fail)
      go_ret
      exact ⟨ao5, cap5, rfl, hI5, hb5⟩
end
end Go.Proofs.YtohenmnpmgghhaaGreatDoor
