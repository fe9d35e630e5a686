/-
  The document's At of a book's demand and supply.
  The document's prices of a book. (Written by gen/p_rcb.py.)
-/
import Derived.Test.YtohenmnpmgghhaaGreatDoorGCa
import Derived.Test.YtohenmnpmgghhaaGreatDoorGJ
import Derived.Test.YtohenmnpmgghhaaGreatDoorGC
import Derived.Test.YtohenmnpmgghhaaGreatDoorGB
namespace Go.Proofs.YtohenmnpmgghhaaGreatDoor
open Go.RowKit
set_option linter.unusedSimpArgs false
section
variable {W : World} {r : Nat} {S : Nat → Prop} {b : Bk}
theorem pnt_lay {w : World} {b : Nat} {T : TypeId} {u0 u1 u2 : Value} (h : Blk w b T #[u0, u1, u2]) (v0 v1 v2 : Value) : Blk (((w.setCell ⟨b, 0, none⟩ v0).setCell ⟨b, 1, none⟩ v1).setCell ⟨b, 2, none⟩ v2) b T #[v0, v1, v2] := by
  have h0 : Blk _ b T #[v0, u1, u2] := h.set 0 v0
  have h1 : Blk _ b T #[v0, v1, u2] := h0.set 1 v1
  exact h1.set 2 v2
set_option maxRecDepth 8000 in
set_option maxHeartbeats 4000000 in
theorem rat_any (pr : Int) (hok : b.Ok) (h : RK W r S b) : Calls Tryz.prog 35 #[.pointer (some ⟨r, 0, none⟩), .int .i64 pr] W fun e w' => e = .returned (vPnt (catL b.L pr)) ∧ Below W.heap.size W w' := by
  obtain ⟨ko, ao, cap, h⟩ := h
  have hC := fun w (hb : Below W.heap.size W w) => (h.below hb).c2
  have hRw := fun w (hb : Below W.heap.size W w) => (h.below hb).rows
  clear h
  obtain ⟨W1, hW1⟩ : ∃ W1, W1 = (W.alloc (.cells #[.int .i64 0, .int .i64 0, .int .i64 0] 71)).alloc (.cells #[.int .i64 pr, .int .i64 0, .int .i64 0] 71) := ⟨_, rfl⟩
  have m1 : Mem W [(W.heap.size + 1, 71, #[.int .i64 pr, .int .i64 0, .int .i64 0]), (W.heap.size, 71, #[.int .i64 0, .int .i64 0, .int .i64 0])] W1 := by
    rw [hW1]
    exact ((Mem.start W).new _ _).new' _ _ (by simp)
  have hb1 := m1.below
  have hP := m1.blk (W.heap.size + 1) 71 #[.int .i64 pr, .int .i64 0, .int .i64 0] (by simp)
  have hR := m1.blk W.heap.size 71 #[.int .i64 0, .int .i64 0, .int .i64 0] (by simp)
  clear m1
  have tD := sum_take hok (demS_bound hok pr)
  have tS := sum_take hok (supS_bound hok pr)
  have hside := fun x (hx : x ∈ b.L) => (hok.ok x hx).side
  have hlen : b.L.length ≤ 500 := by
    have := hok.len
    have := hok.s2
    omega
  have hall : Hid (sumO (demS pr) (b.L.take b.L.length) = sumO (demS pr) b.L ∧ sumO (supS pr) (b.L.take b.L.length) = sumO (supS pr) b.L) := Lib.hid (by rw [List.take_length]; exact ⟨rfl, rfl⟩)
  clear hok
  unfold catL
  generalize b.L = l at *
  obtain ⟨n, hn⟩ : ∃ n, n = l.length := ⟨_, rfl⟩
  rw [← hn] at hall hlen
  simp only [← hn] at hC
  replace hn := Lib.hid hn
  have c0 := hC _ hb1
  go_enter Tryz.func35, Tryz.ntmps35
  go_wp2_with (first | (rw [← hW1]; clear hW1) | fail)
  go_loopg [6] n (fun j p6 wr => ∃ (q : Nat) (d s : Int), q + j = n ∧ p6 = .int .i64 (q : Int) ∧ Hid (d = sumO (demS pr) (l.take q) ∧ s = sumO (supS pr) (l.take q)) ∧ Blk wr (W.heap.size + 1) 71 #[.int .i64 pr, .int .i64 d, .int .i64 s] ∧ Blk wr W.heap.size 71 #[.int .i64 0, .int .i64 0, .int .i64 0] ∧ Below W.heap.size W wr)
  case atStart => exact ⟨0, 0, 0, by omega, rfl, Lib.hid ⟨rfl, rfl⟩, hP, hR, hb1⟩
  case round =>
    clear hP hR hb1 c0
    obtain ⟨q, d, s, hqj, rfl, hds, hP, hR, hb⟩ := hrel
    have c0 := hC _ hb
    by_cases hqn : q < n
    · obtain ⟨x, hx⟩ : ∃ x, l[q]? = some x := ⟨_, List.getElem?_eq_getElem (by rw [← hn.out]; exact hqn)⟩
      have hsd := hside x (List.mem_of_getElem? hx)
      obtain ⟨bx, offx, rfl, y0, y1, y2, y3, y4, y5, y6⟩ := (hRw _ hb).get hx
      replace y0 : wr.cell? ⟨bx, offx + q * 7, none⟩ = some (.int .i64 x.id) := y0
      have e1 := sumO_at (f := demS pr) hx
      have e2 := sumO_at (f := supS pr) hx
      rw [← hds.out.1] at e1
      rw [← hds.out.2] at e2
      have t1 := tD (q + 1)
      have t2 := tS (q + 1)
      rw [e1] at t1
      rw [e2] at t2
      obtain ⟨V, hV⟩ : ∃ V, V = wr.alloc (.cells (cOrd x) 52) := ⟨_, rfl⟩
      have hbV : Below wr.heap.size wr V := by rw [hV]; exact (Below.refl _ _).alloc (Nat.le_refl _) _
      have hPV := hP.below hbV hP.lt
      have hRV := hR.below hbV hR.lt
      have hbW : Below W.heap.size W V := hb.trans (hbV.mono hb.size)
      obtain ⟨z0, z1, z2, z3, z4, z5, z6⟩ := Ord.cells (show Blk V wr.heap.size 52 (cOrd x) by rw [hV]; exact Blk.new _ _ _)
      have p1 := hPV.cell_eq 1 _ rfl
      have p2 := hPV.cell_eq 2 _ rfl
      have hfr := hPV.free
      have hql : (q : Int) < (n : Int) := by omega
      have key : ((x.side == 0) = true ∧ (x.side == 1) = false ∧ ((decide (pr ≤ x.price) = true ∧ demS pr x = x.qty ∧ supS pr x = 0) ∨ (decide (pr ≤ x.price) = false ∧ demS pr x = 0 ∧ supS pr x = 0))) ∨
          ((x.side == 0) = false ∧ (x.side == 1) = true ∧ ((decide (x.price ≤ pr) = true ∧ demS pr x = 0 ∧ supS pr x = x.qty) ∨ (decide (x.price ≤ pr) = false ∧ demS pr x = 0 ∧ supS pr x = 0))) := by
        unfold demS supS
        rcases hsd with e | e
        · refine .inl ⟨by rw [e]; rfl, by rw [e]; rfl, ?_⟩
          by_cases g : pr ≤ x.price
          · exact .inl ⟨decide_eq_true g, if_pos ⟨e, g⟩, if_neg (by omega)⟩
          · exact .inr ⟨decide_eq_false g, if_neg (by omega), if_neg (by omega)⟩
        · refine .inr ⟨by rw [e]; rfl, by rw [e]; rfl, ?_⟩
          by_cases g : x.price ≤ pr
          · exact .inl ⟨decide_eq_true g, if_neg (by omega), if_pos ⟨e, g⟩⟩
          · exact .inr ⟨decide_eq_false g, if_neg (by omega), if_neg (by omega)⟩
      have hend : ∀ V' d' s', Blk V' (W.heap.size + 1) 71 #[.int .i64 pr, .int .i64 d', .int .i64 s'] → Blk V' W.heap.size 71 #[.int .i64 0, .int .i64 0, .int .i64 0] → Below W.heap.size W V' → d' = d + demS pr x → s' = s + supS pr x →
          ∃ (q' : Nat) (d s : Int), q' + (n - (q + 1)) = n ∧ Value.int .i64 ((q : Int) + 1) = .int .i64 (q' : Int) ∧ Hid (d = sumO (demS pr) (l.take q') ∧ s = sumO (supS pr) (l.take q')) ∧ Blk V' (W.heap.size + 1) 71 #[.int .i64 pr, .int .i64 d, .int .i64 s] ∧ Blk V' W.heap.size 71 #[.int .i64 0, .int .i64 0, .int .i64 0] ∧ Below W.heap.size W V' := by
        rintro V' d' s' h1 h2 h3 rfl rfl
        exact ⟨q + 1, _, _, by omega, by simp, Lib.hid ⟨e1.symm, e2.symm⟩, h1, h2, h3⟩
      have hset : ∀ (j : Nat) (v : Value), (j = 1 ∨ j = 2) → Blk (V.setCell ⟨W.heap.size + 1, j, none⟩ v) W.heap.size 71 #[.int .i64 0, .int .i64 0, .int .i64 0] ∧ Below W.heap.size W (V.setCell ⟨W.heap.size + 1, j, none⟩ v) := fun j v _ => ⟨hRV.other (by show W.heap.size + 1 ≠ W.heap.size; omega) _, hbW.setCell (p := ⟨W.heap.size + 1, j, none⟩) (by simp) _⟩
      have hd1 : ∀ v, Blk (V.setCell ⟨W.heap.size + 1, 1, none⟩ (.int .i64 v)) (W.heap.size + 1) 71 #[.int .i64 pr, .int .i64 v, .int .i64 s] := fun v => hPV.set 1 _
      have hd2 : ∀ v, Blk (V.setCell ⟨W.heap.size + 1, 2, none⟩ (.int .i64 v)) (W.heap.size + 1) 71 #[.int .i64 pr, .int .i64 d, .int .i64 v] := fun v => hPV.set 2 _
      replace hend := Lib.hid hend
      replace hset := Lib.hid hset
      clear hP hR hx hsd e1 e2 hds hRw hC tD tS hside hall hb hbV
      obtain ⟨xi, xo, xs, xp, xq, xf, xe⟩ := x
      simp only at y0 y1 y2 y3 y4 y5 y6 z0 z1 z2 z3 z4 z5 z6
      simp only at key
      simp only [cOrd] at hV
      rcases key with ⟨d1, d2, ⟨d3, k1, k2⟩ | ⟨d3, k1, k2⟩⟩ | ⟨d1, d2, ⟨d3, k1, k2⟩ | ⟨d3, k1, k2⟩⟩
      all_goals
        rw [k1] at t1
        rw [k2] at t2
        replace k1 := Lib.hid k1
        replace k2 := Lib.hid k2
        go_wp2_with (first | (rw [← hV]; clear hV) | fail)
        go_roundg (n - (q + 1))
        case measure => omega
        case rel =>
          first
            | exact hend.out _ _ _ (hd1 _) (hset.out 1 _ (.inl rfl)).1 (hset.out 1 _ (.inl rfl)).2 (by rw [k1.out]) (by rw [k2.out]; omega)
            | exact hend.out _ _ _ (hd2 _) (hset.out 2 _ (.inr rfl)).1 (hset.out 2 _ (.inr rfl)).2 (by rw [k1.out]; omega) (by rw [k2.out])
            | exact hend.out _ _ _ hPV hRV hbW (by rw [k1.out]; omega) (by rw [k2.out]; omega)
            | fail
    · have e : q = n := by omega
      subst e
      have hqn : ¬ (q : Int) < (q : Int) := by omega
      have hd : d = sumO (demS pr) l ∧ s = sumO (supS pr) l := by rw [← hall.out.1, ← hall.out.2]; exact hds.out
      obtain ⟨p0, p1, p2⟩ := (⟨hP.cell_eq 0 _ rfl, hP.cell_eq 1 _ rfl, hP.cell_eq 2 _ rfl⟩ : _ ∧ _ ∧ _)
      have hfr := hR.free
      obtain ⟨r0, r1, r2⟩ := (⟨hR.cell_eq 0 _ rfl, hR.cell_eq 1 _ rfl, hR.cell_eq 2 _ rfl⟩ : _ ∧ _ ∧ _)
      have hlay := pnt_lay hR (.int .i64 pr) (.int .i64 d) (.int .i64 s)
      obtain ⟨g0, g1, g2⟩ := (⟨hlay.cell_eq 0 _ rfl, hlay.cell_eq 1 _ rfl, hlay.cell_eq 2 _ rfl⟩ : _ ∧ _ ∧ _)
      have hfin := Lib.hid (((hb.setCell (p := ⟨W.heap.size, 0, none⟩) (Nat.le_refl _) (.int .i64 pr)).setCell (p := ⟨W.heap.size, 1, none⟩) (Nat.le_refl _) (.int .i64 d)).setCell (p := ⟨W.heap.size, 2, none⟩) (Nat.le_refl _) (.int .i64 s))
      replace hd := Lib.hid hd
      clear hP hR hlay hb hRw hC tD tS hside hall hds
      go_wp2_with fail
      refine bodyPost_ret (v := .agg #[.int .i64 pr, .int .i64 d, .int .i64 s]) ?_ rfl ?_
      rotate_left
      · exact ⟨by rw [← hd.out.1, ← hd.out.2], hfin.out⟩
      simp [results, Tryz.results35, go_sem, g0, g1, g2]
end
end Go.Proofs.YtohenmnpmgghhaaGreatDoor
namespace Go.Proofs.YtohenmnpmgghhaaGreatDoor
open Go.RowKit
set_option linter.unusedSimpArgs false
abbrev cI64 (z : Int) : Array Value := #[.int .i64 z]
abbrev ics (q : List Int) : List Value := q.flatMap fun z => (cI64 z).toList
theorem infoI64 : (Tryz.prog.info? 2).map (fun i => (i.zero, i.size, i.bytes)) = some (some (.int .i64 0), 1, 8) := by kernel_rfl
theorem cells_I64 : Tryz.prog.cellsOf 2 = 1 := by kernel_rfl
theorem ics_map (q : List Int) : ics q = q.map (Value.int .i64) := by
  induction q with
  | nil => rfl
  | cons x t ih => simp [ics] at ih ⊢; exact ih
theorem ics_len (q : List Int) : (ics q).length = q.length := by rw [ics_map, List.length_map]
theorem ics_one (q : List Int) : ∀ u ∈ ics q, u.oneCell' = true := by
  intro u hu
  rw [ics_map] at hu
  obtain ⟨z, -, rfl⟩ := List.mem_map.1 hu
  rfl
theorem ics_get {q : List Int} {k : Nat} {y : Int} (h : q[k]? = some y) : (ics q)[k]? = some (.int .i64 y) := by rw [ics_map, List.getElem?_map, h]; rfl
theorem ics_drop (q : List Int) (m : Nat) : ics (q.drop m) = (ics q).drop m := by rw [ics_map, ics_map, List.map_drop]
theorem ics_take (q : List Int) (m : Nat) : ics (q.take m) = (ics q).take m := by rw [ics_map, ics_map, List.map_take]
theorem i64_lo {E : TypeId} (ko : Option Nat) (ao : Option Addr) (cap : Nat) (l : List Int) (m : Nat) (hm : m ≤ l.length) (w : World) (hL : OwG E 1 w ko ao cap l.length (ics l)) :
    ∃ ao2 cap2, (∀ w, (Instr.slice 42 (.slice ao l.length cap) (some (.int .i64 (m : Int))) none none).run Tryz.prog w = .ok (.slice ao2 (l.length - m) cap2) w) ∧ ∀ w', OwG E 1 w' ko ao cap l.length (ics l) → SrcG 1 w' ao2 cap2 (l.length - m) (ics (l.drop m)) := by
  have hl := hL.len
  have ht := hL.top
  unfold maxLen at ht
  have hu := Tryz.underlying42
  have hc := cells_I64
  have hone : ∀ u ∈ ics (l.drop m), u.oneCell' = true := ics_one _
  have hlen : (ics (l.drop m)).length = (l.length - m) * 1 := by rw [ics_len, List.length_drop]; omega
  by_cases h : cap = m
  · subst h
    have e : l.length = cap := by omega
    refine ⟨ao, 0, fun w => ?_, fun w' h' => ⟨hlen, hone, ?_⟩⟩
    · simp [go_sem, Instr.slice]
      intro h; omega
    · cases ao with
      | none => exact .inl ⟨rfl, rfl, by omega⟩
      | some a =>
        refine .inr ⟨a, rfl, fun j u hj => ?_⟩
        have hlt := (List.getElem?_eq_some_iff.1 hj).1
        omega
  · refine ⟨Option.map (fun x => x.add (m * 1)) ao, cap - m, fun w => ?_, fun w' h' => ⟨hlen, hone, ?_⟩⟩
    · simp [go_sem, Instr.slice]
      rw [if_pos hm, if_neg h]
    · rcases h'.at' with ⟨-, -, h0⟩ | ⟨k, cur, e1, e2, -⟩
      · omega
      · refine .inr ⟨_, by rw [e2]; rfl, fun j u hj => ?_⟩
        rw [ics_drop, List.getElem?_drop] at hj
        obtain ⟨k', e3, -, h3, -⟩ := h'.cell _ u hj
        rw [e1] at e3
        cases e3
        show w'.cell? ((Addr.add ⟨k, 0, none⟩ (m * 1)).add j) = some u
        rw [Addr.add_mid, Addr.add_mid, Nat.zero_add, Nat.mul_one]
        exact h3
theorem i64_hi {E : TypeId} (ko : Option Nat) (ao : Option Addr) (cap : Nat) (l : List Int) (m : Nat) (hm : m ≤ l.length) (w : World) (hL : OwG E 1 w ko ao cap l.length (ics l)) :
    (∀ w, (Instr.slice 42 (.slice ao l.length cap) none (some (.int .i64 (m : Int))) none).run Tryz.prog w = .ok (.slice ao m cap) w) ∧ ∀ w', OwG E 1 w' ko ao cap l.length (ics l) → SrcG 1 w' ao cap m (ics (l.take m)) := by
  have hl := hL.len
  have ht := hL.top
  unfold maxLen at ht
  have hu := Tryz.underlying42
  have hc := cells_I64
  refine ⟨fun w => ?_, fun w' h' => ⟨by rw [ics_len, List.length_take, Nat.min_eq_left hm]; omega, ics_one _, ?_⟩⟩
  · simp [go_sem, Instr.slice]
    omega
  · rcases h'.at' with ⟨-, h1, h0⟩ | ⟨k, cur, e1, e2, -⟩
    · exact .inl ⟨h1, h0, by omega⟩
    · refine .inr ⟨_, e2, fun j u hj => ?_⟩
      rw [ics_take, List.getElem?_take] at hj
      split at hj
      · obtain ⟨k', e3, -, h3, -⟩ := h'.cell _ u hj
        rw [e1] at e3
        cases e3
        rw [Addr.add_mid, Nat.zero_add]
        exact h3
      · cases hj
section
variable {w w' W : World} {r : Nat} {S T : Nat → Prop} {ko : Option Nat} {ao : Option Addr} {cap : Nat}
set_option maxRecDepth 8000 in
set_option maxHeartbeats 8000000 in
theorem rprices_any (lo hi : Int) {b : Bk} (h : RK W r S b) (hlen : b.L.length ≤ 100000) :
    Calls Tryz.prog 33 #[.pointer (some ⟨r, 0, none⟩), .int .i64 lo, .int .i64 hi] W fun e w' => ∃ ko' cap' ao', e = .returned (.slice ao' (cpr lo hi b.L).length cap') ∧ Gr 2 1 cI64 W w' (cpr lo hi b.L) ko' cap' ao' := by
  obtain ⟨ko, ao, cap, h⟩ := h
  obtain ⟨i1, hi1, e1⟩ := Option.map_eq_some_iff.1 infoI64
  simp only [Prod.mk.injEq] at e1
  obtain ⟨hz1, hs1, hb1⟩ := e1
  have hK : ∀ w, Below W.heap.size W w → w.cell? ⟨r, 2, none⟩ = some (.slice ao b.L.length cap) ∧ Ords w ao cap b.L := fun w hb => ⟨(h.below hb).c2, (h.below hb).rows⟩
  clear h
  generalize b.L = l at *
  go_enter Tryz.func33, Tryz.ntmps33
  go_wp2_with fail
  go_loopg [7, 8] l.length (fun j p7 p8 wr => ∃ (i : Nat) (P : List Int) (ko' : Option Nat) (oc : Nat) (oo : Option Addr), i + j = l.length ∧ p8 = .int .i64 (i : Int) ∧ p7 = .slice oo P.length oc ∧ Hid (P = cprTo lo hi l i) ∧ Gr 2 1 cI64 W wr P ko' oc oo)
  case atStart => exact ⟨0, [], none, 0, none, by omega, rfl, rfl, Lib.hid rfl, Gr.start W⟩
  case round =>
    obtain ⟨i, P, ko, oc, oo, hi', rfl, rfl, hO, hG⟩ := hrel
    have hR := hK _ hG.bel
    have hrl := hR.1
    by_cases him : i < l.length
    · obtain ⟨x, hx⟩ : ∃ x, l[i]? = some x := ⟨_, List.getElem?_eq_getElem him⟩
      have hPi : P.length ≤ i := by rw [hO.out]; exact cprTo_len lo hi l i
      have hP200 : P.length ≤ 100000 := by omega
      replace hPi := Lib.hid hPi
      have hi2 : (i : Int) < (l.length : Int) := by omega
      have hO2 : cins lo hi P x.price = cprTo lo hi l (i + 1) := by
        conv => rhs; unfold cprTo
        rw [hx]
        dsimp only
        rw [hO.out]
      unfold cins at hO2
      have hple := cAt_le P x.price
      have hbt : ∀ (k : Nat) (y : Int), P[k]? = some y → k < cAt P x.price → y < x.price := fun k y hy hk => cAt_lt hy hk
      have hbf : ∀ (y : Int), P[cAt P x.price]? = some y → x.price ≤ y := fun y hy => cAt_at hy
      obtain ⟨d, hd⟩ : ∃ d, d = cAt P x.price := ⟨_, rfl⟩
      rw [← hd] at hO2 hple hbt hbf
      clear hd
      have c0 := hR.1
      obtain ⟨bx, offx, rfl, -, -, -, y3, -⟩ := hR.2.get hx
      have hbth := Lib.hid hbt
      have hbfh := Lib.hid hbf
      have hO2h := Lib.hid hO2
      clear hbf hbt hO2 hO hx hR
      replace hK := Lib.hid hK
      obtain ⟨p, hp⟩ : ∃ p, p = x.price := ⟨_, rfl⟩
      rw [← hp] at y3 hbth hbfh hO2h
      clear hp
      go_wp2_with fail
      clear y3
      go_loopg [10] d (fun j p10 wr' => ∃ k : Nat, k + j = d ∧ p10 = .int .i64 (k : Int) ∧ wr' = wr)
      case atStart => exact ⟨0, by omega, rfl, rfl⟩
      case round =>
        obtain ⟨k, hk, rfl, rfl⟩ := hrel
        by_cases hkd : k < d
        · obtain ⟨y, hy⟩ : ∃ y, P[k]? = some y := ⟨_, List.getElem?_eq_getElem (by omega)⟩
          have hb : decide (y < p) = true := decide_eq_true (hbth.out k y hy hkd)
          obtain ⟨kb, rfl, rfl, u3, -⟩ := hG.ow.cell _ _ (ics_get hy)
          have hg : decide (k < P.length) = true := decide_eq_true (by omega)
          have hk2 : (k : Int) < (P.length : Int) := by omega
          clear hbth hbfh hG hO2h hy hK
          go_wp2_with fail
          go_roundg (d - (k + 1))
          case measure => omega
          case rel => exact ⟨k + 1, by omega, by go_num, rfl⟩
        · obtain rfl : k = d := by omega
          have hno : ¬ ((lo ≤ p ∧ p ≤ hi) ∧ P[k]? ≠ some p) → Hid (P = cprTo lo hi l (i + 1)) := fun g => Lib.hid (by rw [← hO2h.out, if_neg g])
          have hyes : (lo ≤ p ∧ p ≤ hi) ∧ P[k]? ≠ some p → Hid (P.take k ++ p :: P.drop k = cprTo lo hi l (i + 1)) := fun g => Lib.hid (by rw [← hO2h.out, if_pos g])
          have hone : ∀ u ∈ (cI64 p).toList, u.oneCell' = true := by intro u hu; simp at hu; subst hu; rfl
          obtain ⟨hsH, hH⟩ := i64_hi _ _ _ P k hple wr hG.ow
          obtain ⟨ao4, cap4, hsL, hLo⟩ := i64_lo _ _ _ P k hple wr hG.ow
          have hsrc1 : ∀ w, Below wr.heap.size wr w → SrcG 1 w oo oc k (ics (P.take k)) := fun w hb => hH w (hG.ow.below hb)
          have hsrc2 : ∀ w, Below wr.heap.size wr w → SrcG 1 w ao4 cap4 (P.length - k) (ics (P.drop k)) := fun w hb => hLo w (hG.ow.below hb)
          have hfill : (lo ≤ p ∧ p ≤ hi) ∧ P[k]? ≠ some p → Hid (∀ w4 ao3 cap3 ko3, Below wr.heap.size wr w4 → (∀ k, ko3 = some k → wr.heap.size ≤ k) → OwG 2 1 w4 ko3 ao3 cap3 (k + 1 + (P.length - k)) (ics (P.take k) ++ (cI64 p).toList ++ ics (P.drop k)) →
              ∃ P2 : List Int, k + 1 + (P.length - k) = P2.length ∧ Hid (P2 = cprTo lo hi l (i + 1)) ∧ Gr 2 1 cI64 W w4 P2 ko3 cap3 ao3) := by
            intro g
            refine Lib.hid ?_
            intro w4 ao3 cap3 ko3 hb hk' ho
            have e1 : k + 1 + (P.length - k) = (P.take k ++ p :: P.drop k).length := by simp; omega
            refine ⟨_, e1, hyes g, ?_, fun q e => Nat.le_trans hG.bel.size (hk' q e), hG.bel.trans (hb.mono hG.bel.size)⟩
            rw [e1] at ho
            simpa [ics] using ho
          have hend : (P[k]? = none ∧ decide (k < P.length) = false ∧ ((k : Int) == (P.length : Int)) = true) ∨ (∃ y, P[k]? = some y ∧ decide (k < P.length) = true ∧ ((k : Int) == (P.length : Int)) = false ∧ decide (y < p) = false) := by
            by_cases g : k < P.length
            · obtain ⟨y, hy⟩ : ∃ y, P[k]? = some y := ⟨_, List.getElem?_eq_getElem g⟩
              exact .inr ⟨y, hy, decide_eq_true g, by simp; omega, decide_eq_false (by have := hbfh.out y hy; omega)⟩
            · exact .inl ⟨List.getElem?_eq_none (by omega), decide_eq_false g, by simp; omega⟩
          have bD : Below wr.heap.size wr wr.drew := (Below.refl _ _).drew
          clear hbth hbfh hO2h hK hH hLo
          rcases hend with ⟨hy, g0, g1⟩ | ⟨y, hy, g0, g1, g2⟩
          · by_cases h1 : lo ≤ p
            rotate_left
            · have d1 := decide_eq_false h1
              have hO3 := hno fun g => h1 g.1.1
              clear hno hyes h1
              clear hfill hsrc1 hsrc2 hsH hsL bD hone
              go_wp2_with fail
              go_roundg (l.length - (i + 1))
              case measure => omega
              case rel => exact ⟨i + 1, P, _, oc, _, by omega, by go_num, rfl, hO3, hG⟩
            by_cases h2 : p ≤ hi
            rotate_left
            · have d1 := decide_eq_true h1
              have d2 := decide_eq_false h2
              have hO3 := hno fun g => h2 g.1.2
              clear hno hyes h1 h2
              clear hfill hsrc1 hsrc2 hsH hsL bD hone
              go_wp2_with fail
              go_roundg (l.length - (i + 1))
              case measure => omega
              case rel => exact ⟨i + 1, P, _, oc, _, by omega, by go_num, rfl, hO3, hG⟩
            have d1 := decide_eq_true h1
            have d2 := decide_eq_true h2
            have fin := hfill ⟨⟨h1, h2⟩, fun g => by rw [hy] at g; cases g⟩
            clear hno hyes h1 h2 hy hfill hG
            go_wp2_with fail
            refine GoL.start (S := fun _ w => Below wr.heap.size wr w) (by kernel_rfl) bD ?_
            generalize wr.drew = U at bD ⊢
            have bV := bD
            clear bD
            have lV := bV.size
            refine GoL.take (i := 1) (v := ?_) rfl rfl (by kernel_rfl) (fun _ _ _ h => h) (fun _ _ => Iff.rfl) (by rfl) ?_ ?_
            rotate_left
            · intro wx hwx
              go_simp
              try with_reducible rfl
            try simp only [Act.put, List.setIfInBounds_toArray, List.set_cons_zero, List.set_cons_succ, List.getElem_toArray, List.getElem_cons_zero, List.getElem_cons_succ, Nat.zero_add, List.nil_append]
            refine GoL.take (i := 2) (v := ?_) rfl rfl (by kernel_rfl) (fun _ _ _ h => h) (fun _ _ => Iff.rfl) (by rfl) ?_ ?_
            rotate_left
            · intro wx hwx
              go_simp
              try with_reducible rfl
            try simp only [Act.put, List.setIfInBounds_toArray, List.set_cons_zero, List.set_cons_succ, List.getElem_toArray, List.getElem_cons_zero, List.getElem_cons_succ, Nat.zero_add, List.nil_append]
            refine GoL.take (i := 3) (v := ?_) rfl rfl (by kernel_rfl) (fun _ _ _ h => h) (fun _ _ => Iff.rfl) (by rfl) ?_ ?_
            rotate_left
            · intro wx hwx
              go_simp
              try with_reducible rfl
            try simp only [Act.put, List.setIfInBounds_toArray, List.set_cons_zero, List.set_cons_succ, List.getElem_toArray, List.getElem_cons_zero, List.getElem_cons_succ, Nat.zero_add, List.nil_append]
            refine GoL.take (i := 5) (v := ?_) rfl rfl (by kernel_rfl) (fun _ _ _ h => h) (fun _ _ => Iff.rfl) (by rfl) ?_ ?_
            rotate_left
            · intro wx hwx
              go_simp
              try with_reducible rfl
            try simp only [Act.put, List.setIfInBounds_toArray, List.set_cons_zero, List.set_cons_succ, List.getElem_toArray, List.getElem_cons_zero, List.getElem_cons_succ, Nat.zero_add, List.nil_append]
            refine GoL.take (i := 8) (v := ?_) rfl rfl (by kernel_rfl) (fun _ _ _ h => h) (fun _ _ => Iff.rfl) (by rfl) ?_ ?_
            rotate_left
            · intro wx hwx
              go_simp
              try with_reducible rfl
            try simp only [Act.put, List.setIfInBounds_toArray, List.set_cons_zero, List.set_cons_succ, List.getElem_toArray, List.getElem_cons_zero, List.getElem_cons_succ, Nat.zero_add, List.nil_append]
            refine GoL.take (i := 9) (v := ?_) rfl rfl (by kernel_rfl) (fun _ _ _ h => h) (fun _ _ => Iff.rfl) (by rfl) ?_ ?_
            rotate_left
            · intro wx hwx
              go_simp
              try with_reducible rfl
            try simp only [Act.put, List.setIfInBounds_toArray, List.set_cons_zero, List.set_cons_succ, List.getElem_toArray, List.getElem_cons_zero, List.getElem_cons_succ, Nat.zero_add, List.nil_append]
            refine GoL.take (i := 10) (v := ?_) rfl rfl (by kernel_rfl) (fun _ _ _ h => h) (fun _ _ => Iff.rfl) (by rfl) ?_ ?_
            rotate_left
            · intro wx hwx
              go_simp
              try with_reducible rfl
            try simp only [Act.put, List.setIfInBounds_toArray, List.set_cons_zero, List.set_cons_succ, List.getElem_toArray, List.getElem_cons_zero, List.getElem_cons_succ, Nat.zero_add, List.nil_append]
            refine GoL.on (rs := [0, 6]) (by kernel_rfl) (by decide) ?_
            refine OnL.cons rfl ?_ (OnL.cons rfl ?_ OnL.nil)
            · intro K hK
              replace hK := Lib.hid hK
              go_simp
              have b1 := bV.alloc bV.size (.cells #[] 2)
              refine hK.out _ _ b1 ?_
              clear hK
              try simp only [Act.put, List.setIfInBounds_toArray, List.set_cons_zero, List.set_cons_succ, List.getElem_toArray, List.getElem_cons_zero, List.getElem_cons_succ, Nat.zero_add, List.nil_append]
              refine GoL.on (rs := [4, 6]) (by kernel_rfl) (by decide) ?_
              refine OnL.cons rfl ?_ (OnL.cons rfl ?_ OnL.nil)
              · intro K hK
                replace hK := Lib.hid hK
                refine step_appG rfl (.tmp 64) (.tmp 67) 42 2 i1 _ 1 8 Tryz.underlying42 hi1 hz1 hs1 hb1 rfl (by decide) rfl (OwG.emptyK _ _ U) (hsrc1 _ b1) rfl rfl (by omega) (by omega) ?_
                intro ao1 cap1 ko1 w2 ho1 hf1 hm1
                rw [Nat.zero_add, List.nil_append] at ho1
                try simp only [Nat.zero_add]
                obtain ⟨b2, hk1⟩ := app_newK b1 b1.size (fun k e => by cases e; exact lV) hf1 hm1
                clear hf1 hm1
                refine hK.out _ _ b2 ?_
                clear hK
                try simp only [Act.put, List.setIfInBounds_toArray, List.set_cons_zero, List.set_cons_succ, List.getElem_toArray, List.getElem_cons_zero, List.getElem_cons_succ, Nat.zero_add, List.nil_append]
                refine GoL.on (rs := [6]) (by kernel_rfl) (by decide) ?_
                refine OnL.cons rfl ?_ OnL.nil
                intro K hK
                replace hK := Lib.hid hK
                go_simp
                have b4 := b2.alloc b2.size (.cells (cI64 p) 2)
                refine hK.out _ _ b4 ?_
                clear hK
                try simp only [Act.put, List.setIfInBounds_toArray, List.set_cons_zero, List.set_cons_succ, List.getElem_toArray, List.getElem_cons_zero, List.getElem_cons_succ, Nat.zero_add, List.nil_append]
                refine GoL.on (rs := [7]) (by kernel_rfl) (by decide) ?_
                refine OnL.cons rfl ?_ OnL.nil
                intro K hK
                replace hK := Lib.hid hK
                refine step_appG rfl (.tmp 68) (.tmp 70) 42 2 i1 _ 1 8 Tryz.underlying42 hi1 hz1 hs1 hb1 rfl (by decide) rfl (ho1.alloc _) (SrcG.row (cs := cI64 p) (Blk.new _ _ _) rfl hone) rfl rfl (by omega) (by omega) ?_
                intro ao2 cap2 ko2 w3 ho2 hf2 hm2
                obtain ⟨b5, hk2⟩ := app_newK b4 b4.size hk1 hf2 hm2
                clear hf2 hm2 ho1
                refine hK.out _ _ b5 ?_
                clear hK
                try simp only [Act.put, List.setIfInBounds_toArray, List.set_cons_zero, List.set_cons_succ, List.getElem_toArray, List.getElem_cons_zero, List.getElem_cons_succ, Nat.zero_add, List.nil_append]
                refine GoL.on (rs := [11]) (by kernel_rfl) (by decide) ?_
                refine OnL.cons rfl ?_ OnL.nil
                intro K hK
                replace hK := Lib.hid hK
                refine step_appG rfl (.tmp 71) (.tmp 74) 42 2 i1 _ 1 8 Tryz.underlying42 hi1 hz1 hs1 hb1 rfl (by decide) rfl ho2 (hsrc2 _ b5) rfl rfl (by omega) (by omega) ?_
                intro ao3 cap3 ko3 w4 ho3 hf3 hm3
                obtain ⟨b6, hk3⟩ := app_newK b5 b5.size hk2 hf3 hm3
                have hfin := Lib.hid (fin.out w4 ao3 cap3 ko3 b6 hk3 ho3)
                clear hf3 hm3 ho3 ho2
                refine hK.out _ _ b6 ?_
                clear hK
                try simp only [Act.put, List.setIfInBounds_toArray, List.set_cons_zero, List.set_cons_succ, List.getElem_toArray, List.getElem_cons_zero, List.getElem_cons_succ, Nat.zero_add, List.nil_append]
                refine GoL.take (i := 12) (v := ?_) rfl rfl (by kernel_rfl) (fun _ _ _ h => h) (fun _ _ => Iff.rfl) (by rfl) ?_ ?_
                rotate_left
                · intro wx hwx
                  go_simp
                  try with_reducible rfl
                try simp only [Act.put, List.setIfInBounds_toArray, List.set_cons_zero, List.set_cons_succ, List.getElem_toArray, List.getElem_cons_zero, List.getElem_cons_succ, Nat.zero_add, List.nil_append]
                refine GoL.done (by kernel_rfl) ?_
                refine NoPanic.normal ?_
                clear fin hsrc1 hsrc2 bV
                go_wp2_with fail
                go_roundg (l.length - (i + 1))
                case measure => omega
                case rel =>
                  obtain ⟨P2, e1, e2, e3⟩ := hfin.out
                  exact ⟨i + 1, P2, ko3, cap3, ao3, by omega, by go_num, by rw [e1], e2, e3⟩
              · intro K hK
                replace hK := Lib.hid hK
                go_simp
                have b3 := b1.alloc b1.size (.cells (cI64 p) 2)
                refine hK.out _ _ b3 ?_
                clear hK
                try simp only [Act.put, List.setIfInBounds_toArray, List.set_cons_zero, List.set_cons_succ, List.getElem_toArray, List.getElem_cons_zero, List.getElem_cons_succ, Nat.zero_add, List.nil_append]
                refine GoL.on (rs := [4]) (by kernel_rfl) (by decide) ?_
                refine OnL.cons rfl ?_ OnL.nil
                intro K hK
                replace hK := Lib.hid hK
                refine step_appG rfl (.tmp 64) (.tmp 67) 42 2 i1 _ 1 8 Tryz.underlying42 hi1 hz1 hs1 hb1 rfl (by decide) rfl ((OwG.emptyK _ _ U).alloc _) (hsrc1 _ b3) rfl rfl (by omega) (by omega) ?_
                intro ao1 cap1 ko1 w2 ho1 hf1 hm1
                rw [Nat.zero_add, List.nil_append] at ho1
                try simp only [Nat.zero_add]
                have hrow : Blk w2 (U.heap.size + 1) 2 (cI64 p) := blk_frmK (Blk.new' (by simp)) hf1 (fun e => by have := Option.some.inj e; omega)
                obtain ⟨b4, hk1⟩ := app_newK b3 b3.size (fun k e => by cases e; exact lV) hf1 hm1
                clear hf1 hm1
                refine hK.out _ _ b4 ?_
                clear hK
                try simp only [Act.put, List.setIfInBounds_toArray, List.set_cons_zero, List.set_cons_succ, List.getElem_toArray, List.getElem_cons_zero, List.getElem_cons_succ, Nat.zero_add, List.nil_append]
                refine GoL.on (rs := [7]) (by kernel_rfl) (by decide) ?_
                refine OnL.cons rfl ?_ OnL.nil
                intro K hK
                replace hK := Lib.hid hK
                refine step_appG rfl (.tmp 68) (.tmp 70) 42 2 i1 _ 1 8 Tryz.underlying42 hi1 hz1 hs1 hb1 rfl (by decide) rfl ho1 (SrcG.row (cs := cI64 p) hrow rfl hone) rfl rfl (by omega) (by omega) ?_
                intro ao2 cap2 ko2 w3 ho2 hf2 hm2
                obtain ⟨b5, hk2⟩ := app_newK b4 b4.size hk1 hf2 hm2
                clear hf2 hm2 ho1
                refine hK.out _ _ b5 ?_
                clear hK
                try simp only [Act.put, List.setIfInBounds_toArray, List.set_cons_zero, List.set_cons_succ, List.getElem_toArray, List.getElem_cons_zero, List.getElem_cons_succ, Nat.zero_add, List.nil_append]
                refine GoL.on (rs := [11]) (by kernel_rfl) (by decide) ?_
                refine OnL.cons rfl ?_ OnL.nil
                intro K hK
                replace hK := Lib.hid hK
                refine step_appG rfl (.tmp 71) (.tmp 74) 42 2 i1 _ 1 8 Tryz.underlying42 hi1 hz1 hs1 hb1 rfl (by decide) rfl ho2 (hsrc2 _ b5) rfl rfl (by omega) (by omega) ?_
                intro ao3 cap3 ko3 w4 ho3 hf3 hm3
                obtain ⟨b6, hk3⟩ := app_newK b5 b5.size hk2 hf3 hm3
                have hfin := Lib.hid (fin.out w4 ao3 cap3 ko3 b6 hk3 ho3)
                clear hf3 hm3 ho3 ho2
                refine hK.out _ _ b6 ?_
                clear hK
                try simp only [Act.put, List.setIfInBounds_toArray, List.set_cons_zero, List.set_cons_succ, List.getElem_toArray, List.getElem_cons_zero, List.getElem_cons_succ, Nat.zero_add, List.nil_append]
                refine GoL.take (i := 12) (v := ?_) rfl rfl (by kernel_rfl) (fun _ _ _ h => h) (fun _ _ => Iff.rfl) (by rfl) ?_ ?_
                rotate_left
                · intro wx hwx
                  go_simp
                  try with_reducible rfl
                try simp only [Act.put, List.setIfInBounds_toArray, List.set_cons_zero, List.set_cons_succ, List.getElem_toArray, List.getElem_cons_zero, List.getElem_cons_succ, Nat.zero_add, List.nil_append]
                refine GoL.done (by kernel_rfl) ?_
                refine NoPanic.normal ?_
                clear fin hsrc1 hsrc2 bV
                go_wp2_with fail
                go_roundg (l.length - (i + 1))
                case measure => omega
                case rel =>
                  obtain ⟨P2, e1, e2, e3⟩ := hfin.out
                  exact ⟨i + 1, P2, ko3, cap3, ao3, by omega, by go_num, by rw [e1], e2, e3⟩
            · intro K hK
              replace hK := Lib.hid hK
              go_simp
              have b1 := bV.alloc bV.size (.cells (cI64 p) 2)
              refine hK.out _ _ b1 ?_
              clear hK
              try simp only [Act.put, List.setIfInBounds_toArray, List.set_cons_zero, List.set_cons_succ, List.getElem_toArray, List.getElem_cons_zero, List.getElem_cons_succ, Nat.zero_add, List.nil_append]
              refine GoL.on (rs := [0]) (by kernel_rfl) (by decide) ?_
              refine OnL.cons rfl ?_ OnL.nil
              intro K hK
              replace hK := Lib.hid hK
              go_simp
              have b3 := b1.alloc b1.size (.cells #[] 2)
              refine hK.out _ _ b3 ?_
              clear hK
              try simp only [Act.put, List.setIfInBounds_toArray, List.set_cons_zero, List.set_cons_succ, List.getElem_toArray, List.getElem_cons_zero, List.getElem_cons_succ, Nat.zero_add, List.nil_append]
              refine GoL.on (rs := [4]) (by kernel_rfl) (by decide) ?_
              refine OnL.cons rfl ?_ OnL.nil
              have hE : OwG 2 1 ((U.alloc (.cells (cI64 p) 2)).alloc (.cells #[] 2)) (some (U.heap.size + 1)) (some ⟨U.heap.size + 1, 0, none⟩) 0 0 [] := by have := OwG.emptyK 2 1 (U.alloc (.cells (cI64 p) 2)); rwa [World.size_alloc] at this
              intro K hK
              replace hK := Lib.hid hK
              refine step_appG rfl (.tmp 64) (.tmp 67) 42 2 i1 _ 1 8 Tryz.underlying42 hi1 hz1 hs1 hb1 rfl (by decide) rfl hE (hsrc1 _ b3) rfl rfl (by omega) (by omega) ?_
              intro ao1 cap1 ko1 w2 ho1 hf1 hm1
              rw [Nat.zero_add, List.nil_append] at ho1
              try simp only [Nat.zero_add]
              have hrow : Blk w2 U.heap.size 2 (cI64 p) := blk_frmK ((Blk.new _ _ _).alloc _) hf1 (fun e => by have := Option.some.inj e; omega)
              obtain ⟨b4, hk1⟩ := app_newK b3 b3.size (fun k e => by cases e; omega) hf1 hm1
              clear hf1 hm1
              refine hK.out _ _ b4 ?_
              clear hK
              try simp only [Act.put, List.setIfInBounds_toArray, List.set_cons_zero, List.set_cons_succ, List.getElem_toArray, List.getElem_cons_zero, List.getElem_cons_succ, Nat.zero_add, List.nil_append]
              refine GoL.on (rs := [7]) (by kernel_rfl) (by decide) ?_
              refine OnL.cons rfl ?_ OnL.nil
              intro K hK
              replace hK := Lib.hid hK
              refine step_appG rfl (.tmp 68) (.tmp 70) 42 2 i1 _ 1 8 Tryz.underlying42 hi1 hz1 hs1 hb1 rfl (by decide) rfl ho1 (SrcG.row (cs := cI64 p) hrow rfl hone) rfl rfl (by omega) (by omega) ?_
              intro ao2 cap2 ko2 w3 ho2 hf2 hm2
              obtain ⟨b5, hk2⟩ := app_newK b4 b4.size hk1 hf2 hm2
              clear hf2 hm2 ho1
              refine hK.out _ _ b5 ?_
              clear hK
              try simp only [Act.put, List.setIfInBounds_toArray, List.set_cons_zero, List.set_cons_succ, List.getElem_toArray, List.getElem_cons_zero, List.getElem_cons_succ, Nat.zero_add, List.nil_append]
              refine GoL.on (rs := [11]) (by kernel_rfl) (by decide) ?_
              refine OnL.cons rfl ?_ OnL.nil
              intro K hK
              replace hK := Lib.hid hK
              refine step_appG rfl (.tmp 71) (.tmp 74) 42 2 i1 _ 1 8 Tryz.underlying42 hi1 hz1 hs1 hb1 rfl (by decide) rfl ho2 (hsrc2 _ b5) rfl rfl (by omega) (by omega) ?_
              intro ao3 cap3 ko3 w4 ho3 hf3 hm3
              obtain ⟨b6, hk3⟩ := app_newK b5 b5.size hk2 hf3 hm3
              have hfin := Lib.hid (fin.out w4 ao3 cap3 ko3 b6 hk3 ho3)
              clear hf3 hm3 ho3 ho2
              refine hK.out _ _ b6 ?_
              clear hK
              try simp only [Act.put, List.setIfInBounds_toArray, List.set_cons_zero, List.set_cons_succ, List.getElem_toArray, List.getElem_cons_zero, List.getElem_cons_succ, Nat.zero_add, List.nil_append]
              refine GoL.take (i := 12) (v := ?_) rfl rfl (by kernel_rfl) (fun _ _ _ h => h) (fun _ _ => Iff.rfl) (by rfl) ?_ ?_
              rotate_left
              · intro wx hwx
                go_simp
                try with_reducible rfl
              try simp only [Act.put, List.setIfInBounds_toArray, List.set_cons_zero, List.set_cons_succ, List.getElem_toArray, List.getElem_cons_zero, List.getElem_cons_succ, Nat.zero_add, List.nil_append]
              refine GoL.done (by kernel_rfl) ?_
              refine NoPanic.normal ?_
              clear fin hsrc1 hsrc2 bV
              go_wp2_with fail
              go_roundg (l.length - (i + 1))
              case measure => omega
              case rel =>
                obtain ⟨P2, e1, e2, e3⟩ := hfin.out
                exact ⟨i + 1, P2, ko3, cap3, ao3, by omega, by go_num, by rw [e1], e2, e3⟩
          · have hk2 : (k : Int) < (P.length : Int) := by have := (List.getElem?_eq_some_iff.1 hy).1; omega
            obtain ⟨kb, rfl, rfl, u3, -⟩ := hG.ow.cell _ _ (ics_get hy)
            by_cases h1 : lo ≤ p
            rotate_left
            · have d1 := decide_eq_false h1
              have hO3 := hno fun g => h1 g.1.1
              clear hno hyes h1
              clear hfill hsrc1 hsrc2 hsH hsL bD hone
              go_wp2_with fail
              go_roundg (l.length - (i + 1))
              case measure => omega
              case rel => exact ⟨i + 1, P, _, oc, _, by omega, by go_num, rfl, hO3, hG⟩
            by_cases h2 : p ≤ hi
            rotate_left
            · have d1 := decide_eq_true h1
              have d2 := decide_eq_false h2
              have hO3 := hno fun g => h2 g.1.2
              clear hno hyes h1 h2
              clear hfill hsrc1 hsrc2 hsH hsL bD hone
              go_wp2_with fail
              go_roundg (l.length - (i + 1))
              case measure => omega
              case rel => exact ⟨i + 1, P, _, oc, _, by omega, by go_num, rfl, hO3, hG⟩
            have d1 := decide_eq_true h1
            have d2 := decide_eq_true h2
            by_cases h3 : y = p
            · have d3 : (y != p) = false := by simpa using h3
              have hO3 := hno fun g => g.2 (by rw [hy, h3])
              clear hno hyes h1 h2 h3 hy
              clear hfill hsrc1 hsrc2 hsH hsL bD hone
              go_wp2_with fail
              go_roundg (l.length - (i + 1))
              case measure => omega
              case rel => exact ⟨i + 1, P, _, oc, _, by omega, by go_num, rfl, hO3, hG⟩
            have d3 : (y != p) = true := by simpa using h3
            have fin := hfill ⟨⟨h1, h2⟩, fun g => h3 (by rw [hy] at g; exact Option.some.inj g)⟩
            clear hno hyes h1 h2 h3 hy hfill hG
            go_wp2_with fail
            refine GoL.start (S := fun _ w => Below wr.heap.size wr w) (by kernel_rfl) bD ?_
            generalize wr.drew = U at bD ⊢
            have bV := bD
            clear bD
            have lV := bV.size
            refine GoL.take (i := 1) (v := ?_) rfl rfl (by kernel_rfl) (fun _ _ _ h => h) (fun _ _ => Iff.rfl) (by rfl) ?_ ?_
            rotate_left
            · intro wx hwx
              go_simp
              try with_reducible rfl
            try simp only [Act.put, List.setIfInBounds_toArray, List.set_cons_zero, List.set_cons_succ, List.getElem_toArray, List.getElem_cons_zero, List.getElem_cons_succ, Nat.zero_add, List.nil_append]
            refine GoL.take (i := 2) (v := ?_) rfl rfl (by kernel_rfl) (fun _ _ _ h => h) (fun _ _ => Iff.rfl) (by rfl) ?_ ?_
            rotate_left
            · intro wx hwx
              go_simp
              try with_reducible rfl
            try simp only [Act.put, List.setIfInBounds_toArray, List.set_cons_zero, List.set_cons_succ, List.getElem_toArray, List.getElem_cons_zero, List.getElem_cons_succ, Nat.zero_add, List.nil_append]
            refine GoL.take (i := 3) (v := ?_) rfl rfl (by kernel_rfl) (fun _ _ _ h => h) (fun _ _ => Iff.rfl) (by rfl) ?_ ?_
            rotate_left
            · intro wx hwx
              go_simp
              try with_reducible rfl
            try simp only [Act.put, List.setIfInBounds_toArray, List.set_cons_zero, List.set_cons_succ, List.getElem_toArray, List.getElem_cons_zero, List.getElem_cons_succ, Nat.zero_add, List.nil_append]
            refine GoL.take (i := 5) (v := ?_) rfl rfl (by kernel_rfl) (fun _ _ _ h => h) (fun _ _ => Iff.rfl) (by rfl) ?_ ?_
            rotate_left
            · intro wx hwx
              go_simp
              try with_reducible rfl
            try simp only [Act.put, List.setIfInBounds_toArray, List.set_cons_zero, List.set_cons_succ, List.getElem_toArray, List.getElem_cons_zero, List.getElem_cons_succ, Nat.zero_add, List.nil_append]
            refine GoL.take (i := 8) (v := ?_) rfl rfl (by kernel_rfl) (fun _ _ _ h => h) (fun _ _ => Iff.rfl) (by rfl) ?_ ?_
            rotate_left
            · intro wx hwx
              go_simp
              try with_reducible rfl
            try simp only [Act.put, List.setIfInBounds_toArray, List.set_cons_zero, List.set_cons_succ, List.getElem_toArray, List.getElem_cons_zero, List.getElem_cons_succ, Nat.zero_add, List.nil_append]
            refine GoL.take (i := 9) (v := ?_) rfl rfl (by kernel_rfl) (fun _ _ _ h => h) (fun _ _ => Iff.rfl) (by rfl) ?_ ?_
            rotate_left
            · intro wx hwx
              go_simp
              try with_reducible rfl
            try simp only [Act.put, List.setIfInBounds_toArray, List.set_cons_zero, List.set_cons_succ, List.getElem_toArray, List.getElem_cons_zero, List.getElem_cons_succ, Nat.zero_add, List.nil_append]
            refine GoL.take (i := 10) (v := ?_) rfl rfl (by kernel_rfl) (fun _ _ _ h => h) (fun _ _ => Iff.rfl) (by rfl) ?_ ?_
            rotate_left
            · intro wx hwx
              go_simp
              try with_reducible rfl
            try simp only [Act.put, List.setIfInBounds_toArray, List.set_cons_zero, List.set_cons_succ, List.getElem_toArray, List.getElem_cons_zero, List.getElem_cons_succ, Nat.zero_add, List.nil_append]
            refine GoL.on (rs := [0, 6]) (by kernel_rfl) (by decide) ?_
            refine OnL.cons rfl ?_ (OnL.cons rfl ?_ OnL.nil)
            · intro K hK
              replace hK := Lib.hid hK
              go_simp
              have b1 := bV.alloc bV.size (.cells #[] 2)
              refine hK.out _ _ b1 ?_
              clear hK
              try simp only [Act.put, List.setIfInBounds_toArray, List.set_cons_zero, List.set_cons_succ, List.getElem_toArray, List.getElem_cons_zero, List.getElem_cons_succ, Nat.zero_add, List.nil_append]
              refine GoL.on (rs := [4, 6]) (by kernel_rfl) (by decide) ?_
              refine OnL.cons rfl ?_ (OnL.cons rfl ?_ OnL.nil)
              · intro K hK
                replace hK := Lib.hid hK
                refine step_appG rfl (.tmp 64) (.tmp 67) 42 2 i1 _ 1 8 Tryz.underlying42 hi1 hz1 hs1 hb1 rfl (by decide) rfl (OwG.emptyK _ _ U) (hsrc1 _ b1) rfl rfl (by omega) (by omega) ?_
                intro ao1 cap1 ko1 w2 ho1 hf1 hm1
                rw [Nat.zero_add, List.nil_append] at ho1
                try simp only [Nat.zero_add]
                obtain ⟨b2, hk1⟩ := app_newK b1 b1.size (fun k e => by cases e; exact lV) hf1 hm1
                clear hf1 hm1
                refine hK.out _ _ b2 ?_
                clear hK
                try simp only [Act.put, List.setIfInBounds_toArray, List.set_cons_zero, List.set_cons_succ, List.getElem_toArray, List.getElem_cons_zero, List.getElem_cons_succ, Nat.zero_add, List.nil_append]
                refine GoL.on (rs := [6]) (by kernel_rfl) (by decide) ?_
                refine OnL.cons rfl ?_ OnL.nil
                intro K hK
                replace hK := Lib.hid hK
                go_simp
                have b4 := b2.alloc b2.size (.cells (cI64 p) 2)
                refine hK.out _ _ b4 ?_
                clear hK
                try simp only [Act.put, List.setIfInBounds_toArray, List.set_cons_zero, List.set_cons_succ, List.getElem_toArray, List.getElem_cons_zero, List.getElem_cons_succ, Nat.zero_add, List.nil_append]
                refine GoL.on (rs := [7]) (by kernel_rfl) (by decide) ?_
                refine OnL.cons rfl ?_ OnL.nil
                intro K hK
                replace hK := Lib.hid hK
                refine step_appG rfl (.tmp 68) (.tmp 70) 42 2 i1 _ 1 8 Tryz.underlying42 hi1 hz1 hs1 hb1 rfl (by decide) rfl (ho1.alloc _) (SrcG.row (cs := cI64 p) (Blk.new _ _ _) rfl hone) rfl rfl (by omega) (by omega) ?_
                intro ao2 cap2 ko2 w3 ho2 hf2 hm2
                obtain ⟨b5, hk2⟩ := app_newK b4 b4.size hk1 hf2 hm2
                clear hf2 hm2 ho1
                refine hK.out _ _ b5 ?_
                clear hK
                try simp only [Act.put, List.setIfInBounds_toArray, List.set_cons_zero, List.set_cons_succ, List.getElem_toArray, List.getElem_cons_zero, List.getElem_cons_succ, Nat.zero_add, List.nil_append]
                refine GoL.on (rs := [11]) (by kernel_rfl) (by decide) ?_
                refine OnL.cons rfl ?_ OnL.nil
                intro K hK
                replace hK := Lib.hid hK
                refine step_appG rfl (.tmp 71) (.tmp 74) 42 2 i1 _ 1 8 Tryz.underlying42 hi1 hz1 hs1 hb1 rfl (by decide) rfl ho2 (hsrc2 _ b5) rfl rfl (by omega) (by omega) ?_
                intro ao3 cap3 ko3 w4 ho3 hf3 hm3
                obtain ⟨b6, hk3⟩ := app_newK b5 b5.size hk2 hf3 hm3
                have hfin := Lib.hid (fin.out w4 ao3 cap3 ko3 b6 hk3 ho3)
                clear hf3 hm3 ho3 ho2
                refine hK.out _ _ b6 ?_
                clear hK
                try simp only [Act.put, List.setIfInBounds_toArray, List.set_cons_zero, List.set_cons_succ, List.getElem_toArray, List.getElem_cons_zero, List.getElem_cons_succ, Nat.zero_add, List.nil_append]
                refine GoL.take (i := 12) (v := ?_) rfl rfl (by kernel_rfl) (fun _ _ _ h => h) (fun _ _ => Iff.rfl) (by rfl) ?_ ?_
                rotate_left
                · intro wx hwx
                  go_simp
                  try with_reducible rfl
                try simp only [Act.put, List.setIfInBounds_toArray, List.set_cons_zero, List.set_cons_succ, List.getElem_toArray, List.getElem_cons_zero, List.getElem_cons_succ, Nat.zero_add, List.nil_append]
                refine GoL.done (by kernel_rfl) ?_
                refine NoPanic.normal ?_
                clear fin hsrc1 hsrc2 bV
                go_wp2_with fail
                go_roundg (l.length - (i + 1))
                case measure => omega
                case rel =>
                  obtain ⟨P2, e1, e2, e3⟩ := hfin.out
                  exact ⟨i + 1, P2, ko3, cap3, ao3, by omega, by go_num, by rw [e1], e2, e3⟩
              · intro K hK
                replace hK := Lib.hid hK
                go_simp
                have b3 := b1.alloc b1.size (.cells (cI64 p) 2)
                refine hK.out _ _ b3 ?_
                clear hK
                try simp only [Act.put, List.setIfInBounds_toArray, List.set_cons_zero, List.set_cons_succ, List.getElem_toArray, List.getElem_cons_zero, List.getElem_cons_succ, Nat.zero_add, List.nil_append]
                refine GoL.on (rs := [4]) (by kernel_rfl) (by decide) ?_
                refine OnL.cons rfl ?_ OnL.nil
                intro K hK
                replace hK := Lib.hid hK
                refine step_appG rfl (.tmp 64) (.tmp 67) 42 2 i1 _ 1 8 Tryz.underlying42 hi1 hz1 hs1 hb1 rfl (by decide) rfl ((OwG.emptyK _ _ U).alloc _) (hsrc1 _ b3) rfl rfl (by omega) (by omega) ?_
                intro ao1 cap1 ko1 w2 ho1 hf1 hm1
                rw [Nat.zero_add, List.nil_append] at ho1
                try simp only [Nat.zero_add]
                have hrow : Blk w2 (U.heap.size + 1) 2 (cI64 p) := blk_frmK (Blk.new' (by simp)) hf1 (fun e => by have := Option.some.inj e; omega)
                obtain ⟨b4, hk1⟩ := app_newK b3 b3.size (fun k e => by cases e; exact lV) hf1 hm1
                clear hf1 hm1
                refine hK.out _ _ b4 ?_
                clear hK
                try simp only [Act.put, List.setIfInBounds_toArray, List.set_cons_zero, List.set_cons_succ, List.getElem_toArray, List.getElem_cons_zero, List.getElem_cons_succ, Nat.zero_add, List.nil_append]
                refine GoL.on (rs := [7]) (by kernel_rfl) (by decide) ?_
                refine OnL.cons rfl ?_ OnL.nil
                intro K hK
                replace hK := Lib.hid hK
                refine step_appG rfl (.tmp 68) (.tmp 70) 42 2 i1 _ 1 8 Tryz.underlying42 hi1 hz1 hs1 hb1 rfl (by decide) rfl ho1 (SrcG.row (cs := cI64 p) hrow rfl hone) rfl rfl (by omega) (by omega) ?_
                intro ao2 cap2 ko2 w3 ho2 hf2 hm2
                obtain ⟨b5, hk2⟩ := app_newK b4 b4.size hk1 hf2 hm2
                clear hf2 hm2 ho1
                refine hK.out _ _ b5 ?_
                clear hK
                try simp only [Act.put, List.setIfInBounds_toArray, List.set_cons_zero, List.set_cons_succ, List.getElem_toArray, List.getElem_cons_zero, List.getElem_cons_succ, Nat.zero_add, List.nil_append]
                refine GoL.on (rs := [11]) (by kernel_rfl) (by decide) ?_
                refine OnL.cons rfl ?_ OnL.nil
                intro K hK
                replace hK := Lib.hid hK
                refine step_appG rfl (.tmp 71) (.tmp 74) 42 2 i1 _ 1 8 Tryz.underlying42 hi1 hz1 hs1 hb1 rfl (by decide) rfl ho2 (hsrc2 _ b5) rfl rfl (by omega) (by omega) ?_
                intro ao3 cap3 ko3 w4 ho3 hf3 hm3
                obtain ⟨b6, hk3⟩ := app_newK b5 b5.size hk2 hf3 hm3
                have hfin := Lib.hid (fin.out w4 ao3 cap3 ko3 b6 hk3 ho3)
                clear hf3 hm3 ho3 ho2
                refine hK.out _ _ b6 ?_
                clear hK
                try simp only [Act.put, List.setIfInBounds_toArray, List.set_cons_zero, List.set_cons_succ, List.getElem_toArray, List.getElem_cons_zero, List.getElem_cons_succ, Nat.zero_add, List.nil_append]
                refine GoL.take (i := 12) (v := ?_) rfl rfl (by kernel_rfl) (fun _ _ _ h => h) (fun _ _ => Iff.rfl) (by rfl) ?_ ?_
                rotate_left
                · intro wx hwx
                  go_simp
                  try with_reducible rfl
                try simp only [Act.put, List.setIfInBounds_toArray, List.set_cons_zero, List.set_cons_succ, List.getElem_toArray, List.getElem_cons_zero, List.getElem_cons_succ, Nat.zero_add, List.nil_append]
                refine GoL.done (by kernel_rfl) ?_
                refine NoPanic.normal ?_
                clear fin hsrc1 hsrc2 bV
                go_wp2_with fail
                go_roundg (l.length - (i + 1))
                case measure => omega
                case rel =>
                  obtain ⟨P2, e1, e2, e3⟩ := hfin.out
                  exact ⟨i + 1, P2, ko3, cap3, ao3, by omega, by go_num, by rw [e1], e2, e3⟩
            · intro K hK
              replace hK := Lib.hid hK
              go_simp
              have b1 := bV.alloc bV.size (.cells (cI64 p) 2)
              refine hK.out _ _ b1 ?_
              clear hK
              try simp only [Act.put, List.setIfInBounds_toArray, List.set_cons_zero, List.set_cons_succ, List.getElem_toArray, List.getElem_cons_zero, List.getElem_cons_succ, Nat.zero_add, List.nil_append]
              refine GoL.on (rs := [0]) (by kernel_rfl) (by decide) ?_
              refine OnL.cons rfl ?_ OnL.nil
              intro K hK
              replace hK := Lib.hid hK
              go_simp
              have b3 := b1.alloc b1.size (.cells #[] 2)
              refine hK.out _ _ b3 ?_
              clear hK
              try simp only [Act.put, List.setIfInBounds_toArray, List.set_cons_zero, List.set_cons_succ, List.getElem_toArray, List.getElem_cons_zero, List.getElem_cons_succ, Nat.zero_add, List.nil_append]
              refine GoL.on (rs := [4]) (by kernel_rfl) (by decide) ?_
              refine OnL.cons rfl ?_ OnL.nil
              have hE : OwG 2 1 ((U.alloc (.cells (cI64 p) 2)).alloc (.cells #[] 2)) (some (U.heap.size + 1)) (some ⟨U.heap.size + 1, 0, none⟩) 0 0 [] := by have := OwG.emptyK 2 1 (U.alloc (.cells (cI64 p) 2)); rwa [World.size_alloc] at this
              intro K hK
              replace hK := Lib.hid hK
              refine step_appG rfl (.tmp 64) (.tmp 67) 42 2 i1 _ 1 8 Tryz.underlying42 hi1 hz1 hs1 hb1 rfl (by decide) rfl hE (hsrc1 _ b3) rfl rfl (by omega) (by omega) ?_
              intro ao1 cap1 ko1 w2 ho1 hf1 hm1
              rw [Nat.zero_add, List.nil_append] at ho1
              try simp only [Nat.zero_add]
              have hrow : Blk w2 U.heap.size 2 (cI64 p) := blk_frmK ((Blk.new _ _ _).alloc _) hf1 (fun e => by have := Option.some.inj e; omega)
              obtain ⟨b4, hk1⟩ := app_newK b3 b3.size (fun k e => by cases e; omega) hf1 hm1
              clear hf1 hm1
              refine hK.out _ _ b4 ?_
              clear hK
              try simp only [Act.put, List.setIfInBounds_toArray, List.set_cons_zero, List.set_cons_succ, List.getElem_toArray, List.getElem_cons_zero, List.getElem_cons_succ, Nat.zero_add, List.nil_append]
              refine GoL.on (rs := [7]) (by kernel_rfl) (by decide) ?_
              refine OnL.cons rfl ?_ OnL.nil
              intro K hK
              replace hK := Lib.hid hK
              refine step_appG rfl (.tmp 68) (.tmp 70) 42 2 i1 _ 1 8 Tryz.underlying42 hi1 hz1 hs1 hb1 rfl (by decide) rfl ho1 (SrcG.row (cs := cI64 p) hrow rfl hone) rfl rfl (by omega) (by omega) ?_
              intro ao2 cap2 ko2 w3 ho2 hf2 hm2
              obtain ⟨b5, hk2⟩ := app_newK b4 b4.size hk1 hf2 hm2
              clear hf2 hm2 ho1
              refine hK.out _ _ b5 ?_
              clear hK
              try simp only [Act.put, List.setIfInBounds_toArray, List.set_cons_zero, List.set_cons_succ, List.getElem_toArray, List.getElem_cons_zero, List.getElem_cons_succ, Nat.zero_add, List.nil_append]
              refine GoL.on (rs := [11]) (by kernel_rfl) (by decide) ?_
              refine OnL.cons rfl ?_ OnL.nil
              intro K hK
              replace hK := Lib.hid hK
              refine step_appG rfl (.tmp 71) (.tmp 74) 42 2 i1 _ 1 8 Tryz.underlying42 hi1 hz1 hs1 hb1 rfl (by decide) rfl ho2 (hsrc2 _ b5) rfl rfl (by omega) (by omega) ?_
              intro ao3 cap3 ko3 w4 ho3 hf3 hm3
              obtain ⟨b6, hk3⟩ := app_newK b5 b5.size hk2 hf3 hm3
              have hfin := Lib.hid (fin.out w4 ao3 cap3 ko3 b6 hk3 ho3)
              clear hf3 hm3 ho3 ho2
              refine hK.out _ _ b6 ?_
              clear hK
              try simp only [Act.put, List.setIfInBounds_toArray, List.set_cons_zero, List.set_cons_succ, List.getElem_toArray, List.getElem_cons_zero, List.getElem_cons_succ, Nat.zero_add, List.nil_append]
              refine GoL.take (i := 12) (v := ?_) rfl rfl (by kernel_rfl) (fun _ _ _ h => h) (fun _ _ => Iff.rfl) (by rfl) ?_ ?_
              rotate_left
              · intro wx hwx
                go_simp
                try with_reducible rfl
              try simp only [Act.put, List.setIfInBounds_toArray, List.set_cons_zero, List.set_cons_succ, List.getElem_toArray, List.getElem_cons_zero, List.getElem_cons_succ, Nat.zero_add, List.nil_append]
              refine GoL.done (by kernel_rfl) ?_
              refine NoPanic.normal ?_
              clear fin hsrc1 hsrc2 bV
              go_wp2_with fail
              go_roundg (l.length - (i + 1))
              case measure => omega
              case rel =>
                obtain ⟨P2, e1, e2, e3⟩ := hfin.out
                exact ⟨i + 1, P2, ko3, cap3, ao3, by omega, by go_num, by rw [e1], e2, e3⟩
    · obtain rfl : i = l.length := by omega
      have c0 := hrl
      clear hR
      have hO : Hid (P = cpr lo hi l) := hO
      go_wp2_with fail
      go_ret
      exact ⟨ko, oc, oo, by rw [hO.out.symm]; rfl, by rw [hO.out.symm]; exact hG⟩
end
end Go.Proofs.YtohenmnpmgghhaaGreatDoor
