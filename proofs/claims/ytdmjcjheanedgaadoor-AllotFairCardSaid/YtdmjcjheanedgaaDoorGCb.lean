/-
  The document's At of a book's demand and supply.
  The document's prices of a book. (Written by gen/p_rcb.py.)
-/
import Derived.Test.YtdmjcjheanedgaaDoorGCa
import Derived.Test.YtdmjcjheanedgaaDoorGJ
import Derived.Test.YtdmjcjheanedgaaDoorGC
import Derived.Test.YtdmjcjheanedgaaDoorGB
namespace Go.Proofs.YtdmjcjheanedgaaDoor
open Go.RowKit
set_option linter.unusedSimpArgs false
section
variable {W : World} {r : Nat} {S : Nat → Prop} {b : Bk}
theorem pnt_lay {w : World} {b : Nat} {T : TypeId} {u0 u1 u2 : Value} (h : Blk w b T #[u0, u1, u2]) (v0 v1 v2 : Value) : Blk (((w.setCell ⟨b, 0, none⟩ v0).setCell ⟨b, 1, none⟩ v1).setCell ⟨b, 2, none⟩ v2) b T #[v0, v1, v2] := by
  have h0 : Blk _ b T #[v0, u1, u2] := h.set 0 v0
  have h1 : Blk _ b T #[v0, v1, u2] := h0.set 1 v1
  exact h1.set 2 v2
set_option maxRecDepth 8000 in
set_option maxHeartbeats 4000000 in
theorem rat_any (pr : Int) (hok : b.Ok) (h : RK W r S b) : Calls Tryd.prog 15 #[.pointer (some ⟨r, 0, none⟩), .int .i64 pr] W fun e w' => e = .returned (vPnt (catL b.L pr)) ∧ Below W.heap.size W w' := by
  obtain ⟨ko, ao, cap, h⟩ := h
  have hC := fun w (hb : Below W.heap.size W w) => (h.below hb).c2
  have hRw := fun w (hb : Below W.heap.size W w) => (h.below hb).rows
  clear h
  obtain ⟨W1, hW1⟩ : ∃ W1, W1 = (W.alloc (.cells #[.int .i64 0, .int .i64 0, .int .i64 0] 39)).alloc (.cells #[.int .i64 pr, .int .i64 0, .int .i64 0] 39) := ⟨_, rfl⟩
  have m1 : Mem W [(W.heap.size + 1, 39, #[.int .i64 pr, .int .i64 0, .int .i64 0]), (W.heap.size, 39, #[.int .i64 0, .int .i64 0, .int .i64 0])] W1 := by
    rw [hW1]
    exact ((Mem.start W).new _ _).new' _ _ (by simp)
  have hb1 := m1.below
  have hP := m1.blk (W.heap.size + 1) 39 #[.int .i64 pr, .int .i64 0, .int .i64 0] (by simp)
  have hR := m1.blk W.heap.size 39 #[.int .i64 0, .int .i64 0, .int .i64 0] (by simp)
  clear m1
  have tD := sum_take hok (demS_bound hok pr)
  have tS := sum_take hok (supS_bound hok pr)
  have hside := fun x (hx : x ∈ b.L) => (hok.ok x hx).side
  have hlen : b.L.length ≤ 500 := by
    have := hok.len
    have := hok.s2
    omega
  have hall : Hid (sumO (demS pr) (b.L.take b.L.length) = sumO (demS pr) b.L ∧ sumO (supS pr) (b.L.take b.L.length) = sumO (supS pr) b.L) := Lib.hid (by rw [List.take_length]; exact ⟨rfl, rfl⟩)
  clear hok
  unfold catL
  generalize b.L = l at *
  obtain ⟨n, hn⟩ : ∃ n, n = l.length := ⟨_, rfl⟩
  rw [← hn] at hall hlen
  simp only [← hn] at hC
  replace hn := Lib.hid hn
  have c0 := hC _ hb1
  go_enter Tryd.func15, Tryd.ntmps15
  go_wp2_with (first | (rw [← hW1]; clear hW1) | fail)
  go_loopg [6] n (fun j p6 wr => ∃ (q : Nat) (d s : Int), q + j = n ∧ p6 = .int .i64 (q : Int) ∧ Hid (d = sumO (demS pr) (l.take q) ∧ s = sumO (supS pr) (l.take q)) ∧ Blk wr (W.heap.size + 1) 39 #[.int .i64 pr, .int .i64 d, .int .i64 s] ∧ Blk wr W.heap.size 39 #[.int .i64 0, .int .i64 0, .int .i64 0] ∧ Below W.heap.size W wr)
  case atStart => exact ⟨0, 0, 0, by omega, rfl, Lib.hid ⟨rfl, rfl⟩, hP, hR, hb1⟩
  case round =>
    clear hP hR hb1 c0
    obtain ⟨q, d, s, hqj, rfl, hds, hP, hR, hb⟩ := hrel
    have c0 := hC _ hb
    by_cases hqn : q < n
    · obtain ⟨x, hx⟩ : ∃ x, l[q]? = some x := ⟨_, List.getElem?_eq_getElem (by rw [← hn.out]; exact hqn)⟩
      have hsd := hside x (List.mem_of_getElem? hx)
      obtain ⟨bx, offx, rfl, y0, y1, y2, y3, y4, y5, y6⟩ := (hRw _ hb).get hx
      replace y0 : wr.cell? ⟨bx, offx + q * 7, none⟩ = some (.int .i64 x.id) := y0
      have e1 := sumO_at (f := demS pr) hx
      have e2 := sumO_at (f := supS pr) hx
      rw [← hds.out.1] at e1
      rw [← hds.out.2] at e2
      have t1 := tD (q + 1)
      have t2 := tS (q + 1)
      rw [e1] at t1
      rw [e2] at t2
      obtain ⟨V, hV⟩ : ∃ V, V = wr.alloc (.cells (cOrd x) 44) := ⟨_, rfl⟩
      have hbV : Below wr.heap.size wr V := by rw [hV]; exact (Below.refl _ _).alloc (Nat.le_refl _) _
      have hPV := hP.below hbV hP.lt
      have hRV := hR.below hbV hR.lt
      have hbW : Below W.heap.size W V := hb.trans (hbV.mono hb.size)
      obtain ⟨z0, z1, z2, z3, z4, z5, z6⟩ := Ord.cells (show Blk V wr.heap.size 44 (cOrd x) by rw [hV]; exact Blk.new _ _ _)
      have p1 := hPV.cell_eq 1 _ rfl
      have p2 := hPV.cell_eq 2 _ rfl
      have hfr := hPV.free
      have hql : (q : Int) < (n : Int) := by omega
      have key : ((x.side == 0) = true ∧ (x.side == 1) = false ∧ ((decide (pr ≤ x.price) = true ∧ demS pr x = x.qty ∧ supS pr x = 0) ∨ (decide (pr ≤ x.price) = false ∧ demS pr x = 0 ∧ supS pr x = 0))) ∨
          ((x.side == 0) = false ∧ (x.side == 1) = true ∧ ((decide (x.price ≤ pr) = true ∧ demS pr x = 0 ∧ supS pr x = x.qty) ∨ (decide (x.price ≤ pr) = false ∧ demS pr x = 0 ∧ supS pr x = 0))) := by
        unfold demS supS
        rcases hsd with e | e
        · refine .inl ⟨by rw [e]; rfl, by rw [e]; rfl, ?_⟩
          by_cases g : pr ≤ x.price
          · exact .inl ⟨decide_eq_true g, if_pos ⟨e, g⟩, if_neg (by omega)⟩
          · exact .inr ⟨decide_eq_false g, if_neg (by omega), if_neg (by omega)⟩
        · refine .inr ⟨by rw [e]; rfl, by rw [e]; rfl, ?_⟩
          by_cases g : x.price ≤ pr
          · exact .inl ⟨decide_eq_true g, if_neg (by omega), if_pos ⟨e, g⟩⟩
          · exact .inr ⟨decide_eq_false g, if_neg (by omega), if_neg (by omega)⟩
      have hend : ∀ V' d' s', Blk V' (W.heap.size + 1) 39 #[.int .i64 pr, .int .i64 d', .int .i64 s'] → Blk V' W.heap.size 39 #[.int .i64 0, .int .i64 0, .int .i64 0] → Below W.heap.size W V' → d' = d + demS pr x → s' = s + supS pr x →
          ∃ (q' : Nat) (d s : Int), q' + (n - (q + 1)) = n ∧ Value.int .i64 ((q : Int) + 1) = .int .i64 (q' : Int) ∧ Hid (d = sumO (demS pr) (l.take q') ∧ s = sumO (supS pr) (l.take q')) ∧ Blk V' (W.heap.size + 1) 39 #[.int .i64 pr, .int .i64 d, .int .i64 s] ∧ Blk V' W.heap.size 39 #[.int .i64 0, .int .i64 0, .int .i64 0] ∧ Below W.heap.size W V' := by
        rintro V' d' s' h1 h2 h3 rfl rfl
        exact ⟨q + 1, _, _, by omega, by simp, Lib.hid ⟨e1.symm, e2.symm⟩, h1, h2, h3⟩
      have hset : ∀ (j : Nat) (v : Value), (j = 1 ∨ j = 2) → Blk (V.setCell ⟨W.heap.size + 1, j, none⟩ v) W.heap.size 39 #[.int .i64 0, .int .i64 0, .int .i64 0] ∧ Below W.heap.size W (V.setCell ⟨W.heap.size + 1, j, none⟩ v) := fun j v _ => ⟨hRV.other (by show W.heap.size + 1 ≠ W.heap.size; omega) _, hbW.setCell (p := ⟨W.heap.size + 1, j, none⟩) (by simp) _⟩
      have hd1 : ∀ v, Blk (V.setCell ⟨W.heap.size + 1, 1, none⟩ (.int .i64 v)) (W.heap.size + 1) 39 #[.int .i64 pr, .int .i64 v, .int .i64 s] := fun v => hPV.set 1 _
      have hd2 : ∀ v, Blk (V.setCell ⟨W.heap.size + 1, 2, none⟩ (.int .i64 v)) (W.heap.size + 1) 39 #[.int .i64 pr, .int .i64 d, .int .i64 v] := fun v => hPV.set 2 _
      replace hend := Lib.hid hend
      replace hset := Lib.hid hset
      clear hP hR hx hsd e1 e2 hds hRw hC tD tS hside hall hb hbV
      obtain ⟨xi, xo, xs, xp, xq, xf, xe⟩ := x
      simp only at y0 y1 y2 y3 y4 y5 y6 z0 z1 z2 z3 z4 z5 z6
      simp only at key
      simp only [cOrd] at hV
      rcases key with ⟨d1, d2, ⟨d3, k1, k2⟩ | ⟨d3, k1, k2⟩⟩ | ⟨d1, d2, ⟨d3, k1, k2⟩ | ⟨d3, k1, k2⟩⟩
      all_goals
        rw [k1] at t1
        rw [k2] at t2
        replace k1 := Lib.hid k1
        replace k2 := Lib.hid k2
        go_wp2_with (first | (rw [← hV]; clear hV) | fail)
        go_roundg (n - (q + 1))
        case measure => omega
        case rel =>
          first
            | exact hend.out _ _ _ (hd1 _) (hset.out 1 _ (.inl rfl)).1 (hset.out 1 _ (.inl rfl)).2 (by rw [k1.out]) (by rw [k2.out]; omega)
            | exact hend.out _ _ _ (hd2 _) (hset.out 2 _ (.inr rfl)).1 (hset.out 2 _ (.inr rfl)).2 (by rw [k1.out]; omega) (by rw [k2.out])
            | exact hend.out _ _ _ hPV hRV hbW (by rw [k1.out]; omega) (by rw [k2.out]; omega)
            | fail
    · have e : q = n := by omega
      subst e
      have hqn : ¬ (q : Int) < (q : Int) := by omega
      have hd : d = sumO (demS pr) l ∧ s = sumO (supS pr) l := by rw [← hall.out.1, ← hall.out.2]; exact hds.out
      obtain ⟨p0, p1, p2⟩ := (⟨hP.cell_eq 0 _ rfl, hP.cell_eq 1 _ rfl, hP.cell_eq 2 _ rfl⟩ : _ ∧ _ ∧ _)
      have hfr := hR.free
      obtain ⟨r0, r1, r2⟩ := (⟨hR.cell_eq 0 _ rfl, hR.cell_eq 1 _ rfl, hR.cell_eq 2 _ rfl⟩ : _ ∧ _ ∧ _)
      have hlay := pnt_lay hR (.int .i64 pr) (.int .i64 d) (.int .i64 s)
      obtain ⟨g0, g1, g2⟩ := (⟨hlay.cell_eq 0 _ rfl, hlay.cell_eq 1 _ rfl, hlay.cell_eq 2 _ rfl⟩ : _ ∧ _ ∧ _)
      have hfin := Lib.hid (((hb.setCell (p := ⟨W.heap.size, 0, none⟩) (Nat.le_refl _) (.int .i64 pr)).setCell (p := ⟨W.heap.size, 1, none⟩) (Nat.le_refl _) (.int .i64 d)).setCell (p := ⟨W.heap.size, 2, none⟩) (Nat.le_refl _) (.int .i64 s))
      replace hd := Lib.hid hd
      clear hP hR hlay hb hRw hC tD tS hside hall hds
      go_wp2_with fail
      refine bodyPost_ret (v := .agg #[.int .i64 pr, .int .i64 d, .int .i64 s]) ?_ rfl ?_
      rotate_left
      · exact ⟨by rw [← hd.out.1, ← hd.out.2], hfin.out⟩
      simp [results, Tryd.results15, go_sem, g0, g1, g2]
end
end Go.Proofs.YtdmjcjheanedgaaDoor
namespace Go.Proofs.YtdmjcjheanedgaaDoor
open Go.RowKit
set_option linter.unusedSimpArgs false
abbrev cI64 (z : Int) : Array Value := #[.int .i64 z]
abbrev ics (q : List Int) : List Value := q.flatMap fun z => (cI64 z).toList
section
variable {w w' W : World} {r : Nat} {S T : Nat → Prop} {ko : Option Nat} {ao : Option Addr} {cap : Nat}
end
end Go.Proofs.YtdmjcjheanedgaaDoor
