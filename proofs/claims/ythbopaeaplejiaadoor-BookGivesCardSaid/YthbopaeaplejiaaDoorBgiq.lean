/-
  BookGives. (Written by gen/p_bgi.py.)
-/
import Derived.Test.YthbopaeaplejiaaDoorBgqq
import Derived.Test.YthbopaeaplejiaaDoorGb
import Derived.Test.YthbopaeaplejiaaDoorGC
namespace Go.Proofs.YthbopaeaplejiaaDoor
open Go.RowKit
set_option linter.unusedSimpArgs false
/-- The round's end: the box of what came out, the box of the front one, the box of the last one. -/
structure OB (W : World) (lb ob xb g k : Nat) (b : Bk) (o z : Ord) (w : World) : Prop where
  pg : Pg W [(xb, o), (ob, o), (lb, z)] g k b w
theorem OB.of {W w : World} {lb ob xb g k : Nat} {b : Bk} {o z : Ord} (h : Pg W [(xb, o), (ob, o), (lb, z)] g k b w) : OB W lb ob xb g k b o z w := ⟨h⟩
theorem OB.all {W w : World} {lb ob xb g k : Nat} {b : Bk} {o z : Ord} (h : OB W lb ob xb g k b o z w) :
    (w.cell? ⟨ob, 0, none⟩ = some (.int .i64 o.id) ∧ w.cell? ⟨ob, 1, none⟩ = some (.int .i64 o.owner) ∧ w.cell? ⟨ob, 2, none⟩ = some (.int .i64 o.side) ∧ w.cell? ⟨ob, 3, none⟩ = some (.int .i64 o.price) ∧ w.cell? ⟨ob, 4, none⟩ = some (.int .i64 o.qty) ∧ w.cell? ⟨ob, 5, none⟩ = some (.int .i64 o.flags) ∧ w.cell? ⟨ob, 6, none⟩ = some (.int .i64 o.seq)) ∧
    (w.cell? ⟨xb, 0, none⟩ = some (.int .i64 o.id) ∧ w.cell? ⟨xb, 1, none⟩ = some (.int .i64 o.owner) ∧ w.cell? ⟨xb, 2, none⟩ = some (.int .i64 o.side) ∧ w.cell? ⟨xb, 3, none⟩ = some (.int .i64 o.price) ∧ w.cell? ⟨xb, 4, none⟩ = some (.int .i64 o.qty) ∧ w.cell? ⟨xb, 5, none⟩ = some (.int .i64 o.flags) ∧ w.cell? ⟨xb, 6, none⟩ = some (.int .i64 o.seq)) ∧
    (w.cell? ⟨lb, 0, none⟩ = some (.int .i64 z.id) ∧ w.cell? ⟨lb, 1, none⟩ = some (.int .i64 z.owner) ∧ w.cell? ⟨lb, 2, none⟩ = some (.int .i64 z.side) ∧ w.cell? ⟨lb, 3, none⟩ = some (.int .i64 z.price) ∧ w.cell? ⟨lb, 4, none⟩ = some (.int .i64 z.qty) ∧ w.cell? ⟨lb, 5, none⟩ = some (.int .i64 z.flags) ∧ w.cell? ⟨lb, 6, none⟩ = some (.int .i64 z.seq)) ∧ (∀ i, w.frozen? ⟨lb, i, none⟩ = false) ∧
    ∃ V2, V2 = (((((((w.setCell ⟨lb, 0, none⟩ (.int .i64 o.id)).setCell ⟨lb, 1, none⟩ (.int .i64 o.owner)).setCell ⟨lb, 2, none⟩ (.int .i64 o.side)).setCell ⟨lb, 3, none⟩ (.int .i64 o.price)).setCell ⟨lb, 4, none⟩ (.int .i64 o.qty)).setCell ⟨lb, 5, none⟩ (.int .i64 o.flags)).setCell ⟨lb, 6, none⟩ (.int .i64 o.seq)) ∧ Pg W [(lb, o)] g k b V2 := by
  have h1 := h.pg.sub (bs' := [(lb, z)]) (by simp)
  obtain ⟨z1, z2, z3⟩ := h1.set o
  exact ⟨Ord.cells (h.pg.box (ob, o) (by simp)).1, Ord.cells (h.pg.box (xb, o) (by simp)).1, z1, z2, z3⟩
set_option maxRecDepth 100000 in
set_option maxHeartbeats 16000000 in
theorem bgives_any (ao : Option Addr) (cap : Nat) (l : List Ord) (W : World) (hG : Gl W) (hL : Ords W ao cap l) (hF : ∀ m ∈ l, m.Fit) :
    Calls Tryd.prog 4 #[.slice ao l.length cap] W fun e w' => e = .returned (.bool true) ∧ Below W.heap.size W w' := by
  have hl1 := hL.len
  have hl2 := hL.top
  unfold maxLen at hl2
  have c1 := Pz.new 60 60 (by omega) (by omega) (by omega) (by omega) W hG
  have cA := fun w (h : Gl w) => alive_any w h
  have hv0 := Lib.hid (Gv.start l)
  have h0L : (Bk.new 60 60).L.length = 0 := rfl
  generalize Bk.new 60 60 = b0 at *
  by_cases h60 : 60 < l.length
  · have d60 : decide ((60 : Int) < (l.length : Int)) = true := decide_eq_true (by omega)
    clear hv0 h0L
    go_enter Tryd.func4, Tryd.ntmps4
    go_wp2_with (first
      | (go_at_call 9; refine c1.mono ?_; rintro e w1 ⟨g, rfl, k0⟩; clear c1)
      | (go_at_call 6; refine (cA _ (hG.below k0.bel)).mono ?_; rintro e w2 ⟨rfl, hb2⟩; clear cA)
      | fail)
    go_ret
    exact ⟨rfl, k0.bel.trans (hb2.mono k0.bel.size)⟩
  have hl60 : l.length ≤ 60 := by omega
  have d60 : decide ((60 : Int) < (l.length : Int)) = false := decide_eq_false (by omega)
  clear h60
  go_enter Tryd.func4, Tryd.ntmps4
  go_wp2_with (first
    | (go_at_call 9; refine c1.mono ?_; rintro e w1 ⟨g, rfl, k0⟩; clear c1)
    | fail)
  go_loopg [5, 6] l.length (fun j p5 p6 wr => ∃ (i m : Nat) (b : Bk), i + j = l.length ∧ p6 = .int .i64 (i : Int) ∧ p5 = .int .i64 (m : Int) ∧ Pz W g i b wr ∧ Hid (Gv l i b) ∧ Hid (b.L.length = m) ∧ m ≤ 60)
  case atStart => exact ⟨0, 0, b0, by omega, rfl, rfl, k0, hv0, Lib.hid h0L, by omega⟩
  case round =>
    clear k0 hv0 h0L d60
    obtain ⟨i, m, b, hij, rfl, rfl, k, hv, hm, hm60⟩ := hrel
    by_cases hi : i < l.length
    · obtain ⟨o, ho⟩ : ∃ o, l[i]? = some o := ⟨_, List.getElem?_eq_getElem hi⟩
      have hfit := hF o (List.mem_of_getElem? ho)
      obtain ⟨bk, off, rfl, y0, y1, y2, y3, y4, y5, y6⟩ := (hL.below k.bel).get ho
      replace y0 : wr.cell? ⟨bk, off + i * 7, none⟩ = some (.int .i64 o.id) := y0
      obtain ⟨hv2, hm2⟩ := hv.out.step (by omega) ho hfit
      rw [hm.out] at hm2
      have hv3 := hv2.len
      replace hv2 := Lib.hid hv2
      have cX := k.add (by omega) hfit
      have hil : (i : Int) < (l.length : Int) := by omega
      generalize b.addF o = f at *
      generalize b.add o = b2 at *
      obtain ⟨o0, o1, o2, o3, o4, o5, o6⟩ := o
      simp only at y0 y1 y2 y3 y4 y5 y6
      simp only [vOrd] at cX
      clear ho hfit hv hm k hL hF
      by_cases hf : f = 0
      · rw [if_pos hf] at hm2
        subst hf
        have hm3 : m + 1 ≤ 60 := by omega
        replace hm2 := Lib.hid hm2
        clear hv3
        go_wp2_with (first
          | (go_at_call 13; refine cX.mono ?_; rintro e w6 ⟨rfl, k6⟩; clear cX y0 y1 y2 y3 y4 y5 y6)
          | fail)
        go_roundg (l.length - (i + 1))
        case measure => omega
        case rel => exact ⟨i + 1, m + 1, b2, by omega, by go_num, by go_num, k6, hv2, hm2, hm3⟩
      · rw [if_neg hf] at hm2
        have d : (f == 0) = false := by simpa using hf
        replace hm2 := Lib.hid hm2
        clear hf hv3
        go_wp2_with (first
          | (go_at_call 13; refine cX.mono ?_; rintro e w6 ⟨rfl, k6⟩; clear cX y0 y1 y2 y3 y4 y5 y6)
          | fail)
        go_roundg (l.length - (i + 1))
        case measure => omega
        case rel => exact ⟨i + 1, m, b2, by omega, by go_num, rfl, k6, hv2, hm2, hm60⟩
    · obtain rfl : i = l.length := by omega
      have cLn := k.len
      rw [hm.out] at cLn
      have hg := Lib.hid (Go1.start hv.out hm.out)
      have hkm : l.length + m ≤ 120 := by omega
      clear hv hm k hi hij hF
      go_wp2_with (first
        | (go_at_call 14; refine cLn.mono ?_; rintro e w1 ⟨rfl, k⟩; clear cLn)
        | fail)
      go_loopg [5, 7] 2 (fun j p5 p7 wr => ∃ (s m k : Nat) (b : Bk), s + j = 2 ∧ p7 = .int .i64 (s : Int) ∧ p5 = .int .i64 (m : Int) ∧ Pz W g k b wr ∧ Hid (Go1 l s b m) ∧ k + m ≤ 120)
      case atStart => exact ⟨0, m, l.length, b, by omega, rfl, rfl, k, hg, hkm⟩
      case round =>
        clear k hg hkm hm60
        obtain ⟨s, m, k, b, hsj, rfl, rfl, hk, hg, hkm⟩ := hrel
        by_cases hs : s < 2
        · obtain ⟨w3, hw3, k3⟩ := (Pg.of hk).push Ord.zero
          have hi0 := Lib.hid (hg.out.enter hs)
          have hsl : (s : Int) < 2 := by omega
          generalize bkOf b.L (s : Int) = Q at *
          simp only [Ord.zero, cOrd] at hw3
          clear hg hk
          go_wp2_with fail
          rw [← hw3]
          clear hw3
          generalize wr.heap.size = lb at *
          go_loopg [5, 9] 60 (fun j p5 p9 wr => ∃ (n m k : Nat) (b : Bk) (z : Ord), n + j = 60 ∧ p9 = .int .i64 (n : Int) ∧ p5 = .int .i64 (m : Int) ∧ Pg W [(lb, z)] g k b wr ∧ Hid (Gi1 l s Q n z b m) ∧ k + m ≤ 120)
          case atStart => exact ⟨0, m, k, b, Ord.zero, by omega, rfl, rfl, k3, hi0, hkm⟩
          case round =>
            clear k3 hi0 hkm
            obtain ⟨n, m, k, b, z, hnj, rfl, rfl, hk, hg, hkm⟩ := hrel
            by_cases hn : n < 60
            · have hnl : (n : Int) < 60 := by omega
              have cF := hk.front (s : Int)
              rw [hg.out.t.front] at cF
              cases hx : Q[n]? with
              | none =>
                rw [hx] at cF
                have hg2 := Lib.hid (hg.out.out hx)
                have hal : ∀ w, Pg W [(lb, z)] g k b w → ∃ w', w' = w.alloc (.cells (cOrd Ord.zero) 34) ∧ Pz W g k b w' := fun w h => by
                  obtain ⟨w', hw', h2⟩ := h.push Ord.zero
                  exact ⟨w', hw', h2.z⟩
                simp only [Option.getD_none, Option.isSome_none, vOrd, Ord.zero] at cF
                simp only [Ord.zero, cOrd] at hal
                clear hg hk hx
                go_wp2_with (first
                  | (go_at_call 15; refine cF.mono ?_; rintro e w6 ⟨rfl, k6⟩; clear cF; obtain ⟨w7, hw7, k7⟩ := hal _ k6; clear hal)
                  | fail)
                rw [← hw7]
                clear hw7
                go_roundg (2 - (s + 1))
                case measure => omega
                case rel => exact ⟨s + 1, m, k, b, by omega, by go_num, rfl, k7, hg2, hkm⟩
              | some o =>
                rw [hx] at cF
                obtain ⟨m', rfl, hrm, hg2, hfit⟩ := hg.out.step hx
                replace hg2 := Lib.hid hg2
                have hpl := hg.out.place hx
                have hpv : Hid (0 < n → bett (s : Int) o.price z.price = false ∧ (o.price = z.price → oplI l z ≤ oplI l o)) := Lib.hid fun h => hg.out.prev h hx
                have hal : ∀ w, Pg W [(lb, z)] g k b w → ∃ w', w' = w.alloc (.cells (cOrd o) 34) ∧ Pg W [(w.heap.size, o), (lb, z)] g k b w' := fun w h => h.push o
                simp only [Option.getD_some, Option.isSome_some] at cF
                have hN : ∀ w, (binOp .neq 34 (vOrd o) (vOrd o)).run Tryd.prog w = .ok (.bool false) w := fun w => by rw [neq_Ord, eqOrd_self]; rfl
                have cPL : ∀ (ob : Nat) (x : Ord) (wx : World), Pg W [(ob, o), (lb, z)] g k b wx → Calls Tryd.prog 17 #[.slice ao l.length cap, vOrd x] wx fun e w' => e = .returned (.int .i64 (oplI l x)) ∧ Pg W [(ob, o), (lb, z)] g k b w' := fun ob x wx h => (place_any ao cap l x wx (hL.below h.bel) (by omega)).mono fun e w' ⟨he, hb⟩ => ⟨he, h.below hb⟩
                have cBT : ∀ (ob : Nat) (wx : World), Pg W [(ob, o), (lb, z)] g k b wx → Calls Tryd.prog 16 #[.int .i64 (s : Int), .int .i64 o.price, .int .i64 z.price] wx fun e w' => e = .returned (.bool (bett (s : Int) o.price z.price)) ∧ Pg W [(ob, o), (lb, z)] g k b w' := fun ob wx h => (pb_better (s : Int) o.price z.price wx).mono fun e w' ⟨he, hb⟩ => ⟨he, by rw [hb]; exact h⟩
                have cRm : ∀ (ob : Nat) (wx : World), Pg W [(ob, o), (lb, z)] g k b wx → Calls Tryd.prog 18 #[.pointer (some ⟨g, 0, none⟩), .int .i64 o.id] wx fun e w' => e = .returned (.tuple #[vOrd o, .int .i64 0]) ∧ Pg W [(ob, o), (lb, z)] g (k + 1) (b.rem o.id) w' := fun ob wx h => by
                  have := h.rem (by omega) hfit.id
                  rwa [hrm] at this
                generalize b.rem o.id = b2 at *
                have hfin : ∀ (ob : Nat) (w : World), Pg W [(ob, o), (lb, z)] g (k + 1) b2 w → ∃ w', w' = w.alloc (.cells (cOrd o) 34) ∧ OB W lb ob w.heap.size g (k + 1) b2 o z w' := fun ob w h => by
                  obtain ⟨w', hw', h2⟩ := h.push o
                  exact ⟨w', hw', OB.of h2⟩
                have hO : ∀ (ob : Nat) (w : World), Pg W [(ob, o), (lb, z)] g k b w → _ := fun ob w h => Ord.cells (h.box (ob, o) (by simp)).1
                have hZ : ∀ (ob : Nat) (w : World), Pg W [(ob, o), (lb, z)] g k b w → _ := fun ob w h => Ord.cells (h.box (lb, z) (by simp)).1
                have hcP := fun ob wx h => cPL ob o wx h
                have hcZ := fun ob wx h => cPL ob z wx h
                clear cPL
                generalize oplI l o = P at *
                generalize oplI l z = Z at *
                clear hg hk hx hrm hfit
                obtain ⟨o0, o1, o2, o3, o4, o5, o6⟩ := o
                obtain ⟨z0, z1, z2, z3, z4, z5, z6⟩ := z
                simp only [vOrd] at cF hN hcP hcZ cRm
                simp only at cBT hO hZ hpv
                simp only [cOrd] at hal hfin
                go_wp2_with (first
                  | (go_at_call 15; refine cF.mono ?_; rintro e w6 ⟨rfl, k6⟩; clear cF; obtain ⟨w7, hw7, k7⟩ := hal _ k6; clear hal)
                  | (rw [← hw7]; clear hw7)
                  | fail)
                generalize w6.heap.size = ob at *
                replace k7 := k7.below (Below.refl _ _).drew
                replace hO := hO ob
                replace hZ := hZ ob
                have cRm := cRm ob
                have hfin := hfin ob
                have cP := fun (L : Array Bool) wx h => hcP ob wx h
                have cZ := fun (L : Array Bool) wx h => hcZ ob wx h
                have cBt := fun (L : Array Bool) wx h => cBT ob wx h
                clear hcP hcZ cBT
                have dP : decide (P < 0) = false := decide_eq_false (by omega)
                by_cases hn0 : n = 0
                · subst hn0
                  clear hpv cBt cZ hZ
                  refine wp_region_S (S := fun _ w => Pg W [(ob, ⟨o0, o1, o2, o3, o4, o5, o6⟩), (lb, ⟨z0, z1, z2, z3, z4, z5, z6⟩)] g k b w) (by kernel_rfl) k7 ?_
                  refine AllS.next (v := ?_) rfl rfl rfl (by kernel_rfl) ?_ ?_
                  rotate_left
                  · refine yieldsS_run (fun _ _ h => h) (by rfl) ?_
                    intro L wx hS
                    go_simp
                    try with_reducible rfl
                  simp only [Act.put, List.setIfInBounds_toArray, List.set_cons_zero, List.set_cons_succ, List.getElem_toArray, List.getElem_cons_zero]
                  refine AllS.next (v := .bool false) rfl rfl rfl (by kernel_rfl) ?_ ?_
                  · refine yieldsS_run (fun _ _ h => h) (by rfl) ?_
                    intro L wx hS
                    go_simp
                    all_goals first
                      | done
                      | with_reducible rfl
                      | omega
                      | assumption
                      | (simp_all; done)
                  simp only [Act.put, List.setIfInBounds_toArray, List.set_cons_zero, List.set_cons_succ, List.getElem_toArray, List.getElem_cons_zero, List.getElem_cons_succ]
                  refine AllS.next (v := ?_) rfl rfl rfl (by kernel_rfl) ?_ ?_
                  rotate_left
                  · refine yieldsS_run (fun _ _ h => h) (by rfl) ?_
                    intro L wx hS
                    go_simp
                    try with_reducible rfl
                  simp only [Act.put, List.setIfInBounds_toArray, List.set_cons_zero, List.set_cons_succ, List.getElem_toArray, List.getElem_cons_zero, List.getElem_cons_succ]
                  refine AllS.next (v := undef) rfl rfl rfl (by kernel_rfl) ?_ ?_
                  · exact .inr ⟨by rfl, rfl, fun _ _ h => h⟩
                  simp only [Act.put, List.setIfInBounds_toArray, List.set_cons_zero, List.set_cons_succ, List.getElem_toArray, List.getElem_cons_zero, List.getElem_cons_succ]
                  refine AllS.next (v := undef) rfl rfl rfl (by kernel_rfl) ?_ ?_
                  · exact .inr ⟨by rfl, rfl, fun _ _ h => h⟩
                  simp only [Act.put, List.setIfInBounds_toArray, List.set_cons_zero, List.set_cons_succ, List.getElem_toArray, List.getElem_cons_zero, List.getElem_cons_succ]
                  refine AllS.next (v := undef) rfl rfl rfl (by kernel_rfl) ?_ ?_
                  · exact .inr ⟨by rfl, rfl, fun _ _ h => h⟩
                  simp only [Act.put, List.setIfInBounds_toArray, List.set_cons_zero, List.set_cons_succ, List.getElem_toArray, List.getElem_cons_zero, List.getElem_cons_succ]
                  refine AllS.next (v := undef) rfl rfl rfl (by kernel_rfl) ?_ ?_
                  · exact .inr ⟨by rfl, rfl, fun _ _ h => h⟩
                  simp only [Act.put, List.setIfInBounds_toArray, List.set_cons_zero, List.set_cons_succ, List.getElem_toArray, List.getElem_cons_zero, List.getElem_cons_succ]
                  refine AllS.next (v := undef) rfl rfl rfl (by kernel_rfl) ?_ ?_
                  · exact .inr ⟨by rfl, rfl, fun _ _ h => h⟩
                  simp only [Act.put, List.setIfInBounds_toArray, List.set_cons_zero, List.set_cons_succ, List.getElem_toArray, List.getElem_cons_zero, List.getElem_cons_succ]
                  refine AllS.next (v := undef) rfl rfl rfl (by kernel_rfl) ?_ ?_
                  · exact .inr ⟨by rfl, rfl, fun _ _ h => h⟩
                  simp only [Act.put, List.setIfInBounds_toArray, List.set_cons_zero, List.set_cons_succ, List.getElem_toArray, List.getElem_cons_zero, List.getElem_cons_succ]
                  refine AllS.next (v := undef) rfl rfl rfl (by kernel_rfl) ?_ ?_
                  · exact .inr ⟨by rfl, rfl, fun _ _ h => h⟩
                  simp only [Act.put, List.setIfInBounds_toArray, List.set_cons_zero, List.set_cons_succ, List.getElem_toArray, List.getElem_cons_zero, List.getElem_cons_succ]
                  refine AllS.next (v := undef) rfl rfl rfl (by kernel_rfl) ?_ ?_
                  · exact .inr ⟨by rfl, rfl, fun _ _ h => h⟩
                  simp only [Act.put, List.setIfInBounds_toArray, List.set_cons_zero, List.set_cons_succ, List.getElem_toArray, List.getElem_cons_zero, List.getElem_cons_succ]
                  refine AllS.next (v := undef) rfl rfl rfl (by kernel_rfl) ?_ ?_
                  · exact .inr ⟨by rfl, rfl, fun _ _ h => h⟩
                  simp only [Act.put, List.setIfInBounds_toArray, List.set_cons_zero, List.set_cons_succ, List.getElem_toArray, List.getElem_cons_zero, List.getElem_cons_succ]
                  refine AllS.next (v := undef) rfl rfl rfl (by kernel_rfl) ?_ ?_
                  · exact .inr ⟨by rfl, rfl, fun _ _ h => h⟩
                  simp only [Act.put, List.setIfInBounds_toArray, List.set_cons_zero, List.set_cons_succ, List.getElem_toArray, List.getElem_cons_zero, List.getElem_cons_succ]
                  refine AllS.next (v := undef) rfl rfl rfl (by kernel_rfl) ?_ ?_
                  · exact .inr ⟨by rfl, rfl, fun _ _ h => h⟩
                  simp only [Act.put, List.setIfInBounds_toArray, List.set_cons_zero, List.set_cons_succ, List.getElem_toArray, List.getElem_cons_zero, List.getElem_cons_succ]
                  refine AllS.next (v := undef) rfl rfl rfl (by kernel_rfl) ?_ ?_
                  · exact .inr ⟨by rfl, rfl, fun _ _ h => h⟩
                  simp only [Act.put, List.setIfInBounds_toArray, List.set_cons_zero, List.set_cons_succ, List.getElem_toArray, List.getElem_cons_zero, List.getElem_cons_succ]
                  refine AllS.next (v := undef) rfl rfl rfl (by kernel_rfl) ?_ ?_
                  · exact .inr ⟨by rfl, rfl, fun _ _ h => h⟩
                  simp only [Act.put, List.setIfInBounds_toArray, List.set_cons_zero, List.set_cons_succ, List.getElem_toArray, List.getElem_cons_zero, List.getElem_cons_succ]
                  refine AllS.next (v := undef) rfl rfl rfl (by kernel_rfl) ?_ ?_
                  · exact .inr ⟨by rfl, rfl, fun _ _ h => h⟩
                  simp only [Act.put, List.setIfInBounds_toArray, List.set_cons_zero, List.set_cons_succ, List.getElem_toArray, List.getElem_cons_zero, List.getElem_cons_succ]
                  refine AllS.next (v := undef) rfl rfl rfl (by kernel_rfl) ?_ ?_
                  · exact .inr ⟨by rfl, rfl, fun _ _ h => h⟩
                  simp only [Act.put, List.setIfInBounds_toArray, List.set_cons_zero, List.set_cons_succ, List.getElem_toArray, List.getElem_cons_zero, List.getElem_cons_succ]
                  refine AllS.next (v := undef) rfl rfl rfl (by kernel_rfl) ?_ ?_
                  · exact .inr ⟨by rfl, rfl, fun _ _ h => h⟩
                  simp only [Act.put, List.setIfInBounds_toArray, List.set_cons_zero, List.set_cons_succ, List.getElem_toArray, List.getElem_cons_zero, List.getElem_cons_succ]
                  refine AllS.next (v := undef) rfl rfl rfl (by kernel_rfl) ?_ ?_
                  · exact .inr ⟨by rfl, rfl, fun _ _ h => h⟩
                  simp only [Act.put, List.setIfInBounds_toArray, List.set_cons_zero, List.set_cons_succ, List.getElem_toArray, List.getElem_cons_zero, List.getElem_cons_succ]
                  refine AllS.next (v := undef) rfl rfl rfl (by kernel_rfl) ?_ ?_
                  · exact .inr ⟨by rfl, rfl, fun _ _ h => h⟩
                  simp only [Act.put, List.setIfInBounds_toArray, List.set_cons_zero, List.set_cons_succ, List.getElem_toArray, List.getElem_cons_zero, List.getElem_cons_succ]
                  refine AllS.next (v := undef) rfl rfl rfl (by kernel_rfl) ?_ ?_
                  · exact .inr ⟨by rfl, rfl, fun _ _ h => h⟩
                  simp only [Act.put, List.setIfInBounds_toArray, List.set_cons_zero, List.set_cons_succ, List.getElem_toArray, List.getElem_cons_zero, List.getElem_cons_succ]
                  refine AllS.next (v := undef) rfl rfl rfl (by kernel_rfl) ?_ ?_
                  · exact .inr ⟨by rfl, rfl, fun _ _ h => h⟩
                  simp only [Act.put, List.setIfInBounds_toArray, List.set_cons_zero, List.set_cons_succ, List.getElem_toArray, List.getElem_cons_zero, List.getElem_cons_succ]
                  refine AllS.next (v := undef) rfl rfl rfl (by kernel_rfl) ?_ ?_
                  · exact .inr ⟨by rfl, rfl, fun _ _ h => h⟩
                  simp only [Act.put, List.setIfInBounds_toArray, List.set_cons_zero, List.set_cons_succ, List.getElem_toArray, List.getElem_cons_zero, List.getElem_cons_succ]
                  refine AllS.next (v := undef) rfl rfl rfl (by kernel_rfl) ?_ ?_
                  · exact .inr ⟨by rfl, rfl, fun _ _ h => h⟩
                  simp only [Act.put, List.setIfInBounds_toArray, List.set_cons_zero, List.set_cons_succ, List.getElem_toArray, List.getElem_cons_zero, List.getElem_cons_succ]
                  refine AllS.next (v := ?_) rfl rfl rfl (by kernel_rfl) ?_ ?_
                  rotate_left
                  · refine yieldsS_run (fun _ _ h => h) (by rfl) ?_
                    intro L wx hS
                    go_simp
                    try with_reducible rfl
                  simp only [Act.put, List.setIfInBounds_toArray, List.set_cons_zero, List.set_cons_succ, List.getElem_toArray, List.getElem_cons_zero, List.getElem_cons_succ]
                  refine AllS.next (v := ?_) rfl rfl rfl (by kernel_rfl) ?_ ?_
                  rotate_left
                  · refine yieldsS_run (fun _ _ h => h) (by rfl) ?_
                    intro L wx hS
                    go_simp
                    try with_reducible rfl
                  simp only [Act.put, List.setIfInBounds_toArray, List.set_cons_zero, List.set_cons_succ, List.getElem_toArray, List.getElem_cons_zero, List.getElem_cons_succ]
                  refine AllS.next (v := ?_) rfl rfl rfl (by kernel_rfl) ?_ ?_
                  rotate_left
                  · refine yieldsS_run (fun _ _ h => h) (by rfl) ?_
                    intro L wx hS
                    go_simp
                    try with_reducible rfl
                  simp only [Act.put, List.setIfInBounds_toArray, List.set_cons_zero, List.set_cons_succ, List.getElem_toArray, List.getElem_cons_zero, List.getElem_cons_succ]
                  refine AllS.next (v := ?_) rfl rfl rfl (by kernel_rfl) ?_ ?_
                  rotate_left
                  · refine yieldsS_run (fun _ _ h => h) (by rfl) ?_
                    intro L wx hS
                    obtain ⟨x0, x1, x2, x3, x4, x5, x6⟩ := hO _ hS
                    try simp only at x0 x1 x2 x3 x4 x5 x6
                    go_simp
                    try with_reducible rfl
                  simp only [Act.put, List.setIfInBounds_toArray, List.set_cons_zero, List.set_cons_succ, List.getElem_toArray, List.getElem_cons_zero, List.getElem_cons_succ]
                  refine AllS.next (v := (.int .i64 P)) rfl rfl rfl (by kernel_rfl) ?_ ?_
                  · refine yieldsS_call (f := 17) (args := #[.slice ao l.length cap, .agg #[.int .i64 o0, .int .i64 o1, .int .i64 o2, .int .i64 o3, .int .i64 o4, .int .i64 o5, .int .i64 o6]]) (by rfl) ?_ ?_
                    · intro wx
                      go_simp
                      try with_reducible rfl
                    · intro L wx hS
                      exact cP L wx hS
                  simp only [Act.put, List.setIfInBounds_toArray, List.set_cons_zero, List.set_cons_succ, List.getElem_toArray, List.getElem_cons_zero, List.getElem_cons_succ]
                  refine AllS.next (v := .bool false) rfl rfl rfl (by kernel_rfl) ?_ ?_
                  · refine yieldsS_run (fun _ _ h => h) (by rfl) ?_
                    intro L wx hS
                    go_simp
                    all_goals first
                      | done
                      | with_reducible rfl
                      | omega
                      | assumption
                      | (simp_all; done)
                  simp only [Act.put, List.setIfInBounds_toArray, List.set_cons_zero, List.set_cons_succ, List.getElem_toArray, List.getElem_cons_zero, List.getElem_cons_succ]
                  refine AllS.next (v := ?_) rfl rfl rfl (by kernel_rfl) ?_ ?_
                  rotate_left
                  · refine yieldsS_run (fun _ _ h => h) (by rfl) ?_
                    intro L wx hS
                    go_simp
                    try with_reducible rfl
                  simp only [Act.put, List.setIfInBounds_toArray, List.set_cons_zero, List.set_cons_succ, List.getElem_toArray, List.getElem_cons_zero, List.getElem_cons_succ]
                  refine AllS.done (by kernel_rfl) ?_
                  intro w7 k7
                  obtain ⟨x0, x1, x2, x3, x4, x5, x6⟩ := hO _ k7
                  try simp only at x0 x1 x2 x3 x4 x5 x6
                  have cRm := cRm _ k7
                  clear cP hO dP
                  go_wp2_with (first
                    | (go_at_call 18; refine cRm.mono ?_; rintro e w8 ⟨rfl, k8⟩; clear cRm x0 x1 x2 x3 x4 x5 x6; obtain ⟨w9, hw9, k9⟩ := hfin _ k8; clear hfin; obtain ⟨⟨x0, x1, x2, x3, x4, x5, x6⟩, ⟨y0, y1, y2, y3, y4, y5, y6⟩, ⟨v0, v1, v2, v3, v4, v5, v6⟩, hfr, V2, hV2, kV⟩ := k9.all; simp only at x0 x1 x2 x3 x4 x5 x6 y0 y1 y2 y3 y4 y5 y6 v0 v1 v2 v3 v4 v5 v6 hV2; clear k9)
                    | (rw [← hw9]; clear hw9)
                    | (rw [← hV2]; clear hV2)
                    | fail)
                  go_roundg (60 - (0 + 1))
                  case measure => omega
                  case rel => exact ⟨0 + 1, m', k + 1, b2, _, by omega, by go_num, by go_num, kV, hg2, by omega⟩
                have dn : decide ((0 : Int) < (n : Int)) = true := decide_eq_true (by omega)
                obtain ⟨hbt, hpz⟩ := hpv.out (by omega)
                clear hpv
                rw [hbt] at cBt
                by_cases h3 : o3 = z3
                · subst h3
                  have hPZ := hpz rfl
                  have dZ : decide (P < Z) = false := decide_eq_false (by omega)
                  have d3 : (o3 == o3) = true := by simp
                  clear hpz hPZ hbt
                  refine wp_region_S (S := fun _ w => Pg W [(ob, ⟨o0, o1, o2, o3, o4, o5, o6⟩), (lb, ⟨z0, z1, z2, o3, z4, z5, z6⟩)] g k b w) (by kernel_rfl) k7 ?_
                  refine AllS.next (v := ?_) rfl rfl rfl (by kernel_rfl) ?_ ?_
                  rotate_left
                  · refine yieldsS_run (fun _ _ h => h) (by rfl) ?_
                    intro L wx hS
                    go_simp
                    try with_reducible rfl
                  simp only [Act.put, List.setIfInBounds_toArray, List.set_cons_zero, List.set_cons_succ, List.getElem_toArray, List.getElem_cons_zero]
                  refine AllS.next (v := .bool true) rfl rfl rfl (by kernel_rfl) ?_ ?_
                  · refine yieldsS_run (fun _ _ h => h) (by rfl) ?_
                    intro L wx hS
                    go_simp
                    all_goals first
                      | done
                      | with_reducible rfl
                      | omega
                      | assumption
                      | (simp_all; done)
                  simp only [Act.put, List.setIfInBounds_toArray, List.set_cons_zero, List.set_cons_succ, List.getElem_toArray, List.getElem_cons_zero, List.getElem_cons_succ]
                  refine AllS.next (v := ?_) rfl rfl rfl (by kernel_rfl) ?_ ?_
                  rotate_left
                  · refine yieldsS_run (fun _ _ h => h) (by rfl) ?_
                    intro L wx hS
                    go_simp
                    try with_reducible rfl
                  simp only [Act.put, List.setIfInBounds_toArray, List.set_cons_zero, List.set_cons_succ, List.getElem_toArray, List.getElem_cons_zero, List.getElem_cons_succ]
                  refine AllS.next (v := ?_) rfl rfl rfl (by kernel_rfl) ?_ ?_
                  rotate_left
                  · refine yieldsS_run (fun _ _ h => h) (by rfl) ?_
                    intro L wx hS
                    go_simp
                    try with_reducible rfl
                  simp only [Act.put, List.setIfInBounds_toArray, List.set_cons_zero, List.set_cons_succ, List.getElem_toArray, List.getElem_cons_zero, List.getElem_cons_succ]
                  refine AllS.next (v := ?_) rfl rfl rfl (by kernel_rfl) ?_ ?_
                  rotate_left
                  · refine yieldsS_run (fun _ _ h => h) (by rfl) ?_
                    intro L wx hS
                    go_simp
                    try with_reducible rfl
                  simp only [Act.put, List.setIfInBounds_toArray, List.set_cons_zero, List.set_cons_succ, List.getElem_toArray, List.getElem_cons_zero, List.getElem_cons_succ]
                  refine AllS.next (v := ?_) rfl rfl rfl (by kernel_rfl) ?_ ?_
                  rotate_left
                  · refine yieldsS_run (fun _ _ h => h) (by rfl) ?_
                    intro L wx hS
                    obtain ⟨x0, x1, x2, x3, x4, x5, x6⟩ := hO _ hS
                    try simp only at x0 x1 x2 x3 x4 x5 x6
                    go_simp
                    try with_reducible rfl
                  simp only [Act.put, List.setIfInBounds_toArray, List.set_cons_zero, List.set_cons_succ, List.getElem_toArray, List.getElem_cons_zero, List.getElem_cons_succ]
                  refine AllS.next (v := ?_) rfl rfl rfl (by kernel_rfl) ?_ ?_
                  rotate_left
                  · refine yieldsS_run (fun _ _ h => h) (by rfl) ?_
                    intro L wx hS
                    go_simp
                    try with_reducible rfl
                  simp only [Act.put, List.setIfInBounds_toArray, List.set_cons_zero, List.set_cons_succ, List.getElem_toArray, List.getElem_cons_zero, List.getElem_cons_succ]
                  refine AllS.next (v := ?_) rfl rfl rfl (by kernel_rfl) ?_ ?_
                  rotate_left
                  · refine yieldsS_run (fun _ _ h => h) (by rfl) ?_
                    intro L wx hS
                    obtain ⟨x0, x1, x2, x3, x4, x5, x6⟩ := hZ _ hS
                    try simp only at x0 x1 x2 x3 x4 x5 x6
                    go_simp
                    try with_reducible rfl
                  simp only [Act.put, List.setIfInBounds_toArray, List.set_cons_zero, List.set_cons_succ, List.getElem_toArray, List.getElem_cons_zero, List.getElem_cons_succ]
                  refine AllS.next (v := (.bool false)) rfl rfl rfl (by kernel_rfl) ?_ ?_
                  · refine yieldsS_call (f := 16) (args := #[.int .i64 (s : Int), .int .i64 o3, .int .i64 o3]) (by rfl) ?_ ?_
                    · intro wx
                      go_simp
                      try with_reducible rfl
                    · intro L wx hS
                      exact cBt L wx hS
                  simp only [Act.put, List.setIfInBounds_toArray, List.set_cons_zero, List.set_cons_succ, List.getElem_toArray, List.getElem_cons_zero, List.getElem_cons_succ]
                  refine AllS.next (v := ?_) rfl rfl rfl (by kernel_rfl) ?_ ?_
                  rotate_left
                  · refine yieldsS_run (fun _ _ h => h) (by rfl) ?_
                    intro L wx hS
                    go_simp
                    try with_reducible rfl
                  simp only [Act.put, List.setIfInBounds_toArray, List.set_cons_zero, List.set_cons_succ, List.getElem_toArray, List.getElem_cons_zero, List.getElem_cons_succ]
                  refine AllS.next (v := ?_) rfl rfl rfl (by kernel_rfl) ?_ ?_
                  rotate_left
                  · refine yieldsS_run (fun _ _ h => h) (by rfl) ?_
                    intro L wx hS
                    go_simp
                    try with_reducible rfl
                  simp only [Act.put, List.setIfInBounds_toArray, List.set_cons_zero, List.set_cons_succ, List.getElem_toArray, List.getElem_cons_zero, List.getElem_cons_succ]
                  refine AllS.next (v := ?_) rfl rfl rfl (by kernel_rfl) ?_ ?_
                  rotate_left
                  · refine yieldsS_run (fun _ _ h => h) (by rfl) ?_
                    intro L wx hS
                    obtain ⟨x0, x1, x2, x3, x4, x5, x6⟩ := hO _ hS
                    try simp only at x0 x1 x2 x3 x4 x5 x6
                    go_simp
                    try with_reducible rfl
                  simp only [Act.put, List.setIfInBounds_toArray, List.set_cons_zero, List.set_cons_succ, List.getElem_toArray, List.getElem_cons_zero, List.getElem_cons_succ]
                  refine AllS.next (v := ?_) rfl rfl rfl (by kernel_rfl) ?_ ?_
                  rotate_left
                  · refine yieldsS_run (fun _ _ h => h) (by rfl) ?_
                    intro L wx hS
                    go_simp
                    try with_reducible rfl
                  simp only [Act.put, List.setIfInBounds_toArray, List.set_cons_zero, List.set_cons_succ, List.getElem_toArray, List.getElem_cons_zero, List.getElem_cons_succ]
                  refine AllS.next (v := ?_) rfl rfl rfl (by kernel_rfl) ?_ ?_
                  rotate_left
                  · refine yieldsS_run (fun _ _ h => h) (by rfl) ?_
                    intro L wx hS
                    obtain ⟨x0, x1, x2, x3, x4, x5, x6⟩ := hZ _ hS
                    try simp only at x0 x1 x2 x3 x4 x5 x6
                    go_simp
                    try with_reducible rfl
                  simp only [Act.put, List.setIfInBounds_toArray, List.set_cons_zero, List.set_cons_succ, List.getElem_toArray, List.getElem_cons_zero, List.getElem_cons_succ]
                  refine AllS.next (v := .bool true) rfl rfl rfl (by kernel_rfl) ?_ ?_
                  · refine yieldsS_run (fun _ _ h => h) (by rfl) ?_
                    intro L wx hS
                    go_simp
                    all_goals first
                      | done
                      | with_reducible rfl
                      | omega
                      | assumption
                      | (simp_all; done)
                  simp only [Act.put, List.setIfInBounds_toArray, List.set_cons_zero, List.set_cons_succ, List.getElem_toArray, List.getElem_cons_zero, List.getElem_cons_succ]
                  refine AllS.next (v := ?_) rfl rfl rfl (by kernel_rfl) ?_ ?_
                  rotate_left
                  · refine yieldsS_run (fun _ _ h => h) (by rfl) ?_
                    intro L wx hS
                    go_simp
                    try with_reducible rfl
                  simp only [Act.put, List.setIfInBounds_toArray, List.set_cons_zero, List.set_cons_succ, List.getElem_toArray, List.getElem_cons_zero, List.getElem_cons_succ]
                  refine AllS.next (v := ?_) rfl rfl rfl (by kernel_rfl) ?_ ?_
                  rotate_left
                  · refine yieldsS_run (fun _ _ h => h) (by rfl) ?_
                    intro L wx hS
                    go_simp
                    try with_reducible rfl
                  simp only [Act.put, List.setIfInBounds_toArray, List.set_cons_zero, List.set_cons_succ, List.getElem_toArray, List.getElem_cons_zero, List.getElem_cons_succ]
                  refine AllS.next (v := ?_) rfl rfl rfl (by kernel_rfl) ?_ ?_
                  rotate_left
                  · refine yieldsS_run (fun _ _ h => h) (by rfl) ?_
                    intro L wx hS
                    obtain ⟨x0, x1, x2, x3, x4, x5, x6⟩ := hO _ hS
                    try simp only at x0 x1 x2 x3 x4 x5 x6
                    go_simp
                    try with_reducible rfl
                  simp only [Act.put, List.setIfInBounds_toArray, List.set_cons_zero, List.set_cons_succ, List.getElem_toArray, List.getElem_cons_zero, List.getElem_cons_succ]
                  refine AllS.next (v := (.int .i64 P)) rfl rfl rfl (by kernel_rfl) ?_ ?_
                  · refine yieldsS_call (f := 17) (args := #[.slice ao l.length cap, .agg #[.int .i64 o0, .int .i64 o1, .int .i64 o2, .int .i64 o3, .int .i64 o4, .int .i64 o5, .int .i64 o6]]) (by rfl) ?_ ?_
                    · intro wx
                      go_simp
                      try with_reducible rfl
                    · intro L wx hS
                      exact cP L wx hS
                  simp only [Act.put, List.setIfInBounds_toArray, List.set_cons_zero, List.set_cons_succ, List.getElem_toArray, List.getElem_cons_zero, List.getElem_cons_succ]
                  refine AllS.next (v := ?_) rfl rfl rfl (by kernel_rfl) ?_ ?_
                  rotate_left
                  · refine yieldsS_run (fun _ _ h => h) (by rfl) ?_
                    intro L wx hS
                    go_simp
                    try with_reducible rfl
                  simp only [Act.put, List.setIfInBounds_toArray, List.set_cons_zero, List.set_cons_succ, List.getElem_toArray, List.getElem_cons_zero, List.getElem_cons_succ]
                  refine AllS.next (v := ?_) rfl rfl rfl (by kernel_rfl) ?_ ?_
                  rotate_left
                  · refine yieldsS_run (fun _ _ h => h) (by rfl) ?_
                    intro L wx hS
                    obtain ⟨x0, x1, x2, x3, x4, x5, x6⟩ := hZ _ hS
                    try simp only at x0 x1 x2 x3 x4 x5 x6
                    go_simp
                    try with_reducible rfl
                  simp only [Act.put, List.setIfInBounds_toArray, List.set_cons_zero, List.set_cons_succ, List.getElem_toArray, List.getElem_cons_zero, List.getElem_cons_succ]
                  refine AllS.next (v := (.int .i64 Z)) rfl rfl rfl (by kernel_rfl) ?_ ?_
                  · refine yieldsS_call (f := 17) (args := #[.slice ao l.length cap, .agg #[.int .i64 z0, .int .i64 z1, .int .i64 z2, .int .i64 o3, .int .i64 z4, .int .i64 z5, .int .i64 z6]]) (by rfl) ?_ ?_
                    · intro wx
                      go_simp
                      try with_reducible rfl
                    · intro L wx hS
                      exact cZ L wx hS
                  simp only [Act.put, List.setIfInBounds_toArray, List.set_cons_zero, List.set_cons_succ, List.getElem_toArray, List.getElem_cons_zero, List.getElem_cons_succ]
                  refine AllS.next (v := .bool false) rfl rfl rfl (by kernel_rfl) ?_ ?_
                  · refine yieldsS_run (fun _ _ h => h) (by rfl) ?_
                    intro L wx hS
                    go_simp
                    all_goals first
                      | done
                      | with_reducible rfl
                      | omega
                      | assumption
                      | (simp_all; done)
                  simp only [Act.put, List.setIfInBounds_toArray, List.set_cons_zero, List.set_cons_succ, List.getElem_toArray, List.getElem_cons_zero, List.getElem_cons_succ]
                  refine AllS.next (v := ?_) rfl rfl rfl (by kernel_rfl) ?_ ?_
                  rotate_left
                  · refine yieldsS_run (fun _ _ h => h) (by rfl) ?_
                    intro L wx hS
                    go_simp
                    try with_reducible rfl
                  simp only [Act.put, List.setIfInBounds_toArray, List.set_cons_zero, List.set_cons_succ, List.getElem_toArray, List.getElem_cons_zero, List.getElem_cons_succ]
                  refine AllS.next (v := ?_) rfl rfl rfl (by kernel_rfl) ?_ ?_
                  rotate_left
                  · refine yieldsS_run (fun _ _ h => h) (by rfl) ?_
                    intro L wx hS
                    go_simp
                    try with_reducible rfl
                  simp only [Act.put, List.setIfInBounds_toArray, List.set_cons_zero, List.set_cons_succ, List.getElem_toArray, List.getElem_cons_zero, List.getElem_cons_succ]
                  refine AllS.next (v := ?_) rfl rfl rfl (by kernel_rfl) ?_ ?_
                  rotate_left
                  · refine yieldsS_run (fun _ _ h => h) (by rfl) ?_
                    intro L wx hS
                    go_simp
                    try with_reducible rfl
                  simp only [Act.put, List.setIfInBounds_toArray, List.set_cons_zero, List.set_cons_succ, List.getElem_toArray, List.getElem_cons_zero, List.getElem_cons_succ]
                  refine AllS.next (v := ?_) rfl rfl rfl (by kernel_rfl) ?_ ?_
                  rotate_left
                  · refine yieldsS_run (fun _ _ h => h) (by rfl) ?_
                    intro L wx hS
                    go_simp
                    try with_reducible rfl
                  simp only [Act.put, List.setIfInBounds_toArray, List.set_cons_zero, List.set_cons_succ, List.getElem_toArray, List.getElem_cons_zero, List.getElem_cons_succ]
                  refine AllS.next (v := ?_) rfl rfl rfl (by kernel_rfl) ?_ ?_
                  rotate_left
                  · refine yieldsS_run (fun _ _ h => h) (by rfl) ?_
                    intro L wx hS
                    go_simp
                    try with_reducible rfl
                  simp only [Act.put, List.setIfInBounds_toArray, List.set_cons_zero, List.set_cons_succ, List.getElem_toArray, List.getElem_cons_zero, List.getElem_cons_succ]
                  refine AllS.next (v := ?_) rfl rfl rfl (by kernel_rfl) ?_ ?_
                  rotate_left
                  · refine yieldsS_run (fun _ _ h => h) (by rfl) ?_
                    intro L wx hS
                    obtain ⟨x0, x1, x2, x3, x4, x5, x6⟩ := hO _ hS
                    try simp only at x0 x1 x2 x3 x4 x5 x6
                    go_simp
                    try with_reducible rfl
                  simp only [Act.put, List.setIfInBounds_toArray, List.set_cons_zero, List.set_cons_succ, List.getElem_toArray, List.getElem_cons_zero, List.getElem_cons_succ]
                  refine AllS.next (v := (.int .i64 P)) rfl rfl rfl (by kernel_rfl) ?_ ?_
                  · refine yieldsS_call (f := 17) (args := #[.slice ao l.length cap, .agg #[.int .i64 o0, .int .i64 o1, .int .i64 o2, .int .i64 o3, .int .i64 o4, .int .i64 o5, .int .i64 o6]]) (by rfl) ?_ ?_
                    · intro wx
                      go_simp
                      try with_reducible rfl
                    · intro L wx hS
                      exact cP L wx hS
                  simp only [Act.put, List.setIfInBounds_toArray, List.set_cons_zero, List.set_cons_succ, List.getElem_toArray, List.getElem_cons_zero, List.getElem_cons_succ]
                  refine AllS.next (v := .bool false) rfl rfl rfl (by kernel_rfl) ?_ ?_
                  · refine yieldsS_run (fun _ _ h => h) (by rfl) ?_
                    intro L wx hS
                    go_simp
                    all_goals first
                      | done
                      | with_reducible rfl
                      | omega
                      | assumption
                      | (simp_all; done)
                  simp only [Act.put, List.setIfInBounds_toArray, List.set_cons_zero, List.set_cons_succ, List.getElem_toArray, List.getElem_cons_zero, List.getElem_cons_succ]
                  refine AllS.next (v := ?_) rfl rfl rfl (by kernel_rfl) ?_ ?_
                  rotate_left
                  · refine yieldsS_run (fun _ _ h => h) (by rfl) ?_
                    intro L wx hS
                    go_simp
                    try with_reducible rfl
                  simp only [Act.put, List.setIfInBounds_toArray, List.set_cons_zero, List.set_cons_succ, List.getElem_toArray, List.getElem_cons_zero, List.getElem_cons_succ]
                  refine AllS.done (by kernel_rfl) ?_
                  intro w7 k7
                  obtain ⟨x0, x1, x2, x3, x4, x5, x6⟩ := hO _ k7
                  try simp only at x0 x1 x2 x3 x4 x5 x6
                  have cRm := cRm _ k7
                  clear cP hO dP
                  go_wp2_with (first
                    | (go_at_call 18; refine cRm.mono ?_; rintro e w8 ⟨rfl, k8⟩; clear cRm x0 x1 x2 x3 x4 x5 x6; obtain ⟨w9, hw9, k9⟩ := hfin _ k8; clear hfin; obtain ⟨⟨x0, x1, x2, x3, x4, x5, x6⟩, ⟨y0, y1, y2, y3, y4, y5, y6⟩, ⟨v0, v1, v2, v3, v4, v5, v6⟩, hfr, V2, hV2, kV⟩ := k9.all; simp only at x0 x1 x2 x3 x4 x5 x6 y0 y1 y2 y3 y4 y5 y6 v0 v1 v2 v3 v4 v5 v6 hV2; clear k9)
                    | (rw [← hw9]; clear hw9)
                    | (rw [← hV2]; clear hV2)
                    | fail)
                  go_roundg (60 - (n + 1))
                  case measure => omega
                  case rel => exact ⟨n + 1, m', k + 1, b2, _, by omega, by go_num, by go_num, kV, hg2, by omega⟩
                · have d3 : (o3 == z3) = false := by simpa using h3
                  clear hpz hbt cZ
                  refine wp_region_S (S := fun _ w => Pg W [(ob, ⟨o0, o1, o2, o3, o4, o5, o6⟩), (lb, ⟨z0, z1, z2, z3, z4, z5, z6⟩)] g k b w) (by kernel_rfl) k7 ?_
                  refine AllS.next (v := ?_) rfl rfl rfl (by kernel_rfl) ?_ ?_
                  rotate_left
                  · refine yieldsS_run (fun _ _ h => h) (by rfl) ?_
                    intro L wx hS
                    go_simp
                    try with_reducible rfl
                  simp only [Act.put, List.setIfInBounds_toArray, List.set_cons_zero, List.set_cons_succ, List.getElem_toArray, List.getElem_cons_zero]
                  refine AllS.next (v := .bool true) rfl rfl rfl (by kernel_rfl) ?_ ?_
                  · refine yieldsS_run (fun _ _ h => h) (by rfl) ?_
                    intro L wx hS
                    go_simp
                    all_goals first
                      | done
                      | with_reducible rfl
                      | omega
                      | assumption
                      | (simp_all; done)
                  simp only [Act.put, List.setIfInBounds_toArray, List.set_cons_zero, List.set_cons_succ, List.getElem_toArray, List.getElem_cons_zero, List.getElem_cons_succ]
                  refine AllS.next (v := ?_) rfl rfl rfl (by kernel_rfl) ?_ ?_
                  rotate_left
                  · refine yieldsS_run (fun _ _ h => h) (by rfl) ?_
                    intro L wx hS
                    go_simp
                    try with_reducible rfl
                  simp only [Act.put, List.setIfInBounds_toArray, List.set_cons_zero, List.set_cons_succ, List.getElem_toArray, List.getElem_cons_zero, List.getElem_cons_succ]
                  refine AllS.next (v := ?_) rfl rfl rfl (by kernel_rfl) ?_ ?_
                  rotate_left
                  · refine yieldsS_run (fun _ _ h => h) (by rfl) ?_
                    intro L wx hS
                    go_simp
                    try with_reducible rfl
                  simp only [Act.put, List.setIfInBounds_toArray, List.set_cons_zero, List.set_cons_succ, List.getElem_toArray, List.getElem_cons_zero, List.getElem_cons_succ]
                  refine AllS.next (v := ?_) rfl rfl rfl (by kernel_rfl) ?_ ?_
                  rotate_left
                  · refine yieldsS_run (fun _ _ h => h) (by rfl) ?_
                    intro L wx hS
                    go_simp
                    try with_reducible rfl
                  simp only [Act.put, List.setIfInBounds_toArray, List.set_cons_zero, List.set_cons_succ, List.getElem_toArray, List.getElem_cons_zero, List.getElem_cons_succ]
                  refine AllS.next (v := ?_) rfl rfl rfl (by kernel_rfl) ?_ ?_
                  rotate_left
                  · refine yieldsS_run (fun _ _ h => h) (by rfl) ?_
                    intro L wx hS
                    obtain ⟨x0, x1, x2, x3, x4, x5, x6⟩ := hO _ hS
                    try simp only at x0 x1 x2 x3 x4 x5 x6
                    go_simp
                    try with_reducible rfl
                  simp only [Act.put, List.setIfInBounds_toArray, List.set_cons_zero, List.set_cons_succ, List.getElem_toArray, List.getElem_cons_zero, List.getElem_cons_succ]
                  refine AllS.next (v := ?_) rfl rfl rfl (by kernel_rfl) ?_ ?_
                  rotate_left
                  · refine yieldsS_run (fun _ _ h => h) (by rfl) ?_
                    intro L wx hS
                    go_simp
                    try with_reducible rfl
                  simp only [Act.put, List.setIfInBounds_toArray, List.set_cons_zero, List.set_cons_succ, List.getElem_toArray, List.getElem_cons_zero, List.getElem_cons_succ]
                  refine AllS.next (v := ?_) rfl rfl rfl (by kernel_rfl) ?_ ?_
                  rotate_left
                  · refine yieldsS_run (fun _ _ h => h) (by rfl) ?_
                    intro L wx hS
                    obtain ⟨x0, x1, x2, x3, x4, x5, x6⟩ := hZ _ hS
                    try simp only at x0 x1 x2 x3 x4 x5 x6
                    go_simp
                    try with_reducible rfl
                  simp only [Act.put, List.setIfInBounds_toArray, List.set_cons_zero, List.set_cons_succ, List.getElem_toArray, List.getElem_cons_zero, List.getElem_cons_succ]
                  refine AllS.next (v := (.bool false)) rfl rfl rfl (by kernel_rfl) ?_ ?_
                  · refine yieldsS_call (f := 16) (args := #[.int .i64 (s : Int), .int .i64 o3, .int .i64 z3]) (by rfl) ?_ ?_
                    · intro wx
                      go_simp
                      try with_reducible rfl
                    · intro L wx hS
                      exact cBt L wx hS
                  simp only [Act.put, List.setIfInBounds_toArray, List.set_cons_zero, List.set_cons_succ, List.getElem_toArray, List.getElem_cons_zero, List.getElem_cons_succ]
                  refine AllS.next (v := ?_) rfl rfl rfl (by kernel_rfl) ?_ ?_
                  rotate_left
                  · refine yieldsS_run (fun _ _ h => h) (by rfl) ?_
                    intro L wx hS
                    go_simp
                    try with_reducible rfl
                  simp only [Act.put, List.setIfInBounds_toArray, List.set_cons_zero, List.set_cons_succ, List.getElem_toArray, List.getElem_cons_zero, List.getElem_cons_succ]
                  refine AllS.next (v := ?_) rfl rfl rfl (by kernel_rfl) ?_ ?_
                  rotate_left
                  · refine yieldsS_run (fun _ _ h => h) (by rfl) ?_
                    intro L wx hS
                    go_simp
                    try with_reducible rfl
                  simp only [Act.put, List.setIfInBounds_toArray, List.set_cons_zero, List.set_cons_succ, List.getElem_toArray, List.getElem_cons_zero, List.getElem_cons_succ]
                  refine AllS.next (v := ?_) rfl rfl rfl (by kernel_rfl) ?_ ?_
                  rotate_left
                  · refine yieldsS_run (fun _ _ h => h) (by rfl) ?_
                    intro L wx hS
                    obtain ⟨x0, x1, x2, x3, x4, x5, x6⟩ := hO _ hS
                    try simp only at x0 x1 x2 x3 x4 x5 x6
                    go_simp
                    try with_reducible rfl
                  simp only [Act.put, List.setIfInBounds_toArray, List.set_cons_zero, List.set_cons_succ, List.getElem_toArray, List.getElem_cons_zero, List.getElem_cons_succ]
                  refine AllS.next (v := ?_) rfl rfl rfl (by kernel_rfl) ?_ ?_
                  rotate_left
                  · refine yieldsS_run (fun _ _ h => h) (by rfl) ?_
                    intro L wx hS
                    go_simp
                    try with_reducible rfl
                  simp only [Act.put, List.setIfInBounds_toArray, List.set_cons_zero, List.set_cons_succ, List.getElem_toArray, List.getElem_cons_zero, List.getElem_cons_succ]
                  refine AllS.next (v := ?_) rfl rfl rfl (by kernel_rfl) ?_ ?_
                  rotate_left
                  · refine yieldsS_run (fun _ _ h => h) (by rfl) ?_
                    intro L wx hS
                    obtain ⟨x0, x1, x2, x3, x4, x5, x6⟩ := hZ _ hS
                    try simp only at x0 x1 x2 x3 x4 x5 x6
                    go_simp
                    try with_reducible rfl
                  simp only [Act.put, List.setIfInBounds_toArray, List.set_cons_zero, List.set_cons_succ, List.getElem_toArray, List.getElem_cons_zero, List.getElem_cons_succ]
                  refine AllS.next (v := .bool false) rfl rfl rfl (by kernel_rfl) ?_ ?_
                  · refine yieldsS_run (fun _ _ h => h) (by rfl) ?_
                    intro L wx hS
                    go_simp
                    all_goals first
                      | done
                      | with_reducible rfl
                      | omega
                      | assumption
                      | (simp_all; done)
                  simp only [Act.put, List.setIfInBounds_toArray, List.set_cons_zero, List.set_cons_succ, List.getElem_toArray, List.getElem_cons_zero, List.getElem_cons_succ]
                  refine AllS.next (v := ?_) rfl rfl rfl (by kernel_rfl) ?_ ?_
                  rotate_left
                  · refine yieldsS_run (fun _ _ h => h) (by rfl) ?_
                    intro L wx hS
                    go_simp
                    try with_reducible rfl
                  simp only [Act.put, List.setIfInBounds_toArray, List.set_cons_zero, List.set_cons_succ, List.getElem_toArray, List.getElem_cons_zero, List.getElem_cons_succ]
                  refine AllS.next (v := undef) rfl rfl rfl (by kernel_rfl) ?_ ?_
                  · exact .inr ⟨by rfl, rfl, fun _ _ h => h⟩
                  simp only [Act.put, List.setIfInBounds_toArray, List.set_cons_zero, List.set_cons_succ, List.getElem_toArray, List.getElem_cons_zero, List.getElem_cons_succ]
                  refine AllS.next (v := undef) rfl rfl rfl (by kernel_rfl) ?_ ?_
                  · exact .inr ⟨by rfl, rfl, fun _ _ h => h⟩
                  simp only [Act.put, List.setIfInBounds_toArray, List.set_cons_zero, List.set_cons_succ, List.getElem_toArray, List.getElem_cons_zero, List.getElem_cons_succ]
                  refine AllS.next (v := undef) rfl rfl rfl (by kernel_rfl) ?_ ?_
                  · exact .inr ⟨by rfl, rfl, fun _ _ h => h⟩
                  simp only [Act.put, List.setIfInBounds_toArray, List.set_cons_zero, List.set_cons_succ, List.getElem_toArray, List.getElem_cons_zero, List.getElem_cons_succ]
                  refine AllS.next (v := undef) rfl rfl rfl (by kernel_rfl) ?_ ?_
                  · exact .inr ⟨by rfl, rfl, fun _ _ h => h⟩
                  simp only [Act.put, List.setIfInBounds_toArray, List.set_cons_zero, List.set_cons_succ, List.getElem_toArray, List.getElem_cons_zero, List.getElem_cons_succ]
                  refine AllS.next (v := undef) rfl rfl rfl (by kernel_rfl) ?_ ?_
                  · exact .inr ⟨by rfl, rfl, fun _ _ h => h⟩
                  simp only [Act.put, List.setIfInBounds_toArray, List.set_cons_zero, List.set_cons_succ, List.getElem_toArray, List.getElem_cons_zero, List.getElem_cons_succ]
                  refine AllS.next (v := undef) rfl rfl rfl (by kernel_rfl) ?_ ?_
                  · exact .inr ⟨by rfl, rfl, fun _ _ h => h⟩
                  simp only [Act.put, List.setIfInBounds_toArray, List.set_cons_zero, List.set_cons_succ, List.getElem_toArray, List.getElem_cons_zero, List.getElem_cons_succ]
                  refine AllS.next (v := undef) rfl rfl rfl (by kernel_rfl) ?_ ?_
                  · exact .inr ⟨by rfl, rfl, fun _ _ h => h⟩
                  simp only [Act.put, List.setIfInBounds_toArray, List.set_cons_zero, List.set_cons_succ, List.getElem_toArray, List.getElem_cons_zero, List.getElem_cons_succ]
                  refine AllS.next (v := ?_) rfl rfl rfl (by kernel_rfl) ?_ ?_
                  rotate_left
                  · refine yieldsS_run (fun _ _ h => h) (by rfl) ?_
                    intro L wx hS
                    go_simp
                    try with_reducible rfl
                  simp only [Act.put, List.setIfInBounds_toArray, List.set_cons_zero, List.set_cons_succ, List.getElem_toArray, List.getElem_cons_zero, List.getElem_cons_succ]
                  refine AllS.next (v := ?_) rfl rfl rfl (by kernel_rfl) ?_ ?_
                  rotate_left
                  · refine yieldsS_run (fun _ _ h => h) (by rfl) ?_
                    intro L wx hS
                    go_simp
                    try with_reducible rfl
                  simp only [Act.put, List.setIfInBounds_toArray, List.set_cons_zero, List.set_cons_succ, List.getElem_toArray, List.getElem_cons_zero, List.getElem_cons_succ]
                  refine AllS.next (v := ?_) rfl rfl rfl (by kernel_rfl) ?_ ?_
                  rotate_left
                  · refine yieldsS_run (fun _ _ h => h) (by rfl) ?_
                    intro L wx hS
                    go_simp
                    try with_reducible rfl
                  simp only [Act.put, List.setIfInBounds_toArray, List.set_cons_zero, List.set_cons_succ, List.getElem_toArray, List.getElem_cons_zero, List.getElem_cons_succ]
                  refine AllS.next (v := ?_) rfl rfl rfl (by kernel_rfl) ?_ ?_
                  rotate_left
                  · refine yieldsS_run (fun _ _ h => h) (by rfl) ?_
                    intro L wx hS
                    go_simp
                    try with_reducible rfl
                  simp only [Act.put, List.setIfInBounds_toArray, List.set_cons_zero, List.set_cons_succ, List.getElem_toArray, List.getElem_cons_zero, List.getElem_cons_succ]
                  refine AllS.next (v := ?_) rfl rfl rfl (by kernel_rfl) ?_ ?_
                  rotate_left
                  · refine yieldsS_run (fun _ _ h => h) (by rfl) ?_
                    intro L wx hS
                    go_simp
                    try with_reducible rfl
                  simp only [Act.put, List.setIfInBounds_toArray, List.set_cons_zero, List.set_cons_succ, List.getElem_toArray, List.getElem_cons_zero, List.getElem_cons_succ]
                  refine AllS.next (v := ?_) rfl rfl rfl (by kernel_rfl) ?_ ?_
                  rotate_left
                  · refine yieldsS_run (fun _ _ h => h) (by rfl) ?_
                    intro L wx hS
                    obtain ⟨x0, x1, x2, x3, x4, x5, x6⟩ := hO _ hS
                    try simp only at x0 x1 x2 x3 x4 x5 x6
                    go_simp
                    try with_reducible rfl
                  simp only [Act.put, List.setIfInBounds_toArray, List.set_cons_zero, List.set_cons_succ, List.getElem_toArray, List.getElem_cons_zero, List.getElem_cons_succ]
                  refine AllS.next (v := (.int .i64 P)) rfl rfl rfl (by kernel_rfl) ?_ ?_
                  · refine yieldsS_call (f := 17) (args := #[.slice ao l.length cap, .agg #[.int .i64 o0, .int .i64 o1, .int .i64 o2, .int .i64 o3, .int .i64 o4, .int .i64 o5, .int .i64 o6]]) (by rfl) ?_ ?_
                    · intro wx
                      go_simp
                      try with_reducible rfl
                    · intro L wx hS
                      exact cP L wx hS
                  simp only [Act.put, List.setIfInBounds_toArray, List.set_cons_zero, List.set_cons_succ, List.getElem_toArray, List.getElem_cons_zero, List.getElem_cons_succ]
                  refine AllS.next (v := .bool false) rfl rfl rfl (by kernel_rfl) ?_ ?_
                  · refine yieldsS_run (fun _ _ h => h) (by rfl) ?_
                    intro L wx hS
                    go_simp
                    all_goals first
                      | done
                      | with_reducible rfl
                      | omega
                      | assumption
                      | (simp_all; done)
                  simp only [Act.put, List.setIfInBounds_toArray, List.set_cons_zero, List.set_cons_succ, List.getElem_toArray, List.getElem_cons_zero, List.getElem_cons_succ]
                  refine AllS.next (v := ?_) rfl rfl rfl (by kernel_rfl) ?_ ?_
                  rotate_left
                  · refine yieldsS_run (fun _ _ h => h) (by rfl) ?_
                    intro L wx hS
                    go_simp
                    try with_reducible rfl
                  simp only [Act.put, List.setIfInBounds_toArray, List.set_cons_zero, List.set_cons_succ, List.getElem_toArray, List.getElem_cons_zero, List.getElem_cons_succ]
                  refine AllS.done (by kernel_rfl) ?_
                  intro w7 k7
                  obtain ⟨x0, x1, x2, x3, x4, x5, x6⟩ := hO _ k7
                  try simp only at x0 x1 x2 x3 x4 x5 x6
                  have cRm := cRm _ k7
                  clear cP hO dP
                  go_wp2_with (first
                    | (go_at_call 18; refine cRm.mono ?_; rintro e w8 ⟨rfl, k8⟩; clear cRm x0 x1 x2 x3 x4 x5 x6; obtain ⟨w9, hw9, k9⟩ := hfin _ k8; clear hfin; obtain ⟨⟨x0, x1, x2, x3, x4, x5, x6⟩, ⟨y0, y1, y2, y3, y4, y5, y6⟩, ⟨v0, v1, v2, v3, v4, v5, v6⟩, hfr, V2, hV2, kV⟩ := k9.all; simp only at x0 x1 x2 x3 x4 x5 x6 y0 y1 y2 y3 y4 y5 y6 v0 v1 v2 v3 v4 v5 v6 hV2; clear k9)
                    | (rw [← hw9]; clear hw9)
                    | (rw [← hV2]; clear hV2)
                    | fail)
                  go_roundg (60 - (n + 1))
                  case measure => omega
                  case rel => exact ⟨n + 1, m', k + 1, b2, _, by omega, by go_num, by go_num, kV, hg2, by omega⟩
            · obtain rfl : n = 60 := by omega
              have hg2 := Lib.hid (hg.out.out hg.out.full)
              have k7 := hk.z
              clear hg hk
              go_wp2_with fail
              go_roundg (2 - (s + 1))
              case measure => omega
              case rel => exact ⟨s + 1, m, k, b, by omega, by go_num, rfl, k7, hg2, hkm⟩
        · obtain rfl : s = 2 := by omega
          obtain rfl : m = 0 := hg.out.done
          have cLn := hk.len
          rw [hg.out.len] at cLn
          clear hg hk
          go_wp2_with (first
            | (go_at_call 14; refine cLn.mono ?_; rintro e w1 ⟨rfl, k⟩; clear cLn)
            | (go_at_call 6; refine (cA _ (hG.below k.bel)).mono ?_; rintro e w2 ⟨rfl, hb2⟩; clear cA)
            | fail)
          go_ret
          exact ⟨rfl, k.bel.trans (hb2.mono k.bel.size)⟩
end Go.Proofs.YthbopaeaplejiaaDoor
