/-
  The document's book: Fits, Room.
  The document's book: what is laid into it; Add. (Written by gen/p_rbc.py.)
-/
import Derived.Test.YtdmjcjheanedgaaDoorGR
import Derived.OwnWalk
import Derived.Test.YtdmjcjheanedgaaDoorGC
namespace Go.Proofs.YtdmjcjheanedgaaDoor
open Go.RowKit
set_option linter.unusedSimpArgs false
theorem infoK64 : (Tryd.prog.info? 2).map (fun i => (i.zero, i.size, i.bytes)) = some (some (.int .i64 0), 1, 8) := by kernel_rfl
abbrev encK (x : Int) : Array Value := #[.int .i64 x]
theorem prTo_next {L : List Ord} {side : Int} {i : Nat} {x : Ord} (hx : L[i]? = some x) : prTo L side (i + 1) = if x.side = side ∧ x.price ∉ prTo L side i then prTo L side i ++ [x.price] else prTo L side i := by
  conv => lhs; unfold prTo
  rw [hx]
section
variable {w w' W : World} {r : Nat} {S T : Nat → Prop} {b : Bk} {ko : Option Nat} {ao : Option Addr} {cap : Nat}
theorem encK_len (P : List Int) : (P.flatMap fun m => (encK m).toList) = P.map (Value.int .i64) := by
  induction P with
  | nil => rfl
  | cons a t ih => simp [ih]
theorem Gr.cellK {V wr : World} {P : List Int} {k2 : Option Nat} {oc : Nat} {oo : Option Addr} (h : Gr 2 1 encK V wr P k2 oc oo) {k : Nat} {p : Int} (hk : P[k]? = some p) : ∃ g, oo = some ⟨g, 0, none⟩ ∧ wr.cell? ⟨g, k, none⟩ = some (.int .i64 p) := by
  obtain ⟨g, -, h1, h2, -⟩ := h.ow.cell k (.int .i64 p) (by rw [encK_len]; simp [hk])
  exact ⟨g, h1, h2⟩
set_option maxRecDepth 8000 in
set_option maxHeartbeats 8000000 in
theorem kfits_any (side price : Int) (h : RK W r S b) (hlen : b.L.length ≤ 100000) :
    Calls Tryd.prog 62 #[.pointer (some ⟨r, 0, none⟩), .int .i64 side, .int .i64 price] W fun e w' => e = .returned (.bool (bkFits b.levels b.L side price)) ∧ Below W.heap.size W w' := by
  obtain ⟨ko, ao, cap, h⟩ := h
  obtain ⟨i1, hi1, e1⟩ := Option.map_eq_some_iff.1 infoK64
  simp only [Prod.mk.injEq] at e1
  obtain ⟨hz1, hs1, hby1⟩ := e1
  have hyes : ∀ (i : Nat) (x : Ord), b.L[i]? = some x → x.side = side → x.price = price → bkFits b.levels b.L side price = true := by
    intro i x hx h1 h2
    have : price ∈ prs b.L side := prs_mem.2 ⟨x, List.mem_of_getElem? hx, h1, h2⟩
    simp [bkFits, this]
  have hno : (∀ (i : Nat) (x : Ord), b.L[i]? = some x → ¬ (x.side = side ∧ x.price = price)) → bkFits b.levels b.L side price = decide (((prs b.L side).length : Int) < (b.levels : Int)) := by
    intro hn
    have : price ∉ prs b.L side := fun hm => by
      obtain ⟨x, hx, h1, h2⟩ := prs_mem.1 hm
      obtain ⟨j, hj⟩ := List.mem_iff_getElem?.1 hx
      exact hn j x hj ⟨h1, h2⟩
    simp [bkFits, this]
  have hpr : prs b.L side = prTo b.L side b.L.length := rfl
  rw [hpr] at hno
  clear hpr
  have hK : ∀ w, Below W.heap.size W w → w.cell? ⟨r, 1, none⟩ = some (.int .i64 b.levels) ∧ w.cell? ⟨r, 2, none⟩ = some (.slice ao b.L.length cap) ∧ Ords w ao cap b.L := fun w hb => ⟨(h.below hb).c1, (h.below hb).c2, (h.below hb).rows⟩
  clear h
  generalize bkFits b.levels b.L side price = B at *
  generalize b.L = l at *
  obtain ⟨n, hn⟩ : ∃ n, n = l.length := ⟨_, rfl⟩
  rw [← hn] at hK hlen hno
  replace hn := Lib.hid hn
  replace hno := Lib.hid hno
  replace hyes := Lib.hid hyes
  replace hK := Lib.hid hK
  go_enter Tryd.func62, Tryd.ntmps62
  go_wp2_with fail
  go_loopg [7, 8] n (fun j p7 p8 wr => ∃ (i : Nat) (P : List Int) (k2 : Option Nat) (oc : Nat) (oo : Option Addr), i + j = n ∧ p8 = .int .i64 (i : Int) ∧ p7 = .slice oo P.length oc ∧ Hid (P = prTo l side i) ∧ Hid (∀ (j' : Nat) (y : Ord), j' < i → l[j']? = some y → ¬ (y.side = side ∧ y.price = price)) ∧ Gr 2 1 encK W wr P k2 oc oo)
  case atStart => exact ⟨0, [], none, 0, none, by omega, rfl, rfl, Lib.hid rfl, Lib.hid (fun j' y hj => by omega), Gr.start W⟩
  case round =>
    obtain ⟨i, P, k2, oc, oo, hi, rfl, rfl, hO, hP, hG⟩ := hrel
    obtain ⟨c1, c2, hR⟩ := hK.out _ hG.bel
    by_cases him : i < n
    · obtain ⟨x, hx⟩ : ∃ x, l[i]? = some x := ⟨_, List.getElem?_eq_getElem (by rw [← hn.out]; exact him)⟩
      have hPi : P.length ≤ i := by rw [hO.out]; exact prTo_len l side i
      have hP2 : P.length ≤ 100000 := by omega
      replace hPi := Lib.hid hPi
      have hi2 : (i : Int) < (n : Int) := by omega
      obtain ⟨bx, off, rfl, -, -, y2, y3, -⟩ := hR.get hx
      have hnext := prTo_next (side := side) hx
      rw [← hO.out] at hnext
      have hfac : ∀ w, Below wr.heap.size wr w → w.cell? ⟨r, 2, none⟩ = some (.slice (some ⟨bx, off, none⟩) n cap) ∧ w.cell? ⟨bx, off + i * 7 + 2, none⟩ = some (.int .i64 x.side) ∧ w.cell? ⟨bx, off + i * 7 + 3, none⟩ = some (.int .i64 x.price) := by
        intro w hb
        obtain ⟨-, c2', hR'⟩ := hK.out _ (hG.bel.trans (hb.mono hG.bel.size))
        obtain ⟨b', o', e', -, -, q2, q3, -⟩ := hR'.get hx
        cases e'
        exact ⟨c2', q2, q3⟩
      replace hfac := Lib.hid hfac
      replace hnext := Lib.hid hnext
      go_wp2_with fail
      go_loopg [9, 10] P.length (fun j p9 p10 wr' => ∃ (k : Nat) (q : Bool), k + j = P.length ∧ p10 = .int .i64 (k : Int) ∧ p9 = .bool q ∧ Hid (q = decide (x.price ∈ P.take k)) ∧ ∃ m, wr' = wr.drewN m)
      case atStart => exact ⟨0, false, by omega, rfl, rfl, Lib.hid (by simp), 0, rfl⟩
      case round =>
        obtain ⟨k, q, hk, rfl, rfl, hq, m, rfl⟩ := hrel
        by_cases hkd : k < P.length
        · obtain ⟨p, hp⟩ : ∃ p, P[k]? = some p := ⟨_, List.getElem?_eq_getElem hkd⟩
          obtain ⟨g, rfl, u0⟩ := hG.cellK hp
          have hk2 : (k : Int) < (P.length : Int) := by omega
          have hq2 : Hid ((q || p == x.price) = decide (x.price ∈ P.take (k + 1))) := by
            rw [List.take_add_one, hp, hq.out]
            refine Lib.hid ?_
            simp only [Option.toList_some, List.mem_append, List.mem_singleton, Bool.decide_or]
            congr 1
            by_cases e : p = x.price
            · subst e; simp
            · have e' : ¬ x.price = p := fun h => e h.symm
              simp [e, e']
          have c2' : (wr.drewN m).cell? ⟨r, 2, none⟩ = some (.slice (some ⟨bx, off, none⟩) n cap) := c2
          have y3' : (wr.drewN m).cell? ⟨bx, off + i * 7 + 3, none⟩ = some (.int .i64 x.price) := y3
          have u0' : (wr.drewN m).cell? ⟨g, k, none⟩ = some (.int .i64 p) := u0
          obtain ⟨z, hz⟩ : ∃ z, (p == x.price) = z := ⟨_, rfl⟩
          rw [hz] at hq2
          clear hq hfac hnext hK hyes hno hn hO hP hG hR hx hp c1
          cases q
          · simp only [Bool.false_or] at hq2
            go_wp2_with fail
            go_quiet (fail)
            go_wp2_with fail
            go_roundg (P.length - (k + 1))
            case measure => omega
            case rel => exact ⟨k + 1, z, by omega, by go_num, by simp, hq2, m + nq, by first | rfl | rw [World.drewN_drewN]⟩
          · simp only [Bool.true_or] at hq2
            go_wp2_with fail
            go_quiet (fail)
            go_wp2_with fail
            go_roundg (P.length - (k + 1))
            case measure => omega
            case rel => exact ⟨k + 1, true, by omega, by go_num, rfl, hq2, m + nq, by first | rfl | rw [World.drewN_drewN]⟩
        · obtain rfl : k = P.length := by omega
          have hq1 := hq.out
          rw [List.take_length] at hq1
          have hbm : Below wr.heap.size wr (wr.drewN m) := belowK (Below.refl _ _) m
          obtain ⟨d2, z2, z3⟩ := hfac.out _ hbm
          have hG2 := hG.call hbm
          by_cases hs : x.side = side
          · have hds : (x.side == side) = true := by simpa using hs
            cases q
            · have hnm : x.price ∉ P := by simpa using hq1.symm
              have hO2 : Hid (P ++ [x.price] = prTo l side (i + 1)) := by rw [hnext.out, if_pos ⟨hs, hnm⟩]; exact Lib.hid rfl
              have happ : ∀ ao2 cap2 ko2 w4, OwG 2 1 w4 ko2 ao2 cap2 (P.length + 1) ((P.flatMap fun m => (encK m).toList) ++ [.int .i64 x.price]) → Frm (fun c => k2 = some c) ((wr.drewN m).alloc (.cells #[.int .i64 x.price] 2)) w4 → Moved ((wr.drewN m).alloc (.cells #[.int .i64 x.price] 2)) k2 ko2 →
                  Gr 2 1 encK W w4 (P ++ [x.price]) ko2 cap2 ao2 ∧ (w4.cell? ⟨r, 2, none⟩ = some (.slice (some ⟨bx, off, none⟩) n cap) ∧ w4.cell? ⟨bx, off + i * 7 + 2, none⟩ = some (.int .i64 x.side) ∧ w4.cell? ⟨bx, off + i * 7 + 3, none⟩ = some (.int .i64 x.price)) := by
                intro ao2 cap2 ko2 w4 ho hf hm
                have hG4 := (hG2.alloc (.cells #[.int .i64 x.price] 2)).app (m := x.price) ho hf hm
                refine ⟨hG4, ?_⟩
                obtain ⟨-, c2', hR'⟩ := hK.out _ hG4.bel
                obtain ⟨b', o', e', -, -, q2, q3, -⟩ := hR'.get hx
                cases e'
                exact ⟨c2', q2, q3⟩
              replace happ := Lib.hid happ
              have how := hG2.ow
              by_cases hpp : x.price = price
              · have e1 := hyes.out i x hx hs hpp
                have hdp : (x.price == price) = true := by simpa using hpp
                clear hq hq1 hnext hK hyes hno hn hO hP hG hR hx c1 hG2 hfac hO2 c2 y2 y3 hnm hs hpp
                go_wp2_with (first
                  | (at_builtin; refine wpList_appG rfl (.tmp 56) (.tmp 65) 65 2 i1 _ 1 8 Tryd.underlying65 hi1 hz1 hs1 hby1 rfl (by decide) rfl (how.alloc _) (SrcG.one1 _ _ rfl _) rfl rfl (by omega) (by omega) ?_; intro ao2 cap2 ko2 w4 ho4 hf4 hm4; obtain ⟨hG4, t2, t3, t4⟩ := happ.out _ _ _ _ ho4 hf4 hm4; clear happ ho4 hf4 hm4 how d2 z2 z3)
                  | fail)
                go_ret
                exact ⟨by rw [e1]; rfl, hG4.bel⟩
              · have hdp : (x.price == price) = false := by simpa using hpp
                have hP' := Lib.hid (p := ∀ (j' : Nat) (y : Ord), j' < i + 1 → l[j']? = some y → ¬ (y.side = side ∧ y.price = price)) (by
                  intro j' y hj hy
                  rcases Nat.lt_succ_iff_lt_or_eq.1 hj with g | rfl
                  · exact hP.out j' y g hy
                  · rw [hx] at hy; cases hy; exact fun h => hpp h.2)
                clear hq hq1 hnext hK hyes hno hn hO hP hG hR hx c1 hG2 hfac c2 y2 y3 hnm hs hpp
                go_wp2_with (first
                  | (at_builtin; refine wpList_appG rfl (.tmp 56) (.tmp 65) 65 2 i1 _ 1 8 Tryd.underlying65 hi1 hz1 hs1 hby1 rfl (by decide) rfl (how.alloc _) (SrcG.one1 _ _ rfl _) rfl rfl (by omega) (by omega) ?_; intro ao2 cap2 ko2 w4 ho4 hf4 hm4; obtain ⟨hG4, t2, t3, t4⟩ := happ.out _ _ _ _ ho4 hf4 hm4; clear happ ho4 hf4 hm4 how d2 z2 z3)
                  | fail)
                go_roundg (n - (i + 1))
                case measure => omega
                case rel => exact ⟨i + 1, _, ko2, cap2, ao2, by omega, by go_num, by simp, hO2, hP', hG4⟩
            · have hnm : x.price ∈ P := by simpa using hq1.symm
              have hO2 : Hid (P = prTo l side (i + 1)) := by rw [hnext.out, if_neg (fun h => h.2 hnm)]; exact Lib.hid rfl
              by_cases hpp : x.price = price
              · have e1 := hyes.out i x hx hs hpp
                have hdp : (x.price == price) = true := by simpa using hpp
                have hbel := hG2.bel
                clear hq hq1 hnext hK hyes hno hn hO hP hG hR hx c1 hG2 hfac hO2 c2 y2 y3 hnm hs hpp
                go_wp2_with fail
                go_ret
                exact ⟨by rw [e1]; rfl, hbel⟩
              · have hdp : (x.price == price) = false := by simpa using hpp
                have hP' := Lib.hid (p := ∀ (j' : Nat) (y : Ord), j' < i + 1 → l[j']? = some y → ¬ (y.side = side ∧ y.price = price)) (by
                  intro j' y hj hy
                  rcases Nat.lt_succ_iff_lt_or_eq.1 hj with g | rfl
                  · exact hP.out j' y g hy
                  · rw [hx] at hy; cases hy; exact fun h => hpp h.2)
                clear hq hq1 hnext hK hyes hno hn hO hP hG hR hx c1 hfac c2 y2 y3 hnm hs hpp
                go_wp2_with fail
                go_roundg (n - (i + 1))
                case measure => omega
                case rel => exact ⟨i + 1, _, k2, oc, oo, by omega, by go_num, rfl, hO2, hP', hG2⟩
          · have hds : (x.side == side) = false := by simpa using hs
            have hO2 : Hid (P = prTo l side (i + 1)) := by rw [hnext.out, if_neg (fun h => hs h.1)]; exact Lib.hid rfl
            have hP' := Lib.hid (p := ∀ (j' : Nat) (y : Ord), j' < i + 1 → l[j']? = some y → ¬ (y.side = side ∧ y.price = price)) (by
              intro j' y hj hy
              rcases Nat.lt_succ_iff_lt_or_eq.1 hj with g | rfl
              · exact hP.out j' y g hy
              · rw [hx] at hy; cases hy; exact fun h => hs h.1)
            clear hq hq1 hnext hK hyes hno hn hO hP hG hR hx c1 hfac c2 y2 y3 hs
            go_wp2_with fail
            go_roundg (n - (i + 1))
            case measure => omega
            case rel => exact ⟨i + 1, _, k2, oc, oo, by omega, by go_num, rfl, hO2, hP', hG2⟩
    · obtain rfl : i = n := by omega
      have e1 := hno.out fun j y hj => hP.out j y (by have := (List.getElem?_eq_some_iff.1 hj).1; rw [hn.out]; exact this) hj
      rw [← hO.out] at e1
      have hbel := hG.bel
      clear hno hyes hP hO hK hn hG hR
      obtain ⟨z, hz⟩ : ∃ z, decide ((P.length : Int) < (b.levels : Int)) = z := ⟨_, rfl⟩
      rw [hz] at e1
      go_wp2_with fail
      go_ret
      exact ⟨by rw [e1, ← hz]; simp, hbel⟩
set_option maxRecDepth 8000 in
set_option maxHeartbeats 1000000 in
theorem kroom_any (side price : Int) (h : RK W r S b) (hlen : b.L.length ≤ 100000) (hsl : b.slots ≤ 100000) :
    Calls Tryd.prog 45 #[.pointer (some ⟨r, 0, none⟩), .int .i64 side, .int .i64 price] W fun e w' => e = .returned (.bool (b.room side price)) ∧ Below W.heap.size W w' := by
  have cF := fun w (hb : Below W.heap.size W w) => kfits_any side price (h.below hb) hlen
  obtain ⟨ko, ao, cap, h⟩ := h
  have c0 := h.c0
  have c2 := h.c2
  unfold Bk.room
  clear h
  generalize bkFits b.levels b.L side price = B at *
  generalize b.L.length = n at *
  generalize b.slots = m at *
  by_cases hnm : n < m
  · have hd : decide (n < m) = true := decide_eq_true hnm
    rw [hd]
    simp only [Bool.true_and]
    have hd2 : decide ((n : Int) < (m : Int)) = true := decide_eq_true (by omega)
    go_enter Tryd.func45, Tryd.ntmps45
    go_wp2_with fail
    go_region_with ((go_at_call 62; refine (cF _ (belowK (Below.refl _ _) _)).mono ?_; rintro e w2 ⟨rfl, hb2⟩))
    all_goals go_wp2_with fail
    all_goals go_ret
    all_goals exact ⟨rfl, (belowK (Below.refl W.heap.size W) 1).trans hb2⟩
  · have hd : decide (n < m) = false := decide_eq_false hnm
    rw [hd]
    simp only [Bool.false_and]
    have hd2 : decide ((n : Int) < (m : Int)) = false := decide_eq_false (by omega)
    go_enter Tryd.func45, Tryd.ntmps45
    go_wp2_with fail
    go_quiet (fail)
    go_wp2_with fail
    go_ret
    exact ⟨rfl, belowK (Below.refl _ _) _⟩
end
end Go.Proofs.YtdmjcjheanedgaaDoor
namespace Go.Proofs.YtdmjcjheanedgaaDoor
open Go.RowKit
set_option linter.unusedSimpArgs false
theorem infoKOrd : (Tryd.prog.info? 44).map (fun i => (i.zero, i.size, i.bytes)) = some (some (vOrd Ord.zero), 7, 56) := by kernel_rfl
theorem OwG.emptyK (E : TypeId) (sz : Nat) (w : World) : OwG E sz (w.alloc (.cells #[] E)) (some w.heap.size) (some ⟨w.heap.size, 0, none⟩) 0 0 [] :=
  ⟨by simp, Nat.le_refl _, Nat.zero_le _, .inr ⟨_, #[], rfl, rfl, heap_alloc_last w _, by simp, by simp⟩⟩
theorem cOrd_one (x : Ord) : ∀ u ∈ (cOrd x).toList, u.oneCell' = true := by
  intro u hu
  simp at hu
  rcases hu with rfl | rfl | rfl | rfl | rfl | rfl | rfl <;> rfl
theorem ocs_one (L : List Ord) : ∀ u ∈ ocs L, u.oneCell' = true := by
  intro u hu
  obtain ⟨m, -, hm⟩ := List.mem_flatMap.1 hu
  exact cOrd_one m u hm
theorem ocs_len (L : List Ord) : (ocs L).length = L.length * 7 := by
  induction L with
  | nil => rfl
  | cons x t ih =>
    simp only [List.flatMap_cons, List.length_append, ih, List.length_cons]
    simp
    omega
theorem ocs_snoc (L : List Ord) (x : Ord) : ocs (L ++ [x]) = ocs L ++ (cOrd x).toList := by simp [ocs]
theorem blk_frmK {S : Nat → Prop} {w w' : World} {g : Nat} {t : TypeId} {cs : Array Value} (h : Blk w g t cs) (hf : Frm S w w') (hg : ¬ S g) : Blk w' g t cs := (hf.block g h.lt hg).trans h
theorem heap_othK (w : World) (p : Addr) (v : Value) {b : Nat} (h : b ≠ p.block) : (w.setCell p v).heap[b]? = w.heap[b]? := by
  refine Below.heap_setCell _ _ _ _ h
theorem app_newK {B : Nat} {W w w' : World} {ko ko' : Option Nat} (hb : Below B W w) (hB : B ≤ w.heap.size) (hk : ∀ k, ko = some k → B ≤ k) (hf : Frm (fun b => ko = some b) w w') (hm : Moved w ko ko') : Below B W w' ∧ ∀ k, ko' = some k → B ≤ k := by
  refine ⟨hb.trans (hf.below hB hk), fun k e => ?_⟩
  rcases hm with g | g | ⟨k', g, h'⟩
  · rw [g] at e; cases e
  · rw [g] at e; exact hk k e
  · rw [g] at e; cases e; omega
/-- What holds of the world as long as the last store has not come up. -/
def Slq (p : World → Prop) (n : Nat) (L : Array Bool) (w : World) : Prop := L.getD n false = false → p w
section
variable {p : World → Prop} {n k : Nat} {L : Array Bool} {w : World} {md : Region.Mode} {ops : Array Oper}
theorem Slq.other (h : k ≠ n) : Slq p n (L.setIfInBounds k true) w ↔ Slq p n L w := by
  unfold Slq
  rw [getD_set_ne false h]
theorem Slq.last (hn : n < L.size) : Slq p n (L.setIfInBounds n true) w := by
  intro h
  simp [hn] at h
theorem Slq.wi (hn : ∀ L, Closed md ops L → k ∈ Region.ready md ops L → L.getD n false = false) (h : Wi md ops (Slq p n) k w) : p w := by
  obtain ⟨L, h1, h2, h3⟩ := h
  exact h3 (hn L h2 h1)
end
section
variable {w w' W : World} {r : Nat} {S T : Nat → Prop} {b : Bk} {ko : Option Nat} {ao : Option Addr} {cap : Nat}
/-- A row that has been made behind all, laid into the book. -/
theorem RkB.lay (h : RkB W r S ko ao cap b) {w2 : World} (hb : Below W.heap.size W w2) {L : List Ord} {ko2 : Option Nat} {ao2 : Option Addr} {cap2 : Nat}
    (ho : OwG 44 7 w2 ko2 ao2 cap2 L.length (ocs L)) (hk : ∀ k, ko2 = some k → W.heap.size ≤ k) :
    (∃ S', RK (w2.setCell ⟨r, 2, none⟩ (.slice ao2 L.length cap2)) r S' { b with L := L } ∧ ∀ c, S' c → S c ∨ W.heap.size ≤ c) ∧ Frm S W (w2.setCell ⟨r, 2, none⟩ (.slice ao2 L.length cap2)) := by
  have hr := h.lt r h.sr
  have hsz : (w2.setCell ⟨r, 2, none⟩ (.slice ao2 L.length cap2)).heap.size = w2.heap.size := by simp [World.setCell]
  have hkr : ∀ k, ko2 = some k → k ≠ r := fun k e => by have := hk k e; omega
  refine ⟨⟨fun c => S c ∨ (W.heap.size ≤ c ∧ c < w2.heap.size), ⟨ko2, ao2, cap2, ?_, ?_, .inl h.sr, fun k e => ⟨.inr ⟨hk k e, ?_⟩, hkr k e⟩, ?_⟩, fun c e => by rcases e with e | e; exact .inl e; exact .inr e.1⟩, (Frm.of_below hb).setCell _ _ (.inl h.sr)⟩
  · exact (h.hr.below hb hr).set 2 _
  · exact ho.keep fun k e => heap_othK _ _ _ (hkr k e)
  · subst e; exact ho.lt
  · intro c hc
    rw [hsz]
    have := hb.size
    rcases hc with g | g
    · have := h.lt c g; omega
    · exact g.2
theorem kfindR_any (d : Int) (h : RK W r S b) (hlen : b.L.length ≤ 100000) :
    Calls Tryd.prog 44 #[.pointer (some ⟨r, 0, none⟩), .int .i64 d] W fun e w' => e = .returned (.int .i64 (bkI b.L d)) ∧ w' = W := by
  obtain ⟨ko, ao, cap, h⟩ := h
  exact kfind_any d h hlen
/-- The tests of an order's numbers. -/
theorem addF_cases (b : Bk) (o : Ord) : (((o.side == 0) || (o.side == 1)) = false ∧ b.addF o = 1) ∨ (((o.side == 0) || (o.side == 1)) = true ∧
    ((decide (o.price < 1) = true ∧ b.addF o = 9) ∨ (decide (o.price < 1) = false ∧ ((decide (1099511627776 < o.price) = true ∧ b.addF o = 9) ∨ (decide (1099511627776 < o.price) = false ∧ ((decide (o.qty < 1) = true ∧ b.addF o = 9) ∨ (decide (o.qty < 1) = false ∧ ((decide (4294967296 < o.qty) = true ∧ b.addF o = 9) ∨ (decide (4294967296 < o.qty) = false ∧
      ((∃ i : Nat, bkf b.L o.id = some i ∧ b.addF o = 6) ∨ (bkf b.L o.id = none ∧ ((b.room o.side o.price = false ∧ b.addF o = 7) ∨ (b.room o.side o.price = true ∧ b.addF o = 0))))))))))))) := by
  unfold Bk.addF
  by_cases hs : o.side ≠ 0 ∧ o.side ≠ 1
  · rw [if_pos hs]
    exact .inl ⟨by simp [hs.1, hs.2], rfl⟩
  · rw [if_neg hs]
    refine .inr ⟨?_, ?_⟩
    · have : o.side = 0 ∨ o.side = 1 := by omega
      simpa using this
    by_cases h1 : o.price < 1
    · exact .inl ⟨decide_eq_true h1, by rw [if_pos (.inl h1)]⟩
    refine .inr ⟨decide_eq_false h1, ?_⟩
    by_cases h2 : 1099511627776 < o.price
    · exact .inl ⟨decide_eq_true h2, by rw [if_pos (.inr (.inl h2))]⟩
    refine .inr ⟨decide_eq_false h2, ?_⟩
    by_cases h3 : o.qty < 1
    · exact .inl ⟨decide_eq_true h3, by rw [if_pos (.inr (.inr (.inl h3)))]⟩
    refine .inr ⟨decide_eq_false h3, ?_⟩
    by_cases h4 : 4294967296 < o.qty
    · exact .inl ⟨decide_eq_true h4, by rw [if_pos (.inr (.inr (.inr h4)))]⟩
    refine .inr ⟨decide_eq_false h4, ?_⟩
    rw [if_neg (by omega)]
    cases hf : bkf b.L o.id with
    | some i => exact .inl ⟨i, rfl, rfl⟩
    | none =>
      refine .inr ⟨rfl, ?_⟩
      cases hr : b.room o.side o.price with
      | false => exact .inl ⟨rfl, rfl⟩
      | true => exact .inr ⟨rfl, rfl⟩
set_option maxRecDepth 8000 in
set_option maxHeartbeats 8000000 in
theorem kadd_any (o : Ord) (h : RK W r S b) (hlen : b.L.length ≤ 100000) (hsl : b.slots ≤ 100000) :
    Calls Tryd.prog 22 #[.pointer (some ⟨r, 0, none⟩), vOrd o] W fun e w' => e = .returned (.int .i64 (b.addF o)) ∧ (∃ S', RK w' r S' (b.add o) ∧ ∀ c, S' c → S c ∨ W.heap.size ≤ c) ∧ Frm S W w' := by
  obtain ⟨W1, hW1⟩ : ∃ W1, W1 = W.alloc (.cells (cOrd o) 44) := ⟨_, rfl⟩
  have hBx : Blk W1 W.heap.size 44 (cOrd o) := by rw [hW1]; exact Blk.new _ _ _
  have hF1 : Below W.heap.size W W1 := by rw [hW1]; exact (Below.refl _ _).alloc (Nat.le_refl _) _
  have h1 := h.below hF1
  have hno : ∀ w f, f ≠ 0 → b.addF o = f → Below W.heap.size W w → Hid (Ending.returned (.int .i64 f) = Ending.returned (.int .i64 (b.addF o)) ∧ (∃ S', RK w r S' (b.add o) ∧ ∀ c, S' c → S c ∨ W.heap.size ≤ c) ∧ Frm S W w) := by
    intro w f hf he hb
    have : b.add o = b := by unfold Bk.add; rw [if_neg (by rw [he]; exact hf)]
    rw [this, he]
    exact Lib.hid ⟨rfl, ⟨S, h.below hb, fun c e => .inl e⟩, Frm.of_below hb⟩
  have hyes : b.addF o = 0 → b.add o = { b with L := b.L ++ [o] } := fun he => by unfold Bk.add; rw [if_pos he]
  obtain ⟨b0, b1, b2, b3, b4, b5, b6⟩ := Ord.cells hBx
  have cS := ksided_any o.side W1
  have cR := kroom_any o.side o.price h1 hlen hsl
  have cF := kfindR_any o.id h1 hlen
  have hcas := addF_cases b o
  obtain ⟨x0, x1, x2, x3, x4, x5, x6⟩ := o
  simp only [vOrd] at *
  simp only [cOrd] at hW1
  rcases hcas with ⟨t0, he⟩ | ⟨t0, ⟨t1, he⟩ | ⟨t1, ⟨t2, he⟩ | ⟨t2, ⟨t3, he⟩ | ⟨t3, ⟨t4, he⟩ | ⟨t4, ⟨i, hf, he⟩ | ⟨hf, ⟨hr, he⟩ | ⟨hr, he⟩⟩⟩⟩⟩⟩⟩
  · rw [t0] at cS
    have hend := hno _ _ (by decide) he hF1
    clear hno hyes h1 h hBx cR cF he
    go_enter Tryd.func22, Tryd.ntmps22
    go_wp2_with (go_at_call 43; rw [← hW1]; (with_reducible refine cS.mono ?_); rintro e w1 ⟨rfl, rfl⟩; clear hW1)
    go_ret
    exact hend.out
  · rw [t0] at cS
    have hend := hno _ _ (by decide) he hF1
    clear hno hyes h1 h hBx cR cF he
    go_enter Tryd.func22, Tryd.ntmps22
    go_wp2_with (go_at_call 43; rw [← hW1]; (with_reducible refine cS.mono ?_); rintro e w1 ⟨rfl, rfl⟩; clear hW1)
    go_ret
    exact hend.out
  · rw [t0] at cS
    have hend := hno _ _ (by decide) he hF1
    clear hno hyes h1 h hBx cR cF he
    go_enter Tryd.func22, Tryd.ntmps22
    go_wp2_with (go_at_call 43; rw [← hW1]; (with_reducible refine cS.mono ?_); rintro e w1 ⟨rfl, rfl⟩; clear hW1)
    go_ret
    exact hend.out
  · rw [t0] at cS
    have hend := hno _ _ (by decide) he hF1
    clear hno hyes h1 h hBx cR cF he
    go_enter Tryd.func22, Tryd.ntmps22
    go_wp2_with (go_at_call 43; rw [← hW1]; (with_reducible refine cS.mono ?_); rintro e w1 ⟨rfl, rfl⟩; clear hW1)
    go_ret
    exact hend.out
  · rw [t0] at cS
    have hend := hno _ _ (by decide) he hF1
    clear hno hyes h1 h hBx cR cF he
    go_enter Tryd.func22, Tryd.ntmps22
    go_wp2_with (go_at_call 43; rw [← hW1]; (with_reducible refine cS.mono ?_); rintro e w1 ⟨rfl, rfl⟩; clear hW1)
    go_ret
    exact hend.out
  · rw [t0] at cS
    have hend := hno _ _ (by decide) he hF1
    simp only [bkI, hf] at cF
    have hi0 : decide ((0 : Int) ≤ (i : Int)) = true := decide_eq_true (by omega)
    clear hno hyes h1 h hBx cR he hf
    go_enter Tryd.func22, Tryd.ntmps22
    go_wp2_with (first
      | (go_at_call 43; rw [← hW1]; (with_reducible refine cS.mono ?_); rintro e w1 ⟨rfl, rfl⟩; clear hW1)
      | (go_at_call 44; (with_reducible refine cF.mono ?_); rintro e w1 ⟨rfl, hw1⟩; subst w1; clear cF)
      | fail)
    go_ret
    exact hend.out
  · rw [t0] at cS
    have hend := fun w hb => hno w _ (by decide) he hb
    simp only [bkI, hf] at cF
    rw [hr] at cR
    clear hno hyes h1 h hBx he hf
    go_enter Tryd.func22, Tryd.ntmps22
    go_wp2_with (first
      | (go_at_call 43; rw [← hW1]; (with_reducible refine cS.mono ?_); rintro e w1 ⟨rfl, rfl⟩; clear hW1)
      | (go_at_call 44; (with_reducible refine cF.mono ?_); rintro e w1 ⟨rfl, hw1⟩; subst w1; clear cF)
      | (go_at_call 45; (with_reducible refine cR.mono ?_); rintro e w2 ⟨rfl, hb2⟩; replace hend := hend _ (hF1.trans (hb2.mono hF1.size)); clear cR hb2)
      | fail)
    go_ret
    exact hend.out
  rw [t0] at cS
  simp only [bkI, hf] at cF
  rw [hr] at cR
  rw [hyes he, he]
  clear hno hyes he hf hr h
  obtain ⟨ko, ao, cap, h1⟩ := h1
  have hsp : ∀ W9, Below W1.heap.size W1 W9 → RkB W9 r S ko ao cap b ∧ Blk W9 W.heap.size 44 (cOrd ⟨x0, x1, x2, x3, x4, x5, x6⟩) ∧ Below W.heap.size W W9 := fun W9 hb => ⟨h1.below hb, hBx.below hb hBx.lt, hF1.trans (hb.mono hF1.size)⟩
  replace hsp := Lib.hid hsp
  obtain ⟨i1, hi1, e1⟩ := Option.map_eq_some_iff.1 infoKOrd
  simp only [Prod.mk.injEq] at e1
  obtain ⟨hz1, hs1, hb1⟩ := e1
  clear h1 hBx hF1
  go_enter Tryd.func22, Tryd.ntmps22
  go_wp2_with (first
    | (go_at_call 43; rw [← hW1]; (with_reducible refine cS.mono ?_); rintro e w1 ⟨rfl, rfl⟩; clear hW1 cS)
    | (go_at_call 44; (with_reducible refine cF.mono ?_); rintro e w1 ⟨rfl, hw1⟩; subst w1; clear cF)
    | (go_at_call 45; (with_reducible refine cR.mono ?_); rintro e W9 ⟨rfl, hb2⟩; clear cR b0 b1 b2 b3 b4 b5 b6)
    | fail)
  obtain ⟨h9, hB9, hF9⟩ := hsp.out _ hb2
  clear hsp hb2 t0 t1 t2 t3 t4
  have hsrc1 : ∀ w, Below W9.heap.size W9 w → SrcG 7 w ao cap b.L.length (ocs b.L) := fun w hb => (h9.below hb).how.src (ocs_one _)
  have kcell : ∀ w, Below W9.heap.size W9 w → w.cell? ⟨r, 2, none⟩ = some (.slice ao b.L.length cap) := fun w hb => (h9.below hb).c2
  have kbox : ∀ w, Below W9.heap.size W9 w → _ := fun w hb => Ord.cells (hB9.below hb hB9.lt)
  have hfz : ∀ w, Below W9.heap.size W9 w → w.frozen? ⟨r, 2, none⟩ = false := fun w hb => (h9.below hb).hr.free 2
  have hone := cOrd_one ⟨x0, x1, x2, x3, x4, x5, x6⟩
  have fin : ∀ w2 ao2 cap2 ko2, Below W9.heap.size W9 w2 → (∀ k, ko2 = some k → W9.heap.size ≤ k) → OwG 44 7 w2 ko2 ao2 cap2 (b.L.length + 1) (ocs b.L ++ (cOrd ⟨x0, x1, x2, x3, x4, x5, x6⟩).toList) →
      (∃ S', RK (w2.setCell ⟨r, 2, none⟩ (.slice ao2 (b.L.length + 1) cap2)) r S' { b with L := b.L ++ [⟨x0, x1, x2, x3, x4, x5, x6⟩] } ∧ ∀ c, S' c → S c ∨ W.heap.size ≤ c) ∧ Frm S W (w2.setCell ⟨r, 2, none⟩ (.slice ao2 (b.L.length + 1) cap2)) := by
    intro w2 ao2 cap2 ko2 hb hk' ho
    have e1 : (b.L ++ [(⟨x0, x1, x2, x3, x4, x5, x6⟩ : Ord)]).length = b.L.length + 1 := by simp
    have e2 := ocs_snoc b.L ⟨x0, x1, x2, x3, x4, x5, x6⟩
    obtain ⟨⟨S', g1, g2⟩, g3⟩ := h9.lay hb (L := b.L ++ [⟨x0, x1, x2, x3, x4, x5, x6⟩]) (by rw [e1, e2]; exact ho) hk'
    rw [e1] at g1 g3
    exact ⟨⟨S', g1, fun c e => (g2 c e).imp id (fun g => Nat.le_trans hF9.size g)⟩, (Frm.of_below hF9).trans g3 (fun c e => .inl e)⟩
  have bD : Below W9.heap.size W9 W9.drew := (Below.refl _ _).drew
  simp only at kbox
  clear h9 hB9 hF9
  generalize b.L.length = n at *
  replace fin := Lib.hid fin
  replace fin := fin.out
  refine GoL.start (S := Slq (fun w => Below W9.heap.size W9 w) 12) (by kernel_rfl) (fun _ => bD) ?_
  generalize W9.drew = U at bD ⊢
  have bV := bD
  clear bD
  have lV := bV.size
  refine GoL.take (i := 0) (v := ?_) rfl rfl (by kernel_rfl) (fun _ _ _ h => h) (fun _ _ => Slq.other (by decide)) (by rfl) ?_ ?_
  rotate_left
  · intro wx hwx
    go_simp
    try with_reducible rfl
  try simp only [Act.put, List.setIfInBounds_toArray, List.set_cons_zero, List.set_cons_succ, List.getElem_toArray, List.getElem_cons_zero, List.getElem_cons_succ, Nat.zero_add, List.nil_append]
  refine GoL.take (i := 2) (v := ?_) rfl rfl (by kernel_rfl) (fun _ _ _ h => h) (fun _ _ => Slq.other (by decide)) (by rfl) ?_ ?_
  rotate_left
  · intro wx hwx
    go_simp
    try with_reducible rfl
  try simp only [Act.put, List.setIfInBounds_toArray, List.set_cons_zero, List.set_cons_succ, List.getElem_toArray, List.getElem_cons_zero, List.getElem_cons_succ, Nat.zero_add, List.nil_append]
  refine GoL.take (i := 3) (v := ?_) rfl rfl (by kernel_rfl) (fun _ _ _ h => h) (fun _ _ => Slq.other (by decide)) (by rfl) ?_ ?_
  rotate_left
  · intro wx hwx
    go_simp
    try with_reducible rfl
  try simp only [Act.put, List.setIfInBounds_toArray, List.set_cons_zero, List.set_cons_succ, List.getElem_toArray, List.getElem_cons_zero, List.getElem_cons_succ, Nat.zero_add, List.nil_append]
  refine GoL.take (i := 4) (v := ?_) rfl rfl (by kernel_rfl) (fun _ _ _ h => h) (fun _ _ => Slq.other (by decide)) (by rfl) ?_ ?_
  rotate_left
  · intro wx hwx
    go_simp
    try with_reducible rfl
  try simp only [Act.put, List.setIfInBounds_toArray, List.set_cons_zero, List.set_cons_succ, List.getElem_toArray, List.getElem_cons_zero, List.getElem_cons_succ, Nat.zero_add, List.nil_append]
  refine GoL.take (i := 5) (v := ?_) rfl rfl (by kernel_rfl) (fun _ _ _ h => h) (fun _ _ => Slq.other (by decide)) (by rfl) ?_ ?_
  rotate_left
  · intro wx hwx
    have x9 := kcell _ (Slq.wi (fun L h1 h2 => (Closed.not h1 (i := 9) (by kernel_rfl) (Closed.not h1 (i := 6) (by kernel_rfl) (Closed.not h1 (i := 5) (by kernel_rfl) (ready_not h2))))) hwx)
    go_simp
    try with_reducible rfl
  try simp only [Act.put, List.setIfInBounds_toArray, List.set_cons_zero, List.set_cons_succ, List.getElem_toArray, List.getElem_cons_zero, List.getElem_cons_succ, Nat.zero_add, List.nil_append]
  refine GoL.take (i := 7) (v := ?_) rfl rfl (by kernel_rfl) (fun _ _ _ h => h) (fun _ _ => Slq.other (by decide)) (by rfl) ?_ ?_
  rotate_left
  · intro wx hwx
    obtain ⟨z0, z1, z2, z3, z4, z5, z6⟩ := kbox _ (Slq.wi (fun L h1 h2 => (Closed.not h1 (i := 9) (by kernel_rfl) (Closed.not h1 (i := 8) (by kernel_rfl) (Closed.not h1 (i := 7) (by kernel_rfl) (ready_not h2))))) hwx)
    go_simp
    try with_reducible rfl
  try simp only [Act.put, List.setIfInBounds_toArray, List.set_cons_zero, List.set_cons_succ, List.getElem_toArray, List.getElem_cons_zero, List.getElem_cons_succ, Nat.zero_add, List.nil_append]
  refine GoL.on (rs := [1, 8]) (by kernel_rfl) (by decide) ?_
  refine OnL.cons rfl ?_ (OnL.cons rfl ?_ OnL.nil)
  · intro K hK
    replace hK := Lib.hid hK
    go_simp
    have b1 := bV.alloc bV.size (.cells #[] 44)
    refine hK.out _ _ (fun _ => b1) ?_
    clear hK
    try simp only [Act.put, List.setIfInBounds_toArray, List.set_cons_zero, List.set_cons_succ, List.getElem_toArray, List.getElem_cons_zero, List.getElem_cons_succ, Nat.zero_add, List.nil_append]
    refine GoL.on (rs := [6, 8]) (by kernel_rfl) (by decide) ?_
    refine OnL.cons rfl ?_ (OnL.cons rfl ?_ OnL.nil)
    · intro K hK
      replace hK := Lib.hid hK
      refine step_appG rfl (.tmp 44) (.tmp 48) 22 44 i1 _ 7 56 Tryd.underlying22 hi1 hz1 hs1 hb1 rfl (by decide) rfl (OwG.emptyK _ _ U) (hsrc1 _ b1) rfl rfl (by omega) (by omega) ?_
      intro ao1 cap1 ko1 w2 ho1 hf1 hm1
      rw [Nat.zero_add, List.nil_append] at ho1
      try simp only [Nat.zero_add]
      obtain ⟨b2, hk1⟩ := app_newK b1 b1.size (fun k e => by cases e; exact lV) hf1 hm1
      clear hf1 hm1
      refine hK.out _ _ (fun _ => b2) ?_
      clear hK
      try simp only [Act.put, List.setIfInBounds_toArray, List.set_cons_zero, List.set_cons_succ, List.getElem_toArray, List.getElem_cons_zero, List.getElem_cons_succ, Nat.zero_add, List.nil_append]
      refine GoL.on (rs := [8]) (by kernel_rfl) (by decide) ?_
      refine OnL.cons rfl ?_ OnL.nil
      intro K hK
      replace hK := Lib.hid hK
      go_simp
      have b4 := b2.alloc b2.size (.cells (cOrd ⟨x0, x1, x2, x3, x4, x5, x6⟩) 44)
      refine hK.out _ _ (fun _ => b4) ?_
      clear hK
      try simp only [Act.put, List.setIfInBounds_toArray, List.set_cons_zero, List.set_cons_succ, List.getElem_toArray, List.getElem_cons_zero, List.getElem_cons_succ, Nat.zero_add, List.nil_append]
      refine GoL.on (rs := [9]) (by kernel_rfl) (by decide) ?_
      refine OnL.cons rfl ?_ OnL.nil
      intro K hK
      replace hK := Lib.hid hK
      refine step_appG rfl (.tmp 49) (.tmp 51) 22 44 i1 _ 7 56 Tryd.underlying22 hi1 hz1 hs1 hb1 rfl (by decide) rfl (ho1.alloc _) (SrcG.row (cs := cOrd ⟨x0, x1, x2, x3, x4, x5, x6⟩) (Blk.new _ _ _) rfl hone) rfl rfl (by omega) (by omega) ?_
      intro ao2 cap2 ko2 w3 ho2 hf2 hm2
      obtain ⟨b5, hk2⟩ := app_newK b4 b4.size hk1 hf2 hm2
      have hfin := Lib.hid (fin w3 ao2 cap2 ko2 b5 hk2 ho2)
      have cst := kcell w3 b5
      have fst := hfz w3 b5
      clear hf2 hm2 ho1 ho2
      refine hK.out _ _ (fun _ => b5) ?_
      clear hK
      try simp only [Act.put, List.setIfInBounds_toArray, List.set_cons_zero, List.set_cons_succ, List.getElem_toArray, List.getElem_cons_zero, List.getElem_cons_succ, Nat.zero_add, List.nil_append]
      refine GoL.take (i := 10) (v := ?_) rfl rfl (by kernel_rfl) (fun _ _ _ h => h) (fun _ _ => Slq.other (by decide)) (by rfl) ?_ ?_
      rotate_left
      · intro wx hwx
        go_simp
        try with_reducible rfl
      try simp only [Act.put, List.setIfInBounds_toArray, List.set_cons_zero, List.set_cons_succ, List.getElem_toArray, List.getElem_cons_zero, List.getElem_cons_succ, Nat.zero_add, List.nil_append]
      refine GoL.take (i := 11) (v := ?_) rfl rfl (by kernel_rfl) (fun _ _ _ h => h) (fun _ _ => Slq.other (by decide)) (by rfl) ?_ ?_
      rotate_left
      · intro wx hwx
        go_simp
        try with_reducible rfl
      try simp only [Act.put, List.setIfInBounds_toArray, List.set_cons_zero, List.set_cons_succ, List.getElem_toArray, List.getElem_cons_zero, List.getElem_cons_succ, Nat.zero_add, List.nil_append]
      refine GoL.on (rs := [12]) (by kernel_rfl) (by decide) ?_
      refine OnL.cons rfl ?_ OnL.nil
      intro K hK
      replace hK := Lib.hid hK
      go_simp
      refine hK.out _ _ (Slq.last (by simp)) ?_
      clear hK
      try simp only [Act.put, List.setIfInBounds_toArray, List.set_cons_zero, List.set_cons_succ, List.getElem_toArray, List.getElem_cons_zero, List.getElem_cons_succ, Nat.zero_add, List.nil_append]
      refine GoL.done (by kernel_rfl) ?_
      refine NoPanic.normal ?_
      clear fin kcell kbox hsrc1 bV hfz
      go_wp2_with fail
      go_ret
      exact ⟨rfl, hfin.out⟩
    · intro K hK
      replace hK := Lib.hid hK
      go_simp
      have b3 := b1.alloc b1.size (.cells (cOrd ⟨x0, x1, x2, x3, x4, x5, x6⟩) 44)
      refine hK.out _ _ (fun _ => b3) ?_
      clear hK
      try simp only [Act.put, List.setIfInBounds_toArray, List.set_cons_zero, List.set_cons_succ, List.getElem_toArray, List.getElem_cons_zero, List.getElem_cons_succ, Nat.zero_add, List.nil_append]
      refine GoL.on (rs := [6]) (by kernel_rfl) (by decide) ?_
      refine OnL.cons rfl ?_ OnL.nil
      intro K hK
      replace hK := Lib.hid hK
      refine step_appG rfl (.tmp 44) (.tmp 48) 22 44 i1 _ 7 56 Tryd.underlying22 hi1 hz1 hs1 hb1 rfl (by decide) rfl ((OwG.emptyK _ _ U).alloc _) (hsrc1 _ b3) rfl rfl (by omega) (by omega) ?_
      intro ao1 cap1 ko1 w2 ho1 hf1 hm1
      rw [Nat.zero_add, List.nil_append] at ho1
      try simp only [Nat.zero_add]
      have hrow : Blk w2 (U.heap.size + 1) 44 (cOrd ⟨x0, x1, x2, x3, x4, x5, x6⟩) := blk_frmK (Blk.new' (by simp)) hf1 (fun e => by have := Option.some.inj e; omega)
      obtain ⟨b4, hk1⟩ := app_newK b3 b3.size (fun k e => by cases e; exact lV) hf1 hm1
      clear hf1 hm1
      refine hK.out _ _ (fun _ => b4) ?_
      clear hK
      try simp only [Act.put, List.setIfInBounds_toArray, List.set_cons_zero, List.set_cons_succ, List.getElem_toArray, List.getElem_cons_zero, List.getElem_cons_succ, Nat.zero_add, List.nil_append]
      refine GoL.on (rs := [9]) (by kernel_rfl) (by decide) ?_
      refine OnL.cons rfl ?_ OnL.nil
      intro K hK
      replace hK := Lib.hid hK
      refine step_appG rfl (.tmp 49) (.tmp 51) 22 44 i1 _ 7 56 Tryd.underlying22 hi1 hz1 hs1 hb1 rfl (by decide) rfl ho1 (SrcG.row (cs := cOrd ⟨x0, x1, x2, x3, x4, x5, x6⟩) hrow rfl hone) rfl rfl (by omega) (by omega) ?_
      intro ao2 cap2 ko2 w3 ho2 hf2 hm2
      obtain ⟨b5, hk2⟩ := app_newK b4 b4.size hk1 hf2 hm2
      have hfin := Lib.hid (fin w3 ao2 cap2 ko2 b5 hk2 ho2)
      have cst := kcell w3 b5
      have fst := hfz w3 b5
      clear hf2 hm2 ho1 ho2
      refine hK.out _ _ (fun _ => b5) ?_
      clear hK
      try simp only [Act.put, List.setIfInBounds_toArray, List.set_cons_zero, List.set_cons_succ, List.getElem_toArray, List.getElem_cons_zero, List.getElem_cons_succ, Nat.zero_add, List.nil_append]
      refine GoL.take (i := 10) (v := ?_) rfl rfl (by kernel_rfl) (fun _ _ _ h => h) (fun _ _ => Slq.other (by decide)) (by rfl) ?_ ?_
      rotate_left
      · intro wx hwx
        go_simp
        try with_reducible rfl
      try simp only [Act.put, List.setIfInBounds_toArray, List.set_cons_zero, List.set_cons_succ, List.getElem_toArray, List.getElem_cons_zero, List.getElem_cons_succ, Nat.zero_add, List.nil_append]
      refine GoL.take (i := 11) (v := ?_) rfl rfl (by kernel_rfl) (fun _ _ _ h => h) (fun _ _ => Slq.other (by decide)) (by rfl) ?_ ?_
      rotate_left
      · intro wx hwx
        go_simp
        try with_reducible rfl
      try simp only [Act.put, List.setIfInBounds_toArray, List.set_cons_zero, List.set_cons_succ, List.getElem_toArray, List.getElem_cons_zero, List.getElem_cons_succ, Nat.zero_add, List.nil_append]
      refine GoL.on (rs := [12]) (by kernel_rfl) (by decide) ?_
      refine OnL.cons rfl ?_ OnL.nil
      intro K hK
      replace hK := Lib.hid hK
      go_simp
      refine hK.out _ _ (Slq.last (by simp)) ?_
      clear hK
      try simp only [Act.put, List.setIfInBounds_toArray, List.set_cons_zero, List.set_cons_succ, List.getElem_toArray, List.getElem_cons_zero, List.getElem_cons_succ, Nat.zero_add, List.nil_append]
      refine GoL.done (by kernel_rfl) ?_
      refine NoPanic.normal ?_
      clear fin kcell kbox hsrc1 bV hfz
      go_wp2_with fail
      go_ret
      exact ⟨rfl, hfin.out⟩
  · intro K hK
    replace hK := Lib.hid hK
    go_simp
    have b1 := bV.alloc bV.size (.cells (cOrd ⟨x0, x1, x2, x3, x4, x5, x6⟩) 44)
    refine hK.out _ _ (fun _ => b1) ?_
    clear hK
    try simp only [Act.put, List.setIfInBounds_toArray, List.set_cons_zero, List.set_cons_succ, List.getElem_toArray, List.getElem_cons_zero, List.getElem_cons_succ, Nat.zero_add, List.nil_append]
    refine GoL.on (rs := [1]) (by kernel_rfl) (by decide) ?_
    refine OnL.cons rfl ?_ OnL.nil
    intro K hK
    replace hK := Lib.hid hK
    go_simp
    have b3 := b1.alloc b1.size (.cells #[] 44)
    refine hK.out _ _ (fun _ => b3) ?_
    clear hK
    try simp only [Act.put, List.setIfInBounds_toArray, List.set_cons_zero, List.set_cons_succ, List.getElem_toArray, List.getElem_cons_zero, List.getElem_cons_succ, Nat.zero_add, List.nil_append]
    refine GoL.on (rs := [6]) (by kernel_rfl) (by decide) ?_
    refine OnL.cons rfl ?_ OnL.nil
    have hE : OwG 44 7 ((U.alloc (.cells (cOrd ⟨x0, x1, x2, x3, x4, x5, x6⟩) 44)).alloc (.cells #[] 44)) (some (U.heap.size + 1)) (some ⟨U.heap.size + 1, 0, none⟩) 0 0 [] := by have := OwG.emptyK 44 7 (U.alloc (.cells (cOrd ⟨x0, x1, x2, x3, x4, x5, x6⟩) 44)); rwa [World.size_alloc] at this
    intro K hK
    replace hK := Lib.hid hK
    refine step_appG rfl (.tmp 44) (.tmp 48) 22 44 i1 _ 7 56 Tryd.underlying22 hi1 hz1 hs1 hb1 rfl (by decide) rfl hE (hsrc1 _ b3) rfl rfl (by omega) (by omega) ?_
    intro ao1 cap1 ko1 w2 ho1 hf1 hm1
    rw [Nat.zero_add, List.nil_append] at ho1
    try simp only [Nat.zero_add]
    have hrow : Blk w2 U.heap.size 44 (cOrd ⟨x0, x1, x2, x3, x4, x5, x6⟩) := blk_frmK ((Blk.new _ _ _).alloc _) hf1 (fun e => by have := Option.some.inj e; omega)
    obtain ⟨b4, hk1⟩ := app_newK b3 b3.size (fun k e => by cases e; omega) hf1 hm1
    clear hf1 hm1
    refine hK.out _ _ (fun _ => b4) ?_
    clear hK
    try simp only [Act.put, List.setIfInBounds_toArray, List.set_cons_zero, List.set_cons_succ, List.getElem_toArray, List.getElem_cons_zero, List.getElem_cons_succ, Nat.zero_add, List.nil_append]
    refine GoL.on (rs := [9]) (by kernel_rfl) (by decide) ?_
    refine OnL.cons rfl ?_ OnL.nil
    intro K hK
    replace hK := Lib.hid hK
    refine step_appG rfl (.tmp 49) (.tmp 51) 22 44 i1 _ 7 56 Tryd.underlying22 hi1 hz1 hs1 hb1 rfl (by decide) rfl ho1 (SrcG.row (cs := cOrd ⟨x0, x1, x2, x3, x4, x5, x6⟩) hrow rfl hone) rfl rfl (by omega) (by omega) ?_
    intro ao2 cap2 ko2 w3 ho2 hf2 hm2
    obtain ⟨b5, hk2⟩ := app_newK b4 b4.size hk1 hf2 hm2
    have hfin := Lib.hid (fin w3 ao2 cap2 ko2 b5 hk2 ho2)
    have cst := kcell w3 b5
    have fst := hfz w3 b5
    clear hf2 hm2 ho1 ho2
    refine hK.out _ _ (fun _ => b5) ?_
    clear hK
    try simp only [Act.put, List.setIfInBounds_toArray, List.set_cons_zero, List.set_cons_succ, List.getElem_toArray, List.getElem_cons_zero, List.getElem_cons_succ, Nat.zero_add, List.nil_append]
    refine GoL.take (i := 10) (v := ?_) rfl rfl (by kernel_rfl) (fun _ _ _ h => h) (fun _ _ => Slq.other (by decide)) (by rfl) ?_ ?_
    rotate_left
    · intro wx hwx
      go_simp
      try with_reducible rfl
    try simp only [Act.put, List.setIfInBounds_toArray, List.set_cons_zero, List.set_cons_succ, List.getElem_toArray, List.getElem_cons_zero, List.getElem_cons_succ, Nat.zero_add, List.nil_append]
    refine GoL.take (i := 11) (v := ?_) rfl rfl (by kernel_rfl) (fun _ _ _ h => h) (fun _ _ => Slq.other (by decide)) (by rfl) ?_ ?_
    rotate_left
    · intro wx hwx
      go_simp
      try with_reducible rfl
    try simp only [Act.put, List.setIfInBounds_toArray, List.set_cons_zero, List.set_cons_succ, List.getElem_toArray, List.getElem_cons_zero, List.getElem_cons_succ, Nat.zero_add, List.nil_append]
    refine GoL.on (rs := [12]) (by kernel_rfl) (by decide) ?_
    refine OnL.cons rfl ?_ OnL.nil
    intro K hK
    replace hK := Lib.hid hK
    go_simp
    refine hK.out _ _ (Slq.last (by simp)) ?_
    clear hK
    try simp only [Act.put, List.setIfInBounds_toArray, List.set_cons_zero, List.set_cons_succ, List.getElem_toArray, List.getElem_cons_zero, List.getElem_cons_succ, Nat.zero_add, List.nil_append]
    refine GoL.done (by kernel_rfl) ?_
    refine NoPanic.normal ?_
    clear fin kcell kbox hsrc1 bV hfz
    go_wp2_with fail
    go_ret
    exact ⟨rfl, hfin.out⟩
end
end Go.Proofs.YtdmjcjheanedgaaDoor
