/-
  The walk of LadderSorts.
-/
import Derived.Test.YthlpnlmjpdcbiaaLsb
import Derived.Test.YthlpnlmjpdcbiaaLal
import Derived.Deep.LoopGhost
namespace Go.Proofs.Ythlpnlmjpdcbiaa
open Go.RowKit
set_option linter.unusedSimpArgs false
theorem make_Bo : ∀ w, (Instr.makeSlice 54 (.int .i64 40) (.int .i64 40)).run Try.prog w = .ok (.slice (some ⟨w.heap.size, 0, none⟩) 40 40) (w.alloc (.cells (qfl []) 4)) := by
  intro w
  obtain ⟨i1, hi1, e1⟩ := Option.map_eq_some_iff.1 infoBo
  simp only [Prod.mk.injEq] at e1
  obtain ⟨hz1, hs1, hb1⟩ := e1
  have h := run_make (P := Try.prog) (w := w) 54 4 i1 _ Try.underlying54 hi1 hz1 .i64 .i64 40 40 (by omega) (by omega) (by rw [hb1]; omega) (by omega)
  rw [hs1] at h
  have e : madeCells (Value.bool false).cells ((40 : Int).toNat * 1) = qfl [] := by kernel_rfl
  rw [e] at h
  exact h
/-- A level of which so many orders of 3 are gone. -/
def lvk (p : Int) (c u k : Nat) : Lvl := ⟨p, 3 * ((c : Int) - k), (c : Int) - k, u⟩
theorem lvk_sub (p : Int) (c u k : Nat) : (lvk p c u k).sub 3 true = lvk p c u (k + 1) := by
  simp only [lvk, Lvl.sub, if_true, Lvl.mk.injEq, true_and, and_true]
  omega
/-- What is left of a side whose best level is being taken away. -/
def Left (buy : Bool) (n : Nat) (t : Ld) (p : Int) (c u k : Nat) (Q : List Lvl) : Prop := t.Wf n ∧ t.buy = buy ∧ (k < c → Ord buy t.L (lvk p c u k :: Q)) ∧ (k = c → Ord buy t.L Q)
theorem Left.step {buy : Bool} {n : Nat} {t : Ld} {p : Int} {c u k : Nat} {Q : List Lvl} (h : Left buy n t p c u k Q) (hk : k < c) : t.takeR p 3 = ((u : Int), 0) ∧ Left buy n (t.takeS p 3 true) p c u (k + 1) Q := by
  obtain ⟨h1, h2, h3, -⟩ := h
  have hO := h3 hk
  rw [← h2] at hO
  obtain ⟨e1, e2, -, e4, e5⟩ := take_best h1 hO (by simp only [lvk]; omega)
  refine ⟨e1, h1.take _ _ _, e2.trans h2, fun g => ?_, fun g => ?_⟩
  · have := e5 (by simp only [lvk]; omega)
    rwa [lvk_sub, h2] at this
  · have := e4 (by simp only [lvk]; omega)
    rwa [h2] at this
theorem sumO_nonneg {P : List Lvl} (h : ∀ x ∈ P, 1 ≤ x.orders) : 0 ≤ sumO P := by
  induction P with
  | nil => exact Int.le_refl _
  | cons x t ih =>
    have h1 := h x (by simp)
    have h2 := ih fun y hy => h y (by simp [hy])
    simp only [sumO]
    omega
theorem Sp2.cells {W w : World} {g q b : Nat} {s : Ld} {I : List Nat} {x : Lvl} (h : Sp2 W g s q I b x w) : w.cell? ⟨b, 0, none⟩ = some (.int .i64 x.price) ∧ w.cell? ⟨b, 1, none⟩ = some (.int .i64 x.qty) ∧ w.cell? ⟨b, 2, none⟩ = some (.int .i64 x.orders) ∧ w.cell? ⟨b, 3, none⟩ = some (.int .i64 x.queue) :=
  ⟨h.bx.cell_eq 0 _ rfl, h.bx.cell_eq 1 _ rfl, h.bx.cell_eq 2 _ rfl, h.bx.cell_eq 3 _ rfl⟩
theorem Sp2.flagc {W w : World} {g q b : Nat} {s : Ld} {I : List Nat} {x : Lvl} (h : Sp2 W g s q I b x w) {u : Nat} (hu : u < 40) (hI : u ∉ I) : w.cell? ⟨q, u, none⟩ = some (.bool false) := by
  have := h.fl.cell_eq u _ (qfl_get hu)
  rwa [decide_eq_false hI] at this
theorem Sp2.drewN {W w : World} {g q b : Nat} {s : Ld} {I : List Nat} {x : Lvl} (h : Sp2 W g s q I b x w) (n : Nat) : Sp2 W g s q I b x (w.drewN n) := h.below ⟨rfl, rfl, rfl, Nat.le_refl _, fun _ _ => rfl⟩
/-- The levels in their order, behind the orders. -/
structure Ps (buy : Bool) (zs : List Int) (P : List Lvl) : Prop where
  x : ∀ x ∈ P, x.orders = (zs.count x.price : Nat) ∧ x.qty = 3 * ((zs.count x.price : Nat) : Int) ∧ 1 ≤ x.orders ∧ 0 ≤ x.queue ∧ x.queue < 40
  std : Std buy P
  uq : P.Pairwise fun a b => a.queue ≠ b.queue
  sum : sumO P = (zs.length : Nat)
  len : P.length ≤ 40
theorem Fd.ps {buy : Bool} {zs : List Int} {s : Ld} {P : List Lvl} (h : Fd buy zs s) (hz : zs.length ≤ 40) (hP : Ord buy s.L P) : Ps buy zs P := by
  refine ⟨fun x hx => ?_, hP.std, (List.Perm.pairwise_iff (fun e => Ne.symm e) hP.perm).2 h.wf.uniQ, (sumO_perm hP.perm).trans h.sum, ?_⟩
  · have hx := hP.mem.1 hx
    have h1 := h.lev x hx
    have h2 := h.wf.orders x hx
    have h3 := h.wf.queue x hx
    have h4 := h.most
    exact ⟨h1.1, h1.2, h2.1, h3.1, by omega⟩
  · have := hP.len
    have := h.len
    omega
section
variable {buy : Bool} {zs : List Int} {P : List Lvl} {i : Nat}
theorem Ps.at' (h : Ps buy zs P) {x : Lvl} (hx : P[i]? = some x) : ∃ (p : Int) (c u : Nat), x = lvk p c u 0 ∧ zs.count p = c ∧ 1 ≤ c ∧ u < 40 := by
  obtain ⟨h1, h2, h3, h4, h5⟩ := h.x x (List.mem_of_getElem? hx)
  obtain ⟨p, q, o, u⟩ := x
  simp only at h1 h2 h3 h4 h5
  refine ⟨p, zs.count p, u.toNat, ?_, rfl, by omega, by omega⟩
  simp only [lvk, Lvl.mk.injEq, true_and]
  omega
theorem Ps.take_sum (h : Ps buy zs P) (i : Nat) : 0 ≤ sumO (P.take i) ∧ sumO (P.take i) ≤ (zs.length : Nat) := by
  have h1 := sumO_nonneg (P := P.take i) fun x hx => (h.x x (List.mem_of_mem_take hx)).2.2.1
  have h2 := sumO_nonneg (P := P.drop i) fun x hx => (h.x x (List.mem_of_mem_drop hx)).2.2.1
  have h3 := sumO_append (P.take i) (P.drop i)
  rw [List.take_append_drop, h.sum] at h3
  omega
theorem Ps.next_sum {x : Lvl} (hx : P[i]? = some x) : sumO (P.take (i + 1)) = sumO (P.take i) + x.orders := by
  rw [List.take_add_one, hx, sumO_append]
  simp [sumO]
theorem Ps.btr {x y : Lvl} (h : Ps buy zs P) (hi : 0 < i) (hy : P[i - 1]? = some y) (hx : P[i]? = some x) : btr buy y.price x.price = true := by
  obtain ⟨li, rfl⟩ := List.getElem?_eq_some_iff.1 hx
  obtain ⟨lj, rfl⟩ := List.getElem?_eq_some_iff.1 hy
  exact List.pairwise_iff_getElem.1 h.std (i - 1) i lj li (by omega)
/-- What has come to pass before the round of level i. -/
structure Stp (buy : Bool) (n : Nat) (P : List Lvl) (i : Nat) (t : Ld) (I : List Nat) (lv : Int) : Prop where
  lv : 0 < i → ∃ y, P[i - 1]? = some y ∧ y.price = lv
  wf : t.Wf n
  sd : t.buy = buy
  ord : Ord buy t.L (P.drop i)
  I : ∀ u ∈ I, ∃ x ∈ P.take i, x.queue = (u : Int)
  le : i ≤ P.length
variable {n : Nat} {t : Ld} {I : List Nat} {lv : Int}
theorem Stp.out (h : Stp buy zs.length P i t I lv) (hp : Ps buy zs P) (hi : P.length ≤ i) : sumO (P.take i) = (zs.length : Nat) ∧ t.L.length = 0 := by
  have h1 := h.ord.len
  rw [List.drop_eq_nil_of_le hi] at h1
  exact ⟨by rw [List.take_of_length_le hi]; exact hp.sum, h1.symm⟩
theorem Stp.fresh (h : Stp buy n P i t I lv) (hp : Ps buy zs P) {x : Lvl} {u : Nat} (hx : P[i]? = some x) (hu : x.queue = (u : Int)) : u ∉ I := by
  intro hI
  obtain ⟨y, hy, e⟩ := h.I u hI
  obtain ⟨j, hj⟩ := List.mem_iff_getElem?.1 hy
  rw [List.getElem?_take] at hj
  split at hj
  · next hji =>
    obtain ⟨li, rfl⟩ := List.getElem?_eq_some_iff.1 hx
    obtain ⟨lj, rfl⟩ := List.getElem?_eq_some_iff.1 hj
    exact List.pairwise_iff_getElem.1 hp.uq j i lj li hji (e.trans hu.symm)
  · cases hj
theorem Stp.left (h : Stp buy n P i t I lv) {p : Int} {c u : Nat} (hx : P[i]? = some (lvk p c u 0)) (hc : 1 ≤ c) : Left buy n t p c u 0 (P.drop (i + 1)) := by
  obtain ⟨li, e⟩ := List.getElem?_eq_some_iff.1 hx
  have h1 := h.ord
  rw [List.drop_eq_getElem_cons li, e] at h1
  exact ⟨h.wf, h.sd, fun _ => h1, fun e => by omega⟩
theorem Stp.next (h : Stp buy n P i t I lv) {p : Int} {c u : Nat} (hx : P[i]? = some (lvk p c u 0)) {t' : Ld} (hl : Left buy n t' p c u c (P.drop (i + 1))) : Stp buy n P (i + 1) t' (u :: I) p := by
  obtain ⟨h1, h2, -, h3⟩ := hl
  have hli := (List.getElem?_eq_some_iff.1 hx).1
  refine ⟨fun _ => ⟨_, hx, rfl⟩, h1, h2, h3 rfl, fun v hv => ?_, hli⟩
  rw [List.take_add_one, hx]
  rcases List.mem_cons.1 hv with rfl | hv
  · exact ⟨lvk p c v 0, List.mem_append.2 (.inr (by simp)), rfl⟩
  · obtain ⟨y, hy, e⟩ := h.I v hv
    exact ⟨y, List.mem_append.2 (.inl hy), e⟩
end
set_option maxRecDepth 8000 in
set_option maxHeartbeats 8000000 in
theorem sorts_any (x : Int) (ao : Option Addr) (cap : Nat) (zs : List Int) (W : World) (hI : It .i64 W ao cap zs) :
    Calls Try.prog 5 #[.int .i64 x, .slice ao zs.length cap] W fun e w' => e = .returned (.bool true) ∧ Below W.heap.size W w' := by
  have cA := fun w => alive_any w
  have hl1 := hI.len
  have hl2 := hI.top
  unfold maxLen at hl2
  by_cases hx : x ≠ 0 ∧ x ≠ 1
  · have d0 : (x != 0) = true := by simpa using hx.1
    have d1 : (x != 1) = true := by simpa using hx.2
    go_enter Try.func5, Try.ntmps5
    go_wp2_with (go_at_call 8; refine (cA _).mono ?_; rintro e w4 ⟨rfl, hb4⟩)
    all_goals go_ret
    all_goals exact ⟨by simp, hb4⟩
  obtain ⟨buy, rfl⟩ : ∃ buy, x = sdI buy := by
    by_cases h0 : x = 0
    · exact ⟨true, by simp [sdI, h0]⟩
    · exact ⟨false, by simp [sdI]; omega⟩
  clear hx
  have hx01 : ((sdI buy != 0) = true ∧ (sdI buy != 1) = false) ∨ ((sdI buy != 0) = false) := by cases buy <;> simp [sdI]
  by_cases h40 : 40 < zs.length
  · rcases hx01 with ⟨d0, d1⟩ | d0
    all_goals
      generalize sdI buy = x at *
      go_enter Try.func5, Try.ntmps5
      go_wp2_with (go_at_call 8; refine (cA _).mono ?_; rintro e w4 ⟨rfl, hb4⟩)
      all_goals go_ret
      all_goals exact ⟨by simp, hb4⟩
  have c1 : Calls Try.prog 9 #[.int .i64 (sdI buy), .int .i64 40] W fun e w' => ∃ g, e = .returned (.tuple #[.pointer (some ⟨g, 0, none⟩), .int .i64 0]) ∧ Sp0 W g ⟨buy, 40, []⟩ w' :=
    (pnew_any buy 40 (by omega) (by omega) W).mono fun e w' ⟨g, S, F, he, h1, h2, h3, h4⟩ => ⟨g, he, h3, S, new_pl h1 h2 (by omega), h4⟩
  have hfd0 := Lib.hid (Fd.new buy)
  have hBt := fun a b w => better_any buy a b w
  have hmk := make_Bo
  have main : ∀ (d : (sdI buy != 0) = true ∧ (sdI buy != 1) = false ∨ (sdI buy != 0) = false), Calls Try.prog 5 #[.int .i64 (sdI buy), .slice ao zs.length cap] W fun e w' => e = .returned (.bool true) ∧ Below W.heap.size W w' := by
    intro d
    generalize sdI buy = x at *
    generalize hs0 : Ld.mk buy 40 [] = s0 at *
    clear hs0 hx01
    have hzl : zs.length ≤ 40 := by omega
    have d40 : decide ((40 : Int) < (zs.length : Int)) = false := decide_eq_false (by omega)
    clear h40
    rcases d with ⟨d0, d1⟩ | d0
    all_goals
      go_enter Try.func5, Try.ntmps5
      go_wp2_with (go_at_call 9; refine c1.mono ?_; rintro e w1 ⟨g, rfl, hS⟩; clear c1)
      go_loopg [7] zs.length (fun j p7 wr => ∃ (i : Nat) (s : Ld), i + j = zs.length ∧ p7 = .int .i64 (i : Int) ∧ Sp0 W g s wr ∧ Hid (Fd buy (zs.take i) s))
      case atStart => exact ⟨0, s0, by omega, rfl, hS, by simpa using hfd0⟩
      case round =>
        clear hS hfd0
        obtain ⟨i, s, hij, rfl, hS, hf⟩ := hrel
        by_cases hi : i < zs.length
        · obtain ⟨z, hz⟩ : ∃ z, zs[i]? = some z := ⟨zs[i], List.getElem?_eq_getElem hi⟩
          have hi' : decide ((i : Int) < (zs.length : Int)) = true := decide_eq_true (by omega)
          have hil : (i : Int) < (zs.length : Int) := by omega
          obtain ⟨b, off, rfl, hyy⟩ := hI.get hz
          have y0 := hyy wr hS.bel
          have hbel := hS.bel
          have ht : zs.take (i + 1) = zs.take i ++ [z] := by rw [List.take_add_one, hz]; rfl
          have hlt : (zs.take i).length < 40 := by rw [List.length_take]; omega
          by_cases hz1 : z < 1
          · have e1 : decide (z < 1) = true := decide_eq_true hz1
            clear hf hyy ht hS hmk hBt
            go_wp2_with (go_at_call 8; refine (cA _).mono ?_; rintro e w4 ⟨rfl, hb4⟩)
            all_goals go_ret
            all_goals exact ⟨by simp, hbel.trans (hb4.mono hbel.size)⟩
          have e1 : decide (z < 1) = false := decide_eq_false hz1
          by_cases hz2 : 4611686018427387904 < z
          · have e2 : decide (4611686018427387904 < z) = true := decide_eq_true hz2
            clear hf hyy ht hS hmk hBt
            go_wp2_with (go_at_call 8; refine (cA _).mono ?_; rintro e w4 ⟨rfl, hb4⟩)
            all_goals go_ret
            all_goals exact ⟨by simp, hbel.trans (hb4.mono hbel.size)⟩
          have e2 : decide (4611686018427387904 < z) = false := decide_eq_false hz2
          obtain ⟨e0, hf2⟩ := hf.out.put (p := z) (by omega) (by omega) hlt
          have cP := hS.put hf.out.wf (by omega) z 3 (by unfold In64; omega)
          rw [e0] at cP
          rw [← ht] at hf2
          replace hf2 := Lib.hid hf2
          generalize (s.putR z 3).1 = qq at cP
          generalize s.putS z 3 = s2 at *
          clear hf ht hlt e0 hyy hmk hBt hS cA
          go_wp2_with (go_at_call 17; refine cP.mono ?_; rintro e w2 ⟨rfl, hS2⟩; clear cP)
          all_goals go_roundg (zs.length - (i + 1))
          all_goals first
            | omega
            | exact ⟨i + 1, s2, by omega, by go_num, hS2, hf2⟩
        · obtain rfl : i = zs.length := by omega
          have hf := hf.out
          rw [List.take_length] at hf
          have hi' : decide ((zs.length : Int) < (zs.length : Int)) = false := decide_eq_false (by omega)
          obtain ⟨P, hP⟩ := Ord.exists (buy := buy) hf.wf.uniP
          have hps := hf.ps hzl hP
          have hst : Stp buy zs.length P 0 s [] 0 := ⟨fun h => absurd h (by omega), hf.wf, hf.buy, by simpa using hP, fun u hu => absurd hu List.not_mem_nil, Nat.zero_le _⟩
          replace hst := Lib.hid hst
          replace hps := Lib.hid hps
          have hS1 := hS.flags
          have hmk1 := hmk wr
          obtain ⟨w5, hw5⟩ : ∃ w5, w5 = wr.alloc (.cells (qfl []) 4) := ⟨_, rfl⟩
          rw [← hw5] at hS1 hmk1
          generalize wr.heap.size = bq at *
          clear hw5 hmk hf hS hP
          go_wp2_with fail
          go_loopg [11, 12, 13] 40 (fun j p11 p12 p13 wr => ∃ (i : Nat) (t : Ld) (I : List Nat) (lv : Int), i + j = 40 ∧ p13 = .int .i64 (i : Int) ∧ p12 = .int .i64 (sumO (P.take i)) ∧ p11 = .int .i64 lv ∧ Sp1 W g t bq I wr ∧ Hid (Stp buy zs.length P i t I lv))
          case atStart => exact ⟨0, s, [], 0, by omega, rfl, by simp [sumO], rfl, hS1, hst⟩
          case round =>
            clear hS1 hst hmk1 hi' hi
            obtain ⟨i, t, I, lv, hij, rfl, rfl, rfl, hS, hst⟩ := hrel
            by_cases hi : i < 40
            · have hi' : decide ((i : Int) < 40) = true := decide_eq_true (by omega)
              have cB := hS.best (P := P.drop i) (by rw [hst.out.sd]; exact hst.out.ord)
              rw [List.getElem?_drop, Nat.add_zero] at cB
              rw [← hst.out.ord.len, List.length_drop] at cB
              cases hx : P[i]? with
              | none =>
                have hPi := List.getElem?_eq_none_iff.1 hx
                rw [hx, Option.getD_none, decide_eq_false (by omega)] at cB
                obtain ⟨hts, htl⟩ := hst.out.out hps.out hPi
                rw [hts]
                have hal : ∀ w, Below wr.heap.size wr w → ∃ w', w' = w.alloc (.cells (cLvl Lvl.zero) 40) ∧ Sp1 W g t bq I w' := fun w h => ⟨_, rfl, ((hS.below h).box Lvl.zero).open⟩
                clear hS hst hps hBt hts hPi hx hij
                simp only [cLvl, vLvl, Lvl.zero] at cB hal
                go_wp2_with (go_at_call 13; refine cB.mono ?_; rintro e w6 ⟨rfl, hb6⟩; clear cB)
                obtain ⟨w7, hw7, hS⟩ := hal _ hb6
                rw [← hw7]
                clear hal hw7 hb6
                have cL := hS.lenq
                rw [htl] at cL
                have hbel := hS.bel
                clear hS htl
                go_wp2_with (first
                  | (go_at_call 12; refine cL.mono ?_; rintro e w8 ⟨rfl, rfl⟩; clear cL)
                  | (go_at_call 8; refine (cA _).mono ?_; rintro e w4 ⟨rfl, hb4⟩))
                all_goals go_ret
                all_goals exact ⟨by simp, hbel.trans (hb4.mono hbel.size)⟩
              | some x =>
                have hPi := (List.getElem?_eq_some_iff.1 hx).1
                obtain ⟨pr, c, u, rfl, hcn, hc1, hu⟩ := hps.out.at' hx
                rw [hx, Option.getD_some, decide_eq_true (by omega)] at cB
                have hcl : c ≤ zs.length := by rw [← hcn]; exact List.count_le_length
                have hal : ∀ w, Below wr.heap.size wr w → ∃ w', w' = w.alloc (.cells (cLvl (lvk pr c u 0)) 40) ∧ Sp2 W g t bq I w.heap.size (lvk pr c u 0) w' := fun w h => ⟨_, rfl, ((hS.below h).box (lvk pr c u 0))⟩
                have hlf := Lib.hid (hst.out.left hx hc1)
                have hfr := hst.out.fresh hps.out (u := u) hx rfl
                have hsb := hps.out.take_sum i
                have hsn := Lib.hid (Ps.next_sum hx)
                have hbt : Hid (0 < i → btr buy lv pr = true) := Lib.hid fun h => by
                  obtain ⟨y, hy, e⟩ := hst.out.lv h
                  rw [← e]
                  exact hps.out.btr h hy hx
                have hnx : Hid (∀ t', Left buy zs.length t' pr c u c (P.drop (i + 1)) → Hid (Stp buy zs.length P (i + 1) t' (u :: I) pr)) := Lib.hid fun t' h => Lib.hid (hst.out.next hx h)
                have hlv : lvk pr c u 0 = ⟨pr, 3 * (c : Int), (c : Int), (u : Int)⟩ := by simp only [lvk, Lvl.mk.injEq, true_and, and_true]; omega
                rw [hlv] at cB hal
                rw [hlv] at hsn
                simp only at hsn
                clear hst hps hS hlv hx
                simp only [vLvl] at cB
                simp only [cLvl] at hal
                go_wp2_with (go_at_call 13; refine cB.mono ?_; rintro e w6 ⟨rfl, hb6⟩; clear cB)
                obtain ⟨w7, hw7, hS⟩ := hal _ hb6
                rw [← hw7]
                generalize w6.heap.size = bb at *
                clear hal hw7 hb6
                go_loopg [16, 17] zs.length (fun j p16 p17 wr => ∃ k : Nat, k + j = zs.length ∧ p17 = .int .i64 (k : Int) ∧ p16 = .int .i64 (((zs.take k).count pr : Nat) : Int) ∧ Sp2 W g t bq I bb ⟨pr, 3 * (c : Int), (c : Int), (u : Int)⟩ wr)
                case atStart => exact ⟨0, by omega, rfl, by simp, hS⟩
                case round =>
                  clear hS
                  obtain ⟨k, hkj, rfl, rfl, hS⟩ := hrel
                  obtain ⟨x0, x1, x2, x3⟩ := hS.cells
                  simp only at x0 x1 x2 x3
                  by_cases hk : k < zs.length
                  · obtain ⟨z, hz⟩ : ∃ z, zs[k]? = some z := ⟨zs[k], List.getElem?_eq_getElem hk⟩
                    have hk' : decide ((k : Int) < (zs.length : Int)) = true := decide_eq_true (by omega)
                    have hkl : (k : Int) < (zs.length : Int) := by omega
                    obtain ⟨b, off, rfl, hyy⟩ := hI.get hz
                    have y0 := hyy wr hS.bel
                    have ht : zs.take (k + 1) = zs.take k ++ [z] := by rw [List.take_add_one, hz]; rfl
                    have hct := count_snoc (zs.take k) z pr
                    rw [← ht] at hct
                    have hcb := List.count_le_length (a := pr) (l := zs.take k)
                    rw [List.length_take] at hcb
                    clear hyy ht hz
                    by_cases hzp : z = pr
                    · rw [if_pos hzp] at hct
                      replace hct := Lib.hid hct
                      have hd : (z == pr) = true := by simpa using hzp
                      clear hzp
                      go_wp2_with fail
                      go_quiet (fail)
                      have hS5 := hS.drewN nq
                      clear y0 x0 x1 x2 x3 hS
                      go_wp2_with fail
                      go_roundg (zs.length - (k + 1))
                      case measure => omega
                      case rel => exact ⟨k + 1, by omega, by go_num, by rw [hct.out]; go_num, hS5⟩
                    · rw [if_neg hzp] at hct
                      replace hct := Lib.hid hct
                      have hd : (z == pr) = false := by simpa using hzp
                      clear hzp
                      go_wp2_with fail
                      go_quiet (fail)
                      have hS5 := hS.drewN nq
                      clear y0 x0 x1 x2 x3 hS
                      go_wp2_with fail
                      go_roundg (zs.length - (k + 1))
                      case measure => omega
                      case rel => exact ⟨k + 1, by omega, by go_num, by rw [hct.out, Nat.add_zero], hS5⟩
                  · obtain rfl : k = zs.length := by omega
                    have hk' : decide ((zs.length : Int) < (zs.length : Int)) = false := decide_eq_false (by omega)
                    rw [List.take_length, hcn]
                    have hf0 := hS.flagc hu hfr
                    have hu1 : (u : Int) < 40 := by omega
                    have hu2 : decide ((u : Int) < 0) = false := decide_eq_false (by omega)
                    have hu3 : decide ((39 : Int) < (u : Int)) = false := decide_eq_false (by omega)
                    have hc40 : (c : Int) ≤ 40 := by omega
                    have hff := hS.fl.free u
                    have hS6 := hS.flag hu
                    obtain ⟨z0, z1, z2, z3⟩ := hS6.cells
                    simp only at z0 z1 z2 z3
                    have cBt : 0 < i → Calls Try.prog 18 #[.int .i64 x, .int .i64 lv, .int .i64 pr] wr fun e w' => e = .returned (.bool true) ∧ w' = wr := fun h => by
                      have := hBt lv pr wr
                      rwa [hbt.out h] at this
                    clear hS hBt hcn hfr hu hkj hk
                    clear hbt
                    go_wp2_with (go_at_call 18; refine (cBt (by assumption)).mono ?_; rintro e w2 ⟨rfl, he⟩; have he' := he.symm; clear he; subst he')
                    all_goals
                      clear cBt x0 x1 x2 x3 z0 z1 z2 z3 hf0 hff hk' hu1 hu2 hu3
                      generalize wr.setCell ⟨bq, u, none⟩ (.bool true) = w8 at *
                      go_loopg [18] c (fun j p18 wr => ∃ (k : Nat) (t' : Ld), k + j = c ∧ p18 = .int .i64 (k : Int) ∧ Sp2 W g t' bq (u :: I) bb ⟨pr, 3 * (c : Int), (c : Int), (u : Int)⟩ wr ∧ Hid (Left buy zs.length t' pr c u k (P.drop (i + 1))))
                      case atStart => exact ⟨0, t, by omega, rfl, hS6, hlf⟩
                      case round =>
                        clear hS6 hlf
                        obtain ⟨k, t', hkj, rfl, hS, hlf⟩ := hrel
                        obtain ⟨x0, x1, x2, x3⟩ := hS.cells
                        simp only at x0 x1 x2 x3
                        by_cases hk : k < c
                        · have hk' : decide ((k : Int) < (c : Int)) = true := decide_eq_true (by omega)
                          obtain ⟨e1, hl2⟩ := hlf.out.step hk
                          replace hl2 := Lib.hid hl2
                          have cT := hS.take hlf.out.1 (by omega) pr 3
                          rw [e1] at cT
                          generalize t'.takeS pr 3 true = t2 at *
                          clear hS hlf e1
                          go_wp2_with (go_at_call 19; refine cT.mono ?_; rintro e w2 ⟨rfl, hS2⟩; clear cT; have hx2 := hS2.cells; simp only at hx2; obtain ⟨y0, y1, y2, y3⟩ := hx2)
                          all_goals go_roundg (c - (k + 1))
                          all_goals first
                            | omega
                            | exact ⟨k + 1, t2, by omega, by go_num, hS2, hl2⟩
                        · obtain rfl : k = c := by omega
                          have hk' : decide ((k : Int) < (k : Int)) = false := decide_eq_false (by omega)
                          have hn2 := hnx.out t' hlf.out
                          have hS1 := hS.open
                          clear hS hlf hnx
                          go_wp2_with fail
                          all_goals go_roundg (40 - (i + 1))
                          all_goals first
                            | omega
                            | exact ⟨i + 1, t', u :: I, pr, by omega, by go_num, by rw [hsn.out], rfl, hS1, hn2⟩
            · have hi40 : i = 40 := by omega
              obtain ⟨hts, htl⟩ := hst.out.out hps.out (by have := hps.out.len; omega)
              have cL := hS.lenq
              rw [htl] at cL
              rw [hts]
              have hi' : decide ((i : Int) < 40) = false := decide_eq_false (by omega)
              have hbel := hS.bel
              clear hS hst hps hBt hts htl
              go_wp2_with (first
                | (go_at_call 12; refine cL.mono ?_; rintro e w7 ⟨rfl, rfl⟩; clear cL)
                | (go_at_call 8; refine (cA _).mono ?_; rintro e w4 ⟨rfl, hb4⟩))
              all_goals go_ret
              all_goals exact ⟨by simp, hbel.trans (hb4.mono hbel.size)⟩
  exact main hx01
end Go.Proofs.Ythlpnlmjpdcbiaa
