/-
  The document's part. (Written by gen/p_alc.py.)
  The document's Pairs. (Written by gen/p_ald.py.)
  Same of pairs; Back of stage 18's law. (Written by gen/p_ald.py.)
-/
import Derived.Test.YtdmjcjheanedgaaDoorGHa
import Derived.Test.YtdmjcjheanedgaaDoorGHd
import Derived.Test.YtdmjcjheanedgaaDoorGC
namespace Go.Proofs.YtdmjcjheanedgaaDoor
open Go.RowKit
set_option linter.unusedSimpArgs false
section
variable {W : World} {r : Nat} {S : Nat → Prop} {b : Bk}
set_option maxRecDepth 8000 in
set_option maxHeartbeats 8000000 in
theorem rpart_any (s price : Int) (hok : b.Ok) (h : RK W r S b) : Calls Tryd.prog 25 #[.pointer (some ⟨r, 0, none⟩), .int .i64 s, .int .i64 price] W fun e w' => ∃ ko' cap' ao', e = .returned (.slice ao' (partL b.L s price).length cap') ∧ Gr 44 7 cOrd W w' (partL b.L s price) ko' cap' ao' := by
  obtain ⟨i1, hi1, e1⟩ := Option.map_eq_some_iff.1 infoKOrd
  simp only [Prod.mk.injEq] at e1
  obtain ⟨hz1, hs1, hb1⟩ := e1
  have hlen : (bkOf b.L s).length ≤ 500 := by
    have := hok.len
    have := hok.s2
    have h3 : (bkOf b.L s).length ≤ b.L.length := by
      rw [(bkOf_perm b.L s).length_eq]
      exact List.length_filter_le _ _
    omega
  have hl5 : b.L.length ≤ 100000 := by
    have := hok.len
    have := hok.s2
    omega
  have cO : Calls Tryd.prog 47 #[.pointer (some ⟨r, 0, none⟩), .int .i64 s] W fun e w' => ∃ cap ao, e = .returned (.slice ao (bkOf b.L s).length cap) ∧ Ords w' ao cap (bkOf b.L s) ∧ Below W.heap.size W w' := by
    refine (kof_any s h hl5).mono ?_
    rintro e w' ⟨ko, cap, ao, he, hG⟩
    exact ⟨cap, ao, he, Ords.of_own hG.ow, hG.bel⟩
  have hall : Hid (((bkOf b.L s).take (bkOf b.L s).length).filter (fun o => !bett s price o.price) = partL b.L s price) := Lib.hid (by rw [List.take_length]; rfl)
  generalize partL b.L s price = R at *
  generalize bkOf b.L s = q at *
  clear h hok hl5
  obtain ⟨n, hn⟩ : ∃ n, n = q.length := ⟨_, rfl⟩
  rw [← hn] at hlen hall cO
  replace hn := Lib.hid hn
  have cB := fun a c w => kbetter_any s a c w
  go_enter Tryd.func25, Tryd.ntmps25
  go_wp2_with (first
    | (go_at_call 47; refine cO.mono ?_; rintro e V ⟨cap, ao, rfl, hI, hbV⟩; clear cO)
    | fail)
  have hstep : ∀ (P : List Ord) (x : Ord) (wr : World) (ko : Option Nat) (oc : Nat) (oo : Option Addr), Gr 44 7 cOrd V wr P ko oc oo → ∀ ao' cap' ko' w', OwG 44 7 w' ko' ao' cap' (P.length + 1) (P.flatMap (fun m => (cOrd m).toList) ++ (cOrd x).toList) → Frm (fun b => ko = some b) (wr.alloc (.cells (cOrd x) 44)) w' → Moved (wr.alloc (.cells (cOrd x) 44)) ko ko' → Gr 44 7 cOrd V w' (P ++ [x]) ko' cap' ao' := fun P x wr ko oc oo hG ao' cap' ko' w' ho hf hm => (hG.alloc _).app ho hf hm
  have hpost : ∀ w P ko oc oo, Gr 44 7 cOrd V w P ko oc oo → P = R → Ending.returned (Value.slice oo P.length oc) = .returned (.slice oo R.length oc) ∧ Gr 44 7 cOrd W w R ko oc oo := by
    rintro w P ko oc oo hG rfl
    exact ⟨rfl, hG.ow, fun k e => Nat.le_trans hbV.size (hG.own k e), hbV.trans (hG.bel.mono hbV.size)⟩
  replace hpost := Lib.hid hpost
  replace hstep := Lib.hid hstep
  clear hbV
  go_loopg [7, 9] n (fun j p7 p9 wr => ∃ (i : Nat) (P : List Ord) (ko : Option Nat) (oc : Nat) (oo : Option Addr), i + j = n ∧ p9 = .int .i64 (i : Int) ∧ p7 = .slice oo P.length oc ∧ Hid (P = (q.take i).filter (fun o => !bett s price o.price)) ∧ Gr 44 7 cOrd V wr P ko oc oo)
  case atStart => exact ⟨0, [], none, 0, none, by omega, rfl, rfl, Lib.hid rfl, Gr.start V⟩
  case round =>
    obtain ⟨i, P, ko, oc, oo, hij, rfl, rfl, hP, hG⟩ := hrel
    have hP5 : P.length ≤ 500 := by
      rw [hP.out]
      refine Nat.le_trans (List.length_filter_le _ _) ?_
      rw [List.length_take]
      omega
    by_cases hin : i < n
    · obtain ⟨x, hx⟩ : ∃ x, q[i]? = some x := ⟨_, List.getElem?_eq_getElem (by rw [← hn.out]; exact hin)⟩
      obtain ⟨bq, oq, rfl, y0, y1, y2, y3, y4, y5, y6⟩ := (hI.below hG.bel).get hx
      replace y0 : wr.cell? ⟨bq, oq + i * 7, none⟩ = some (.int .i64 x.id) := y0
      have hil : (i : Int) < (n : Int) := by omega
      have htk : (q.take (i + 1)).filter (fun o => !bett s price o.price) = if (!bett s price x.price) = true then P ++ [x] else P := by
        rw [List.take_add_one, hx, List.filter_append, ← hP.out]
        cases h : bett s price x.price <;> simp [h]
      have cB' := fun w => cB price x.price w
      have hone := cOrd_one x
      have hGo := hG.ow
      have hG1 := hstep.out P x wr ko oc oo hG
      replace hG1 := Lib.hid hG1
      generalize bett s price x.price = z at *
      clear cB hx hP hI hall
      cases z with
      | true =>
        have htk' : Hid (P = (q.take (i + 1)).filter (fun o => !bett s price o.price)) := Lib.hid (by rw [htk]; rfl)
        clear htk hG1 hGo hstep
        obtain ⟨x0, x1, x2, x3, x4, x5, x6⟩ := x
        simp only at y0 y1 y2 y3 y4 y5 y6 cB'
        go_wp2_with (first
          | (go_at_call 48; refine (cB' _).mono ?_; rintro e w2 ⟨rfl, hw2⟩; subst w2; clear cB')
          | fail)
        go_roundg (n - (i + 1))
        case measure => omega
        case rel => exact ⟨i + 1, P, ko, oc, _, by omega, by go_num, rfl, htk', hG⟩
      | false =>
        have htk' : Hid (P ++ [x] = (q.take (i + 1)).filter (fun o => !bett s price o.price)) := Lib.hid (by rw [htk]; rfl)
        clear htk hstep hG
        obtain ⟨x0, x1, x2, x3, x4, x5, x6⟩ := x
        simp only at y0 y1 y2 y3 y4 y5 y6 cB'
        go_wp2_with (first
          | (go_at_call 48; refine (cB' _).mono ?_; rintro e w2 ⟨rfl, hw2⟩; subst w2; clear cB')
          | (at_builtin; refine wpList_appG rfl (.tmp 28) (.tmp 33) 22 44 i1 _ 7 56 Tryd.underlying22 hi1 hz1 hs1 hb1 rfl (by decide) rfl (hGo.alloc _) (SrcG.row (cs := cOrd ⟨x0, x1, x2, x3, x4, x5, x6⟩) (Blk.new _ _ _) rfl hone) rfl rfl (by omega) (by omega) ?_; intro ao' cap' ko' w3 ho3 hf3 hm3; have hG3 := hG1.out _ _ _ _ ho3 hf3 hm3; clear hG1 hGo ho3 hf3 hm3)
          | fail)
        go_roundg (n - (i + 1))
        case measure => omega
        case rel => exact ⟨i + 1, P ++ [⟨x0, x1, x2, x3, x4, x5, x6⟩], ko', cap', ao', by omega, by go_num, by simp, htk', hG3⟩
    · have e : i = n := by omega
      subst e
      have hil : ¬ (i : Int) < (i : Int) := by omega
      have hp := hpost.out wr P ko oc oo hG (by rw [hP.out, hall.out])
      replace hp := Lib.hid hp
      clear hP hG hI hpost hstep hn hall
      go_wp2_with fail
      go_ret
      exact ⟨ko, oc, oo, hp.out⟩
end
end Go.Proofs.YtdmjcjheanedgaaDoor
namespace Go.Proofs.YtdmjcjheanedgaaDoor
open Go.RowKit
set_option linter.unusedSimpArgs false
theorem row_append (i f t : Int) (A B : List Ord) : ∀ a, rowP i f t a (A ++ B) = rowP i f t a A ++ rowP i f t (a + sq A) B := by
  induction A with
  | nil => intro a; show rowP i f t a B = rowP i f t (a + 0) B; rw [Int.add_zero]
  | cons y A ih =>
    intro a
    show (if _ then _ else _) ++ rowP i f t (a + y.qty) (A ++ B) = _
    rw [ih, sq_cons, show a + (y.qty + sq A) = a + y.qty + sq A by omega, ← List.append_assoc]
    rfl
theorem row_take {Y : List Ord} {k : Nat} {y : Ord} (h : Y[k]? = some y) (i f t : Int) : rowP i f t 0 (Y.take (k + 1)) = rowP i f t 0 (Y.take k) ++ (if 0 < ovl f t (sq (Y.take k)) (sq (Y.take k) + y.qty) then [⟨i, y.id, ovl f t (sq (Y.take k)) (sq (Y.take k) + y.qty)⟩] else []) := by
  rw [List.take_add_one, h, row_append, Int.zero_add]
  simp [rowP]
theorem prs_take {X : List Ord} {i : Nat} {x : Ord} (Y : List Ord) (h : X[i]? = some x) : prsF Y 0 (X.take (i + 1)) = prsF Y 0 (X.take i) ++ rowP x.id (sq (X.take i)) (sq (X.take i) + x.qty) 0 Y := by
  rw [List.take_add_one, h, prs_append, Int.zero_add]
  simp [prsF]
theorem sq_le {c : Int} : ∀ (X : List Ord), (∀ x ∈ X, 0 ≤ x.qty ∧ x.qty ≤ c) → 0 ≤ sq X ∧ sq X ≤ c * X.length
  | [], _ => by simp [sumO]
  | x :: X, h => by
    have h1 := h x List.mem_cons_self
    have h2 := sq_le X fun z hz => h z (List.mem_cons_of_mem _ hz)
    rw [sq_cons, List.length_cons]
    push_cast
    rw [Int.mul_add, Int.mul_one]
    omega
theorem sq_take {X : List Ord} (h : ∀ x ∈ X, 0 ≤ x.qty ∧ x.qty ≤ 4294967296) (hl : X.length ≤ 500) (k : Nat) : 0 ≤ sq (X.take k) ∧ sq (X.take k) ≤ 2147483648000 := by
  have h1 := sq_le (X.take k) fun x hx => h x (List.mem_of_mem_take hx)
  have h2 := List.length_take_le k X
  have h3 : (X.take k).length ≤ 500 := by
    rw [List.length_take]; omega
  omega
theorem part_le {b : Bk} (hb : b.Ok) (s price : Int) : (∀ x ∈ partL b.L s price, 0 ≤ x.qty ∧ x.qty ≤ 4294967296) ∧ (partL b.L s price).length ≤ 500 := by
  refine ⟨fun x hx => ?_, ?_⟩
  · have h1 := hb.ok x (part_mem.1 hx).1
    have := h1.q1
    have := h1.q2
    omega
  · have h1 := List.length_filter_le (fun o : Ord => !bett s price o.price) (bkOf b.L s)
    have h2 := (bkOf_perm b.L s).length_eq
    have h3 := List.length_filter_le (fun o : Ord => o.side == s) b.L
    have := hb.len
    have := hb.s2
    unfold partL
    omega
theorem infoKPr : (Tryd.prog.info? 56).map (fun i => (i.zero, i.size, i.bytes)) = some (some (vPr Pr.zero), 3, 24) := by kernel_rfl
theorem cPr_one (x : Pr) : ∀ u ∈ (cPr x).toList, u.oneCell' = true := by
  intro u hu
  simp at hu
  rcases hu with rfl | rfl | rfl <;> rfl
theorem imin_fact (a c m : Int) (h : m = if c < a then c else a) : ∀ ts t w, (Builtin.min_ ts t #[.int .i64 a, .int .i64 c]).run Tryd.prog w = .ok (.int .i64 m) w := by
  intro ts t w
  rw [run_min_int2, h]
theorem imax_fact (a c m : Int) (h : m = if a < c then c else a) : ∀ ts t w, (Builtin.max_ ts t #[.int .i64 a, .int .i64 c]).run Tryd.prog w = .ok (.int .i64 m) w := by
  intro ts t w
  rw [run_max_int2, h]
theorem Ords.all {V : World} {ao : Option Addr} {cap : Nat} {l : List Ord} (h : Ords V ao cap l) {i : Nat} {x : Ord} (hx : l[i]? = some x) : ∃ b off, ao = some ⟨b, off, none⟩ ∧ ∀ w, Below V.heap.size V w → w.cell? ⟨b, off + i * 7, none⟩ = some (.int .i64 x.id) ∧ w.cell? ⟨b, off + i * 7 + 4, none⟩ = some (.int .i64 x.qty) := by
  obtain ⟨b, off, e, -⟩ := h.get hx
  refine ⟨b, off, e, fun w hb => ?_⟩
  obtain ⟨b', off', e', y0, -, -, -, y4, -⟩ := (h.below hb).get hx
  rw [e] at e'
  cases e'
  exact ⟨y0, y4⟩
section
variable {W : World} {r : Nat} {S : Nat → Prop} {b : Bk}
set_option maxRecDepth 8000 in
set_option maxHeartbeats 8000000 in
theorem rpairs_any (price : Int) (hok : b.Ok) (h : RK W r S b) : Calls Tryd.prog 11 #[.pointer (some ⟨r, 0, none⟩), .int .i64 price] W fun e w' => ∃ ko' cap' ao', e = .returned (.slice ao' (prsL b.L price).length cap') ∧ Gr 56 3 cPr W w' (prsL b.L price) ko' cap' ao' := by
  obtain ⟨i1, hi1, e1⟩ := Option.map_eq_some_iff.1 infoKPr
  simp only [Prod.mk.injEq] at e1
  obtain ⟨hz1, hs1, hb1⟩ := e1
  have cX : ∀ w, Below W.heap.size W w → Calls Tryd.prog 25 #[.pointer (some ⟨r, 0, none⟩), .int .i64 0, .int .i64 price] w fun e w' => ∃ cap ao, e = .returned (.slice ao (partL b.L 0 price).length cap) ∧ Ords w' ao cap (partL b.L 0 price) ∧ Below w.heap.size w w' := fun w hb => (rpart_any 0 price hok (h.below hb)).mono (by rintro e w' ⟨ko, cap, ao, he, hG⟩; exact ⟨cap, ao, he, Ords.of_own hG.ow, hG.bel⟩)
  have cY : ∀ w, Below W.heap.size W w → Calls Tryd.prog 25 #[.pointer (some ⟨r, 0, none⟩), .int .i64 1, .int .i64 price] w fun e w' => ∃ cap ao, e = .returned (.slice ao (partL b.L 1 price).length cap) ∧ Ords w' ao cap (partL b.L 1 price) ∧ Below w.heap.size w w' := fun w hb => (rpart_any 1 price hok (h.below hb)).mono (by rintro e w' ⟨ko, cap, ao, he, hG⟩; exact ⟨cap, ao, he, Ords.of_own hG.ow, hG.bel⟩)
  obtain ⟨hXq, hXl⟩ := part_le hok 0 price
  obtain ⟨hYq, hYl⟩ := part_le hok 1 price
  clear h hok
  unfold prsL
  by_cases hp : price < 1 ∨ 1099511627776 < price
  · rw [if_pos hp]
    clear cX cY hXq hXl hYq hYl
    have hk : decide (price < 1) = true ∨ (decide (price < 1) = false ∧ decide (1099511627776 < price) = true) := by
      by_cases g : price < 1
      · exact .inl (decide_eq_true g)
      · exact .inr ⟨decide_eq_false g, decide_eq_true (by omega)⟩
    rcases hk with d1 | ⟨d1, d2⟩
    all_goals
      go_enter Tryd.func11, Tryd.ntmps11
      go_wp2_with fail
      go_ret
      exact ⟨none, 0, none, rfl, Gr.start W⟩
  rw [if_neg hp]
  have d1 : decide (price < 1) = false := decide_eq_false (by omega)
  have d2 : decide (1099511627776 < price) = false := decide_eq_false (by omega)
  clear hp
  have hXt := sq_take hXq hXl
  have hYt := sq_take hYq hYl
  have hXe : Hid (∀ x ∈ partL b.L 0 price, 0 ≤ x.qty ∧ x.qty ≤ 4294967296) := Lib.hid hXq
  have hYe : Hid (∀ x ∈ partL b.L 1 price, 0 ≤ x.qty ∧ x.qty ≤ 4294967296) := Lib.hid hYq
  clear hXq hYq
  generalize partL b.L 0 price = X at *
  generalize partL b.L 1 price = Y at *
  obtain ⟨n, hn⟩ : ∃ n, n = X.length := ⟨_, rfl⟩
  obtain ⟨m, hm⟩ : ∃ m, m = Y.length := ⟨_, rfl⟩
  rw [← hn] at cX hXl
  rw [← hm] at cY hYl
  have hall : Hid (prsF Y 0 (X.take n) = prsF Y 0 X) := Lib.hid (by rw [hn, List.take_length])
  have hally : Hid (Y.take m = Y) := Lib.hid (by rw [hm, List.take_length])
  replace hn := Lib.hid hn
  replace hm := Lib.hid hm
  replace hXt := Lib.hid hXt
  replace hYt := Lib.hid hYt
  generalize hR : prsF Y 0 X = R at hall ⊢
  clear hR
  go_enter Tryd.func11, Tryd.ntmps11
  go_wp2_with (first
    | (go_at_call 25; refine (cX _ (Below.refl _ _)).mono ?_; rintro e V1 ⟨xc, xo, rfl, hX, hbx⟩; clear cX)
    | (go_at_call 25; refine (cY _ hbx).mono ?_; rintro e V ⟨yc, yo, rfl, hY, hby⟩; clear cY)
    | fail)
  replace hX := hX.below hby
  have hbV : Below W.heap.size W V := hbx.trans (hby.mono hbx.size)
  have hpost : ∀ w P ko oc oo, Gr 56 3 cPr V w P ko oc oo → P = R → Ending.returned (Value.slice oo P.length oc) = .returned (.slice oo R.length oc) ∧ Gr 56 3 cPr W w R ko oc oo := by
    rintro w P ko oc oo hG rfl
    exact ⟨rfl, hG.ow, fun k e => Nat.le_trans hbV.size (hG.own k e), hbV.trans (hG.bel.mono hbV.size)⟩
  replace hpost := Lib.hid hpost
  clear hbV hbx hby
  go_loopg [7, 8, 9] n (fun j p7 p8 p9 wr => ∃ (i : Nat) (P : List Pr) (f : Int) (ko : Option Nat) (oc : Nat) (oo : Option Addr), i + j = n ∧ p9 = .int .i64 (i : Int) ∧ p8 = .int .i64 f ∧ p7 = .slice oo P.length oc ∧ Hid (f = sq (X.take i) ∧ P = prsF Y 0 (X.take i)) ∧ P.length ≤ i * 500 ∧ Gr 56 3 cPr V wr P ko oc oo)
  case atStart => exact ⟨0, [], 0, none, 0, none, by omega, rfl, rfl, rfl, Lib.hid ⟨rfl, rfl⟩, by simp, Gr.start V⟩
  case round =>
    obtain ⟨i, P, f, ko, oc, oo, hij, rfl, rfl, rfl, hfP, hPl, hG⟩ := hrel
    by_cases hin : i < n
    · obtain ⟨x, hx⟩ : ∃ x, X[i]? = some x := ⟨_, List.getElem?_eq_getElem (by rw [← hn.out]; exact hin)⟩
      obtain ⟨bx, ox, rfl, hxc⟩ := hX.all hx
      have hxq := hXe.out x (List.mem_of_getElem? hx)
      have hf : 0 ≤ f ∧ f ≤ 2147483648000 := by rw [hfP.out.1]; exact hXt.out i
      have hst := Lib.hid (prs_take Y hx)
      have hsx : Hid (sq (X.take (i + 1)) = sq (X.take i) + x.qty) := Lib.hid (sumO_at hx)
      obtain ⟨u, hu⟩ : ∃ u, u = x.id := ⟨_, rfl⟩
      obtain ⟨q, hq⟩ : ∃ q, q = x.qty := ⟨_, rfl⟩
      rw [← hu, ← hq] at hst
      simp only [← hu, ← hq] at hxc
      rw [← hq] at hsx hxq
      clear hu hq hx
      rw [← hfP.out.1, ← hfP.out.2] at hst
      rw [← hfP.out.1] at hsx
      clear hfP hX
      have hx4 := (hxc wr hG.bel).2
      have hil : (i : Int) < (n : Int) := by omega
      go_wp2_with fail
      clear hx4
      go_loopg [7, 11, 12] m (fun j p7 p11 p12 wr' => ∃ (k : Nat) (Q : List Pr) (a : Int) (ko : Option Nat) (oc : Nat) (oo : Option Addr), k + j = m ∧ p12 = .int .i64 (k : Int) ∧ p11 = .int .i64 a ∧ p7 = .slice oo Q.length oc ∧ Hid (a = sq (Y.take k) ∧ Q = P ++ rowP u f (f + q) 0 (Y.take k)) ∧ Q.length ≤ i * 500 + k ∧ Gr 56 3 cPr V wr' Q ko oc oo)
      case atStart => exact ⟨0, P, 0, ko, oc, oo, by omega, rfl, rfl, rfl, Lib.hid ⟨rfl, by simp [rowP]⟩, by omega, hG⟩
      case round =>
        clear hG
        obtain ⟨k, Q, a, ko, oc, oo, hkj, rfl, rfl, rfl, haQ, hQl, hG⟩ := hrel
        by_cases hkm : k < m
        · obtain ⟨y, hy⟩ : ∃ y, Y[k]? = some y := ⟨_, List.getElem?_eq_getElem (by rw [← hm.out]; exact hkm)⟩
          obtain ⟨by', oy, rfl, hyc⟩ := hY.all hy
          have hyq := hYe.out y (List.mem_of_getElem? hy)
          have ha : 0 ≤ a ∧ a ≤ 2147483648000 := by rw [haQ.out.1]; exact hYt.out k
          have hrt := row_take hy u f (f + q)
          have hsy : Hid (a + y.qty = sq (Y.take (k + 1))) := Lib.hid (by rw [haQ.out.1]; exact (sumO_at hy).symm)
          rw [← haQ.out.1] at hrt
          have hQ1 : P ++ rowP u f (f + q) 0 (Y.take (k + 1)) = Q ++ (if 0 < ovl f (f + q) a (a + y.qty) then [⟨u, y.id, ovl f (f + q) a (a + y.qty)⟩] else []) := by rw [hrt, ← List.append_assoc, ← haQ.out.2]
          obtain ⟨v, hv⟩ : ∃ v, v = y.id := ⟨_, rfl⟩
          obtain ⟨s, hs⟩ : ∃ s, s = y.qty := ⟨_, rfl⟩
          rw [← hv, ← hs] at hQ1
          simp only [← hv, ← hs] at hyc
          rw [← hs] at hsy hyq
          clear hv hs hy hrt haQ hY
          obtain ⟨mn, hmn⟩ : ∃ mn, mn = if a + s < f + q then a + s else f + q := ⟨_, rfl⟩
          obtain ⟨mx, hmx⟩ : ∃ mx, mx = if f < a then a else f := ⟨_, rfl⟩
          have hov : ovl f (f + q) a (a + s) = mn - mx := by unfold ovl; rw [hmn, hmx]; split <;> split <;> omega
          have bmn : 0 ≤ mn ∧ mn ≤ 4294967296000 := by rw [hmn]; split <;> omega
          have bmx : 0 ≤ mx ∧ mx ≤ 4294967296000 := by rw [hmx]; split <;> omega
          have x1 := imin_fact (f + q) (a + s) mn hmn
          have x2 := imax_fact f a mx hmx
          rw [hov] at hQ1
          clear hov hmn hmx
          have hy4 := (hyc wr hG.bel).2
          have hkl : (k : Int) < (m : Int) := by omega
          by_cases hg : 0 < mn - mx
          · have dg : decide (0 < mn - mx) = true := decide_eq_true hg
            rw [if_pos hg] at hQ1
            obtain ⟨z, hz⟩ : ∃ z : Pr, z = ⟨u, v, mn - mx⟩ := ⟨_, rfl⟩
            rw [← hz] at hQ1
            have hone := cPr_one z
            replace hQ1 := Lib.hid hQ1
            have hfac : Hid (∀ w, Below V.heap.size V w → w.cell? ⟨bx, ox + i * 7, none⟩ = some (.int .i64 u) ∧ w.cell? ⟨by', oy + k * 7, none⟩ = some (.int .i64 v)) := Lib.hid fun w hb => ⟨(hxc w hb).1, (hyc w hb).1⟩
            replace hxc := Lib.hid hxc
            clear hyc
            go_wp2_with fail
            clear x1 x2 hy4
            have hGd := hG.call (Below.refl wr.heap.size wr).drew
            refine GoL.start (S := fun _ w => Below V.heap.size V w) (by kernel_rfl) hGd.bel ?_
            generalize wr.drew = U at hGd ⊢
            have hnew := Lib.hid (fun ao cap ko w ho hf hm => (hGd.alloc (.cells (cPr z) 56)).app (m := z) (w3 := w) (oc' := cap) (oo' := ao) (ko' := ko) ho hf hm)
            clear hG
            refine GoL.take (i := 0) (v := ?_) rfl rfl (by kernel_rfl) (fun _ _ _ h => h) (fun _ _ => Iff.rfl) (by rfl) ?_ ?_
            rotate_left
            · intro wx hwx
              have hwx := Wi.at' hwx
              go_simp
              all_goals first
                | done
                | with_reducible rfl
                | assumption
                | (simp_all; done)
            try simp only [Act.put, List.setIfInBounds_toArray, List.set_cons_zero, List.set_cons_succ, List.getElem_toArray, List.getElem_cons_zero, List.getElem_cons_succ]
            refine GoL.take (i := 1) (v := ?_) rfl rfl (by kernel_rfl) (fun _ _ _ h => h) (fun _ _ => Iff.rfl) (by rfl) ?_ ?_
            rotate_left
            · intro wx hwx
              have hwx := Wi.at' hwx
              go_simp
              all_goals first
                | done
                | with_reducible rfl
                | assumption
                | (simp_all; done)
            try simp only [Act.put, List.setIfInBounds_toArray, List.set_cons_zero, List.set_cons_succ, List.getElem_toArray, List.getElem_cons_zero, List.getElem_cons_succ]
            refine GoL.take (i := 2) (v := ?_) rfl rfl (by kernel_rfl) (fun _ _ _ h => h) (fun _ _ => Iff.rfl) (by rfl) ?_ ?_
            rotate_left
            · intro wx hwx
              have hwx := Wi.at' hwx
              go_simp
              all_goals first
                | done
                | with_reducible rfl
                | assumption
                | (simp_all; done)
            try simp only [Act.put, List.setIfInBounds_toArray, List.set_cons_zero, List.set_cons_succ, List.getElem_toArray, List.getElem_cons_zero, List.getElem_cons_succ]
            refine GoL.take (i := 3) (v := ?_) rfl rfl (by kernel_rfl) (fun _ _ _ h => h) (fun _ _ => Iff.rfl) (by rfl) ?_ ?_
            rotate_left
            · intro wx hwx
              have hwx := Wi.at' hwx
              obtain ⟨f0, f1⟩ := hfac.out wx hwx
              go_simp
              all_goals first
                | done
                | with_reducible rfl
                | assumption
                | (simp_all; done)
            try simp only [Act.put, List.setIfInBounds_toArray, List.set_cons_zero, List.set_cons_succ, List.getElem_toArray, List.getElem_cons_zero, List.getElem_cons_succ]
            refine GoL.take (i := 4) (v := ?_) rfl rfl (by kernel_rfl) (fun _ _ _ h => h) (fun _ _ => Iff.rfl) (by rfl) ?_ ?_
            rotate_left
            · intro wx hwx
              have hwx := Wi.at' hwx
              obtain ⟨f0, f1⟩ := hfac.out wx hwx
              go_simp
              all_goals first
                | done
                | with_reducible rfl
                | assumption
                | (simp_all; done)
            try simp only [Act.put, List.setIfInBounds_toArray, List.set_cons_zero, List.set_cons_succ, List.getElem_toArray, List.getElem_cons_zero, List.getElem_cons_succ]
            refine GoL.take (i := 5) (v := ?_) rfl rfl (by kernel_rfl) (fun _ _ _ h => h) (fun _ _ => Iff.rfl) (by rfl) ?_ ?_
            rotate_left
            · intro wx hwx
              have hwx := Wi.at' hwx
              obtain ⟨f0, f1⟩ := hfac.out wx hwx
              go_simp
              all_goals first
                | done
                | with_reducible rfl
                | assumption
                | (simp_all; done)
            try simp only [Act.put, List.setIfInBounds_toArray, List.set_cons_zero, List.set_cons_succ, List.getElem_toArray, List.getElem_cons_zero, List.getElem_cons_succ]
            refine GoL.take (i := 6) (v := ?_) rfl rfl (by kernel_rfl) (fun _ _ _ h => h) (fun _ _ => Iff.rfl) (by rfl) ?_ ?_
            rotate_left
            · intro wx hwx
              have hwx := Wi.at' hwx
              go_simp
              all_goals first
                | done
                | with_reducible rfl
                | assumption
                | (simp_all; done)
            try simp only [Act.put, List.setIfInBounds_toArray, List.set_cons_zero, List.set_cons_succ, List.getElem_toArray, List.getElem_cons_zero, List.getElem_cons_succ]
            refine GoL.take (i := 7) (v := ?_) rfl rfl (by kernel_rfl) (fun _ _ _ h => h) (fun _ _ => Iff.rfl) (by rfl) ?_ ?_
            rotate_left
            · intro wx hwx
              have hwx := Wi.at' hwx
              go_simp
              all_goals first
                | done
                | with_reducible rfl
                | assumption
                | (simp_all; done)
            try simp only [Act.put, List.setIfInBounds_toArray, List.set_cons_zero, List.set_cons_succ, List.getElem_toArray, List.getElem_cons_zero, List.getElem_cons_succ]
            refine GoL.take (i := 8) (v := ?_) rfl rfl (by kernel_rfl) (fun _ _ _ h => h) (fun _ _ => Iff.rfl) (by rfl) ?_ ?_
            rotate_left
            · intro wx hwx
              have hwx := Wi.at' hwx
              obtain ⟨f0, f1⟩ := hfac.out wx hwx
              go_simp
              all_goals first
                | done
                | with_reducible rfl
                | assumption
                | (simp_all; done)
            try simp only [Act.put, List.setIfInBounds_toArray, List.set_cons_zero, List.set_cons_succ, List.getElem_toArray, List.getElem_cons_zero, List.getElem_cons_succ]
            refine GoL.take (i := 9) (v := ?_) rfl rfl (by kernel_rfl) (fun _ _ _ h => h) (fun _ _ => Iff.rfl) (by rfl) ?_ ?_
            rotate_left
            · intro wx hwx
              have hwx := Wi.at' hwx
              obtain ⟨f0, f1⟩ := hfac.out wx hwx
              go_simp
              all_goals first
                | done
                | with_reducible rfl
                | assumption
                | (simp_all; done)
            try simp only [Act.put, List.setIfInBounds_toArray, List.set_cons_zero, List.set_cons_succ, List.getElem_toArray, List.getElem_cons_zero, List.getElem_cons_succ]
            refine GoL.take (i := 10) (v := ?_) rfl rfl (by kernel_rfl) (fun _ _ _ h => h) (fun _ _ => Iff.rfl) (by rfl) ?_ ?_
            rotate_left
            · intro wx hwx
              have hwx := Wi.at' hwx
              obtain ⟨f0, f1⟩ := hfac.out wx hwx
              go_simp
              all_goals first
                | done
                | with_reducible rfl
                | assumption
                | (simp_all; done)
            try simp only [Act.put, List.setIfInBounds_toArray, List.set_cons_zero, List.set_cons_succ, List.getElem_toArray, List.getElem_cons_zero, List.getElem_cons_succ]
            refine GoL.take (i := 11) (v := ?_) rfl rfl (by kernel_rfl) (fun _ _ _ h => h) (fun _ _ => Iff.rfl) (by rfl) ?_ ?_
            rotate_left
            · intro wx hwx
              have hwx := Wi.at' hwx
              go_simp
              all_goals first
                | done
                | with_reducible rfl
                | assumption
                | (simp_all; done)
            try simp only [Act.put, List.setIfInBounds_toArray, List.set_cons_zero, List.set_cons_succ, List.getElem_toArray, List.getElem_cons_zero, List.getElem_cons_succ]
            refine GoL.take (i := 12) (v := ?_) rfl rfl (by kernel_rfl) (fun _ _ _ h => h) (fun _ _ => Iff.rfl) (by rfl) ?_ ?_
            rotate_left
            · intro wx hwx
              have hwx := Wi.at' hwx
              go_simp
              all_goals first
                | done
                | with_reducible rfl
                | assumption
                | (simp_all; done)
            try simp only [Act.put, List.setIfInBounds_toArray, List.set_cons_zero, List.set_cons_succ, List.getElem_toArray, List.getElem_cons_zero, List.getElem_cons_succ]
            refine GoL.on (rs := [13]) (by kernel_rfl) (by decide) ?_
            refine OnL.cons rfl ?_ OnL.nil
            intro K hK
            replace hK := Lib.hid hK
            go_simp
            have b2 := (hGd.alloc (.cells (cPr z) 56)).bel
            rw [hz] at b2
            refine hK.out _ _ b2 ?_
            clear hK
            try simp only [Act.put, List.setIfInBounds_toArray, List.set_cons_zero, List.set_cons_succ, List.getElem_toArray, List.getElem_cons_zero, List.getElem_cons_succ]
            refine GoL.on (rs := [14]) (by kernel_rfl) (by decide) ?_
            refine OnL.cons rfl ?_ OnL.nil
            intro K hK
            replace hK := Lib.hid hK
            refine step_appG rfl (.tmp 66) (.tmp 79) 29 56 i1 _ 3 24 Tryd.underlying29 hi1 hz1 hs1 hb1 rfl (by decide) rfl (hGd.ow.alloc _) (SrcG.row (cs := cPr z) (by rw [hz]; exact Blk.new _ _ _) rfl hone) rfl rfl (by omega) (by omega) ?_
            intro ao1 cap1 ko1 w2 ho1 hf1 hm1
            have hG2 := hnew.out _ _ _ _ ho1 (by rw [hz]; exact hf1) (by rw [hz]; exact hm1)
            refine hK.out _ _ hG2.bel ?_
            clear hK ho1 hf1 hm1
            try simp only [Act.put, List.setIfInBounds_toArray, List.set_cons_zero, List.set_cons_succ, List.getElem_toArray, List.getElem_cons_zero, List.getElem_cons_succ]
            refine GoL.take (i := 15) (v := ?_) rfl rfl (by kernel_rfl) (fun _ _ _ h => h) (fun _ _ => Iff.rfl) (by rfl) ?_ ?_
            rotate_left
            · intro wx hwx
              have hwx := Wi.at' hwx
              go_simp
              all_goals first
                | done
                | with_reducible rfl
                | assumption
                | (simp_all; done)
            try simp only [Act.put, List.setIfInBounds_toArray, List.set_cons_zero, List.set_cons_succ, List.getElem_toArray, List.getElem_cons_zero, List.getElem_cons_succ]
            refine GoL.done (by kernel_rfl) ?_
            refine NoPanic.normal ?_
            go_wp2_with fail
            go_roundg (m - (k + 1))
            case measure => omega
            case rel => exact ⟨k + 1, Q ++ [z], a + s, ko1, cap1, ao1, by omega, by go_num, rfl, by simp, Lib.hid ⟨hsy.out, hQ1.out.symm⟩, by simp; omega, hG2⟩
          · have dg : decide (0 < mn - mx) = false := decide_eq_false hg
            rw [if_neg hg, List.append_nil] at hQ1
            replace hQ1 := Lib.hid hQ1
            clear hyc hxc
            go_wp2_with fail
            go_roundg (m - (k + 1))
            case measure => omega
            case rel => exact ⟨k + 1, Q, a + s, ko, oc, oo, by omega, by go_num, rfl, rfl, Lib.hid ⟨hsy.out, hQ1.out.symm⟩, by omega, hG⟩
        · have hke : k = m := by omega
          subst hke
          have hkl : ¬ (k : Int) < (k : Int) := by omega
          have hPQ : Hid (Q = prsF Y 0 (X.take (i + 1))) := Lib.hid (by rw [hst.out, haQ.out.2, hally.out])
          have hfq : Hid (f + q = sq (X.take (i + 1))) := Lib.hid hsx.out.symm
          clear haQ hst hsx hxc hY hpost hally hall
          go_wp2_with fail
          go_roundg (n - (i + 1))
          case measure => omega
          case rel => exact ⟨i + 1, Q, f + q, ko, oc, oo, by omega, by go_num, rfl, rfl, Lib.hid ⟨hfq.out, hPQ.out⟩, by omega, hG⟩
    · have e : i = n := by omega
      subst e
      have hil : ¬ (i : Int) < (i : Int) := by omega
      have hp := hpost.out wr P ko oc oo hG (by rw [hfP.out.2, hall.out])
      replace hp := Lib.hid hp
      clear hfP hG hX hY hpost hn hall hXt hYt hXe hYe hally hm
      go_wp2_with fail
      go_ret
      exact ⟨ko, oc, oo, hp.out⟩
end
end Go.Proofs.YtdmjcjheanedgaaDoor
namespace Go.Proofs.YtdmjcjheanedgaaDoor
open Go.RowKit
set_option linter.unusedSimpArgs false
theorem row_len {Y : List Ord} (i f t : Int) : ∀ a, (rowP i f t a Y).length ≤ Y.length := by
  induction Y with
  | nil => intro a; exact Nat.le_refl _
  | cons y Y ih =>
    intro a
    have := ih (a + y.qty)
    unfold rowP
    rw [List.length_append, List.length_cons]
    split <;> simp <;> omega
theorem prsF_len {Y : List Ord} (hY : Y.length ≤ 500) : ∀ (X : List Ord) (f : Int), (prsF Y f X).length ≤ X.length * 500
  | [], _ => Nat.le_refl _
  | x :: X, f => by
    have h1 := prsF_len hY X (f + x.qty)
    have h2 := row_len (Y := Y) x.id f (f + x.qty) 0
    unfold prsF
    rw [List.length_append, List.length_cons]
    omega
theorem prsL_len {b : Bk} (hb : b.Ok) (price : Int) : (prsL b.L price).length ≤ 250000 := by
  have h1 := (part_le hb 0 price).2
  have h2 := (part_le hb 1 price).2
  unfold prsL
  split
  · simp
  · have := prsF_len h2 (partL b.L 0 price) 0
    omega
theorem Prs.all {V : World} {ao : Option Addr} {cap : Nat} {l : List Pr} (h : Prs V ao cap l) {i : Nat} {x : Pr} (hx : l[i]? = some x) : ∃ b off, ao = some ⟨b, off, none⟩ ∧ ∀ w, Below V.heap.size V w → w.cell? ⟨b, off + i * 3, none⟩ = some (.int .i64 x.buy) ∧ w.cell? ⟨b, off + i * 3 + 1, none⟩ = some (.int .i64 x.sell) ∧ w.cell? ⟨b, off + i * 3 + 2, none⟩ = some (.int .i64 x.qty) := by
  obtain ⟨b, off, e, -⟩ := h.get hx
  refine ⟨b, off, e, fun w hb => ?_⟩
  obtain ⟨b', off', e', y0, y1, y2⟩ := (h.below hb).get hx
  rw [e] at e'
  cases e'
  exact ⟨y0, y1, y2⟩
section
variable {W : World}
set_option maxRecDepth 8000 in
/-- Same of pairs, of a list against itself. -/
theorem same18_any {ao ao' : Option Addr} {cap cap' : Nat} (l : List Pr) (W : World) (h1 : Prs W ao cap l) (h2 : Prs W ao' cap' l) : Calls Tryd.prog 8 #[.slice ao l.length cap, .slice ao' l.length cap'] W fun e w' => e = .returned (.bool true) ∧ Below W.heap.size W w' := by
  have hl1 := h1.len
  have hl2 := h1.top
  unfold maxLen at hl2
  have hlm : l.length ≤ 9223372036854775807 := by omega
  clear hl1 hl2
  go_enter Tryd.func8, Tryd.ntmps8
  go_wp2_with fail
  go_loopg [5] l.length (fun j p5 wr => Below W.heap.size W wr ∧ ∃ q : Nat, q + j = l.length ∧ p5 = .int .i64 (q : Int))
  case atStart => exact ⟨Below.refl _ _, 0, by omega, rfl⟩
  case round =>
    obtain ⟨hb, q, hqj, rfl⟩ := hrel
    by_cases hqn : q < l.length
    · obtain ⟨x, hx⟩ : ∃ x, l[q]? = some x := ⟨_, List.getElem?_eq_getElem hqn⟩
      obtain ⟨b1, o1, rfl, y⟩ := h1.all hx
      obtain ⟨b2, o2, rfl, u⟩ := h2.all hx
      obtain ⟨y0, y1, y2⟩ := y wr hb
      obtain ⟨u0, u1, u2⟩ := u wr hb
      have hql : (q : Int) < (l.length : Int) := by omega
      have hbd := hb.drew
      have hE := fun w => neq_Pr x x w
      rw [eqPr_self] at hE
      clear h1 h2 hx y u
      obtain ⟨a0, a1, a2⟩ := x
      simp only [vPr, cPr, Bool.not_true] at hE
      go_wp2_with fail
      go_quiet (fail)
      go_wp2_with fail
      go_roundg (l.length - (q + 1))
      case measure => omega
      case rel => exact ⟨by first | exact hb | exact hbd | exact belowK hb _, q + 1, by omega, by go_num⟩
    · have e : q = l.length := by omega
      subst e
      go_wp2_with fail
      go_ret
      exact ⟨rfl, hb⟩
set_option maxRecDepth 8000 in
set_option maxHeartbeats 8000000 in
/-- The program's pairs as the document's. -/
theorem back18_any {ao : Option Addr} {cap : Nat} (l : List Pr) (hlen : l.length ≤ 1000000) (h : Prs W ao cap l) : Calls Tryd.prog 9 #[.slice ao l.length cap] W fun e w' => ∃ ko' cap' ao', e = .returned (.slice ao' l.length cap') ∧ Gr 56 3 cPr W w' l ko' cap' ao' := by
  obtain ⟨i1, hi1, e1⟩ := Option.map_eq_some_iff.1 infoKPr
  simp only [Prod.mk.injEq] at e1
  obtain ⟨hz1, hs1, hb1⟩ := e1
  obtain ⟨n, hn⟩ : ∃ n, n = l.length := ⟨_, rfl⟩
  rw [← hn] at hlen ⊢
  have hall : Hid (l.take n = l) := Lib.hid (by rw [hn, List.take_length])
  replace hn := Lib.hid hn
  go_enter Tryd.func9, Tryd.ntmps9
  go_wp2_with fail
  go_loopg [3, 4] n (fun j p3 p4 wr => ∃ (i : Nat) (P : List Pr) (ko : Option Nat) (oc : Nat) (oo : Option Addr), i + j = n ∧ p4 = .int .i64 (i : Int) ∧ p3 = .slice oo P.length oc ∧ Hid (P = l.take i) ∧ P.length ≤ i ∧ Gr 56 3 cPr W wr P ko oc oo)
  case atStart => exact ⟨0, [], none, 0, none, by omega, rfl, rfl, Lib.hid rfl, by simp, Gr.start W⟩
  case round =>
    obtain ⟨i, P, ko, oc, oo, hij, rfl, rfl, hP, hPl, hG⟩ := hrel
    by_cases hin : i < n
    · obtain ⟨z, hx⟩ : ∃ x, l[i]? = some x := ⟨_, List.getElem?_eq_getElem (by rw [← hn.out]; exact hin)⟩
      obtain ⟨bx, ox, rfl, hxc⟩ := h.all hx
      have hfac := Lib.hid hxc
      have hil : (i : Int) < (n : Int) := by omega
      have hQ1 : Hid (P ++ [z] = l.take (i + 1)) := Lib.hid (by rw [List.take_add_one, hx, ← hP.out]; rfl)
      have hone := cPr_one z
      clear hxc hx h hP
      obtain ⟨u, v, q⟩ := z
      simp only at hfac
      obtain ⟨z, hz⟩ : ∃ z : Pr, z = ⟨u, v, q⟩ := ⟨_, rfl⟩
      rw [← hz] at hone hQ1
      go_wp2_with fail
      have hGd := hG.call (Below.refl wr.heap.size wr).drew
      refine GoL.start (S := fun _ w => Below W.heap.size W w) (by kernel_rfl) hGd.bel ?_
      generalize wr.drew = U at hGd ⊢
      have hnew := Lib.hid (fun ao cap ko w ho hf hm => (hGd.alloc (.cells (cPr z) 56)).app (m := z) (w3 := w) (oc' := cap) (oo' := ao) (ko' := ko) ho hf hm)
      clear hG
      refine GoL.take (i := 0) (v := ?_) rfl rfl (by kernel_rfl) (fun _ _ _ h => h) (fun _ _ => Iff.rfl) (by rfl) ?_ ?_
      rotate_left
      · intro wx hwx
        have hwx := Wi.at' hwx
        go_simp
        all_goals first
          | done
          | with_reducible rfl
          | assumption
          | (simp_all; done)
      try simp only [Act.put, List.setIfInBounds_toArray, List.set_cons_zero, List.set_cons_succ, List.getElem_toArray, List.getElem_cons_zero, List.getElem_cons_succ]
      refine GoL.take (i := 1) (v := ?_) rfl rfl (by kernel_rfl) (fun _ _ _ h => h) (fun _ _ => Iff.rfl) (by rfl) ?_ ?_
      rotate_left
      · intro wx hwx
        have hwx := Wi.at' hwx
        go_simp
        all_goals first
          | done
          | with_reducible rfl
          | assumption
          | (simp_all; done)
      try simp only [Act.put, List.setIfInBounds_toArray, List.set_cons_zero, List.set_cons_succ, List.getElem_toArray, List.getElem_cons_zero, List.getElem_cons_succ]
      refine GoL.take (i := 2) (v := ?_) rfl rfl (by kernel_rfl) (fun _ _ _ h => h) (fun _ _ => Iff.rfl) (by rfl) ?_ ?_
      rotate_left
      · intro wx hwx
        have hwx := Wi.at' hwx
        go_simp
        all_goals first
          | done
          | with_reducible rfl
          | assumption
          | (simp_all; done)
      try simp only [Act.put, List.setIfInBounds_toArray, List.set_cons_zero, List.set_cons_succ, List.getElem_toArray, List.getElem_cons_zero, List.getElem_cons_succ]
      refine GoL.take (i := 3) (v := ?_) rfl rfl (by kernel_rfl) (fun _ _ _ h => h) (fun _ _ => Iff.rfl) (by rfl) ?_ ?_
      rotate_left
      · intro wx hwx
        have hwx := Wi.at' hwx
        obtain ⟨f0, f1, f2⟩ := hfac.out wx hwx
        go_simp
        all_goals first
          | done
          | with_reducible rfl
          | assumption
          | (simp_all; done)
      try simp only [Act.put, List.setIfInBounds_toArray, List.set_cons_zero, List.set_cons_succ, List.getElem_toArray, List.getElem_cons_zero, List.getElem_cons_succ]
      refine GoL.take (i := 4) (v := ?_) rfl rfl (by kernel_rfl) (fun _ _ _ h => h) (fun _ _ => Iff.rfl) (by rfl) ?_ ?_
      rotate_left
      · intro wx hwx
        have hwx := Wi.at' hwx
        obtain ⟨f0, f1, f2⟩ := hfac.out wx hwx
        go_simp
        all_goals first
          | done
          | with_reducible rfl
          | assumption
          | (simp_all; done)
      try simp only [Act.put, List.setIfInBounds_toArray, List.set_cons_zero, List.set_cons_succ, List.getElem_toArray, List.getElem_cons_zero, List.getElem_cons_succ]
      refine GoL.take (i := 5) (v := ?_) rfl rfl (by kernel_rfl) (fun _ _ _ h => h) (fun _ _ => Iff.rfl) (by rfl) ?_ ?_
      rotate_left
      · intro wx hwx
        have hwx := Wi.at' hwx
        obtain ⟨f0, f1, f2⟩ := hfac.out wx hwx
        go_simp
        all_goals first
          | done
          | with_reducible rfl
          | assumption
          | (simp_all; done)
      try simp only [Act.put, List.setIfInBounds_toArray, List.set_cons_zero, List.set_cons_succ, List.getElem_toArray, List.getElem_cons_zero, List.getElem_cons_succ]
      refine GoL.take (i := 6) (v := ?_) rfl rfl (by kernel_rfl) (fun _ _ _ h => h) (fun _ _ => Iff.rfl) (by rfl) ?_ ?_
      rotate_left
      · intro wx hwx
        have hwx := Wi.at' hwx
        go_simp
        all_goals first
          | done
          | with_reducible rfl
          | assumption
          | (simp_all; done)
      try simp only [Act.put, List.setIfInBounds_toArray, List.set_cons_zero, List.set_cons_succ, List.getElem_toArray, List.getElem_cons_zero, List.getElem_cons_succ]
      refine GoL.take (i := 7) (v := ?_) rfl rfl (by kernel_rfl) (fun _ _ _ h => h) (fun _ _ => Iff.rfl) (by rfl) ?_ ?_
      rotate_left
      · intro wx hwx
        have hwx := Wi.at' hwx
        go_simp
        all_goals first
          | done
          | with_reducible rfl
          | assumption
          | (simp_all; done)
      try simp only [Act.put, List.setIfInBounds_toArray, List.set_cons_zero, List.set_cons_succ, List.getElem_toArray, List.getElem_cons_zero, List.getElem_cons_succ]
      refine GoL.take (i := 8) (v := ?_) rfl rfl (by kernel_rfl) (fun _ _ _ h => h) (fun _ _ => Iff.rfl) (by rfl) ?_ ?_
      rotate_left
      · intro wx hwx
        have hwx := Wi.at' hwx
        obtain ⟨f0, f1, f2⟩ := hfac.out wx hwx
        go_simp
        all_goals first
          | done
          | with_reducible rfl
          | assumption
          | (simp_all; done)
      try simp only [Act.put, List.setIfInBounds_toArray, List.set_cons_zero, List.set_cons_succ, List.getElem_toArray, List.getElem_cons_zero, List.getElem_cons_succ]
      refine GoL.take (i := 9) (v := ?_) rfl rfl (by kernel_rfl) (fun _ _ _ h => h) (fun _ _ => Iff.rfl) (by rfl) ?_ ?_
      rotate_left
      · intro wx hwx
        have hwx := Wi.at' hwx
        obtain ⟨f0, f1, f2⟩ := hfac.out wx hwx
        go_simp
        all_goals first
          | done
          | with_reducible rfl
          | assumption
          | (simp_all; done)
      try simp only [Act.put, List.setIfInBounds_toArray, List.set_cons_zero, List.set_cons_succ, List.getElem_toArray, List.getElem_cons_zero, List.getElem_cons_succ]
      refine GoL.take (i := 10) (v := ?_) rfl rfl (by kernel_rfl) (fun _ _ _ h => h) (fun _ _ => Iff.rfl) (by rfl) ?_ ?_
      rotate_left
      · intro wx hwx
        have hwx := Wi.at' hwx
        obtain ⟨f0, f1, f2⟩ := hfac.out wx hwx
        go_simp
        all_goals first
          | done
          | with_reducible rfl
          | assumption
          | (simp_all; done)
      try simp only [Act.put, List.setIfInBounds_toArray, List.set_cons_zero, List.set_cons_succ, List.getElem_toArray, List.getElem_cons_zero, List.getElem_cons_succ]
      refine GoL.take (i := 11) (v := ?_) rfl rfl (by kernel_rfl) (fun _ _ _ h => h) (fun _ _ => Iff.rfl) (by rfl) ?_ ?_
      rotate_left
      · intro wx hwx
        have hwx := Wi.at' hwx
        go_simp
        all_goals first
          | done
          | with_reducible rfl
          | assumption
          | (simp_all; done)
      try simp only [Act.put, List.setIfInBounds_toArray, List.set_cons_zero, List.set_cons_succ, List.getElem_toArray, List.getElem_cons_zero, List.getElem_cons_succ]
      refine GoL.take (i := 12) (v := ?_) rfl rfl (by kernel_rfl) (fun _ _ _ h => h) (fun _ _ => Iff.rfl) (by rfl) ?_ ?_
      rotate_left
      · intro wx hwx
        have hwx := Wi.at' hwx
        go_simp
        all_goals first
          | done
          | with_reducible rfl
          | assumption
          | (simp_all; done)
      try simp only [Act.put, List.setIfInBounds_toArray, List.set_cons_zero, List.set_cons_succ, List.getElem_toArray, List.getElem_cons_zero, List.getElem_cons_succ]
      refine GoL.take (i := 13) (v := ?_) rfl rfl (by kernel_rfl) (fun _ _ _ h => h) (fun _ _ => Iff.rfl) (by rfl) ?_ ?_
      rotate_left
      · intro wx hwx
        have hwx := Wi.at' hwx
        obtain ⟨f0, f1, f2⟩ := hfac.out wx hwx
        go_simp
        all_goals first
          | done
          | with_reducible rfl
          | assumption
          | (simp_all; done)
      try simp only [Act.put, List.setIfInBounds_toArray, List.set_cons_zero, List.set_cons_succ, List.getElem_toArray, List.getElem_cons_zero, List.getElem_cons_succ]
      refine GoL.take (i := 14) (v := ?_) rfl rfl (by kernel_rfl) (fun _ _ _ h => h) (fun _ _ => Iff.rfl) (by rfl) ?_ ?_
      rotate_left
      · intro wx hwx
        have hwx := Wi.at' hwx
        obtain ⟨f0, f1, f2⟩ := hfac.out wx hwx
        go_simp
        all_goals first
          | done
          | with_reducible rfl
          | assumption
          | (simp_all; done)
      try simp only [Act.put, List.setIfInBounds_toArray, List.set_cons_zero, List.set_cons_succ, List.getElem_toArray, List.getElem_cons_zero, List.getElem_cons_succ]
      refine GoL.take (i := 15) (v := ?_) rfl rfl (by kernel_rfl) (fun _ _ _ h => h) (fun _ _ => Iff.rfl) (by rfl) ?_ ?_
      rotate_left
      · intro wx hwx
        have hwx := Wi.at' hwx
        obtain ⟨f0, f1, f2⟩ := hfac.out wx hwx
        go_simp
        all_goals first
          | done
          | with_reducible rfl
          | assumption
          | (simp_all; done)
      try simp only [Act.put, List.setIfInBounds_toArray, List.set_cons_zero, List.set_cons_succ, List.getElem_toArray, List.getElem_cons_zero, List.getElem_cons_succ]
      refine GoL.take (i := 16) (v := ?_) rfl rfl (by kernel_rfl) (fun _ _ _ h => h) (fun _ _ => Iff.rfl) (by rfl) ?_ ?_
      rotate_left
      · intro wx hwx
        have hwx := Wi.at' hwx
        go_simp
        all_goals first
          | done
          | with_reducible rfl
          | assumption
          | (simp_all; done)
      try simp only [Act.put, List.setIfInBounds_toArray, List.set_cons_zero, List.set_cons_succ, List.getElem_toArray, List.getElem_cons_zero, List.getElem_cons_succ]
      refine GoL.on (rs := [17]) (by kernel_rfl) (by decide) ?_
      refine OnL.cons rfl ?_ OnL.nil
      intro K hK
      replace hK := Lib.hid hK
      go_simp
      have b2 := (hGd.alloc (.cells (cPr z) 56)).bel
      rw [hz] at b2
      refine hK.out _ _ b2 ?_
      clear hK
      try simp only [Act.put, List.setIfInBounds_toArray, List.set_cons_zero, List.set_cons_succ, List.getElem_toArray, List.getElem_cons_zero, List.getElem_cons_succ]
      refine GoL.on (rs := [18]) (by kernel_rfl) (by decide) ?_
      refine OnL.cons rfl ?_ OnL.nil
      intro K hK
      replace hK := Lib.hid hK
      refine step_appG rfl (.tmp 11) (.tmp 28) 29 56 i1 _ 3 24 Tryd.underlying29 hi1 hz1 hs1 hb1 rfl (by decide) rfl (hGd.ow.alloc _) (SrcG.row (cs := cPr z) (by rw [hz]; exact Blk.new _ _ _) rfl hone) rfl rfl (by omega) (by omega) ?_
      intro ao1 cap1 ko1 w2 ho1 hf1 hm1
      have hG2 := hnew.out _ _ _ _ ho1 (by rw [hz]; exact hf1) (by rw [hz]; exact hm1)
      refine hK.out _ _ hG2.bel ?_
      clear hK ho1 hf1 hm1
      try simp only [Act.put, List.setIfInBounds_toArray, List.set_cons_zero, List.set_cons_succ, List.getElem_toArray, List.getElem_cons_zero, List.getElem_cons_succ]
      refine GoL.take (i := 19) (v := ?_) rfl rfl (by kernel_rfl) (fun _ _ _ h => h) (fun _ _ => Iff.rfl) (by rfl) ?_ ?_
      rotate_left
      · intro wx hwx
        have hwx := Wi.at' hwx
        go_simp
        all_goals first
          | done
          | with_reducible rfl
          | assumption
          | (simp_all; done)
      try simp only [Act.put, List.setIfInBounds_toArray, List.set_cons_zero, List.set_cons_succ, List.getElem_toArray, List.getElem_cons_zero, List.getElem_cons_succ]
      refine GoL.done (by kernel_rfl) ?_
      refine NoPanic.normal ?_
      go_wp2_with fail
      go_roundg (n - (i + 1))
      case measure => omega
      case rel => exact ⟨i + 1, P ++ [z], ko1, cap1, ao1, by omega, by go_num, by simp, hQ1, by simp; omega, hG2⟩
    · have e : i = n := by omega
      subst e
      have hil : ¬ (i : Int) < (i : Int) := by omega
      have e : P = l := by rw [hP.out, hall.out]
      subst e
      clear hP hall h
      have hil2 : P.length = i := hn.out.symm
      go_wp2_with fail
      go_ret
      exact ⟨ko, oc, oo, rfl, hG⟩
end
end Go.Proofs.YtdmjcjheanedgaaDoor
