/-
  Mean of the document's window. (Written by gen/p_wng.py.)
  Roll of the document's window, by its Mean.
-/
import Derived.Test.YteljjjdejjkgfaaGF
import Derived.Test.YteljjjdejjkgfaaRefNq
import Derived.Test.YteljjjdejjkgfaaRegBq
import Derived.Test.YteljjjdejjkgfaaGH
import Derived.BigQuiet
import Derived.Deep.QuietTactic
namespace Go.Proofs.Yteljjjdejjkgfaa
open Go.RowKit
set_option linter.unusedSimpArgs false
theorem frm_setRow (w : World) (g : Nat) (c : Array Value) : Frm (fun b => b = g) w (w.setRow g c) := ⟨rfl, rfl, rfl, by simp [World.setRow], fun b _ hb => by simp [World.setRow, Array.getElem?_modify, Ne.symm hb]⟩
/-- Trades in the window, of the first i. -/
def selT (m : Wn) (t : Int) (i : Nat) : List Trd := (m.L.take i).filter fun x => decide (t - m.span < x.tick)
theorem selT_yes {m : Wn} {t : Int} {i : Nat} {x : Trd} (hx : m.L[i]? = some x) (h : t - m.span < x.tick) : selT m t (i + 1) = selT m t i ++ [x] := by
  unfold selT
  rw [List.take_add_one, hx, List.filter_append]
  simp [h]
theorem selT_no {m : Wn} {t : Int} {i : Nat} {x : Trd} (hx : m.L[i]? = some x) (h : ¬ t - m.span < x.tick) : selT m t (i + 1) = selT m t i := by
  unfold selT
  rw [List.take_add_one, hx, List.filter_append]
  simp [h]
theorem selT_all (m : Wn) (t : Int) : selT m t m.L.length = m.inW t := by
  unfold selT Wn.inW
  rw [List.take_length]
theorem selT_len (m : Wn) (t : Int) (i : Nat) : (selT m t i).length ≤ i := Nat.le_trans (List.length_filter_le _ _) (by rw [List.length_take]; exact Nat.min_le_left _ _)
/-- The sums so far. -/
theorem pqs_take {l : List Trd} {k : Nat} {x : Trd} (hx : l[k]? = some x) : pqs (l.take (k + 1)) = pqs (l.take k) + x.price * x.qty ∧ qqs (l.take (k + 1)) = qqs (l.take k) + x.qty := by
  rw [List.take_add_one, hx, Option.toList_some, pqs_append, qqs_append]
  simp [pqs, qqs]
theorem sums_small {l : List Trd} (h : ∀ x ∈ l, x.Ok) : 0 ≤ pqs l ∧ 0 ≤ qqs l ∧ qqs l ≤ 4294967296 * l.length ∧ pqs l ≤ 1099511627776 * qqs l := by
  have h1 := qqs_pos h
  have h2 := pqs_between (lo := 1) (hi := 1099511627776) h fun x hx => (h x hx).p
  omega
section
variable {w w' W : World} {r : Nat} {S T : Nat → Prop} {m : Wn} {ko : Option Nat} {ao : Option Addr} {cap : Nat}
set_option maxRecDepth 100000 in
set_option maxHeartbeats 8000000 in
theorem rwmean_any (t : Int) (ht : In64 t) (hok : m.Ok) (hlen : m.L.length ≤ 1000000) (h : RW W r S m) : Calls Try.prog 22 #[.pointer (some ⟨r, 0, none⟩), .int .i64 t] W fun e w' => e = .returned (.tuple #[.int .i64 (m.mean t).1.1, .bool (m.mean t).1.2]) ∧ Tw W r S (m.mean t).2 w' := by
  have cK := rticks_any t h
  by_cases hk0 : tickOk m.last t
  rotate_left
  · have e : m.mean t = ((0, false), m) := by unfold Wn.mean; exact if_neg hk0
    rw [e]
    rw [decide_eq_false hk0] at cK
    have hk : ∀ w, Below W.heap.size W w → Tw W r S m w := fun w hb => Tw.below h hb
    clear e h hk0 hok hlen ht
    go_enter Try.func22, Try.ntmps22
    go_wp2_with (first
      | (go_at_call 36; refine cK.mono ?_; rintro e w ⟨rfl, hb⟩; clear cK)
      | fail)
    go_ret2
    exact ⟨rfl, hk _ hb⟩
  rw [decide_eq_true hk0] at cK
  obtain ⟨ko, ao, cap, h⟩ := h
  obtain ⟨i1, hi1, e1⟩ := Option.map_eq_some_iff.1 infoTrd
  simp only [Prod.mk.injEq] at e1
  obtain ⟨hz1, hs1, hb1⟩ := e1
  have hk : ∀ w, Below W.heap.size W w → w.cell? ⟨r, 3, none⟩ = some (.int .i64 m.last) ∧ (∀ i, w.frozen? ⟨r, i, none⟩ = false) ∧ RwB (w.setCell ⟨r, 3, none⟩ (.int .i64 t)) r S ko ao cap { m with last := t } ∧ Frm S W (w.setCell ⟨r, 3, none⟩ (.int .i64 t)) := fun w hb => by
    have h0 := h.frm (Frm.of_below (S := fun _ => False) hb) (fun _ f => f.elim)
    have hs : (w.setCell ⟨r, 3, none⟩ (.int .i64 t)).heap.size = w.heap.size := by simp
    exact ⟨h0.hr.cell_eq 3 _ rfl, h0.hr.free, ⟨h0.hr.set 3 _, h0.how.keep fun k e => heap_oth _ _ _ (h0.sk k e).2, h0.sr, h0.sk, fun c hc => by rw [hs]; exact h0.lt c hc⟩, (Frm.of_below hb).setCell ⟨r, 3, none⟩ _ (.inl h.sr)⟩
  have hsp := hok.s
  have hgr := hok.g
  obtain ⟨hk1, hk2, hk3⟩ := hk0
  have hdt : IntKind.i64.wrap (t - m.span) = t - m.span := by rw [IntKind.wrap_i64]; omega
  -- behind the first loop: the trades that stay
  have hfin : ∀ w3, RwB w3 r S ko ao cap { m with last := t } → Frm S W w3 → ∀ wr oo oc ko', Gr 68 3 cTrd w3 wr (m.inW t) ko' oc oo → wr.cell? ⟨r, 4, none⟩ = some (.slice ao m.L.length cap) ∧ (∀ i, wr.frozen? ⟨r, i, none⟩ = false) ∧ ∀ w5, w5 = wr.setCell ⟨r, 4, none⟩ (.slice oo (m.inW t).length oc) → RW w5 r (fun c => c = r ∨ ko' = some c) { m with last := t, L := m.inW t } ∧ Frm S W w5 ∧ (∀ c, c = r ∨ ko' = some c → S c ∨ W.heap.size ≤ c) ∧ Trds w5 oo oc (m.inW t) ∧ Blk w5 r 37 #[.int .i64 m.span, .int .i64 m.grid, .int .i64 m.ref, .int .i64 t, .slice oo (m.inW t).length oc] := by
    intro w3 h3 hf3 wr oo oc ko' hG
    have hrl := h3.lt r h3.sr
    have hB := h3.hr.below hG.bel hrl
    have hs3 := hf3.size
    have hsG := hG.bel.size
    refine ⟨hB.cell_eq 4 _ rfl, hB.free, ?_⟩
    rintro w5 rfl
    have hs : (wr.setCell ⟨r, 4, none⟩ (.slice oo (m.inW t).length oc)).heap.size = wr.heap.size := by simp
    have hB5 : Blk (wr.setCell ⟨r, 4, none⟩ (.slice oo (m.inW t).length oc)) r 37 #[.int .i64 m.span, .int .i64 m.grid, .int .i64 m.ref, .int .i64 t, .slice oo (m.inW t).length oc] := hB.set 4 _
    have hO5 := hG.ow.keep (w' := wr.setCell ⟨r, 4, none⟩ (.slice oo (m.inW t).length oc)) fun k e => heap_oth _ _ _ (show k ≠ r by have := hG.own k e; omega)
    refine ⟨⟨ko', oo, oc, hB5, hO5, .inl rfl, fun k e => ⟨.inr e, by have := hG.own k e; omega⟩, ?_⟩, ?_, ?_, Trds.of_own hO5, hB5⟩
    · rintro c (rfl | e)
      · rw [hs]; omega
      · rw [hs]; subst e; exact hG.ow.lt
    · exact (hf3.trans (Frm.of_below (S := fun _ => False) hG.bel) (fun _ f => f.elim)).setCell ⟨r, 4, none⟩ _ (.inl h.sr)
    · rintro c (rfl | e)
      · exact .inl h.sr
      · exact .inr (Nat.le_trans hs3 (hG.own c e))
  have hrd : ∀ w3, RwB w3 r S ko ao cap { m with last := t } → ∀ w, Below w3.heap.size w3 w → w.cell? ⟨r, 4, none⟩ = some (.slice ao m.L.length cap) ∧ w.cell? ⟨r, 0, none⟩ = some (.int .i64 m.span) ∧ Trds w ao cap m.L := fun w3 h3 w hb => by
    have h4 := h3.frm (Frm.of_below (S := fun _ => False) hb) (fun _ f => f.elim)
    exact ⟨h4.hr.cell_eq 4 _ rfl, h4.hr.cell_eq 0 _ rfl, h4.rows⟩
  have hall : ∀ x ∈ m.inW t, x.Ok := fun x hx => (hok.ok x (List.mem_filter.1 hx).1).1
  have hmean : m.mean t = if m.inW t = [] then ((0, false), { m with last := t, L := [] }) else ((gridM (pqs (m.inW t) / qqs (m.inW t)) m.grid, true), { m with last := t, L := m.inW t }) := by
    unfold Wn.mean
    exact if_pos ⟨hk1, hk2, hk3⟩
  have hinl : (m.inW t).length ≤ 1000000 := Nat.le_trans (List.length_filter_le _ _) hlen
  obtain ⟨v, hv⟩ : ∃ v, v = m.mean t := ⟨_, rfl⟩
  rw [← hv]
  rw [hmean] at hv
  replace hv := Lib.hid hv
  replace hfin := Lib.hid hfin
  replace hrd := Lib.hid hrd
  clear hmean hok h
  go_enter Try.func22, Try.ntmps22
  go_wp2_with (first
    | (go_at_call 36; refine cK.mono ?_; rintro e w ⟨rfl, hb⟩; clear cK; obtain ⟨c3, fr, h3, hf3⟩ := hk w hb; clear hk)
    | fail)
  have hrd3 := Lib.hid (hrd.out _ h3)
  have hfin3 := Lib.hid (hfin.out _ h3 hf3)
  generalize w.setCell ⟨r, 3, none⟩ (.int .i64 t) = w3 at *
  clear hrd hfin c3 fr hb
  go_loopg [6, 7] m.L.length (fun j p6 p7 wr => ∃ (i : Nat) (P : List Trd) (ko' : Option Nat) (oc : Nat) (oo : Option Addr), i + j = m.L.length ∧ p7 = .int .i64 (i : Int) ∧ p6 = .slice oo P.length oc ∧ Hid (P = selT m t i) ∧ Gr 68 3 cTrd w3 wr P ko' oc oo)
  case atStart => exact ⟨0, [], none, 0, none, by omega, rfl, rfl, Lib.hid rfl, Gr.start w3⟩
  case round =>
    obtain ⟨i, P, ko', oc, oo, hij, rfl, rfl, hP, hG⟩ := hrel
    obtain ⟨c4, c0, hT⟩ := hrd3.out wr hG.bel
    by_cases him : i < m.L.length
    · obtain ⟨x, hx⟩ : ∃ x, m.L[i]? = some x := ⟨_, List.getElem?_eq_getElem him⟩
      have hPi : P.length ≤ 1000000 := by have := selT_len m t i; rw [← hP.out] at this; omega
      have hi2 : (i : Int) < (m.L.length : Int) := by omega
      obtain ⟨bb, off, rfl, u0, u1, u2⟩ := hT.get hx
      replace u0 : wr.cell? ⟨bb, off + i * 3, none⟩ = some (.int .i64 x.tick) := u0
      have hyes : t - m.span < x.tick → P ++ [x] = selT m t (i + 1) := fun g => by rw [selT_yes hx g, hP.out]
      have hno : ¬ t - m.span < x.tick → P = selT m t (i + 1) := fun g => by rw [selT_no hx g, hP.out]
      replace hyes := Lib.hid hyes
      replace hno := Lib.hid hno
      have hone := cTrd_one x
      have hij' := Lib.hid hij
      clear hT hx hP hij hall
      obtain ⟨x0, x1, x2⟩ := x
      simp only at u0 u1 u2
      have hGn : ∀ n, Gr 68 3 cTrd w3 (wr.drewN n) P ko' oc oo := fun n => hG.call ⟨rfl, rfl, rfl, Nat.le_refl _, fun _ _ => rfl⟩
      by_cases hc : t - m.span < x0
      · go_wp2_with fail
        go_quiet (fail)
        have hG1 := hGn nq
        have u0' : (wr.drewN nq).cell? ⟨bb, off + i * 3, none⟩ = some (.int .i64 x0) := u0
        have u1' : (wr.drewN nq).cell? ⟨bb, off + i * 3 + 1, none⟩ = some (.int .i64 x1) := u1
        have u2' : (wr.drewN nq).cell? ⟨bb, off + i * 3 + 2, none⟩ = some (.int .i64 x2) := u2
        have c4' : (wr.drewN nq).cell? ⟨r, 4, none⟩ = some (.slice (some ⟨bb, off, none⟩) m.L.length cap) := c4
        clear hG hGn u0 u1 u2 c4 c0
        generalize wr.drewN nq = w1 at *
        go_wp2_with (first
          | (at_builtin; refine wpList_appG rfl (.tmp 47) (.tmp 55) 35 68 i1 _ 3 24 Try.underlying35 hi1 hz1 hs1 hb1 rfl (by decide) rfl (hG1.alloc _).ow (SrcG.row (cs := cTrd ⟨x0, x1, x2⟩) (Blk.new _ _ _) rfl hone) rfl rfl (by omega) (by omega) ?_; intro ao2 cap2 ko2 w5 ho2 hf2 hm2; have hG2 := (hG1.alloc (.cells (cTrd ⟨x0, x1, x2⟩) 68)).app ho2 hf2 hm2; clear hG1 ho2 hf2 hm2)
          | fail)
        go_roundg (m.L.length - (i + 1))
        case measure => have := hij'.out; omega
        case rel => exact ⟨i + 1, P ++ [⟨x0, x1, x2⟩], ko2, cap2, ao2, by have := hij'.out; omega, by go_num, by simp, Lib.hid (hyes.out hc), hG2⟩
      · go_wp2_with fail
        go_quiet (fail)
        have hG1 := hGn nq
        clear hG hGn u0 u1 u2 c4 c0
        generalize wr.drewN nq = w1 at *
        go_wp2_with fail
        go_roundg (m.L.length - (i + 1))
        case measure => have := hij'.out; omega
        case rel => exact ⟨i + 1, P, ko', oc, oo, by have := hij'.out; omega, by go_num, rfl, Lib.hid (hno.out hc), hG1⟩
    · obtain rfl : i = m.L.length := by omega
      have hPw := hP.out
      rw [selT_all] at hPw
      subst hPw
      obtain ⟨c4b, fr, hw5⟩ := hfin3.out wr oo oc ko' hG
      obtain ⟨w5, hw5e⟩ : ∃ w5, w5 = wr.setCell ⟨r, 4, none⟩ (.slice oo (m.inW t).length oc) := ⟨_, rfl⟩
      obtain ⟨hRW, hF5, hS5, hT5, hB5⟩ := hw5 w5 hw5e
      have hnl : ¬ (m.L.length : Int) < (m.L.length : Int) := by omega
      clear hfin3 hrd3 hP hT hw5 hij hG
      by_cases hemp : m.inW t = []
      · have hTw := Lib.hid (show Tw W r S { m with last := t, L := [] } w5 from ⟨_, by rw [hemp] at hRW; exact hRW, hF5, hS5⟩)
        have hl0 : (m.inW t).length = 0 := by rw [hemp]; rfl
        clear hRW hF5 hS5 hT5 hB5 hall
        rw [hl0] at hw5e
        rw [hl0]
        go_wp2_with (first | (rw [← hw5e]; clear hw5e) | fail)
        go_ret2
        exact ⟨by rw [hv.out, if_pos hemp]; rfl, by rw [hv.out, if_pos hemp]; exact hTw.out⟩
      · have hpos : 0 < (m.inW t).length := List.length_pos_iff.2 hemp
        have hTw := Lib.hid (show ∀ w, Below w5.heap.size w5 w → Tw W r S { m with last := t, L := m.inW t } w from fun w hb => ⟨_, hRW.below hb, hF5.trans (Frm.of_below (S := fun _ => False) hb) (fun _ f => f.elim), hS5⟩)
        have hv2 : v = ((gridM (pqs (m.inW t) / qqs (m.inW t)) m.grid, true), { m with last := t, L := m.inW t }) := by rw [hv.out, if_neg hemp]
        clear hv hemp hRW hF5 hS5
        replace hv2 := Lib.hid hv2
        have hpi : ¬ ((m.inW t).length : Int) = 0 := by omega
        have hrl : r < w5.heap.size := hB5.lt
        have zv := zero28
        generalize m.inW t = l at *
        have hgs : (∀ k, 0 ≤ pqs (l.take k) ∧ 0 ≤ qqs (l.take k) ∧ qqs (l.take k) ≤ 4294967296000000 ∧ pqs (l.take k) ≤ 1099511627776 * 4294967296000000) := fun k => by
          have h1 := sums_small (l := l.take k) fun x hx => hall x (List.mem_of_mem_take hx)
          have h2 : (l.take k).length ≤ 1000000 := by rw [List.length_take]; omega
          have h3 : (4294967296 : Int) * ((l.take k).length : Int) ≤ 4294967296 * 1000000 := Int.mul_le_mul_of_nonneg_left (by omega) (by omega)
          have h4 : (1099511627776 : Int) * qqs (l.take k) ≤ 1099511627776 * 4294967296000000 := Int.mul_le_mul_of_nonneg_left (by omega) (by omega)
          omega
        replace hgs := Lib.hid hgs
        go_wp2_with (first | (rw [← hw5e]; clear hw5e) | fail)
        generalize hw6 : w5.alloc (.cells (arr fun _ => false) 70) = w6 at *
        have hb56 : Below w5.heap.size w5 w6 := by rw [← hw6]; exact (Below.refl _ _).alloc (Nat.le_refl _) _
        have hB6 : Blk w6 w5.heap.size 70 (arr (nb 0)) := by
          rw [← hw6, show arr (nb 0) = arr (fun _ => false) from arr_congr fun i _ => by simp [nb]]
          exact Blk.new _ _ _
        clear hw6
        go_loopg [9, 10] l.length (fun j p9 p10 wr => ∃ (k : Nat) (z : Int), k + j = l.length ∧ p10 = .int .i64 (k : Int) ∧ p9 = .int .u64 z ∧ Hid (z = qqs (l.take k)) ∧ Hid (Blk wr w5.heap.size 70 (arr (nb (pqs (l.take k)).toNat))) ∧ Below w5.heap.size w5 wr)
        case atStart => exact ⟨0, 0, by omega, rfl, rfl, Lib.hid rfl, Lib.hid hB6, hb56⟩
        case round =>
          clear hB6 hb56 zv
          obtain ⟨k, z, hkj, rfl, rfl, hz, hBk, hbk⟩ := hrel
          by_cases hkl : k < l.length
          · obtain ⟨x, hx⟩ : ∃ x, l[k]? = some x := ⟨_, List.getElem?_eq_getElem hkl⟩
            obtain ⟨e1, e2⟩ := pqs_take hx
            have hxo := hall x (List.mem_of_getElem? hx)
            have g1 := hgs.out k
            have g2 := hgs.out (k + 1)
            obtain ⟨bb, off, rfl, u0, u1, u2⟩ := hT5.get hx
            have hbl : bb < w5.heap.size := World.block_lt_of_cell? w5 ⟨bb, off + k * 3 + 0, none⟩ u0
            have hfacts : ∀ w, Frm (fun c => c = w5.heap.size) wr w → w.cell? ⟨bb, off + k * 3 + 1, none⟩ = some (.int .i64 x.price) ∧ w.cell? ⟨bb, off + k * 3 + 2, none⟩ = some (.int .i64 x.qty) := fun w hf => by
              have hlw : bb < wr.heap.size := Nat.lt_of_lt_of_le hbl hbk.size
              have hh : w.heap[bb]? = w5.heap[bb]? := (hf.block bb hlw (by omega)).trans (hbk.block bb hbl)
              exact ⟨(World.cell?_of_block (a := ⟨bb, off + k * 3 + 1, none⟩) hh).trans u1, (World.cell?_of_block (a := ⟨bb, off + k * 3 + 2, none⟩) hh).trans u2⟩
            have hw1 : IntKind.u64.wrap x.price = x.price := by rw [IntKind.wrap_u64]; have := hxo.p; omega
            have hw2 : IntKind.u64.wrap x.qty = x.qty := by rw [IntKind.wrap_u64]; have := hxo.q; omega
            have cM := fun w => mulN x.price x.qty ⟨by have := hxo.p; omega, by have := hxo.p; omega⟩ ⟨by have := hxo.q; omega, by have := hxo.q; omega⟩ w
            obtain ⟨N, hN⟩ : ∃ N, N = (pqs (l.take k)).toNat := ⟨_, rfl⟩
            obtain ⟨M, hM⟩ : ∃ M, M = x.price.toNat * x.qty.toNat := ⟨_, rfl⟩
            have hN2 : (pqs (l.take (k + 1))).toNat = N + M := by
              have h3 : 0 ≤ x.price * x.qty := Int.mul_nonneg (by have := hxo.p; omega) (by have := hxo.q; omega)
              rw [e1, hN, hM, Int.toNat_add g1.1 h3, Int.toNat_mul (by have := hxo.p; omega) (by have := hxo.q; omega)]
            obtain ⟨pA, cA⟩ := addN N M
            obtain ⟨z2, hz2⟩ : ∃ z2, z2 = z + x.qty := ⟨_, rfl⟩
            have hwz : IntKind.u64.wrap (z + x.qty) = z2 := by rw [hz2, IntKind.wrap_u64]; have := hxo.q; have := hz.out; omega
            have hzz := Lib.hid (show z2 = qqs (l.take (k + 1)) by rw [e2, hz2, hz.out])
            rw [← hN] at hBk
            rw [← hM] at cM
            have hBk' := hBk.out
            have hN2' := Lib.hid hN2
            have hki : (k : Int) < (l.length : Int) := by omega
            have hkj' := Lib.hid hkj
            replace hfacts := Lib.hid hfacts
            clear hN hM e1 e2 g1 g2 hxo hx hz hBk u0 u1 u2 hT5 hz2 hN2 hkj hgs hall hB5
            obtain ⟨x0, x1, x2⟩ := x
            simp only at hfacts hw1 hw2 cM hwz
            go_wp2_with fail
            refine wp_region_S (S := Lst wr w5.heap.size 70 (arr (nb N)) (arr (nb (N + M))) 18 0) (by kernel_rfl) (Lst.start hBk' _) ?_
            refine AllS.next (v := (.agg (arr (nb N)))) rfl rfl rfl (by kernel_rfl) ?_ ?_
            · refine yieldsS_load28r ?_ (by rfl) rfl rfl fun L wx hL hS => hS.read hL
              intro L wx hL hS
              exact Lst.other (by decide) hS
            try simp only [Act.put, List.setIfInBounds_toArray, List.set_cons_zero, List.set_cons_succ, List.getElem_toArray, List.getElem_cons_zero, List.getElem_cons_succ]
            refine AllS.next (v := ?_) rfl rfl rfl (by kernel_rfl) ?_ ?_
            rotate_left
            · refine yieldsS_runr ?_ (by rfl) ?_
              · intro L wx hL hS
                exact Lst.other (by decide) hS
              intro L wx hL hS
              skip
              go_simp
              try with_reducible rfl
            try simp only [Act.put, List.setIfInBounds_toArray, List.set_cons_zero, List.set_cons_succ, List.getElem_toArray, List.getElem_cons_zero, List.getElem_cons_succ]
            refine AllS.next (v := ?_) rfl rfl rfl (by kernel_rfl) ?_ ?_
            rotate_left
            · refine yieldsS_runr ?_ (by rfl) ?_
              · intro L wx hL hS
                exact Lst.other (by decide) hS
              intro L wx hL hS
              skip
              go_simp
              try with_reducible rfl
            try simp only [Act.put, List.setIfInBounds_toArray, List.set_cons_zero, List.set_cons_succ, List.getElem_toArray, List.getElem_cons_zero, List.getElem_cons_succ]
            refine AllS.next (v := ?_) rfl rfl rfl (by kernel_rfl) ?_ ?_
            rotate_left
            · refine yieldsS_runr ?_ (by rfl) ?_
              · intro L wx hL hS
                exact Lst.other (by decide) hS
              intro L wx hL hS
              skip
              go_simp
              try with_reducible rfl
            try simp only [Act.put, List.setIfInBounds_toArray, List.set_cons_zero, List.set_cons_succ, List.getElem_toArray, List.getElem_cons_zero, List.getElem_cons_succ]
            refine AllS.next (v := ?_) rfl rfl rfl (by kernel_rfl) ?_ ?_
            rotate_left
            · refine yieldsS_runr ?_ (by rfl) ?_
              · intro L wx hL hS
                exact Lst.other (by decide) hS
              intro L wx hL hS
              skip
              go_simp
              try with_reducible rfl
            try simp only [Act.put, List.setIfInBounds_toArray, List.set_cons_zero, List.set_cons_succ, List.getElem_toArray, List.getElem_cons_zero, List.getElem_cons_succ]
            refine AllS.next (v := ?_) rfl rfl rfl (by kernel_rfl) ?_ ?_
            rotate_left
            · refine yieldsS_runr ?_ (by rfl) ?_
              · intro L wx hL hS
                exact Lst.other (by decide) hS
              intro L wx hL hS
              obtain ⟨c1, c2⟩ := hfacts.out wx hS.frm
              go_simp
              try with_reducible rfl
            try simp only [Act.put, List.setIfInBounds_toArray, List.set_cons_zero, List.set_cons_succ, List.getElem_toArray, List.getElem_cons_zero, List.getElem_cons_succ]
            refine AllS.next (v := (.int .u64 x1)) rfl rfl rfl (by kernel_rfl) ?_ ?_
            · refine yieldsS_runr ?_ (by rfl) ?_
              · intro L wx hL hS
                exact Lst.other (by decide) hS
              intro L wx hL hS
              skip
              go_simp
              all_goals first | exact hw1 | rfl
            try simp only [Act.put, List.setIfInBounds_toArray, List.set_cons_zero, List.set_cons_succ, List.getElem_toArray, List.getElem_cons_zero, List.getElem_cons_succ]
            refine AllS.next (v := ?_) rfl rfl rfl (by kernel_rfl) ?_ ?_
            rotate_left
            · refine yieldsS_runr ?_ (by rfl) ?_
              · intro L wx hL hS
                exact Lst.other (by decide) hS
              intro L wx hL hS
              skip
              go_simp
              try with_reducible rfl
            try simp only [Act.put, List.setIfInBounds_toArray, List.set_cons_zero, List.set_cons_succ, List.getElem_toArray, List.getElem_cons_zero, List.getElem_cons_succ]
            refine AllS.next (v := ?_) rfl rfl rfl (by kernel_rfl) ?_ ?_
            rotate_left
            · refine yieldsS_runr ?_ (by rfl) ?_
              · intro L wx hL hS
                exact Lst.other (by decide) hS
              intro L wx hL hS
              skip
              go_simp
              try with_reducible rfl
            try simp only [Act.put, List.setIfInBounds_toArray, List.set_cons_zero, List.set_cons_succ, List.getElem_toArray, List.getElem_cons_zero, List.getElem_cons_succ]
            refine AllS.next (v := ?_) rfl rfl rfl (by kernel_rfl) ?_ ?_
            rotate_left
            · refine yieldsS_runr ?_ (by rfl) ?_
              · intro L wx hL hS
                exact Lst.other (by decide) hS
              intro L wx hL hS
              skip
              go_simp
              try with_reducible rfl
            try simp only [Act.put, List.setIfInBounds_toArray, List.set_cons_zero, List.set_cons_succ, List.getElem_toArray, List.getElem_cons_zero, List.getElem_cons_succ]
            refine AllS.next (v := ?_) rfl rfl rfl (by kernel_rfl) ?_ ?_
            rotate_left
            · refine yieldsS_runr ?_ (by rfl) ?_
              · intro L wx hL hS
                exact Lst.other (by decide) hS
              intro L wx hL hS
              skip
              go_simp
              try with_reducible rfl
            try simp only [Act.put, List.setIfInBounds_toArray, List.set_cons_zero, List.set_cons_succ, List.getElem_toArray, List.getElem_cons_zero, List.getElem_cons_succ]
            refine AllS.next (v := ?_) rfl rfl rfl (by kernel_rfl) ?_ ?_
            rotate_left
            · refine yieldsS_runr ?_ (by rfl) ?_
              · intro L wx hL hS
                exact Lst.other (by decide) hS
              intro L wx hL hS
              obtain ⟨c1, c2⟩ := hfacts.out wx hS.frm
              go_simp
              try with_reducible rfl
            try simp only [Act.put, List.setIfInBounds_toArray, List.set_cons_zero, List.set_cons_succ, List.getElem_toArray, List.getElem_cons_zero, List.getElem_cons_succ]
            refine AllS.next (v := (.int .u64 x2)) rfl rfl rfl (by kernel_rfl) ?_ ?_
            · refine yieldsS_runr ?_ (by rfl) ?_
              · intro L wx hL hS
                exact Lst.other (by decide) hS
              intro L wx hL hS
              skip
              go_simp
              all_goals first | exact hw2 | rfl
            try simp only [Act.put, List.setIfInBounds_toArray, List.set_cons_zero, List.set_cons_succ, List.getElem_toArray, List.getElem_cons_zero, List.getElem_cons_succ]
            refine AllS.next (v := (.agg (arr (nb M)))) rfl rfl rfl (by kernel_rfl) ?_ ?_
            · refine yieldsS_call (f := 38) (args := #[.int .u64 x1, .int .u64 x2]) (by rfl) ?_ ?_
              · intro wx
                go_simp
              · intro L wx hS
                exact (cM wx).mono fun e w h => ⟨h.1, Lst.call (by decide) hS h.2⟩
            try simp only [Act.put, List.setIfInBounds_toArray, List.set_cons_zero, List.set_cons_succ, List.getElem_toArray, List.getElem_cons_zero, List.getElem_cons_succ]
            refine AllS.next (v := (.tuple #[.agg (arr (nb (N + M))), .bool pA])) rfl rfl rfl (by kernel_rfl) ?_ ?_
            · refine yieldsS_call (f := 37) (args := #[.agg (arr (nb N)), .agg (arr (nb M))]) (by rfl) ?_ ?_
              · intro wx
                go_simp
              · intro L wx hS
                exact (cA wx).mono fun e w h => ⟨h.1, Lst.call (by decide) hS h.2⟩
            try simp only [Act.put, List.setIfInBounds_toArray, List.set_cons_zero, List.set_cons_succ, List.getElem_toArray, List.getElem_cons_zero, List.getElem_cons_succ]
            refine AllS.next (v := ?_) rfl rfl rfl (by kernel_rfl) ?_ ?_
            rotate_left
            · refine yieldsS_runr ?_ (by rfl) ?_
              · intro L wx hL hS
                exact Lst.other (by decide) hS
              intro L wx hL hS
              skip
              go_simp
              try with_reducible rfl
            try simp only [Act.put, List.setIfInBounds_toArray, List.set_cons_zero, List.set_cons_succ, List.getElem_toArray, List.getElem_cons_zero, List.getElem_cons_succ]
            refine AllS.next (v := ?_) rfl rfl rfl (by kernel_rfl) ?_ ?_
            rotate_left
            · refine yieldsS_runr ?_ (by rfl) ?_
              · intro L wx hL hS
                exact Lst.other (by decide) hS
              intro L wx hL hS
              skip
              go_simp
              try with_reducible rfl
            try simp only [Act.put, List.setIfInBounds_toArray, List.set_cons_zero, List.set_cons_succ, List.getElem_toArray, List.getElem_cons_zero, List.getElem_cons_succ]
            refine AllS.next (v := ?_) rfl rfl rfl (by kernel_rfl) ?_ ?_
            rotate_left
            · refine yieldsS_runr ?_ (by rfl) ?_
              · intro L wx hL hS
                exact Lst.other (by decide) hS
              intro L wx hL hS
              skip
              go_simp
              try with_reducible rfl
            try simp only [Act.put, List.setIfInBounds_toArray, List.set_cons_zero, List.set_cons_succ, List.getElem_toArray, List.getElem_cons_zero, List.getElem_cons_succ]
            refine AllS.next (v := undef) rfl rfl rfl (by kernel_rfl) ?_ ?_
            · exact yieldsS_store28 (by rfl) rfl rfl rfl fun L wx hL hS => ⟨⟨_, hS.old hL⟩, hS.done hL (ready_dep hL (by kernel_rfl)) (frm_setRow _ _ _) ((hS.old hL).setRow _)⟩
            try simp only [Act.put, List.setIfInBounds_toArray, List.set_cons_zero, List.set_cons_succ, List.getElem_toArray, List.getElem_cons_zero, List.getElem_cons_succ]
            refine AllS.done (by kernel_rfl) fun w8 hS => ?_
            obtain ⟨k8, hf8⟩ := hS.end' (by rfl)
            obtain ⟨c1, c2⟩ := hfacts.out w8 hf8
            have hb8 : Below w5.heap.size w5 w8 := hbk.trans (hf8.below hbk.size (fun c e => by omega))
            replace k8 := Lib.hid k8
            clear hfacts hS hBk' cA cM
            try simp only [Act.put, List.setIfInBounds_toArray, List.set_cons_zero, List.set_cons_succ, List.getElem_toArray, List.getElem_cons_zero, List.getElem_cons_succ]
            go_wp2_with fail
            go_roundg (l.length - (k + 1))
            case measure => have := hkj'.out; omega
            case rel => exact ⟨k + 1, z2, by have := hkj'.out; omega, by go_num, rfl, hzz, Lib.hid (by rw [hN2'.out]; exact k8.out), hb8⟩
          · obtain rfl : k = l.length := by omega
            have g1 := hgs.out l.length
            have hbk' := hBk.out
            rw [List.take_length] at hbk' g1
            have hq1 : (l.length : Int) ≤ qqs l := (qqs_pos hall).1
            have hzq : z = qqs l := by rw [hz.out, List.take_length]
            obtain ⟨d, hd⟩ := Int.eq_ofNat_of_zero_le g1.2.1
            obtain ⟨N, hN⟩ := Int.eq_ofNat_of_zero_le g1.1
            rw [hN, Int.toNat_natCast] at hbk'
            rw [hd] at hzq g1 hq1
            rw [hN] at g1
            subst hzq
            have hle : N / d ≤ 1099511627776 := by
              have h9 : N ≤ 1099511627776 * d := by
                have := (sums_small hall).2.2.2
                rw [hN, hd] at this
                omega
              exact Nat.div_le_of_le_mul (by rw [Nat.mul_comm]; exact h9)
            have hdp : 0 < d := by omega
            have cD := fun w => rdiv_any N d (by omega) hdp (by omega) w
            have cH := fun w => halvesN (N / d) (by omega) w
            rw [show N / d % 18446744073709551616 = N / d from Nat.mod_eq_of_lt (by omega)] at cH
            have hv3 : v = ((gridM ((N / d : Nat) : Int) m.grid, true), { m with last := t, L := l }) := by rw [hv2.out, hN, hd]; rfl
            obtain ⟨n, hn⟩ : ∃ n, n = N / d := ⟨_, rfl⟩
            rw [← hn] at hv3 hle cH
            have cW := fun w => rdown_any (n : Int) m.grid ⟨by omega, by omega⟩ ⟨by omega, by omega⟩ w
            have hdw : downV (n : Int) m.grid = (n : Int) - (n : Int) % m.grid := by unfold downV; exact if_neg (by omega)
            rw [hdw] at cW
            have hwn : IntKind.i64.wrap (n : Int) = (n : Int) := by rw [IntKind.wrap_i64]; omega
            have xm := wmax_fact ((n : Int) - (n : Int) % m.grid) m.grid (gridM (n : Int) m.grid) rfl
            obtain ⟨G, hG⟩ : ∃ G, G = gridM (n : Int) m.grid := ⟨_, rfl⟩
            rw [← hG] at hv3 xm
            obtain ⟨y, hy⟩ : ∃ y, y = (n : Int) - (n : Int) % m.grid := ⟨_, rfl⟩
            rw [← hy] at cW xm
            have zv := zero28
            have hB8 := hB5.below hbk hB5.lt
            have hcd : ∀ w, Below w5.heap.size w5 w → w.cell? ⟨r, 1, none⟩ = some (.int .i64 m.grid) := fun w hb => (hB5.below hb hB5.lt).cell_eq 1 _ rfl
            have hnl : ¬ (l.length : Int) < (l.length : Int) := by omega
            have cD' : ∀ w, Calls Try.prog 39 #[.agg (arr (nb N)), .int .u64 (d : Int)] w fun e w' => e = .returned (.tuple #[.agg (arr (nb n)), .agg (arr (nb (N % d)))]) ∧ Below w.heap.size w w' := by rw [hn]; exact cD
            replace hv3 := Lib.hid hv3
            obtain ⟨R, hR⟩ : ∃ R, R = nb (N % d) := ⟨_, rfl⟩
            rw [← hR] at cD'
            obtain ⟨A, hA⟩ : ∃ A, A = nb n := ⟨_, rfl⟩
            rw [← hA] at cD' cH
            obtain ⟨F, hF⟩ : ∃ F, F = nb N := ⟨_, rfl⟩
            rw [← hF] at cD' hbk'
            clear hn hv2 hle hdw hG hy g1 hq1 hd hN hdp cD hR hA hF hz hBk hgs hall hT5 hB5 hB8
            have hnx : ∀ w8, Below w5.heap.size w5 w8 → ∀ w9, w9 = (((w8.alloc (.cells (arr fun _ => false) 70)).alloc (.cells (arr fun _ => false) 70)).setRow w8.heap.size (arr A)).setRow (w8.heap.size + 1) (arr R) → Blk w9 w8.heap.size 70 (arr A) ∧ Below w5.heap.size w5 w9 := by
              rintro w8 hb w9 rfl
              have hs := hb.size
              have k1 : Blk ((w8.alloc (.cells (arr fun _ => false) 70)).alloc (.cells (arr fun _ => false) 70)) w8.heap.size 70 (arr fun _ => false) := (Blk.new _ _ _).alloc _
              exact ⟨(k1.setRow _).setRow_other (by omega) _, below_setRow (below_setRow ((hb.alloc hs _).alloc (by simp; omega) _) hs _) (by omega) _⟩
            replace hnx := Lib.hid hnx
            go_wp2_with (first
              | (refine ld28 rfl (.tmp 8) rfl w5.heap.size rfl F hbk' ?_)
              | (go_at_call 39; (with_reducible refine (cD' _).mono ?_); rintro e w8 ⟨rfl, hb8⟩; clear cD' hbk'; have hb58 := hbk.trans (hb8.mono hbk.size))
              | (refine st28 rfl (.tmp 11) (.tmp 100) rfl w8.heap.size A (fun _ => false) rfl rfl ((Blk.new _ _ _).alloc _) ?_)
              | (refine st28 rfl (.tmp 12) (.tmp 101) rfl (w8.heap.size + 1) R (fun _ => false) rfl rfl ((Blk.new' (by simp)).setRow_other (by omega) _) ?_; obtain ⟨hA9, hb59⟩ := hnx.out w8 hb58 _ rfl; generalize (((w8.alloc (.cells (arr fun _ => false) 70)).alloc (.cells (arr fun _ => false) 70)).setRow w8.heap.size (arr A)).setRow (w8.heap.size + 1) (arr R) = w9 at *)
              | (refine ld28 rfl (.tmp 11) rfl w8.heap.size rfl A hA9 ?_)
              | (go_at_call 40; (with_reducible refine (cH _).mono ?_); rintro e w10 ⟨rfl, hb10⟩; clear cH hA9; have hb510 := hb59.trans (hb10.mono hb59.size))
              | fail)
            refine wp_region_S (S := fun _ w => Below w5.heap.size w5 w) (by kernel_rfl) hb510.drew ?_
            refine AllS.next (v := ?_) rfl rfl rfl (by kernel_rfl) ?_ ?_
            rotate_left
            · refine yieldsS_run (fun _ _ h => h) (by rfl) ?_
              intro L wx hS
              skip
              go_simp
              try with_reducible rfl
            try simp only [Act.put, List.setIfInBounds_toArray, List.set_cons_zero, List.set_cons_succ, List.getElem_toArray, List.getElem_cons_zero, List.getElem_cons_succ]
            refine AllS.next (v := (.int .i64 (n : Int))) rfl rfl rfl (by kernel_rfl) ?_ ?_
            · refine yieldsS_run (fun _ _ h => h) (by rfl) ?_
              intro L wx hS
              skip
              go_simp
              all_goals first | exact hwn | rfl
            try simp only [Act.put, List.setIfInBounds_toArray, List.set_cons_zero, List.set_cons_succ, List.getElem_toArray, List.getElem_cons_zero, List.getElem_cons_succ]
            refine AllS.next (v := ?_) rfl rfl rfl (by kernel_rfl) ?_ ?_
            rotate_left
            · refine yieldsS_run (fun _ _ h => h) (by rfl) ?_
              intro L wx hS
              skip
              go_simp
              try with_reducible rfl
            try simp only [Act.put, List.setIfInBounds_toArray, List.set_cons_zero, List.set_cons_succ, List.getElem_toArray, List.getElem_cons_zero, List.getElem_cons_succ]
            refine AllS.next (v := ?_) rfl rfl rfl (by kernel_rfl) ?_ ?_
            rotate_left
            · refine yieldsS_run (fun _ _ h => h) (by rfl) ?_
              intro L wx hS
              skip
              go_simp
              try with_reducible rfl
            try simp only [Act.put, List.setIfInBounds_toArray, List.set_cons_zero, List.set_cons_succ, List.getElem_toArray, List.getElem_cons_zero, List.getElem_cons_succ]
            refine AllS.next (v := ?_) rfl rfl rfl (by kernel_rfl) ?_ ?_
            rotate_left
            · refine yieldsS_run (fun _ _ h => h) (by rfl) ?_
              intro L wx hS
              skip
              go_simp
              try with_reducible rfl
            try simp only [Act.put, List.setIfInBounds_toArray, List.set_cons_zero, List.set_cons_succ, List.getElem_toArray, List.getElem_cons_zero, List.getElem_cons_succ]
            refine AllS.next (v := ?_) rfl rfl rfl (by kernel_rfl) ?_ ?_
            rotate_left
            · refine yieldsS_run (fun _ _ h => h) (by rfl) ?_
              intro L wx hS
              have c1 := hcd wx hS
              go_simp
              try with_reducible rfl
            try simp only [Act.put, List.setIfInBounds_toArray, List.set_cons_zero, List.set_cons_succ, List.getElem_toArray, List.getElem_cons_zero, List.getElem_cons_succ]
            refine AllS.next (v := (.int .i64 y)) rfl rfl rfl (by kernel_rfl) ?_ ?_
            · refine yieldsS_call (f := 41) (args := #[.int .i64 (n : Int), .int .i64 m.grid]) (by rfl) ?_ ?_
              · intro wx
                go_simp
              · intro L wx hS
                exact (cW wx).mono fun e w h => ⟨h.1, hS.trans (h.2.mono hS.size)⟩
            try simp only [Act.put, List.setIfInBounds_toArray, List.set_cons_zero, List.set_cons_succ, List.getElem_toArray, List.getElem_cons_zero, List.getElem_cons_succ]
            refine AllS.next (v := ?_) rfl rfl rfl (by kernel_rfl) ?_ ?_
            rotate_left
            · refine yieldsS_run (fun _ _ h => h) (by rfl) ?_
              intro L wx hS
              skip
              go_simp
              try with_reducible rfl
            try simp only [Act.put, List.setIfInBounds_toArray, List.set_cons_zero, List.set_cons_succ, List.getElem_toArray, List.getElem_cons_zero, List.getElem_cons_succ]
            refine AllS.next (v := ?_) rfl rfl rfl (by kernel_rfl) ?_ ?_
            rotate_left
            · refine yieldsS_run (fun _ _ h => h) (by rfl) ?_
              intro L wx hS
              skip
              go_simp
              try with_reducible rfl
            try simp only [Act.put, List.setIfInBounds_toArray, List.set_cons_zero, List.set_cons_succ, List.getElem_toArray, List.getElem_cons_zero, List.getElem_cons_succ]
            refine AllS.next (v := ?_) rfl rfl rfl (by kernel_rfl) ?_ ?_
            rotate_left
            · refine yieldsS_run (fun _ _ h => h) (by rfl) ?_
              intro L wx hS
              skip
              go_simp
              try with_reducible rfl
            try simp only [Act.put, List.setIfInBounds_toArray, List.set_cons_zero, List.set_cons_succ, List.getElem_toArray, List.getElem_cons_zero, List.getElem_cons_succ]
            refine AllS.next (v := ?_) rfl rfl rfl (by kernel_rfl) ?_ ?_
            rotate_left
            · refine yieldsS_run (fun _ _ h => h) (by rfl) ?_
              intro L wx hS
              have c1 := hcd wx hS
              go_simp
              try with_reducible rfl
            try simp only [Act.put, List.setIfInBounds_toArray, List.set_cons_zero, List.set_cons_succ, List.getElem_toArray, List.getElem_cons_zero, List.getElem_cons_succ]
            refine AllS.next (v := (.int .i64 G)) rfl rfl rfl (by kernel_rfl) ?_ ?_
            · refine yieldsS_run (fun _ _ h => h) (by rfl) ?_
              intro L wx hS
              skip
              go_simp
              all_goals first | exact xm _ _ _ | rfl
            try simp only [Act.put, List.setIfInBounds_toArray, List.set_cons_zero, List.set_cons_succ, List.getElem_toArray, List.getElem_cons_zero, List.getElem_cons_succ]
            refine AllS.next (v := ?_) rfl rfl rfl (by kernel_rfl) ?_ ?_
            rotate_left
            · refine yieldsS_run (fun _ _ h => h) (by rfl) ?_
              intro L wx hS
              skip
              go_simp
              try with_reducible rfl
            try simp only [Act.put, List.setIfInBounds_toArray, List.set_cons_zero, List.set_cons_succ, List.getElem_toArray, List.getElem_cons_zero, List.getElem_cons_succ]
            refine AllS.next (v := ?_) rfl rfl rfl (by kernel_rfl) ?_ ?_
            rotate_left
            · refine yieldsS_run (fun _ _ h => h) (by rfl) ?_
              intro L wx hS
              skip
              go_simp
              try with_reducible rfl
            try simp only [Act.put, List.setIfInBounds_toArray, List.set_cons_zero, List.set_cons_succ, List.getElem_toArray, List.getElem_cons_zero, List.getElem_cons_succ]
            refine AllS.done (by kernel_rfl) fun w11 hS => ?_
            try simp only [Act.put, List.setIfInBounds_toArray, List.set_cons_zero, List.set_cons_succ, List.getElem_toArray, List.getElem_cons_zero, List.getElem_cons_succ]
            go_wp2_with fail
            go_ret2
            exact ⟨by rw [hv3.out]; rfl, by rw [hv3.out]; exact hTw.out _ hS⟩
end
end Go.Proofs.Yteljjjdejjkgfaa
namespace Go.Proofs.Yteljjjdejjkgfaa
open Go.RowKit
set_option linter.unusedSimpArgs false
section
variable {w w' W : World} {r : Nat} {S T : Nat → Prop} {m : Wn} {ko : Option Nat} {ao : Option Addr} {cap : Nat}
theorem Wn.mean_ref (m : Wn) (t : Int) : (m.mean t).2.ref = m.ref := by
  unfold Wn.mean
  split
  · split <;> rfl
  · rfl
set_option maxRecDepth 8000 in
set_option maxHeartbeats 4000000 in
theorem rwroll_any (t bps : Int) (ht : In64 t) (hok : m.Ok) (hlen : m.L.length ≤ 1000000) (h : RW W r S m) : Calls Try.prog 23 #[.pointer (some ⟨r, 0, none⟩), .int .i64 t, .int .i64 bps] W fun e w' => e = .returned (.tuple #[.int .i64 (m.roll t bps).1.1, .bool (m.roll t bps).1.2]) ∧ Tw W r S (m.roll t bps).2 w' := by
  have cM := rwmean_any t ht hok hlen h
  have href := m.mean_ref t
  unfold Wn.roll
  obtain ⟨⟨⟨n, is⟩, m2⟩, hx⟩ : ∃ x, x = m.mean t := ⟨_, rfl⟩
  rw [← hx] at cM href
  rw [← hx]
  simp only at cM href ⊢
  clear hx h
  have hcell : ∀ w, Tw W r S m2 w → w.cell? ⟨r, 2, none⟩ = some (.int .i64 m.ref) ∧ (∀ i, w.frozen? ⟨r, i, none⟩ = false) ∧ (∀ w', Below w.heap.size w w' → Tw W r S m2 w') ∧ Tw W r S { m2 with ref := n } (w.setCell ⟨r, 2, none⟩ (.int .i64 n)) := fun w h => by
    obtain ⟨S', ⟨ko, ao, cap, h1⟩, h2, h3⟩ := h
    have c2 := h1.hr.cell_eq 2 _ rfl
    rw [href] at c2
    have hs : (w.setCell ⟨r, 2, none⟩ (.int .i64 n)).heap.size = w.heap.size := by simp
    refine ⟨c2, h1.hr.free, fun w' hb => ⟨S', RW.below ⟨ko, ao, cap, h1⟩ hb, h2.trans (Frm.of_below (S := fun _ => False) hb) (fun _ f => f.elim), h3⟩, S', ⟨ko, ao, cap, h1.hr.set 2 _, h1.how.keep fun k e => heap_oth _ _ _ (h1.sk k e).2, h1.sr, h1.sk, fun c hc => by rw [hs]; exact h1.lt c hc⟩, h2.setCell ⟨r, 2, none⟩ _ (h3 r h1.sr), h3⟩
  have cV := fun w => rmoved_any m.ref n bps w
  have key : (is = false) ∨ (is = true ∧ (movedB m.ref n bps = false ∨ movedB m.ref n bps = true)) := by
    cases is <;> cases movedB m.ref n bps <;> simp
  generalize movedB m.ref n bps = v at *
  rcases key with rfl | ⟨rfl, rfl | rfl⟩
  · rw [if_neg (by simp)]
    clear hok ht cV
    go_enter Try.func23, Try.ntmps23
    go_wp2_with (first
      | (go_at_call 22; refine cM.mono ?_; rintro e w ⟨rfl, k⟩; clear cM; obtain ⟨c2, -⟩ := hcell w k)
      | fail)
    refine bodyPost_ret (v := .tuple #[.int .i64 m.ref, .bool false]) ?_ rfl ?_
    rotate_left
    · exact ⟨rfl, k⟩
    simp [results, Try.results23, go_sem]
  · rw [if_neg (by simp)]
    clear hok ht
    go_enter Try.func23, Try.ntmps23
    go_wp2_with (first
      | (go_at_call 22; refine cM.mono ?_; rintro e w ⟨rfl, k⟩; clear cM; obtain ⟨c2, -⟩ := hcell w k)
      | (go_at_call 14; refine (cV _).mono ?_; rintro e w2 ⟨rfl, b2⟩; clear cV c2; have k2 := (hcell w k).2.2.1 w2 b2; obtain ⟨c2, -⟩ := hcell w2 k2)
      | fail)
    refine bodyPost_ret (v := .tuple #[.int .i64 m.ref, .bool false]) ?_ rfl ?_
    rotate_left
    · exact ⟨rfl, k2⟩
    simp [results, Try.results23, go_sem]
  · rw [if_pos ⟨rfl, rfl⟩]
    clear hok ht
    go_enter Try.func23, Try.ntmps23
    go_wp2_with (first
      | (go_at_call 22; refine cM.mono ?_; rintro e w ⟨rfl, k⟩; clear cM; obtain ⟨c2, -⟩ := hcell w k)
      | (go_at_call 14; refine (cV _).mono ?_; rintro e w2 ⟨rfl, b2⟩; clear cV c2; have k2 := (hcell w k).2.2.1 w2 b2; obtain ⟨c2, fr, -, hT⟩ := hcell w2 k2)
      | fail)
    refine bodyPost_ret (v := .tuple #[.int .i64 n, .bool true]) ?_ rfl ?_
    rotate_left
    · exact ⟨rfl, hT⟩
    simp [results, Try.results23, go_sem]
end
end Go.Proofs.Yteljjjdejjkgfaa
