/-
  The document's index: Clear.
-/
import Derived.Test.YtbfidpngpdaieaaRic
namespace Go.Proofs.Ytbfidpngpdaieaa
open Go.RowKit
set_option linter.unusedSimpArgs false
theorem ixClr_snoc (l : List Ixr) (x : Ixr) (s : Int) : ixClr (l ++ [x]) s = if x.sym = s then ixClr l s else ixClr l s ++ [x] := by
  unfold ixClr
  rw [List.filter_append]
  by_cases e : x.sym = s <;> simp [e]
theorem ixIs_snoc (l : List Ixr) (x : Ixr) (s : Int) : ixIs (l ++ [x]) s = if x.sym = s then ixIs l s ++ [x] else ixIs l s := by
  unfold ixIs
  rw [List.filter_append]
  by_cases e : x.sym = s <;> simp [e]
section
variable {w w' W : World} {r : Nat} {S T : Nat → Prop} {l : List Ixr} {ko : Option Nat} {ao : Option Addr} {cap : Nat}
set_option maxRecDepth 8000 in
set_option maxHeartbeats 4000000 in
theorem iclear_any (s : Int) (h : RI W r S l) (hlen : l.length ≤ 100000) :
    Calls Try.prog 19 #[.pointer (some ⟨r, 0, none⟩), .int .i64 s] W fun e w' => e = .returned (.int .i64 ((ixIs l s).length : Nat)) ∧ (∃ S', RI w' r S' (ixClr l s) ∧ ∀ b, S' b → S b ∨ W.heap.size ≤ b) ∧ Frm S W w' := by
  obtain ⟨ko, ao, cap, h⟩ := h
  obtain ⟨i1, hi1, e1⟩ := Option.map_eq_some_iff.1 infoIxr
  simp only [Prod.mk.injEq] at e1
  obtain ⟨hz1, hs1, hb1⟩ := e1
  go_enter Try.func19, Try.ntmps19
  go_wp2_with fail
  go_loopg [5, 6, 7] l.length (fun j p5 p6 p7 wr => ∃ (i n m : Nat) (k2 : Option Nat) (oc : Nat) (oo : Option Addr), i + j = l.length ∧ p7 = .int .i64 (i : Int) ∧ p6 = .int .i64 (n : Int) ∧ p5 = .slice oo m oc ∧ Hid (m = (ixClr (l.take i) s).length ∧ n = (ixIs (l.take i) s).length ∧ Gr 40 3 cIxr W wr (ixClr (l.take i) s) k2 oc oo))
  case atStart => exact ⟨0, 0, 0, none, 0, none, by omega, rfl, rfl, rfl, Lib.hid ⟨by simp [ixClr], by simp [ixIs], by simpa [ixClr] using Gr.start W⟩⟩
  case round =>
    obtain ⟨i, n, m, k2, oc, oo, hij, rfl, rfl, rfl, hst⟩ := hrel
    have hG := hst.out.2.2
    have hn : n ≤ i := by
      rw [hst.out.2.1]
      refine Nat.le_trans (List.length_filter_le _ _) ?_
      rw [List.length_take]; omega
    have hm : m ≤ i := by
      rw [hst.out.1]
      refine Nat.le_trans (List.length_filter_le _ _) ?_
      rw [List.length_take]; omega
    by_cases hi : i < l.length
    · obtain ⟨x, hx⟩ : ∃ x, l[i]? = some x := ⟨l[i], List.getElem?_eq_getElem hi⟩
      have hR := h.below hG.bel
      have c0 := hR.c0
      obtain ⟨b, off, rfl, y0, y1, y2⟩ := hR.rows.get hx
      replace y0 : wr.cell? ⟨b, off + i * 3, none⟩ = some (.int .i64 x.sym) := y0
      have ht : l.take (i + 1) = l.take i ++ [x] := by rw [List.take_add_one, hx]; rfl
      have hc1 := ixClr_snoc (l.take i) x s
      have hc2 := ixIs_snoc (l.take i) x s
      rw [← ht] at hc1 hc2
      have hi2 : (i : Int) < (l.length : Int) := by omega
      by_cases e : x.sym = s
      · rw [if_pos e] at hc1 hc2
        have hst2 : Hid (m = (ixClr (l.take (i + 1)) s).length ∧ n + 1 = (ixIs (l.take (i + 1)) s).length ∧ Gr 40 3 cIxr W wr (ixClr (l.take (i + 1)) s) k2 oc oo) := by
          rw [hc1, hc2]
          exact Lib.hid ⟨hst.out.1, by rw [List.length_append, ← hst.out.2.1]; rfl, hG⟩
        have hd : (x.sym == s) = true := by simpa using e
        clear hst hG hR hc1 hc2 ht hx e y1 y2
        go_wp2_with fail
        go_roundg (l.length - (i + 1))
        case measure => omega
        case rel => exact ⟨i + 1, n + 1, m, k2, oc, oo, by omega, by go_num, by go_num, rfl, hst2⟩
      · rw [if_neg e] at hc1 hc2
        have hd : (x.sym == s) = false := by simpa using e
        have hone := cIxr_one x
        have hX : ∀ (w3 : World) (k3 : Option Nat) (oc' : Nat) (oo' : Option Addr), OwG 40 3 w3 k3 oo' oc' (m + 1) (ics (ixClr (l.take i) s) ++ (cIxr x).toList) → Frm (fun b => k2 = some b) (wr.alloc (.cells (cIxr x) 40)) w3 → Moved (wr.alloc (.cells (cIxr x) 40)) k2 k3 →
            Hid (m + 1 = (ixClr (l.take (i + 1)) s).length ∧ n = (ixIs (l.take (i + 1)) s).length ∧ Gr 40 3 cIxr W w3 (ixClr (l.take (i + 1)) s) k3 oc' oo') := by
          intro w3 k3 oc' oo' ho hf hmv
          rw [hc1, hc2]
          rw [hst.out.1] at ho ⊢
          exact Lib.hid ⟨by simp, hst.out.2.1, (hG.alloc _).app ho hf hmv⟩
        have hO := hG.ow
        rw [← hst.out.1] at hO
        obtain ⟨x0, x1, x2⟩ := x
        simp only at y0 y1 y2 hd hone hX
        generalize (ixClr (l.take i) s) = q at *
        have hO' := hO
        clear hst hG hR hc1 hc2 ht hx e
        go_wp2_with (first
          | (at_builtin; refine wpList_appG rfl (.tmp 29) (.tmp 37) 27 40 i1 _ 3 24 Try.underlying27 hi1 hz1 hs1 hb1 rfl (by decide) rfl (hO.alloc _) (SrcG.row (cs := cIxr ⟨x0, x1, x2⟩) (Blk.new _ _ _) rfl hone) rfl rfl (by omega) (by omega) ?_; intro oo2 oc2 k3 w3 ho hf hmv; have hst2 := hX w3 k3 oc2 oo2 ho hf hmv; clear hX ho hf hmv)
          | fail)
        go_roundg (l.length - (i + 1))
        case measure => omega
        case rel => exact ⟨i + 1, n, m + 1, k3, oc2, oo2, by omega, by go_num, rfl, rfl, hst2⟩
    · obtain rfl : i = l.length := by omega
      obtain ⟨e1, e2, -⟩ := hst.out
      rw [List.take_length] at e1 e2 hG
      have hR := h.below hG.bel
      have c0 := hR.c0
      have f0 := hR.hr.free 0
      have hfin := h.lay (Nat.le_refl _) hG.bel (L := ixClr l s) hG.ow hG.own
      rw [← e1] at hfin
      replace hfin := Lib.hid hfin
      replace e2 := Lib.hid e2
      clear hst hG hR h e1
      go_wp2_with fail
      go_ret
      exact ⟨by rw [← e2.out]; rfl, hfin.out⟩
end
end Go.Proofs.Ytbfidpngpdaieaa
