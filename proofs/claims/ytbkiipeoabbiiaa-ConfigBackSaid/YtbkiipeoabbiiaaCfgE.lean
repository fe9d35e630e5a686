/-
  The contracts of slices.Equal of symbols and of rows, of package config's Same and of the document's.
-/
import Derived.Test.YtbkiipeoabbiiaaCfgV
import Derived.Test.YtbkiipeoabbiiaaLists
import Derived.BigQuiet
import Derived.Deep.QuietTactic
namespace Go.Proofs.Ytbkiipeoabbiiaa
open Go.RowKit
theorem take_ne_of {α : Type} {us ts : List α} {q : Nat} {a b : α} (ha : us[q]? = some a) (hb : ts[q]? = some b) (h : a ≠ b) : us ≠ ts := by
  rintro rfl
  rw [ha] at hb
  cases hb
  exact h rfl
theorem take_eq_of {α : Type} {us ts : List α} {q : Nat} {a b : α} (ha : us[q]? = some a) (hb : ts[q]? = some b) (h : a = b) (ht : us.take q = ts.take q) : us.take (q + 1) = ts.take (q + 1) := by
  rw [List.take_add_one, List.take_add_one, ha, hb, h, ht]
instance : DecidableEq Symb := fun a b => decidable_of_iff (eqSymb a b = true) eqSymb_true
set_option maxRecDepth 8000 in
set_option maxHeartbeats 2000000 in
theorem equalSymb_any (ac bc : Nat) (ao bo : Option Addr) (us ts : List Symb) (W : World) (hA : Symbs W ao ac us) (hB : Symbs W bo bc ts) :
    Calls Try.prog 47 #[.slice ao us.length ac, .slice bo ts.length bc] W fun e w' => e = .returned (.bool (decide (us = ts))) ∧ ∃ m, w' = W.drewN m := by
  have hl := hA.len
  have hm := hA.top
  have hl2 := hB.len
  have hm2 := hB.top
  unfold maxLen at hm hm2
  by_cases hn : us.length = ts.length
  · go_enter Try.func47, Try.ntmps47
    go_wp2_with fail
    go_loopg [13] us.length (fun j p13 wr => ∃ q m : Nat, q + j = us.length ∧ p13 = .int .i64 (q : Int) ∧ wr = W.drewN m ∧ Hid (us.take q = ts.take q))
    case atStart => exact ⟨0, 0, by omega, rfl, rfl, by simp [Hid]⟩
    case round =>
      obtain ⟨q, m, hq, rfl, rfl, ht⟩ := hrel
      by_cases hj : q < us.length
      · obtain ⟨x, hxs⟩ : ∃ x, us[q]? = some x := ⟨us[q], List.getElem?_eq_getElem hj⟩
        obtain ⟨y, hys⟩ : ∃ x, ts[q]? = some x := ⟨ts[q]'(by omega), List.getElem?_eq_getElem (by omega)⟩
        obtain ⟨b1, off1, rfl, x0, x1, x2, x3, x4, x5, x6, x7, x8, x9, x10, x11, x12, x13, x14, x15⟩ := hA.get hxs
        obtain ⟨b2, off2, rfl, y0, y1, y2, y3, y4, y5, y6, y7, y8, y9, y10, y11, y12, y13, y14, y15⟩ := hB.get hys
        replace x0 : W.cell? ⟨b1, off1 + q * 16, none⟩ = some (.int .i64 x.grid) := x0
        replace y0 : W.cell? ⟨b2, off2 + q * 16, none⟩ = some (.int .i64 y.grid) := y0
        have hE := fun w => neq_Symb x y w
        have t1 := fun e => take_ne_of hxs hys e
        have t2 := fun e => take_eq_of hxs hys e ht.out
        have hj2 : q < ts.length := by omega
        clear hxs hys hA hB hn
        cases he : eqSymb x y with
        | true =>
          have ht2 := Lib.hid (t2 (eqSymb_true.1 he))
          rw [he] at hE
          clear t1 t2 he ht
          obtain ⟨a0, a1, a2, a3, a4, a5, a6, a7, a8, a9, a10, a11, a12, a13, a14, a15⟩ := x
          obtain ⟨d0, d1, d2, d3, d4, d5, d6, d7, d8, d9, d10, d11, d12, d13, d14, d15⟩ := y
          simp only [vSymb, cSymb, Bool.not_true] at hE
          go_wp2_with fail
          go_quiet (fail)
          go_wp2_with fail
          go_roundg (us.length - (q + 1))
          case measure => omega
          case rel => exact ⟨q + 1, _, by omega, by go_num, rfl, ht2⟩
        | false =>
          have hne := t1 (fun e => by rw [e, eqSymb_self] at he; cases he)
          rw [he] at hE
          clear t1 t2 he ht
          obtain ⟨a0, a1, a2, a3, a4, a5, a6, a7, a8, a9, a10, a11, a12, a13, a14, a15⟩ := x
          obtain ⟨d0, d1, d2, d3, d4, d5, d6, d7, d8, d9, d10, d11, d12, d13, d14, d15⟩ := y
          simp only [vSymb, cSymb, Bool.not_false] at hE
          go_wp2_with fail
          go_quiet (fail)
          go_wp2_with fail
          go_ret
          exact ⟨by simp [hne], _, World.drewN_drewN _ _ _⟩
      · have hqe : q = us.length := by omega
        subst hqe
        have hall : us = ts := by
          have h2 := ht.out
          rw [List.take_length, hn, List.take_length] at h2
          exact h2
        go_wp2_with fail
        go_ret
        exact ⟨by simp [hall], _, rfl⟩
  · have hne : us ≠ ts := fun e => hn (by rw [e])
    go_enter Try.func47, Try.ntmps47
    go_wp2_with fail
    all_goals first
      | (exfalso; omega)
      | (go_ret; exact ⟨by simp [hne], 0, rfl⟩)
instance : DecidableEq Rowp := fun a b => decidable_of_iff (eqRowp a b = true) eqRowp_true
set_option maxRecDepth 8000 in
set_option maxHeartbeats 2000000 in
theorem equalRowp_any (ac bc : Nat) (ao bo : Option Addr) (us ts : List Rowp) (W : World) (hA : Rowps W ao ac us) (hB : Rowps W bo bc ts) :
    Calls Try.prog 48 #[.slice ao us.length ac, .slice bo ts.length bc] W fun e w' => e = .returned (.bool (decide (us = ts))) ∧ ∃ m, w' = W.drewN m := by
  have hl := hA.len
  have hm := hA.top
  have hl2 := hB.len
  have hm2 := hB.top
  unfold maxLen at hm hm2
  by_cases hn : us.length = ts.length
  · go_enter Try.func48, Try.ntmps48
    go_wp2_with fail
    go_loopg [13] us.length (fun j p13 wr => ∃ q m : Nat, q + j = us.length ∧ p13 = .int .i64 (q : Int) ∧ wr = W.drewN m ∧ Hid (us.take q = ts.take q))
    case atStart => exact ⟨0, 0, by omega, rfl, rfl, by simp [Hid]⟩
    case round =>
      obtain ⟨q, m, hq, rfl, rfl, ht⟩ := hrel
      by_cases hj : q < us.length
      · obtain ⟨x, hxs⟩ : ∃ x, us[q]? = some x := ⟨us[q], List.getElem?_eq_getElem hj⟩
        obtain ⟨y, hys⟩ : ∃ x, ts[q]? = some x := ⟨ts[q]'(by omega), List.getElem?_eq_getElem (by omega)⟩
        obtain ⟨b1, off1, rfl, x0, x1⟩ := hA.get hxs
        obtain ⟨b2, off2, rfl, y0, y1⟩ := hB.get hys
        replace x0 : W.cell? ⟨b1, off1 + q * 2, none⟩ = some (.int .i64 x.tick) := x0
        replace y0 : W.cell? ⟨b2, off2 + q * 2, none⟩ = some (.int .i64 y.tick) := y0
        have hE := fun w => neq_Rowp x y w
        have t1 := fun e => take_ne_of hxs hys e
        have t2 := fun e => take_eq_of hxs hys e ht.out
        have hj2 : q < ts.length := by omega
        clear hxs hys hA hB hn
        cases he : eqRowp x y with
        | true =>
          have ht2 := Lib.hid (t2 (eqRowp_true.1 he))
          rw [he] at hE
          clear t1 t2 he ht
          obtain ⟨a0, a1⟩ := x
          obtain ⟨d0, d1⟩ := y
          simp only [vRowp, cRowp, Bool.not_true] at hE
          go_wp2_with fail
          go_quiet (fail)
          go_wp2_with fail
          go_roundg (us.length - (q + 1))
          case measure => omega
          case rel => exact ⟨q + 1, _, by omega, by go_num, rfl, ht2⟩
        | false =>
          have hne := t1 (fun e => by rw [e, eqRowp_self] at he; cases he)
          rw [he] at hE
          clear t1 t2 he ht
          obtain ⟨a0, a1⟩ := x
          obtain ⟨d0, d1⟩ := y
          simp only [vRowp, cRowp, Bool.not_false] at hE
          go_wp2_with fail
          go_quiet (fail)
          go_wp2_with fail
          go_ret
          exact ⟨by simp [hne], _, World.drewN_drewN _ _ _⟩
      · have hqe : q = us.length := by omega
        subst hqe
        have hall : us = ts := by
          have h2 := ht.out
          rw [List.take_length, hn, List.take_length] at h2
          exact h2
        go_wp2_with fail
        go_ret
        exact ⟨by simp [hall], _, rfl⟩
  · have hne : us ≠ ts := fun e => hn (by rw [e])
    go_enter Try.func48, Try.ntmps48
    go_wp2_with fail
    all_goals first
      | (exfalso; omega)
      | (go_ret; exact ⟨by simp [hne], 0, rfl⟩)
end Go.Proofs.Ytbkiipeoabbiiaa
