/-
  The contract of the document's Lists of messages.
-/
import Derived.Test.YtalgpbjonkcldaaMsgV
import Derived.Test.YtalgpbjonkcldaaLists
import Derived.BigQuiet
import Derived.Deep.QuietTactic
namespace Go.Proofs.Ytalgpbjonkcldaa
open Go.RowKit
instance : DecidableEq Msg := fun a b => decidable_of_iff (eqMsg a b = true) eqMsg_true
theorem mtake_ne {us ts : List Msg} {q : Nat} {a b : Msg} (ha : us[q]? = some a) (hb : ts[q]? = some b) (h : eqMsg a b = false) : us ≠ ts := by
  rintro rfl
  rw [ha] at hb
  cases hb
  rw [eqMsg_self] at h
  cases h
theorem mtake_eq {us ts : List Msg} {q : Nat} {a b : Msg} (ha : us[q]? = some a) (hb : ts[q]? = some b) (h : eqMsg a b = true) (ht : us.take q = ts.take q) : us.take (q + 1) = ts.take (q + 1) := by
  rw [List.take_add_one, List.take_add_one, ha, hb, eqMsg_true.1 h, ht]
set_option maxHeartbeats 1000000 in
theorem mlists_any (ac bc : Nat) (ao bo : Option Addr) (us ts : List Msg) (W : World) (hA : Msgs W ao ac us) (hB : Msgs W bo bc ts) :
    Calls Try.prog 20 #[.slice ao us.length ac, .slice bo ts.length bc] W fun e w' => e = .returned (.bool (decide (us = ts))) ∧ ∃ m, w' = W.drewN m := by
  have hl := hA.len
  have hm := hA.top
  have hl2 := hB.len
  have hm2 := hB.top
  unfold maxLen at hm hm2
  by_cases hn : us.length = ts.length
  · go_enter Try.func20, Try.ntmps20
    go_wp2_with fail
    go_loopg [5] us.length (fun j p5 wr => ∃ q m : Nat, q + j = us.length ∧ p5 = .int .i64 (q : Int) ∧ wr = W.drewN m ∧ Hid (us.take q = ts.take q))
    case atStart => exact ⟨0, 0, by omega, rfl, rfl, by simp [Hid]⟩
    case round =>
      obtain ⟨q, m, hq, rfl, rfl, ht⟩ := hrel
      by_cases hj : q < us.length
      · obtain ⟨x, hxs⟩ : ∃ x, us[q]? = some x := ⟨us[q], List.getElem?_eq_getElem hj⟩
        obtain ⟨y, hys⟩ : ∃ x, ts[q]? = some x := ⟨ts[q]'(by omega), List.getElem?_eq_getElem (by omega)⟩
        obtain ⟨b1, off1, rfl, x0, x1, x2, x3, x4, x5, x6, x7, x8⟩ := hA.get hxs
        obtain ⟨b2, off2, rfl, y0, y1, y2, y3, y4, y5, y6, y7, y8⟩ := hB.get hys
        replace x0 : W.cell? ⟨b1, off1 + q * 9, none⟩ = some (.int .i64 x.kind) := x0
        replace y0 : W.cell? ⟨b2, off2 + q * 9, none⟩ = some (.int .i64 y.kind) := y0
        have hE := fun w => neq_Msg x y w
        have t1 := fun e => mtake_ne hxs hys e
        have t2 := fun e => mtake_eq hxs hys e ht.out
        have hj2 : q < ts.length := by omega
        clear hxs hys hA hB hn
        cases he : eqMsg x y with
        | true =>
          have ht2 := t2 he
          rw [he] at hE
          clear t1 t2 he ht
          obtain ⟨a0, a1, a2, a3, a4, a5, a6, a7, a8⟩ := x
          obtain ⟨d0, d1, d2, d3, d4, d5, d6, d7, d8⟩ := y
          simp only [vMsg, cMsg, Bool.not_true] at hE
          go_wp2_with fail
          go_quiet (fail)
          go_wp2_with fail
          go_roundg (us.length - (q + 1))
          case measure => omega
          case rel => exact ⟨q + 1, _, by omega, by go_num, rfl, ht2⟩
        | false =>
          have hne := t1 he
          rw [he] at hE
          clear t1 t2 he ht
          obtain ⟨a0, a1, a2, a3, a4, a5, a6, a7, a8⟩ := x
          obtain ⟨d0, d1, d2, d3, d4, d5, d6, d7, d8⟩ := y
          simp only [vMsg, cMsg, Bool.not_false] at hE
          go_wp2_with fail
          go_quiet (fail)
          go_wp2_with fail
          go_ret
          exact ⟨by simp [hne], _, World.drewN_drewN _ _ _⟩
      · have hqe : q = us.length := by omega
        subst hqe
        go_wp2_with fail
        go_ret
        refine ⟨?_, m, rfl⟩
        have h1 := ht.out
        rw [List.take_of_length_le (Nat.le_refl _), List.take_of_length_le (by omega)] at h1
        simp [h1]
  · have hne : us ≠ ts := fun e => hn (by rw [e])
    go_enter Try.func20, Try.ntmps20
    go_wp2_with fail
    all_goals first
      | (exfalso; omega)
      | go_ret
    exact ⟨by simp [hne], 0, rfl⟩
end Go.Proofs.Ytalgpbjonkcldaa
