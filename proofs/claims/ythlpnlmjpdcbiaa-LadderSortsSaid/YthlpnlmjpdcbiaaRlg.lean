/-
  The document's levels: Take where the level stays.
-/
import Derived.Test.YthlpnlmjpdcbiaaRlf
import Derived.StillTailTactics
namespace Go.Proofs.Ythlpnlmjpdcbiaa
open Go.RowKit
theorem lcs_set1 (y : Lvl) : ∀ (L : List Lvl) (i : Nat) (x : Lvl), L[i]? = some x → y.price = x.price → y.queue = x.queue → y.orders = x.orders →
    lcs (L.set i y) = (lcs L).set (i * 4 + 1) (.int .i64 y.qty)
  | [], i, x, h, _, _, _ => by cases h
  | z :: t, 0, x, h, e1, e2, e3 => by
    cases h
    simp [e1, e2, e3]
  | z :: t, i + 1, x, h, e1, e2, e3 => by
    have := lcs_set1 y t i x h e1 e2 e3
    have e4 : (i + 1) * 4 + 1 = (i * 4 + 1) + 4 := by omega
    rw [e4]
    simp [this]
section
variable {w w' W : World} {r : Nat} {S T : Nat → Prop} {s : Ld} {ko : Option Nat} {ao : Option Addr} {cap : Nat}
/-- One cell of a level turned. -/
theorem RlB.turn1 (h : RlB w r S ko ao cap s) {i : Nat} {x y : Lvl} (hx : s.L[i]? = some x) (e1 : y.price = x.price) (e2 : y.queue = x.queue) (e3 : y.orders = x.orders) :
    ∃ k, ko = some k ∧ ao = some ⟨k, 0, none⟩ ∧ k ≠ r ∧ S k ∧ RlB (w.setCell ⟨k, i * 4 + 1, none⟩ (.int .i64 y.qty)) r S ko ao cap ⟨s.buy, s.most, s.L.set i y⟩ := by
  obtain ⟨k, rfl, rfl, -⟩ := h.row hx
  obtain ⟨hk, hkr⟩ := h.sk k rfl
  refine ⟨k, rfl, rfl, hkr, hk, h.most, by simpa using h.len, ?_, ?_, h.sr, h.sk, ?_⟩
  · have e := h.hr
    unfold Blk at e ⊢
    rw [List.length_set, heap_oth _ _ _ (Ne.symm hkr)]
    exact e
  · rw [lcs_set1 y s.L i x hx e1 e2 e3, List.length_set]
    exact h.how.setc _ _
  · intro b hb
    have := h.lt b hb
    simpa [World.setCell] using this
set_option maxRecDepth 8000 in
set_option maxHeartbeats 2000000 in
theorem ltakeSet_any (p q : Int) (gone : Bool) (h : RlB W r S ko ao cap s) {i : Nat} {x : Lvl} (hf : s.find p = some i) (hx : s.L[i]? = some x) (hq : ¬ (q < 0 ∨ x.qty < q)) (hb : x.qty < 9223372036854775808) (ho : 1 ≤ x.orders ∧ x.orders ≤ 1000000) (hz : (x.sub q gone).orders ≠ 0) :
    Calls Try.prog 25 #[.pointer (some ⟨r, 0, none⟩), .int .i64 p, .int .i64 q, .bool gone] W fun e w' => e = .returned (.tuple #[.int .i64 x.queue, .int .i64 0]) ∧ RlB w' r S ko ao cap ⟨s.buy, s.most, s.L.set i (x.sub q gone)⟩ ∧ Frm S W w' := by
  have cF := lfind_any p h
  simp only [Ld.fI, hf] at cF
  have hm := h.most
  have hl := h.len
  have hi := (List.getElem?_eq_some_iff.1 hx).1
  have c2 := h.c2
  obtain ⟨k, rfl, rfl, hkr, hkS, -⟩ := h.turn (y := x.add q) hx rfl rfl
  obtain ⟨k', e1, -, hc⟩ := h.row hx
  cases e1
  obtain ⟨y1, f1⟩ := hc _ _ (lcs_get hx 1 (.int .i64 x.qty) rfl)
  obtain ⟨y2, f2⟩ := hc _ _ (lcs_get hx 2 (.int .i64 x.orders) rfl)
  obtain ⟨y3, -⟩ := hc _ _ (lcs_get hx 3 (.int .i64 x.queue) rfl)
  have hi2 : (i : Int) < (s.L.length : Int) := by omega
  have hi0 : ¬ (i : Int) < 0 := by omega
  have hd0 : decide ((i : Int) < 0) = false := decide_eq_false hi0
  have d0 : decide (q < 0) = false := decide_eq_false (by omega)
  have d1 : decide (x.qty < q) = false := decide_eq_false (by omega)
  have hw : IntKind.i64.wrap (x.qty - q) = x.qty - q := IntWalk.i64_in _ (by omega)
  have hrk : r ≠ k := Ne.symm hkr
  have hend : ∀ n, (x.sub q gone).orders = x.orders → RlB ((W.drewN n).setCell ⟨k, i * 4 + 1, none⟩ (.int .i64 (x.qty - q))) r S (some k) (some ⟨k, 0, none⟩) cap ⟨s.buy, s.most, s.L.set i (x.sub q gone)⟩ ∧ Frm S W ((W.drewN n).setCell ⟨k, i * 4 + 1, none⟩ (.int .i64 (x.qty - q))) := by
    intro n e
    obtain ⟨k', e1, -, -, -, h3⟩ := (h.drewN n).turn1 (y := x.sub q gone) hx rfl rfl e
    cases e1
    exact ⟨h3, (Frm.of_below (belowN (Below.refl _ _) n)).setCell _ _ (.inl hkS)⟩
  have hend2 : ∀ n z, (x.sub q gone).orders = z → RlB (((W.drewN n).setCell ⟨k, i * 4 + 1, none⟩ (.int .i64 (x.qty - q))).setCell ⟨k, i * 4 + 2, none⟩ (.int .i64 z)) r S (some k) (some ⟨k, 0, none⟩) cap ⟨s.buy, s.most, s.L.set i (x.sub q gone)⟩ ∧ Frm S W (((W.drewN n).setCell ⟨k, i * 4 + 1, none⟩ (.int .i64 (x.qty - q))).setCell ⟨k, i * 4 + 2, none⟩ (.int .i64 z)) := by
    rintro n z rfl
    obtain ⟨k', e1, -, -, -, h3⟩ := (h.drewN n).turn (y := x.sub q gone) hx rfl rfl
    cases e1
    exact ⟨h3, ((Frm.of_below (belowN (Below.refl _ _) n)).setCell _ _ (.inl hkS)).setCell _ _ (.inl hkS)⟩
  replace hend := Lib.hid hend
  replace hend2 := Lib.hid hend2
  clear h hf hx hc hq hkS
  cases gone with
  | false =>
    have hz' : (x.orders == 0) = false := by simpa [Lvl.sub] using hz
    clear hz hend2
    go_enter Try.func25, Try.ntmps25
    go_wp2_with (go_at_call 36; refine cF.mono ?_; rintro e w1 ⟨rfl, hw1⟩; subst w1; clear cF)
    go_still_tail 17, (by kernel_rfl)
    go_wp2
    go_ret2
    exact ⟨rfl, hend.out _ rfl⟩
  | true =>
    have hz' : (x.orders - 1 == 0) = false := by simpa [Lvl.sub] using hz
    clear hz hend
    go_enter Try.func25, Try.ntmps25
    go_wp2_with (go_at_call 36; refine cF.mono ?_; rintro e w1 ⟨rfl, hw1⟩; subst w1; clear cF)
    go_still_tail 17, (by kernel_rfl)
    go_wp2
    go_ret2
    exact ⟨rfl, hend2.out _ _ rfl⟩
end
end Go.Proofs.Ythlpnlmjpdcbiaa
