/-
  The document's levels: Put and Take, whole.
-/
import Derived.Test.YthlpnlmjpdcbiaaLtd
import Derived.Test.YthlpnlmjpdcbiaaRadd
namespace Go.Proofs.Ythlpnlmjpdcbiaa
open Go.RowKit
section
variable {w w' W : World} {r : Nat} {S T : Nat → Prop} {s : Ld}
theorem lput_any (p q : Int) (h : RL W r S s) {k : Nat} (hw : s.Wf k) (hk : k ≤ 1000000) (hp : In64 p) (hq : In64 q) :
    Calls Try.prog 24 #[.pointer (some ⟨r, 0, none⟩), .int .i64 p, .int .i64 q] W fun e w' => e = .returned (.tuple #[.int .i64 (s.putR p q).1, .int .i64 (s.putR p q).2]) ∧ (∃ S', RL w' r S' (s.putS p q) ∧ ∀ b, S' b → S b ∨ W.heap.size ≤ b) ∧ Frm S W w' := by
  obtain ⟨ko, ao, cap, h⟩ := h
  unfold Ld.putR Ld.putS
  by_cases hpq : p < 1 ∨ q < 1
  · rw [if_pos hpq, if_pos hpq]
    refine (lputRange_any p q hpq W).mono ?_
    rintro e w' ⟨rfl, hw'⟩
    subst hw'
    exact ⟨rfl, ⟨S, ⟨ko, ao, cap, h⟩, fun b hb => .inl hb⟩, Frm.refl _ _⟩
  · rw [if_neg hpq, if_neg hpq]
    cases hf : s.find p with
    | some i =>
      obtain ⟨x, hx, hxp, -⟩ := Ld.find_some hf
      have hxm := List.mem_of_getElem? hx
      have hxq := hw.qty x hxm
      have hxo := hw.orders x hxm
      simp only [Ld.at_eq hx]
      have cA := fun V => radd2_any x.qty q ⟨by omega, by omega⟩ hq V
      by_cases hs : x.qty + q < 9223372036854775808
      · rw [if_pos hs, if_pos hs]
        rw [fit_yes ⟨by omega, hs⟩] at cA
        refine (lputOld_any p q h (by omega) (by omega) hf hx ⟨by omega, by omega⟩ cA).mono ?_
        rintro e w' ⟨rfl, h1, h2⟩
        exact ⟨rfl, ⟨S, ⟨ko, ao, cap, h1⟩, fun b hb => .inl hb⟩, h2⟩
      · rw [if_neg hs, if_neg hs]
        rw [fit_no (fun e => hs e.2)] at cA
        refine (lputOver_any p q h (by omega) (by omega) hf hx cA).mono ?_
        rintro e w' ⟨rfl, h1⟩
        exact ⟨rfl, ⟨S, ⟨ko, ao, cap, h.below h1⟩, fun b hb => .inl hb⟩, Frm.of_below h1⟩
    | none =>
      simp only
      by_cases hr : s.L.length < s.most
      · rw [if_pos hr, if_pos hr]
        refine (lputNew_any p q h (by omega) (by omega) hf hr).mono ?_
        rintro e w' ⟨rfl, S', h1, h2, h3⟩
        exact ⟨rfl, ⟨S', h1, h3⟩, h2⟩
      · rw [if_neg hr, if_neg hr]
        refine (lputFull_any p q h (by omega) (by omega) hf hr).mono ?_
        rintro e w' ⟨rfl, h1⟩
        exact ⟨rfl, ⟨S, ⟨ko, ao, cap, h.below h1⟩, fun b hb => .inl hb⟩, Frm.of_below h1⟩
theorem ltake_any (p q : Int) (gone : Bool) (h : RL W r S s) {k : Nat} (hw : s.Wf k) (hk : k ≤ 1000000) :
    Calls Try.prog 25 #[.pointer (some ⟨r, 0, none⟩), .int .i64 p, .int .i64 q, .bool gone] W fun e w' => e = .returned (.tuple #[.int .i64 (s.takeR p q).1, .int .i64 (s.takeR p q).2]) ∧ (∃ S', RL w' r S' (s.takeS p q gone) ∧ ∀ b, S' b → S b ∨ W.heap.size ≤ b) ∧ Frm S W w' := by
  obtain ⟨ko, ao, cap, h⟩ := h
  unfold Ld.takeR Ld.takeS
  cases hf : s.find p with
  | none =>
    refine (ltakeNo_any p q gone h hf).mono ?_
    rintro e w' ⟨rfl, hw'⟩
    subst hw'
    exact ⟨rfl, ⟨S, ⟨ko, ao, cap, h⟩, fun b hb => .inl hb⟩, Frm.refl _ _⟩
  | some i =>
    obtain ⟨x, hx, hxp, -⟩ := Ld.find_some hf
    have hxm := List.mem_of_getElem? hx
    have hxq := hw.qty x hxm
    have hxo := hw.orders x hxm
    simp only [Ld.at_eq hx]
    by_cases hq : q < 0 ∨ x.qty < q
    · rw [if_pos hq, if_pos hq]
      refine (ltakeRange_any p q gone h hf hx hq).mono ?_
      rintro e w' ⟨rfl, hw'⟩
      subst hw'
      exact ⟨rfl, ⟨S, ⟨ko, ao, cap, h⟩, fun b hb => .inl hb⟩, Frm.refl _ _⟩
    · rw [if_neg hq, if_neg hq]
      by_cases hz : (x.sub q gone).orders = 0
      · rw [if_pos hz]
        obtain ⟨rfl, ho⟩ : gone = true ∧ x.orders = 1 := by
          cases gone with
          | false => simp [Lvl.sub] at hz; omega
          | true => simp [Lvl.sub] at hz; exact ⟨rfl, by omega⟩
        refine (ltakeDel_any p q h hf hx hq (by omega) ho).mono ?_
        rintro e w' ⟨rfl, h1, h2⟩
        exact ⟨rfl, h1, h2⟩
      · rw [if_neg hz]
        refine (ltakeSet_any p q gone h hf hx hq (by omega) ⟨by omega, by omega⟩ hz).mono ?_
        rintro e w' ⟨rfl, h1, h2⟩
        exact ⟨rfl, ⟨S, ⟨ko, ao, cap, h1⟩, fun b hb => .inl hb⟩, h2⟩
end
end Go.Proofs.Ythlpnlmjpdcbiaa
