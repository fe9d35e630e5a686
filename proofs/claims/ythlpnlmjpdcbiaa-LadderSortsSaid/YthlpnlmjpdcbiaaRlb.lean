/-
  The document's levels: New, Fits, Worth.
-/
import Derived.Test.YthlpnlmjpdcbiaaRla
namespace Go.Proofs.Ythlpnlmjpdcbiaa
open Go.RowKit
section
variable {w w' W : World} {r : Nat} {S T : Nat → Prop} {s : Ld} {ko : Option Nat} {ao : Option Addr} {cap : Nat}
set_option maxRecDepth 8000 in
set_option maxHeartbeats 1000000 in
theorem lfits_any (p : Int) (h : RlB W r S ko ao cap s) :
    Calls Try.prog 27 #[.pointer (some ⟨r, 0, none⟩), .int .i64 p] W fun e w' => e = .returned (.bool (s.fits p)) ∧ ∃ n, w' = W.drewN n := by
  have cF := fun w (k : RlB w r S ko ao cap s) => lfind_any p k
  have c1 := h.c1
  have c2 := h.c2
  have hm := h.most
  have hl := h.len
  unfold Ld.fits
  unfold Ld.fI at cF
  cases hf : s.find p with
  | some i =>
    simp only [hf, Option.isSome_some, Bool.true_or] at cF ⊢
    have hi : i < 200 := by
      obtain ⟨x, hx, -⟩ := Ld.find_some hf
      have := (List.getElem?_eq_some_iff.1 hx).1
      omega
    have hi0 : (0 : Int) ≤ (i : Int) := by omega
    have hd0 : decide ((0 : Int) ≤ (i : Int)) = true := decide_eq_true hi0
    clear hf
    go_enter Try.func27, Try.ntmps27
    go_wp2_with fail
    go_quiet ((go_at_call 36; exact Calls.quiet_of_same (cF _ (h.drewN _))))
    go_wp2
    go_ret
    exact ⟨rfl, _, rfl⟩
  | none =>
    simp only [hf, Option.isSome_none, Bool.false_or] at cF ⊢
    have hd0 : decide ((0 : Int) ≤ -1) = false := by decide
    clear hf
    go_enter Try.func27, Try.ntmps27
    go_wp2_with fail
    go_quiet ((go_at_call 36; exact Calls.quiet_of_same (cF _ (h.drewN _))))
    go_wp2
    go_ret
    exact ⟨rfl, _, rfl⟩
set_option maxRecDepth 8000 in
set_option maxHeartbeats 1000000 in
theorem lworth_any (lim : Int) (h : RlB W r S ko ao cap s) (hq : ∀ x ∈ s.L, 0 ≤ x.qty ∧ x.qty < 9223372036854775808)
    (cA : ∀ (a b : Int) (V : World), 0 ≤ a → 0 ≤ b → a + b < 9223372036854775808 → Calls Try.prog 38 #[.int .i64 a, .int .i64 b] V fun e w' => e = .returned (.tuple #[.int .i64 (a + b), .bool true]) ∧ Below V.heap.size V w')
    (cO : ∀ (a b : Int) (V : World), 0 ≤ a → a < 9223372036854775808 → 0 ≤ b → b < 9223372036854775808 → 9223372036854775808 ≤ a + b → Calls Try.prog 38 #[.int .i64 a, .int .i64 b] V fun e w' => e = .returned (.tuple #[.int .i64 0, .bool false]) ∧ Below V.heap.size V w') :
    Calls Try.prog 26 #[.pointer (some ⟨r, 0, none⟩), .int .i64 lim] W fun e w' => e = .returned (.int .i64 (s.worth lim)) ∧ Below W.heap.size W w' := by
  have hm := h.most
  have hl := h.len
  obtain ⟨f, hf⟩ : ∃ f : Lvl → Bool, f = fun x => !btr s.buy lim x.price := ⟨_, rfl⟩
  have hw : s.worth lim = min (wsum f s.L) 4611686018427387904 := by rw [hf]; rfl
  have hp0 : ∀ n, 0 ≤ wsum f (s.L.take n) := fun n => wsum_pos fun x hx => (hq x (List.mem_of_mem_take hx)).1
  have hst : ∀ (n : Nat) x, s.L[n]? = some x → wsum f (s.L.take (n + 1)) = wsum f (s.L.take n) + if f x then x.qty else 0 := fun n x hx => wsum_step hx
  have hov : ∀ (n : Nat) x, s.L[n]? = some x → f x = true → 9223372036854775808 ≤ wsum f (s.L.take n) + x.qty → s.worth lim = 4611686018427387904 := fun n x hx hfx ho => by
    rw [hw]
    exact worth_over (fun x hx => (hq x hx).1) hx hfx (by omega)
  have hfin : wsum f (s.L.take s.L.length) = wsum f s.L := by rw [List.take_length]
  rw [← hfin] at hw
  have hz : wsum f (s.L.take 0) = 0 := rfl
  clear hfin
  obtain ⟨g, hg⟩ : ∃ g : Nat → Int, g = fun n => wsum f (s.L.take n) := ⟨_, rfl⟩
  have hgv : ∀ n, wsum f (s.L.take n) = g n := fun n => by rw [hg]
  simp only [hgv] at hw hp0 hst hov hz
  clear hgv hg
  generalize s.worth lim = z at *
  obtain ⟨m, hmm⟩ : ∃ m, m = s.L.length := ⟨_, rfl⟩
  rw [← hmm] at hl hw
  replace hw := Lib.hid hw
  replace hst := Lib.hid hst
  replace hov := Lib.hid hov
  replace hmm := Lib.hid hmm
  replace hp0 := Lib.hid hp0
  go_enter Try.func26, Try.ntmps26
  go_wp2_with fail
  go_loopg [5, 6] m (fun j p5 p6 wr => ∃ i : Nat, i + j = m ∧ p5 = .int .i64 (g i) ∧ p6 = .int .i64 (i : Int) ∧ Below W.heap.size W wr ∧ Hid (g i < 9223372036854775808))
  case atStart => exact ⟨0, by omega, by rw [hz], rfl, Below.refl _ _, Lib.hid (by rw [hz]; decide)⟩
  case round =>
    obtain ⟨i, hi, rfl, rfl, hB, hgi⟩ := hrel
    have hk := h.below hB
    have c0 := hk.c0
    have c2 := hk.c2
    rw [← hmm.out] at c2
    by_cases him : i < m
    · obtain ⟨x, hx⟩ : ∃ x, s.L[i]? = some x := ⟨_, List.getElem?_eq_getElem (by rw [← hmm.out]; exact him)⟩
      obtain ⟨b, off, rfl, y0, y1, y2, y3⟩ := hk.lvls.get hx
      replace y0 : wr.cell? ⟨b, off + i * 4, none⟩ = some (.int .i64 x.price) := y0
      have hi2 : (i : Int) < (m : Int) := by omega
      have cB := fun w => better_any s.buy lim x.price w
      have hfx : f x = !btr s.buy lim x.price := by rw [hf]
      have hs := hst.out i x hx
      have ho := hov.out i x hx
      have h0 := hp0.out i
      obtain ⟨hq1, hq2⟩ := hq x (List.mem_of_getElem? hx)
      clear y2 y3 h hq hst hov hx hp0 hf hk
      cases hb : btr s.buy lim x.price with
      | true =>
        simp only [hb] at cB hfx
        rw [hfx] at hs
        simp only [Bool.not_true, Bool.false_eq_true, if_false, Int.add_zero] at hs
        clear hb hfx ho cA cO
        replace hs := Lib.hid hs
        go_wp2_with fail
        go_quiet ((go_at_call 18; exact Calls.quiet_of_same (cB _)))
        go_wp2
        go_roundg (m - (i + 1))
        case measure => omega
        case rel => exact ⟨i + 1, by omega, by rw [hs.out], by go_num, belowN hB _, Lib.hid (by rw [hs.out]; exact hgi.out)⟩
      | false =>
        simp only [hb] at cB hfx
        simp only [hfx, Bool.not_false, if_true] at hs ho
        have hg1 := hgi.out
        by_cases hlt : g i + x.qty < 9223372036854775808
        · have cS := fun w => cA (g i) x.qty w h0 hq1 hlt
          clear hb hfx ho cA cO
          replace hs := Lib.hid hs
          go_wp2_with fail
          go_quiet ((go_at_call 18; exact Calls.quiet_of_same (cB _)))
          clear cB
          go_wp2_with (go_at_call 38; refine (cS _).mono ?_; rintro e w1 ⟨rfl, hb1⟩)
          go_roundg (m - (i + 1))
          case measure => omega
          case rel => exact ⟨i + 1, by omega, by rw [hs.out], by go_num, (belowN hB _).trans (hb1.mono hB.size), Lib.hid (by rw [hs.out]; exact hlt)⟩
        · have cS := fun w => cO (g i) x.qty w h0 hg1 hq1 hq2 (by omega)
          have e1 := ho trivial (by omega)
          clear hb hfx ho cA cO hs
          go_wp2_with fail
          go_quiet ((go_at_call 18; exact Calls.quiet_of_same (cB _)))
          clear cB
          go_wp2_with (go_at_call 38; refine (cS _).mono ?_; rintro e w1 ⟨rfl, hb1⟩)
          go_ret
          exact ⟨by rw [e1]; rfl, (belowN hB _).trans (hb1.mono hB.size)⟩
    · obtain rfl : i = m := by omega
      clear h hq hst hov hp0 hf hk cA cO
      go_wp2_with fail
      all_goals go_ret
      all_goals
        refine ⟨congrArg (fun z => Ending.returned (.int .i64 z)) ?_, hB⟩
        have e1 := hw.out
        omega
end
end Go.Proofs.Ythlpnlmjpdcbiaa
