/-
  The contracts of package arena's methods that write.
-/
import Derived.Test.YtbkdakabpmpiiaaArh
import Derived.Test.YtbkdakabpmpiiaaArs
import Derived.RegionTactic
import Derived.BigRegion
import Derived.ChangeAlike
namespace Go.Proofs.Ytbkdakabpmpiiaa
open Go.RowKit
theorem below_drewN {B : Nat} {w w' : World} (h : Below B w w') (n : Nat) : Below B w (w'.drewN n) := ⟨h.os, h.tape, h.output, h.size, h.block⟩
theorem drew_blk {w : World} {g : Nat} {t : TypeId} {c : Array Value} (h : Blk w g t c) : Blk w.drew g t c := h
theorem Arn.cells {c : Array Value} {s : Ar} {W : World} {g : Nat} {t : TypeId} (h : Arn c s) (hB : Blk W g t c) (j : Nat) (hj : j < 4003) : ∃ v, W.cell? ⟨g, j, none⟩ = some v := ⟨_, hB.cell_eq j _ (Array.getElem?_eq_getElem (by rw [h.size]; exact hj))⟩
set_option maxRecDepth 8000 in
set_option maxHeartbeats 1000000 in
theorem free_any (g : Nat) (c : Array Value) (s : Ar) (i : Nat) (W : World) (hB : Blk W g 58 c) (hA : Arn c s) (hi : s.has i = true) :
    Calls Try.prog 26 #[.pointer (some ⟨g, 0, none⟩), .int .i64 (i : Int)] W fun e w' => e = .returned undef ∧ Frm (fun b => b = g) W w' ∧ ∃ c', Blk w' g 58 c' ∧ Arn c' (s.drop i) := by
  have hlt := Ar.has_lt hA.wf hi
  have hsm := hA.small
  obtain ⟨f, hf, hch⟩ := hA.ch
  have k2 := hB.cell_eq 4002 _ hf
  have k1 := hB.cell_eq 4001 _ hA.cu
  have hlt2 : i < 500 := by omega
  have hfr := hB.free
  have hex := hA.cells hB
  obtain ⟨v0, e0⟩ := hex (i * 8 + 0) (by omega)
  obtain ⟨v1, e1⟩ := hex (i * 8 + 1) (by omega)
  obtain ⟨v2, e2⟩ := hex (i * 8 + 2) (by omega)
  obtain ⟨v3, e3⟩ := hex (i * 8 + 3) (by omega)
  obtain ⟨v4, e4⟩ := hex (i * 8 + 4) (by omega)
  obtain ⟨v5, e5⟩ := hex (i * 8 + 5) (by omega)
  obtain ⟨v6, e6⟩ := hex (i * 8 + 6) (by omega)
  obtain ⟨v7, e7⟩ := hex (i * 8 + 7) (by omega)
  replace e0 : W.cell? ⟨g, i * 8, none⟩ = some v0 := e0
  clear hex
  obtain ⟨l, hl⟩ : ∃ l : List (Nat × Value), l = [(i * 8, .int .i64 0), (i * 8 + 1, .int .i64 0), (i * 8 + 2, .int .i64 0), (i * 8 + 3, .int .i64 0), (i * 8 + 4, .int .i64 0), (i * 8 + 5, .int .i64 0), (i * 8 + 6, .int .i64 0), (i * 8 + 7, .int .i64 f), (4002, .int .i64 (i : Int)), (4001, .int .i64 ((s.used : Int) - 1))] := ⟨_, rfl⟩
  have hnd : (l.map (·.1)).Nodup := by rw [hl]; simp; omega
  have hsz := hA.size
  have hAr : Arn (setN c l) (s.drop i) := by
    refine hA.drop hi hf (setN_size _ _) (setN_not _ _ _ ?_) (setN_mem _ _ _ _ hnd ?_ (by omega)) (setN_mem _ _ _ _ hnd ?_ (by omega)) (setN_mem _ _ _ _ hnd ?_ (by omega)) (fun k hk hki => setN_not _ _ _ ?_)
    · rw [hl]; intro p hp; simp at hp; rcases hp with rfl | rfl | rfl | rfl | rfl | rfl | rfl | rfl | rfl | rfl <;> simp <;> omega
    · rw [hl]; simp
    · rw [hl]; simp
    · rw [hl]; simp
    · rw [hl]; intro p hp; simp at hp; rcases hp with rfl | rfl | rfl | rfl | rfl | rfl | rfl | rfl | rfl | rfl <;> simp <;> omega
  have hBl := hB.setN l
  have hFl := (Frm.refl (fun b => b = g) W).setW (g := g) l (.inl rfl)
  clear hnd
  have hu1 := hA.used_pos hi
  have hu2 := hA.used_le
  have H := Lib.hid hl
  clear hl
  generalize hu : s.used = u at *
  generalize s.n = n at *
  clear hA hch hu hf hsz
  go_enter Try.func26, Try.ntmps26
  go_wp2_with fail
  go_region
  all_goals (go_wp2_with fail)
  all_goals go_end0
  all_goals
    have hl := H.out
    rw [hl] at hFl
    have hBl2 : Blk (setW W g l) g 58 (setN c l) := hBl
    conv at hBl2 => arg 1; rw [hl]
    simp only [setW] at hBl2 hFl
    exact ⟨rfl, hFl.drew, _, drew_blk hBl2, hAr⟩
set_option maxRecDepth 8000 in
set_option maxHeartbeats 1000000 in
theorem drop_any (g : Nat) (c : Array Value) (s : Ar) (x : Int) (W : World) (hB : Blk W g 58 c) (hA : Arn c s) :
    Calls Try.prog 18 #[.pointer (some ⟨g, 0, none⟩), .int .i64 x] W fun e w' => e = .returned (.bool (s.hasI x)) ∧ Frm (fun b => b = g) W w' ∧ ∃ c', Blk w' g 58 c' ∧ Arn c' (if s.hasI x = true then s.drop x.toNat else s) := by
  have cH := holds_any g c s x W hB hA
  by_cases hx : s.hasI x = true
  · rw [if_pos hx]
    rw [hx] at cH ⊢
    have h0 : 0 ≤ x := by
      rcases Int.lt_or_le x 0 with h | h
      · rw [s.hasI_neg h] at hx; cases hx
      · exact h
    obtain ⟨i, rfl⟩ : ∃ i : Nat, x = (i : Int) := ⟨x.toNat, by omega⟩
    rw [s.hasI_nat] at hx
    have cF := free_any g c s i W hB hA hx
    rw [Int.toNat_natCast]
    clear hx h0
    go_enter Try.func18, Try.ntmps18
    go_wp2_with (first
      | (go_at_call 25; (with_reducible refine cH.mono ?_); rintro e w1 ⟨rfl, rfl⟩)
      | (go_at_call 26; (with_reducible refine cF.mono ?_); rintro e w2 ⟨rfl, h2⟩))
    go_ret
    exact ⟨rfl, h2⟩
  · rw [if_neg hx]
    obtain hx : s.hasI x = false := by simpa using hx
    rw [hx] at cH ⊢
    clear hx
    go_enter Try.func18, Try.ntmps18
    go_wp2_with (go_at_call 25; (with_reducible refine cH.mono ?_); rintro e w1 ⟨rfl, rfl⟩)
    go_ret
    exact ⟨rfl, Frm.refl _ _, c, hB, hA⟩
end Go.Proofs.Ytbkdakabpmpiiaa
