/-
  The contracts of package config's Symbol, Bound and Check.
-/
import Derived.Test.YtbkiipeoabbiiaaCfgP
namespace Go.Proofs.Ytbkiipeoabbiiaa
open Go.RowKit
theorem symCs_len (b : Nat) (s : Symb) : (symCs b s).length = 9 := rfl
set_option maxRecDepth 8000 in
set_option maxHeartbeats 1000000 in
theorem symbol_any (s : Symb) (hF : s.Fit) (W : World) :
    Calls Try.prog 11 #[vSymb s] W fun e w' => e = .returned (.int .i64 (symF s)) ∧ Below W.heap.size W w' := by
  have hBox : Blk (W.alloc (.cells (cSymb s) 35)) W.heap.size 35 (cSymb s) := Blk.new _ _ _
  have hb0 := fun o => Below.alK (Below.refl W.heap.size W) o
  have hb1' := fun o => (Below.refl (W.heap.size + 1) (W.alloc (.cells (cSymb s) 35))).alloc (by simp) o
  have c1 : ∀ (b cap : Nat) (w : World), Below (W.heap.size + 1) (W.alloc (.cells (cSymb s) 35)) w → Blk w b 57 #[.int .i64 9, .func (.func 29) #[] #[.pointer (some ⟨W.heap.size, 0, none⟩)], .int .i64 8, .func (.func 31) #[] #[.pointer (some ⟨W.heap.size, 0, none⟩)], .int .i64 9, .func (.func 33) #[] #[.pointer (some ⟨W.heap.size, 0, none⟩)], .int .i64 9, .func (.func 34) #[] #[.pointer (some ⟨W.heap.size, 0, none⟩)], .int .i64 9, .func (.func 35) #[] #[.pointer (some ⟨W.heap.size, 0, none⟩)], .int .i64 9, .func (.func 36) #[] #[.pointer (some ⟨W.heap.size, 0, none⟩)], .int .i64 9, .func (.func 37) #[] #[.pointer (some ⟨W.heap.size, 0, none⟩)], .int .i64 9, .func (.func 38) #[] #[.pointer (some ⟨W.heap.size, 0, none⟩)], .int .i64 11, .func (.func 39) #[] #[.pointer (some ⟨W.heap.size, 0, none⟩)]] → Calls Try.prog 28 #[.slice (some ⟨b, 0, none⟩) 9 cap] w fun e w' => e = .returned (.int .i64 (symF s)) ∧ Below w.heap.size w w' := by
    intro b cap w hw hb
    rw [← symF_conds W.heap.size s]
    have hB2 : Blk w W.heap.size 35 (cSymb s) := hBox.below hw (by omega)
    refine first_any (symCs W.heap.size s) b cap 9 (by show (9 : Nat) ≤ 100; omega) rfl w (fun i c hc => ?_) (symCs_ok w _ s hF hB2)
    match i, hc with
    | 0, hc => cases hc; exact ⟨hb.cell_eq 0 _ rfl, hb.cell_eq 1 _ rfl⟩
    | 1, hc => cases hc; exact ⟨hb.cell_eq 2 _ rfl, hb.cell_eq 3 _ rfl⟩
    | 2, hc => cases hc; exact ⟨hb.cell_eq 4 _ rfl, hb.cell_eq 5 _ rfl⟩
    | 3, hc => cases hc; exact ⟨hb.cell_eq 6 _ rfl, hb.cell_eq 7 _ rfl⟩
    | 4, hc => cases hc; exact ⟨hb.cell_eq 8 _ rfl, hb.cell_eq 9 _ rfl⟩
    | 5, hc => cases hc; exact ⟨hb.cell_eq 10 _ rfl, hb.cell_eq 11 _ rfl⟩
    | 6, hc => cases hc; exact ⟨hb.cell_eq 12 _ rfl, hb.cell_eq 13 _ rfl⟩
    | 7, hc => cases hc; exact ⟨hb.cell_eq 14 _ rfl, hb.cell_eq 15 _ rfl⟩
    | 8, hc => cases hc; exact ⟨hb.cell_eq 16 _ rfl, hb.cell_eq 17 _ rfl⟩
    | i + 9, hc => simp at hc
  generalize symF s = r at c1 ⊢
  go_enter Try.func11, Try.ntmps11
  go_wp2_with (go_at_call 28; (refine (c1 (W.heap.size + 1) _ _ (hb1' _) (Blk.new' (by simp))).mono ?_); rintro e w1 ⟨rfl, hb1⟩)
  go_ret
  exact ⟨rfl, ((hb0 _).alloc (by simp) _).trans (hb1.mono (by simp; omega))⟩
theorem cbound_any (s : Symb) (hF : s.Fit) (W : World) :
    Calls Try.prog 13 #[vSymb s] W fun e w' => e = .returned (.int .i64 (boundS s)) ∧ Below W.heap.size W w' := by
  have c1 := fun w => symbol_any s hF w
  have hb0 := fun o => Below.alK (Below.refl W.heap.size W) o
  by_cases h : symF s = 0
  · have hR := symF_right.1 h
    have eB : boundS s = s.pau + s.ext * (s.mext + 1) := by unfold boundS; rw [if_pos h]
    have g1 := hR.pau
    have g2 := hR.ext
    have g3 := hR.mext
    rw [h] at c1
    rw [eB]
    clear h eB hR hF
    obtain ⟨grid, refp, stat, dyn, win, move, lim, pau, ext, mext, col, wid, self, slots, levels, short⟩ := s
    simp only at *
    have hm1 : 0 ≤ ext * (mext + 1) := Int.mul_nonneg (by omega) (by omega)
    have hm2 : ext * (mext + 1) ≤ 1099511627776 * 11 := Int.mul_le_mul g2.2 (by omega) (by omega) (by omega)
    go_enter Try.func13, Try.ntmps13
    have hK : ∀ (w : World) (C : Array Value) (T : TypeId) (w1 : World), Below (w.alloc (.cells C T)).heap.size (w.alloc (.cells C T)) w1 → Blk w1 w.heap.size T C := fun w C T w1 hb => (Blk.new w T C).below hb (by simp)
    go_wp2_with (go_at_call 11; (with_reducible refine (c1 _).mono ?_); rintro e w1 ⟨rfl, hb1⟩; have hk := hK _ _ _ _ hb1; have y7 := hk.cell_eq 7 _ rfl; have y8 := hk.cell_eq 8 _ rfl; have y9 := hk.cell_eq 9 _ rfl)
    go_ret
    exact ⟨rfl, (hb0 _).trans (hb1.mono (by simp))⟩
  · have eB : boundS s = 0 := by unfold boundS; rw [if_neg h]
    have hd : ((symF s : Int) != 0) = true := by simp; omega
    rw [eB]
    generalize symF s = f at c1 hd
    clear h eB hF
    obtain ⟨grid, refp, stat, dyn, win, move, lim, pau, ext, mext, col, wid, self, slots, levels, short⟩ := s
    go_enter Try.func13, Try.ntmps13
    go_wp2_with (go_at_call 11; (with_reducible refine (c1 _).mono ?_); rintro e w1 ⟨rfl, hb1⟩)
    go_ret
    exact ⟨rfl, (hb0 _).trans (hb1.mono (by simp))⟩

end Go.Proofs.Ytbkiipeoabbiiaa
