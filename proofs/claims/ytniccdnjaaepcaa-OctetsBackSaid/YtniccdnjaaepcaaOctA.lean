/-
  The contract of the statements' alive: the chapter's example.
-/
import Derived.Test.YtniccdnjaaepcaaOctG
namespace Go.Proofs.Ytniccdnjaaepcaa
open Go.RowKit

theorem Wr.new (W : World) (k : Nat) (hk : W.heap.size ≠ k) : Wr (W.alloc (.cells #[.slice none 0 0] 27)) W.heap.size k [] := ⟨none, 0, Blk.new _ _ _, Ow.nil _ _, hk⟩
theorem Wrote.below {W W1 w : World} {g k : Nat} {zs : List Nat} {B : Nat} (h0 : Below B W W1) (h : Wrote W1 g k w zs) (hB : B ≤ W1.heap.size) (hg : B ≤ g) (hk : B ≤ k) : Below B W w := by
  obtain ⟨k', _, hf, _⟩ := h
  exact h0.trans (hf.below hB fun b hb => by rcases hb with rfl | rfl <;> assumption)
theorem Bt.cells {w : World} {k cap : Nat} {ao : Option Addr} {xs : List Nat} (h : Bt w k ao cap xs) (hx : 0 < xs.length) : ∃ off, ao = some ⟨k, off, none⟩ ∧ ∀ (j x : Nat), xs[j]? = some x → w.cell? ⟨k, off + j, none⟩ = some (.int .u8 (x : Int)) := by
  rcases h.at' with h0 | h0
  · rw [h0] at hx; exact absurd hx (by simp)
  · exact h0
theorem alive3_any (W : World) : Calls Try.prog 8 #[] W fun e w' => e = .returned (.bool true) ∧ Below W.heap.size W w' := by
  have e3 : num 300 = [172, 2] := by rw [num_big (by decide), num_small (by decide)]
  have e4 : zig (-1) = 1 := by decide
  have e5 : be 8 1 = [0, 0, 0, 0, 0, 0, 0, 1] := by decide
  have e6 : (stepR 3 0 [172, 2, 0, 0, 0, 0, 0, 0, 0, 1] 0).n = 300 := by decide
  have hW0 := Wr.new W (W.heap.size + 1) (by omega)
  have hb0 := (Below.refl W.heap.size W).alloc (Nat.le_refl _) (.cells #[.slice none 0 0] 27)
  have cN : ∀ w k, Wr w W.heap.size k [] → Calls Try.prog 18 #[.pointer (some ⟨W.heap.size, 0, none⟩), .int .u64 300] w fun e w' => e = .returned (.pointer (some ⟨W.heap.size, 0, none⟩)) ∧ Wrote w W.heap.size k w' [172, 2] := fun w k h => by
    have := num_any 300 (by decide) W.heap.size k [] (by simp) w h
    rw [List.nil_append, e3] at this
    exact this
  have cI : ∀ w k, Wr w W.heap.size k [172, 2] → Calls Try.prog 19 #[.pointer (some ⟨W.heap.size, 0, none⟩), .int .i64 (-1)] w fun e w' => e = .returned (.pointer (some ⟨W.heap.size, 0, none⟩)) ∧ Wrote w W.heap.size k w' [172, 2, 0, 0, 0, 0, 0, 0, 0, 1] := fun w k h => by
    have := int_any (-1) (by decide) (by decide) W.heap.size k [172, 2] (by simp) w h
    rw [e4, e5] at this
    exact this
  have cB : ∀ w k, Wr w W.heap.size k [172, 2, 0, 0, 0, 0, 0, 0, 0, 1] → Calls Try.prog 12 #[.pointer (some ⟨W.heap.size, 0, none⟩)] w fun e w' => ∃ v, e = .returned v ∧ Fresh w w' v [172, 2, 0, 0, 0, 0, 0, 0, 0, 1] := fun w k h => bytes_any _ _ _ (by simp) w h
  have cR : ∀ w k ao cap, Bt w k ao cap [172, 2, 0, 0, 0, 0, 0, 0, 0, 1] → Calls Try.prog 13 #[.slice ao 10 cap] w fun e w' => ∃ g, e = .returned (.pointer (some ⟨g, 0, none⟩)) ∧ Rr w' g [172, 2, 0, 0, 0, 0, 0, 0, 0, 1] 0 ∧ Below w.heap.size w w' ∧ w.heap.size ≤ g := fun w k ao cap h => newReader_any k cap ao _ (by simp) w h
  have cG : ∀ w g, Rr w g [172, 2, 0, 0, 0, 0, 0, 0, 0, 1] 0 → Calls Try.prog 20 #[.pointer (some ⟨g, 0, none⟩)] w fun e w' => e = .returned (.int .u64 300) ∧ Frm (fun b => b = g) w w' := fun w g h => (rnum_any g _ 0 w h).mono fun e w' h => ⟨h.1.trans (by rw [e6]; rfl), h.2.2⟩
  go_enter Try.func8, Try.ntmps8
  go_wp2_with (first
    | (go_at_call 18; refine (cN _ _ hW0).mono ?_; rintro e w1 ⟨rfl, hw1⟩; have hb1 := hw1.below hb0 (by simp) (Nat.le_refl _) (by omega); obtain ⟨k1, hr1, hf1, hk1⟩ := hw1; have hk1' : W.heap.size ≤ k1 := (by simp at hk1; omega))
    | (go_at_call 19; refine (cI _ _ hr1).mono ?_; rintro e w2 ⟨rfl, hw2⟩; have hb2 := hw2.below hb1 hb1.size (Nat.le_refl _) hk1'; obtain ⟨k2, hr2, hf2, hk2⟩ := hw2)
    | (go_at_call 12; refine (cB _ _ hr2).mono ?_; rintro e w3 ⟨v, rfl, ao, cap, k3, rfl, hB, hb3, hk3⟩; have hb3' := hb2.trans (hb3.mono hb2.size); obtain ⟨off, rfl, hc⟩ := hB.cells (by simp); have c0 : w3.cell? ⟨k3, off, none⟩ = some (.int .u8 172) := hc 0 172 rfl; have c1 : w3.cell? ⟨k3, off + 1, none⟩ = some (.int .u8 2) := hc 1 2 rfl; have c9 : w3.cell? ⟨k3, off + 9, none⟩ = some (.int .u8 1) := hc 9 1 rfl; clear hc)
    | (go_at_call 13; refine (cR _ _ _ _ hB).mono ?_; rintro e w4 ⟨g, rfl, hR, hb4, hg⟩; have hb4' := hb3'.trans (hb4.mono hb3'.size))
    | (go_at_call 20; refine (cG _ _ hR).mono ?_; rintro e w5 ⟨rfl, hf5⟩; have hb5 := hb4'.trans (hf5.below hb4'.size (by rintro b rfl; have := hb3'.size; omega))))
  go_ret
  exact ⟨rfl, hb5⟩
end Go.Proofs.Ytniccdnjaaepcaa
