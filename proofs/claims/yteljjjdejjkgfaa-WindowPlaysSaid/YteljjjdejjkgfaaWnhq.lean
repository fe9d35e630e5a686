/-
  alive of stage 19's law; WindowMoves, WindowNils.
-/
import Derived.Test.YteljjjdejjkgfaaWnsq
namespace Go.Proofs.Yteljjjdejjkgfaa
open Go.RowKit
set_option linter.unusedSimpArgs false
theorem i64_of (x : Int) (h : -9223372036854775808 ≤ x ∧ x < 9223372036854775808) : In64 x := h
theorem wex_new : wnNew 5 1 90 = some ⟨5, 1, 90, 0, []⟩ := rfl
theorem wex_add1 : (Wn.mk 5 1 90 0 []).add 1 100 1 = (0, ⟨5, 1, 90, 1, [⟨1, 100, 1⟩]⟩) := rfl
theorem wex_add2 : (Wn.mk 5 1 90 1 [⟨1, 100, 1⟩]).add 2 104 3 = (0, ⟨5, 1, 90, 2, [⟨1, 100, 1⟩, ⟨2, 104, 3⟩]⟩) := rfl
theorem wex_mean : (Wn.mk 5 1 90 2 [⟨1, 100, 1⟩, ⟨2, 104, 3⟩]).mean 3 = ((103, true), ⟨5, 1, 90, 3, [⟨1, 100, 1⟩, ⟨2, 104, 3⟩]⟩) := rfl
section
variable {W w w' : World} {g : Nat} {S : Nat → Prop} {m m' : Wn}
/-- Blocks of its own that lie behind B. -/
def Wq (B : Nat) (W w : World) (g : Nat) (m : Wn) : Prop := ∃ S, WP w g S m ∧ Below B W w ∧ (∀ c, S c → B ≤ c) ∧ B ≤ w.heap.size
theorem Wq.turn {B : Nat} (hb : Below B W w) (hB : B ≤ w.heap.size) (hS : ∀ c, S c → B ≤ c) (h : Tp w g S m' w') : Wq B W w' g m' := by
  obtain ⟨S', h1, h2, h3⟩ := h
  refine ⟨S', h1, hb.trans (h2.below hB hS), fun c e => ?_, Nat.le_trans hB h2.size⟩
  rcases h3 c e with e | e
  · exact hS c e
  · exact Nat.le_trans hB e
theorem Wq.keep {B : Nat} (h : Wq B W w g m) (hb : Below w.heap.size w w') : Wq B W w' g m := by
  obtain ⟨S, h1, h2, h3, h4⟩ := h
  exact ⟨S, h1.below hb, h2.trans (hb.mono h4), h3, Nat.le_trans h4 hb.size⟩
set_option maxRecDepth 8000 in
set_option maxHeartbeats 4000000 in
theorem alive19_any (W : World) : Calls Try.prog 7 #[] W fun e w' => e = .returned (.bool true) ∧ Below W.heap.size W w' := by
  have c1 : Calls Try.prog 8 #[.int .i64 5, .int .i64 1, .int .i64 90] W fun e w' => ∃ g, e = .returned (.tuple #[.pointer (some ⟨g, 0, none⟩), .int .i64 0]) ∧ Wq W.heap.size W w' g ⟨5, 1, 90, 0, []⟩ := by
    refine (wp_new 5 1 90 (i64_of _ (by omega)) (i64_of _ (by omega)) (i64_of _ (by omega)) W).mono ?_
    rintro e w' (⟨h, -⟩ | ⟨r, m, S, h, he, h1, h2, h3⟩)
    · rw [wex_new] at h; cases h
    · rw [wex_new] at h; cases h
      exact ⟨r, he, S, h1, h2, h3, h2.size⟩
  have c2 : ∀ g w, Wq W.heap.size W w g ⟨5, 1, 90, 0, []⟩ → Calls Try.prog 15 #[.pointer (some ⟨g, 0, none⟩), .int .i64 1, .int .i64 100, .int .i64 1] w fun e w' => e = .returned (.int .i64 0) ∧ Wq W.heap.size W w' g ⟨5, 1, 90, 1, [⟨1, 100, 1⟩]⟩ := by
    rintro g w ⟨S, h1, h2, h3, h4⟩
    refine (wp_add 1 100 1 (i64_of _ (by omega)) (i64_of _ (by omega)) (i64_of _ (by omega)) (by simp) h1).mono ?_
    rintro e w' ⟨he, ht⟩
    rw [wex_add1] at he ht
    exact ⟨he, Wq.turn h2 h4 h3 ht⟩
  have c3 : ∀ g w, Wq W.heap.size W w g ⟨5, 1, 90, 1, [⟨1, 100, 1⟩]⟩ → Calls Try.prog 15 #[.pointer (some ⟨g, 0, none⟩), .int .i64 2, .int .i64 104, .int .i64 3] w fun e w' => e = .returned (.int .i64 0) ∧ Wq W.heap.size W w' g ⟨5, 1, 90, 2, [⟨1, 100, 1⟩, ⟨2, 104, 3⟩]⟩ := by
    rintro g w ⟨S, h1, h2, h3, h4⟩
    refine (wp_add 2 104 3 (i64_of _ (by omega)) (i64_of _ (by omega)) (i64_of _ (by omega)) (by simp) h1).mono ?_
    rintro e w' ⟨he, ht⟩
    rw [wex_add2] at he ht
    exact ⟨he, Wq.turn h2 h4 h3 ht⟩
  have c4 : ∀ g w, Wq W.heap.size W w g ⟨5, 1, 90, 2, [⟨1, 100, 1⟩, ⟨2, 104, 3⟩]⟩ → Calls Try.prog 16 #[.pointer (some ⟨g, 0, none⟩), .int .i64 3] w fun e w' => e = .returned (.tuple #[.int .i64 103, .bool true]) ∧ Wq W.heap.size W w' g ⟨5, 1, 90, 3, [⟨1, 100, 1⟩, ⟨2, 104, 3⟩]⟩ := by
    rintro g w ⟨S, h1, h2, h3, h4⟩
    refine (wp_mean 3 (i64_of _ (by omega)) (by simp) h1).mono ?_
    rintro e w' ⟨he, ht⟩
    rw [wex_mean] at he ht
    exact ⟨he, Wq.turn h2 h4 h3 ht⟩
  have c5 : ∀ g w, Wq W.heap.size W w g ⟨5, 1, 90, 3, [⟨1, 100, 1⟩, ⟨2, 104, 3⟩]⟩ → Calls Try.prog 11 #[.pointer (some ⟨g, 0, none⟩)] w fun e w' => e = .returned (.int .i64 90) ∧ Wq W.heap.size W w' g ⟨5, 1, 90, 3, [⟨1, 100, 1⟩, ⟨2, 104, 3⟩]⟩ := by
    intro g w h
    have h0 := h
    obtain ⟨S, h1, -⟩ := h
    exact (wp_ref h1).mono fun e w' q => ⟨q.1, h0.keep q.2⟩
  have c6 : ∀ g w, Wq W.heap.size W w g ⟨5, 1, 90, 3, [⟨1, 100, 1⟩, ⟨2, 104, 3⟩]⟩ → Calls Try.prog 12 #[.pointer (some ⟨g, 0, none⟩)] w fun e w' => e = .returned (.int .i64 2) ∧ Wq W.heap.size W w' g ⟨5, 1, 90, 3, [⟨1, 100, 1⟩, ⟨2, 104, 3⟩]⟩ := by
    intro g w h
    have h0 := h
    obtain ⟨S, h1, -⟩ := h
    exact (wp_len h1).mono fun e w' q => ⟨q.1, h0.keep q.2⟩
  have fin : ∀ g m w, Wq W.heap.size W w g m → Below W.heap.size W w := fun g m w h => by
    obtain ⟨S, -, h, -⟩ := h
    exact h
  go_enter Try.func7, Try.ntmps7
  go_wp2_with (first
    | (go_at_call 8; refine c1.mono ?_; rintro e w1 ⟨g, rfl, k1⟩; clear c1)
    | (go_at_call 15; (with_reducible refine (c2 _ _ k1).mono ?_); rintro e w2 ⟨rfl, k2⟩; clear c2)
    | (go_at_call 15; (with_reducible refine (c3 _ _ k2).mono ?_); rintro e w3 ⟨rfl, k3⟩; clear c3)
    | (go_at_call 16; (with_reducible refine (c4 _ _ k3).mono ?_); rintro e w4 ⟨rfl, k4⟩; clear c4)
    | (go_at_call 11; (with_reducible refine (c5 _ _ k4).mono ?_); rintro e w5 ⟨rfl, k5⟩; clear c5)
    | (go_at_call 12; (with_reducible refine (c6 _ _ k5).mono ?_); rintro e w6 ⟨rfl, k6⟩; clear c6)
    | fail)
  go_ret
  exact ⟨rfl, fin _ _ _ k6⟩
set_option maxRecDepth 8000 in
theorem wmoves_any (a b bps : Int) (ha : In64 a) (hb : In64 b) (hp : In64 bps) (W : World) : Calls Try.prog 4 #[.int .i64 a, .int .i64 b, .int .i64 bps] W fun e w' => e = .returned (.bool true) ∧ Below W.heap.size W w' := by
  have c1 := wp_moved a b bps ha hb hp W
  have c2 := fun w => rmoved_any a b bps w
  have cA := fun w => alive19_any w
  have hv : ∀ v : Bool, (v == v) = true := by simp
  generalize movedB a b bps = v at *
  replace hv := hv v
  go_enter Try.func4, Try.ntmps4
  go_wp2_with (first
    | (go_at_call 13; refine c1.mono ?_; rintro e w1 ⟨rfl, b1⟩; clear c1)
    | (go_at_call 14; refine (c2 _).mono ?_; rintro e w2 ⟨rfl, b2⟩; clear c2; replace b1 := b1.trans (b2.mono b1.size))
    | (go_at_call 7; refine (cA _).mono ?_; rintro e w3 ⟨rfl, b3⟩; clear cA; replace b1 := b1.trans (b3.mono b1.size))
    | fail)
  go_ret
  exact ⟨rfl, b1⟩
set_option maxRecDepth 8000 in
theorem wnils_any (t p q : Int) (W : World) : Calls Try.prog 6 #[.int .i64 t, .int .i64 p, .int .i64 q] W fun e w' => e = .returned (.bool true) ∧ Below W.heap.size W w' := by
  have c1 := wn_mean t W
  have c2 := fun w => wn_roll t 5 w
  have c3 := fun w => wn_add t p q w
  have c4 := fun w => wn_reset p w
  have c5 := fun w => wn_ref w
  have c6 := fun w => wn_len w
  have cA := fun w => alive19_any w
  go_enter Try.func6, Try.ntmps6
  go_wp2_with (first
    | (go_at_call 16; refine c1.mono ?_; rintro e w1 ⟨rfl, b1⟩; clear c1)
    | (go_at_call 17; refine (c2 _).mono ?_; rintro e w2 ⟨rfl, b2⟩; clear c2; replace b1 := b1.trans (b2.mono b1.size))
    | (go_at_call 15; refine (c3 _).mono ?_; rintro e w3 ⟨rfl, b3⟩; clear c3; replace b1 := b1.trans (b3.mono b1.size))
    | (go_at_call 18; refine (c4 _).mono ?_; rintro e w4 ⟨rfl, b4⟩; clear c4; replace b1 := b1.trans (b4.mono b1.size))
    | (go_at_call 11; refine (c5 _).mono ?_; rintro e w5 ⟨rfl, b5⟩; clear c5; replace b1 := b1.trans (b5.mono b1.size))
    | (go_at_call 12; refine (c6 _).mono ?_; rintro e w6 ⟨rfl, b6⟩; clear c6; replace b1 := b1.trans (b6.mono b1.size))
    | (go_at_call 7; refine (cA _).mono ?_; rintro e w7 ⟨rfl, b7⟩; clear cA; replace b1 := b1.trans (b7.mono b1.size))
    | fail)
  go_ret
  exact ⟨rfl, b1⟩
end
end Go.Proofs.Yteljjjdejjkgfaa
