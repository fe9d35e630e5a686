/-
  The contracts of package session's Lasts, of the statements' alive, and the walks of SessionAts, SessionLasts, SessionStays.
-/
import Derived.Test.YtjcopnhienijjaaSesD
namespace Go.Proofs.Ytjcopnhienijjaa
open Go.RowKit
set_option maxHeartbeats 1000000 in
theorem lasts_any (ao : Option Addr) (cap : Nat) (l : List Rowp) (h60 : l.length ≤ 1000000) (f t : Int) (p c : Nat) (hp : Pas l f p) (hc : Chg l p c) (W : World) (hL : Rowps W ao cap l) :
    Calls Try.prog 15 #[.slice ao l.length cap, .int .i64 f, .int .i64 t] W fun e w' => e = .returned (.bool (Ls l p c f t)) ∧ Below W.heap.size W w' := by
  obtain ⟨v, k, hx⟩ := Nx.exists hc.le
  have cA := at_any ao cap l h60 f p hp W hL
  have cC := fun w hw => change_any ao cap l h60 f p c hp hc v k hx w hw
  have hce := hc.le
  by_cases hft : f ≤ t
  rotate_left
  · have hb : Ls l p c f t = false := by unfold Ls; simp [hft]
    rw [hb]
    have hft2 : t < f := by omega
    go_enter Try.func15, Try.ntmps15
    go_wp2_with fail
    go_ret
    exact ⟨rfl, Below.refl _ _⟩
  by_cases hph : phN l p = 2
  rotate_left
  · have hb : Ls l p c f t = false := by unfold Ls; simp [hph]
    rw [hb]
    generalize phN l p = z at cA hph
    have hd : ((z : Int) != 2) = true := by simpa using hph
    go_enter Try.func15, Try.ntmps15
    go_wp2_with (go_at_call 11; (with_reducible refine cA.mono ?_); rintro e w1 ⟨rfl, hb1⟩)
    go_ret
    exact ⟨rfl, hb1⟩
  rw [hph] at cA
  by_cases hlt : c < l.length
  · obtain ⟨-, rfl, rfl⟩ | ⟨h0, -⟩ := hx
    rotate_left
    · omega
    have hb : Ls l p c f t = decide (t < tk l c) := by
      unfold Ls
      have : ¬ c = l.length := by omega
      simp [hft, hph, this]
    rw [hb]
    generalize tk l c = z at cC ⊢
    obtain ⟨b', hb'⟩ : ∃ b', decide (t < z) = b' := ⟨_, rfl⟩
    rw [hb']
    go_enter Try.func15, Try.ntmps15
    go_wp2_with (first
      | (go_at_call 11; (with_reducible refine cA.mono ?_); rintro e w1 ⟨rfl, hb1⟩; have hL1 := hL.below hb1)
      | (go_at_call 24; (with_reducible refine (cC _ hL1).mono ?_); rintro e w2 ⟨rfl, hb2⟩))
    go_ret
    exact ⟨rfl, hb1.trans (hb2.mono hb1.size)⟩
  · obtain ⟨h0, -⟩ | ⟨h0, rfl, rfl⟩ := hx
    · omega
    have hb : Ls l p c f t = true := by
      unfold Ls
      simp [hft, hph, h0]
    rw [hb]
    go_enter Try.func15, Try.ntmps15
    go_wp2_with (first
      | (go_at_call 11; (with_reducible refine cA.mono ?_); rintro e w1 ⟨rfl, hb1⟩; have hL1 := hL.below hb1)
      | (go_at_call 24; (with_reducible refine (cC _ hL1).mono ?_); rintro e w2 ⟨rfl, hb2⟩))
    go_ret
    exact ⟨rfl, hb1.trans (hb2.mono hb1.size)⟩
theorem no_of {k : Bool} {P : Prop} (h : k = true → P) (hn : ¬ P) : k = false := by
  cases k with
  | false => rfl
  | true => exact absurd (h rfl) hn
abbrev aliveL : List Rowp := [⟨5, 1⟩, ⟨10, 2⟩]
theorem two_cases {P : Nat → Prop} (h0 : P 0) (h1 : P 1) : ∀ i, i < aliveL.length → P i := by
  intro i hi
  have : i < 2 := hi
  match i, this with
  | 0, _ => exact h0
  | 1, _ => exact h1
theorem pas4 : Pas aliveL 4 0 := ⟨by decide, fun i h => by omega, fun i _ hi => two_cases (P := fun i => 4 < tk aliveL i) (by decide) (by decide) i hi⟩
theorem pas7 : Pas aliveL 7 1 := ⟨by decide, fun i h => by
    obtain rfl : i = 0 := by omega
    decide, fun i h hi => two_cases (P := fun i => 1 ≤ i → 7 < tk aliveL i) (by omega) (fun _ => by decide) i hi h⟩
theorem pas12 : Pas aliveL 12 2 := ⟨by decide, fun i h => two_cases (P := fun i => tk aliveL i ≤ 12) (by decide) (by decide) i h, fun i h hi => by
    have : i < 2 := hi
    omega⟩
theorem chg12 : Chg aliveL 2 2 := ⟨by decide, by decide, fun i h1 h2 => by omega, fun h => absurd h (by decide)⟩
theorem fit_aliveL : ∀ m ∈ aliveL, m.Fit := by
  intro m hm
  simp only [aliveL, List.mem_cons, List.not_mem_nil, or_false] at hm
  rcases hm with rfl | rfl <;> exact ⟨⟨by decide, by decide⟩, ⟨by decide, by decide⟩⟩
theorem alive_rows {w : World} {g : Nat} {T : TypeId} (h : Blk w g T #[.int .i64 5, .int .i64 1, .int .i64 10, .int .i64 2]) : Rowps w (some ⟨g, 0, none⟩) 2 aliveL :=
  ⟨Nat.le_refl _, by decide, .inr ⟨_, 0, rfl, fun i m hi j v hj => by
    have h2 : j < 2 := by
      have := (Array.getElem?_eq_some_iff.1 hj).1
      simpa using this
    refine h.cell_eq _ _ ?_
    match i, hi with
    | 0, hi => cases hi; match j, h2, hj with
      | 0, _, hj => exact hj
      | 1, _, hj => exact hj
    | 1, hi => cases hi; match j, h2, hj with
      | 0, _, hj => exact hj
      | 1, _, hj => exact hj
    | i + 2, hi => simp at hi⟩⟩
set_option maxRecDepth 8000 in
set_option maxHeartbeats 1000000 in
theorem alive8_any (W : World) : Calls Try.prog 8 #[] W fun e w' => e = .returned (.bool true) ∧ Below W.heap.size W w' := by
  have cN := fun ao cap w hw => next_any ao cap aliveL (by decide) 7 1 pas7 10 true (.inl ⟨by decide, by decide, rfl⟩) w hw
  have cA4 := fun ao cap w hw => at_any ao cap aliveL (by decide) 4 0 pas4 w hw
  have cA7 := fun ao cap w hw => at_any ao cap aliveL (by decide) 7 1 pas7 w hw
  have cR := fun ao cap w hw => rest_any ao cap aliveL (by decide) fit_aliveL 12 (by decide) 2 2 pas12 chg12 (-1) (.inr ⟨by decide, rfl⟩) w hw
  rw [show phN aliveL 0 = 0 by decide] at cA4
  rw [show phN aliveL 1 = 1 by decide] at cA7
  rw [show aliveL.length = 2 from rfl] at cN cA4 cA7 cR
  have hb0 := fun o => (Below.refl W.heap.size W).alloc (Nat.le_refl _) o
  go_enter Try.func8, Try.ntmps8
  go_wp2_with (first
    | (go_at_call 9; (with_reducible refine (cN _ _ _ (alive_rows (Blk.new _ _ _))).mono ?_); rintro e w1 ⟨rfl, hb1⟩; have hr1 := (alive_rows (Blk.new W 33 _)).below hb1)
    | (go_at_call 11; (with_reducible refine (cA4 _ _ _ hr1).mono ?_); rintro e w2 ⟨rfl, hb2⟩; have hr2 := hr1.below hb2)
    | (go_at_call 11; (with_reducible refine (cA7 _ _ _ hr2).mono ?_); rintro e w3 ⟨rfl, hb3⟩; have hr3 := hr2.below hb3)
    | (go_at_call 17; (with_reducible refine (cR _ _ _ hr3).mono ?_); rintro e w4 ⟨rfl, hb4⟩))
  go_ret
  have h1 := (hb0 _).trans (hb1.mono (by simp))
  have h2 := h1.trans (hb2.mono h1.size)
  have h3 := h2.trans (hb3.mono h2.size)
  exact ⟨rfl, h3.trans (hb4.mono h3.size)⟩
end Go.Proofs.Ytjcopnhienijjaa
