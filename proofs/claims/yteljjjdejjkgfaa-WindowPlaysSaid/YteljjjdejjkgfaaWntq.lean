/-
  WindowBetween.
-/
import Derived.Test.YteljjjdejjkgfaaWnhq
import Derived.Test.YteljjjdejjkgfaaItsq
import Derived.Deep.LoopGhost
import Derived.IntWalk
import Derived.WalkMore
import Derived.BigQuiet
import Derived.Deep.QuietTactic
namespace Go.Proofs.Yteljjjdejjkgfaa
open Go.RowKit
set_option linter.unusedSimpArgs false
def newsT (t q : Int) (P : List Int) : List Trd := P.map fun p => ⟨t, p, q⟩
theorem newsT_snoc (t q : Int) (P : List Int) (p : Int) : newsT t q (P ++ [p]) = newsT t q P ++ [⟨t, p, q⟩] := by simp [newsT]
/-- A window with older trades and some of now. -/
def bwn (span grid la : Int) (old : List Trd) (t q : Int) (P : List Int) : Wn := ⟨span, grid, grid, la, old ++ newsT t q P⟩
section
variable {span grid la t q p gap lo hi : Int} {old : List Trd} {P : List Int}
theorem bwn_add (hl : la ≤ t) (ht : 0 ≤ t ∧ t ≤ 1152921504606846976) (hp : 1 ≤ p ∧ p ≤ 1099511627776) (hq : 1 ≤ q ∧ q ≤ 4294967296) : (bwn span grid la old t q P).add t p q = (0, bwn span grid t old t q (P ++ [p])) := by
  unfold Wn.add bwn
  rw [if_pos ⟨⟨ht.1, ht.2, hl⟩, ⟨hp.1, hp.2, hq.1, hq.2⟩⟩, newsT_snoc, List.append_assoc]
theorem bwn_in (hs : 1 ≤ span) (hold : ∀ x ∈ old, x.tick ≤ gap) (ht : t = gap + span) : (bwn span grid la old t q P).inW t = newsT t q P := by
  unfold Wn.inW bwn
  simp only
  rw [List.filter_append, List.filter_eq_nil_iff.2, List.filter_eq_self.2, List.nil_append]
  · intro x hx
    obtain ⟨y, -, rfl⟩ := List.mem_map.1 hx
    simp only [decide_eq_true_eq]
    omega
  · intro x hx
    have := hold x hx
    simp only [decide_eq_true_eq]
    omega
theorem bwn_mean (hs : 1 ≤ span) (hold : ∀ x ∈ old, x.tick ≤ gap) (ht : t = gap + span) (hl : la ≤ t) (ht2 : 0 ≤ t ∧ t ≤ 1152921504606846976) (hP : P ≠ []) : ((bwn span grid la old t q P).mean t).1 = (gridM (pqs (newsT t q P) / qqs (newsT t q P)) grid, true) := by
  unfold Wn.mean
  rw [if_pos (show tickOk (bwn span grid la old t q P).last t from ⟨ht2.1, ht2.2, hl⟩), bwn_in hs hold ht, if_neg (by simpa [newsT] using hP)]
  rfl
theorem bwn_facts (hg : 1 ≤ grid) (ht : 0 ≤ t ∧ t ≤ 1152921504606846976) (hq : 1 ≤ q ∧ q ≤ 4294967296) (hP : P ≠ []) (hlo : 1 ≤ lo) (hhi : hi ≤ 1099511627776) (h : ∀ p ∈ P, lo ≤ p ∧ p ≤ hi) :
    gridM (pqs (newsT t q P) / qqs (newsT t q P)) grid % grid = 0 ∧ gridM (pqs (newsT t q P) / qqs (newsT t q P)) grid ≤ max hi grid ∧ lo < gridM (pqs (newsT t q P) / qqs (newsT t q P)) grid + grid ∧ grid ≤ gridM (pqs (newsT t q P) / qqs (newsT t q P)) grid := by
  have h1 : ∀ x ∈ newsT t q P, x.Ok ∧ lo ≤ x.price ∧ x.price ≤ hi := fun x hx => by
    obtain ⟨y, hy, rfl⟩ := List.mem_map.1 hx
    have := h y hy
    exact ⟨⟨ht, by simp only; omega, hq⟩, this⟩
  obtain ⟨h2, h3⟩ := mean_between (lo := lo) (hi := hi) (l := newsT t q P) (fun x hx => (h1 x hx).1) (fun x hx => (h1 x hx).2) (by simpa [newsT] using hP)
  exact gridM_facts hg (by omega) h2 h3
end
section
variable {W w w' : World} {B ga gb : Nat} {ma mb m' : Wn}
/-- Two windows apart, behind B. -/
def Wd (B : Nat) (W w : World) (ga gb : Nat) (ma mb : Wn) : Prop := ∃ Sa Sb, WP w ga Sa ma ∧ WP w gb Sb mb ∧ Below B W w ∧ B ≤ w.heap.size ∧ (∀ c, Sa c → B ≤ c) ∧ (∀ c, Sb c → B ≤ c) ∧ ∀ c, Sa c → ¬ Sb c
theorem Wd.turn {Sa Sb : Nat → Prop} (hb0 : WP w gb Sb mb) (hb : Below B W w) (hB : B ≤ w.heap.size) (h1 : ∀ c, Sa c → B ≤ c) (h2 : ∀ c, Sb c → B ≤ c) (h3 : ∀ c, Sa c → ¬ Sb c) (h : Tp w ga Sa m' w') : Wd B W w' ga gb m' mb := by
  obtain ⟨S', k1, k2, k3⟩ := h
  refine ⟨S', Sb, k1, hb0.frm k2 (fun c e => h3 c e), hb.trans (k2.below hB h1), Nat.le_trans hB k2.size, fun c e => ?_, h2, fun c e => ?_⟩
  · rcases k3 c e with e | e
    · exact h1 c e
    · exact Nat.le_trans hB e
  · rcases k3 c e with e | e
    · exact h3 c e
    · intro g
      have := hb0.lt c g
      omega
theorem Wd.swap (h : Wd B W w ga gb ma mb) : Wd B W w gb ga mb ma := by
  obtain ⟨Sa, Sb, h1, h2, h3, h4, h5, h6, h7⟩ := h
  exact ⟨Sb, Sa, h2, h1, h3, h4, h6, h5, fun c e g => h7 c g e⟩
theorem Wd.below (h : Wd B W w ga gb ma mb) : Below B W w := by
  obtain ⟨Sa, Sb, h1, h2, h3, -⟩ := h
  exact h3
theorem belowW {B : Nat} {w w' : World} (h : Below B w w') (n : Nat) : Below B w (w'.drewN n) := ⟨h.os, h.tape, h.output, h.size, h.block⟩
theorem Wd.keep (h : Wd B W w ga gb ma mb) (hb : Below w.heap.size w w') : Wd B W w' ga gb ma mb := by
  obtain ⟨Sa, Sb, h1, h2, h3, h4, h5, h6, h7⟩ := h
  exact ⟨Sa, Sb, h1.below hb, h2.below hb, h3.trans (hb.mono h4), Nat.le_trans h4 hb.size, h5, h6, h7⟩
theorem Wd.add (t p q : Int) (ht : In64 t) (hp : In64 p) (hq : In64 q) (hlen : ma.L.length ≤ 1000000) (h : Wd B W w ga gb ma mb) : Calls Try.prog 15 #[.pointer (some ⟨ga, 0, none⟩), .int .i64 t, .int .i64 p, .int .i64 q] w fun e w' => e = .returned (.int .i64 (ma.add t p q).1) ∧ Wd B W w' ga gb (ma.add t p q).2 mb := by
  obtain ⟨Sa, Sb, h1, h2, h3, h4, h5, h6, h7⟩ := h
  exact (wp_add t p q ht hp hq hlen h1).mono fun e w' k => ⟨k.1, Wd.turn h2 h3 h4 h5 h6 h7 k.2⟩
theorem Wd.mean (t : Int) (ht : In64 t) (hlen : ma.L.length ≤ 1000000) (h : Wd B W w ga gb ma mb) : Calls Try.prog 16 #[.pointer (some ⟨ga, 0, none⟩), .int .i64 t] w fun e w' => e = .returned (.tuple #[.int .i64 (ma.mean t).1.1, .bool (ma.mean t).1.2]) ∧ Wd B W w' ga gb (ma.mean t).2 mb := by
  obtain ⟨Sa, Sb, h1, h2, h3, h4, h5, h6, h7⟩ := h
  exact (wp_mean t ht hlen h1).mono fun e w' k => ⟨k.1, Wd.turn h2 h3 h4 h5 h6 h7 k.2⟩
end
end Go.Proofs.Yteljjjdejjkgfaa
