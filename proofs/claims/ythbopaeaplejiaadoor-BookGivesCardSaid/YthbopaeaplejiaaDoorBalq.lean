/-
  The program's book among blocks that lie behind W; the law's alive, Light.
-/
import Derived.Test.YthbopaeaplejiaaDoorGZ
import Derived.BigQuiet
import Derived.Deep.QuietTactic
import Derived.Deep.LoopGhost
import Derived.IntWalk
import Derived.WalkMore
namespace Go.Proofs.YthbopaeaplejiaaDoor
open Go.RowKit
set_option linter.unusedSimpArgs false
/-- The program's book among blocks that lie behind W. -/
structure Pz (W : World) (g k : Nat) (b : Bk) (w : World) : Prop where
  two : 2 ≤ W.heap.size
  bel : Below W.heap.size W w
  pb : ∃ S, PB w g S k b ∧ ∀ c, S c → W.heap.size ≤ c
section
variable {W w w' : World} {g k : Nat} {b : Bk}
theorem Pz.below (h : Pz W g k b w) (hb : Below w.heap.size w w') : Pz W g k b w' := by
  obtain ⟨S, h1, h2⟩ := h.pb
  exact ⟨h.two, h.bel.trans (hb.mono h.bel.size), S, h1.below hb, h2⟩
theorem Pz.ok (h : Pz W g k b w) : b.Ok := by
  obtain ⟨S, h1, -⟩ := h.pb
  exact h1.ok
theorem Pz.new (n m : Nat) (h1 : 1 ≤ n) (h2 : n ≤ 500) (h3 : 1 ≤ m) (h4 : m ≤ 200) (W : World) (hG : Gl W) : Calls Tryd.prog 9 #[.int .i64 n, .int .i64 m] W fun e w' => ∃ g, e = .returned (.tuple #[.pointer (some ⟨g, 0, none⟩), .int .i64 0]) ∧ Pz W g 0 (Bk.new n m) w' :=
  (pb_new n m h1 h2 h3 h4 W hG).mono fun e w' ⟨g, S, he, h5, h6, h7⟩ => ⟨g, he, hG.two, h6, S, h5, h7⟩
theorem Pz.add (h : Pz W g k b w) (hk : k < 100000) {o : Ord} (ho : o.Fit) : Calls Tryd.prog 13 #[.pointer (some ⟨g, 0, none⟩), vOrd o] w fun e w' => e = .returned (.int .i64 (b.addF o)) ∧ Pz W g (k + 1) (b.add o) w' := by
  obtain ⟨S, h1, h2⟩ := h.pb
  exact (pb_add o ho h1 hk).mono fun e w' ⟨he, ⟨S', h3, h4⟩, hf⟩ => ⟨he, h.two, h.bel.trans (hf.below h.bel.size h2), S', h3, fun c e => (h4 c e).elim (h2 c) (fun g => Nat.le_trans h.bel.size g)⟩
theorem Pz.rem (h : Pz W g k b w) (hk : k < 100000) {d : Int} (hd : In64 d) : Calls Tryd.prog 18 #[.pointer (some ⟨g, 0, none⟩), .int .i64 d] w fun e w' => e = .returned (.tuple #[vOrd (b.remF d).1, .int .i64 (b.remF d).2]) ∧ Pz W g (k + 1) (b.rem d) w' := by
  obtain ⟨S, h1, h2⟩ := h.pb
  exact (pb_rem d hd h1 hk).mono fun e w' ⟨he, ⟨S', h3, h4⟩, hf⟩ => ⟨he, h.two, h.bel.trans (hf.below h.bel.size h2), S', h3, fun c e => (h4 c e).elim (h2 c) (fun g => Nat.le_trans h.bel.size g)⟩
theorem Pz.front (h : Pz W g k b w) (s : Int) : Calls Tryd.prog 15 #[.pointer (some ⟨g, 0, none⟩), .int .i64 s] w fun e w' => e = .returned (.tuple #[vOrd ((b.front s).getD .zero), .bool (b.front s).isSome]) ∧ Pz W g k b w' := by
  obtain ⟨S, h1, h2⟩ := h.pb
  exact (pb_front s h1).mono fun e w' ⟨he, hb⟩ => ⟨he, h.below hb⟩
theorem Pz.worth (h : Pz W g k b w) (s p : Int) : Calls Tryd.prog 23 #[.pointer (some ⟨g, 0, none⟩), .int .i64 s, .int .i64 p] w fun e w' => e = .returned (.int .i64 (bkWorth b.L s p)) ∧ Pz W g k b w' := by
  obtain ⟨S, h1, h2⟩ := h.pb
  exact (pb_worth s p h1).mono fun e w' ⟨he, hb⟩ => ⟨he, h.below hb⟩
theorem Pz.len (h : Pz W g k b w) : Calls Tryd.prog 14 #[.pointer (some ⟨g, 0, none⟩)] w fun e w' => e = .returned (.int .i64 (b.L.length : Nat)) ∧ Pz W g k b w' := by
  obtain ⟨S, h1, h2⟩ := h.pb
  exact (pb_len h1).mono fun e w' ⟨he, hb⟩ => ⟨he, h.below hb⟩
end
def ob1 : Ord := ⟨1, 0, 0, 10, 1, 0, 0⟩
def ob2 : Ord := ⟨2, 0, 0, 12, 1, 0, 0⟩
def ob3 : Ord := ⟨3, 0, 0, 12, 1, 0, 0⟩
theorem ob_fit : ob1.Fit ∧ ob2.Fit ∧ ob3.Fit := by
  refine ⟨⟨?_, ?_, ?_, ?_, ?_, ?_, ?_⟩, ⟨?_, ?_, ?_, ?_, ?_, ?_, ?_⟩, ⟨?_, ?_, ?_, ?_, ?_, ?_, ?_⟩⟩ <;> (unfold In64; simp only [ob1, ob2, ob3]; omega)
set_option maxRecDepth 8000 in
set_option maxHeartbeats 4000000 in
theorem alive_any (W : World) (hG : Gl W) : Calls Tryd.prog 6 #[] W fun e w' => e = .returned (.bool true) ∧ Below W.heap.size W w' := by
  obtain ⟨f1, f2, f3⟩ := ob_fit
  have cN := Pz.new 5 3 (by omega) (by omega) (by omega) (by omega) W hG
  have cA : ∀ g w, Pz W g 0 ⟨5, 3, []⟩ w → Calls Tryd.prog 13 #[.pointer (some ⟨g, 0, none⟩), .agg #[.int .i64 1, .int .i64 0, .int .i64 0, .int .i64 10, .int .i64 1, .int .i64 0, .int .i64 0]] w fun e w' => e = .returned (.int .i64 0) ∧ Pz W g 1 ⟨5, 3, [ob1]⟩ w' := fun g w h => h.add (by omega) f1
  have cB : ∀ g w, Pz W g 1 ⟨5, 3, [ob1]⟩ w → Calls Tryd.prog 13 #[.pointer (some ⟨g, 0, none⟩), .agg #[.int .i64 2, .int .i64 0, .int .i64 0, .int .i64 12, .int .i64 1, .int .i64 0, .int .i64 0]] w fun e w' => e = .returned (.int .i64 0) ∧ Pz W g 2 ⟨5, 3, [ob1, ob2]⟩ w' := fun g w h => h.add (by omega) f2
  have cC : ∀ g w, Pz W g 2 ⟨5, 3, [ob1, ob2]⟩ w → Calls Tryd.prog 13 #[.pointer (some ⟨g, 0, none⟩), .agg #[.int .i64 3, .int .i64 0, .int .i64 0, .int .i64 12, .int .i64 1, .int .i64 0, .int .i64 0]] w fun e w' => e = .returned (.int .i64 0) ∧ Pz W g 3 ⟨5, 3, [ob1, ob2, ob3]⟩ w' := fun g w h => h.add (by omega) f3
  have cF : ∀ g w, Pz W g 3 ⟨5, 3, [ob1, ob2, ob3]⟩ w → Calls Tryd.prog 15 #[.pointer (some ⟨g, 0, none⟩), .int .i64 0] w fun e w' => e = .returned (.tuple #[.agg #[.int .i64 2, .int .i64 0, .int .i64 0, .int .i64 12, .int .i64 1, .int .i64 0, .int .i64 0], .bool true]) ∧ Pz W g 3 ⟨5, 3, [ob1, ob2, ob3]⟩ w' := fun g w h => h.front 0
  have cW : ∀ g w, Pz W g 3 ⟨5, 3, [ob1, ob2, ob3]⟩ w → Calls Tryd.prog 23 #[.pointer (some ⟨g, 0, none⟩), .int .i64 0, .int .i64 11] w fun e w' => e = .returned (.int .i64 2) ∧ Pz W g 3 ⟨5, 3, [ob1, ob2, ob3]⟩ w' := fun g w h => h.worth 0 11
  have cN : Calls Tryd.prog 9 #[.int .i64 5, .int .i64 3] W fun e w' => ∃ g, e = .returned (.tuple #[.pointer (some ⟨g, 0, none⟩), .int .i64 0]) ∧ Pz W g 0 ⟨5, 3, []⟩ w' := cN
  clear f1 f2 f3
  generalize (⟨5, 3, []⟩ : Bk) = b0 at *
  generalize (⟨5, 3, [ob1]⟩ : Bk) = b1 at *
  generalize (⟨5, 3, [ob1, ob2]⟩ : Bk) = b2 at *
  generalize (⟨5, 3, [ob1, ob2, ob3]⟩ : Bk) = b3 at *
  go_enter Tryd.func6, Tryd.ntmps6
  go_wp2_with (first
    | (go_at_call 9; refine cN.mono ?_; rintro e w1 ⟨g, rfl, k1⟩; clear cN)
    | (go_at_call 13; (with_reducible refine (cA _ _ k1).mono ?_); rintro e w2 ⟨rfl, k2⟩; clear cA)
    | (go_at_call 13; (with_reducible refine (cB _ _ k2).mono ?_); rintro e w3 ⟨rfl, k3⟩; clear cB)
    | (go_at_call 13; (with_reducible refine (cC _ _ k3).mono ?_); rintro e w4 ⟨rfl, k4⟩; clear cC)
    | (go_at_call 15; (with_reducible refine (cF _ _ k4).mono ?_); rintro e w5 ⟨rfl, k5⟩; clear cF; obtain ⟨w6, hw6⟩ : ∃ w6, w6 = w5.alloc (.cells #[.int .i64 2, .int .i64 0, .int .i64 0, .int .i64 12, .int .i64 1, .int .i64 0, .int .i64 0] 34) := ⟨_, rfl⟩; have k6 := k5.below (w' := w6) (by rw [hw6]; exact (Below.refl _ _).alloc (Nat.le_refl _) _); have c6 : w6.cell? ⟨w5.heap.size, 0, none⟩ = some (.int .i64 2) := (by rw [hw6]; exact (Blk.new _ _ _).cell_eq 0 _ rfl))
    | (rw [← hw6]; clear hw6)
    | (go_at_call 23; (with_reducible refine (cW _ _ k6).mono ?_); rintro e w7 ⟨rfl, k7⟩; clear cW)
    | fail)
  go_ret
  exact ⟨rfl, k7.bel⟩
theorem light_any (ao : Option Addr) (n cap : Nat) (W : World) (hn : n ≤ 9223372036854775807) : Calls Tryd.prog 8 #[.slice ao n cap, .int .i64 0] W fun e w' => e = .returned (.bool (decide (n ≤ 100))) ∧ w' = W := by
  obtain ⟨q, hq⟩ : ∃ q, decide ((n : Int) ≤ 100) = q := ⟨_, rfl⟩
  have hq2 : decide (n ≤ 100) = q := by rw [← hq]; congr 1; exact propext (by omega)
  rw [hq2]
  clear hq2 hn
  cases q
  all_goals
    go_enter Tryd.func8, Tryd.ntmps8
    go_wp2_with fail
    go_ret
    exact ⟨rfl, rfl⟩
end Go.Proofs.YthbopaeaplejiaaDoor
