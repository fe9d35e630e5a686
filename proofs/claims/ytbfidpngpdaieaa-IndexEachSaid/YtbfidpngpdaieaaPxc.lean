/-
  The program's index: a nil one; the law's alive.
-/
import Derived.Test.YtbfidpngpdaieaaPxb
namespace Go.Proofs.Ytbfidpngpdaieaa
open Go.RowKit Go.WideMaps Go.WideElems
set_option linter.unusedSimpArgs false
theorem xputNil_any (s d t : Int) (W : World) : Calls Try.prog 12 #[.pointer none, vKey s d, .int .i64 t] W fun e w' => e = .returned (.bool false) ∧ Below W.heap.size W w' := by
  have hb : Hid (Below W.heap.size W (W.alloc (.cells #[.int .i64 s, .int .i64 d] 43))) := Lib.hid ((Below.refl _ W).alloc (Nat.le_refl _) _)
  go_enter Try.func12, Try.ntmps12
  go_wp2_with fail
  go_ret
  exact ⟨rfl, hb.out⟩
theorem xgetNil_any (s d : Int) (W : World) : Calls Try.prog 15 #[.pointer none, vKey s d] W fun e w' => e = .returned (.tuple #[.int .i64 0, .bool false]) ∧ Below W.heap.size W w' := by
  have hb : Hid (Below W.heap.size W (W.alloc (.cells #[.int .i64 s, .int .i64 d] 43))) := Lib.hid ((Below.refl _ W).alloc (Nat.le_refl _) _)
  go_enter Try.func15, Try.ntmps15
  go_wp2_with fail
  go_ret2
  exact ⟨rfl, hb.out⟩
theorem xdropNil_any (s d : Int) (W : World) : Calls Try.prog 13 #[.pointer none, vKey s d] W fun e w' => e = .returned (.bool false) ∧ Below W.heap.size W w' := by
  obtain ⟨w1, hw1⟩ : ∃ w1, w1 = W.alloc (.cells #[.int .i64 s, .int .i64 d] 43) := ⟨_, rfl⟩
  have hb1 : Below W.heap.size W w1 := by rw [hw1]; exact (Below.refl _ W).alloc (Nat.le_refl _) _
  have hk : Blk w1 W.heap.size 43 #[.int .i64 s, .int .i64 d] := by rw [hw1]; exact Blk.new _ _ _
  have k0 : w1.cell? ⟨W.heap.size, 0, none⟩ = some (.int .i64 s) := hk.cell_eq 0 _ rfl
  have k1 : w1.cell? ⟨W.heap.size, 1, none⟩ = some (.int .i64 d) := hk.cell_eq 1 _ rfl
  have cG := xgetNil_any s d w1
  simp only [vKey] at cG ⊢
  have hfin : ∀ w, Below w1.heap.size w1 w → Hid (Below W.heap.size W w) := fun w hw => Lib.hid (hb1.trans (hw.mono hb1.size))
  clear hb1 hk
  go_enter Try.func13, Try.ntmps13
  go_wp2_with (first
    | (rw [← hw1]; clear hw1)
    | (go_at_call 15; refine cG.mono ?_; rintro e w2 ⟨rfl, hb2⟩; replace hfin := hfin _ hb2; clear cG hb2)
    | fail)
  go_ret
  exact ⟨rfl, hfin.out⟩
/-- The program's index among blocks that lie behind W. -/
structure Xs (W : World) (g k : Nat) (l : List Ixr) (w : World) : Prop where
  bel : Below W.heap.size W w
  px : ∃ S, PX w g S k l ∧ ∀ c, S c → W.heap.size ≤ c
section
variable {W w w' : World} {g k : Nat} {l : List Ixr}
theorem Xs.below (h : Xs W g k l w) (hb : Below w.heap.size w w') : Xs W g k l w' := by
  obtain ⟨S, h1, h2⟩ := h.px
  exact ⟨h.bel.trans (hb.mono h.bel.size), S, h1.below hb, h2⟩
theorem Xs.put (h : Xs W g k l w) (hk : k < 100000) {s d t : Int} (hs : In64 s) (hd : In64 d) (ht : In64 t) : Calls Try.prog 12 #[.pointer (some ⟨g, 0, none⟩), vKey s d, .int .i64 t] w fun e w' => e = .returned (.bool (ixg l s d).isNone) ∧ Xs W g (k + 1) (ixPut l s d t) w' := by
  obtain ⟨S, h1, h2⟩ := h.px
  refine (xput_any s d t hs hd ht h1 hk).mono ?_
  rintro e w' ⟨he, ⟨S', h3, h4⟩, hf⟩
  exact ⟨he, h.bel.trans (hf.below h.bel.size h2), S', h3, fun c hc => (h4 c hc).elim (h2 c) (fun g => Nat.le_trans h.bel.size g)⟩
theorem Xs.drop (h : Xs W g k l w) {s d : Int} (hs : In64 s) (hd : In64 d) : Calls Try.prog 13 #[.pointer (some ⟨g, 0, none⟩), vKey s d] w fun e w' => e = .returned (.bool (ixg l s d).isSome) ∧ Xs W g k (ixDrop l s d) w' := by
  obtain ⟨S, h1, h2⟩ := h.px
  refine (xdrop_any s d hs hd h1).mono ?_
  rintro e w' ⟨he, h3, hf⟩
  exact ⟨he, h.bel.trans (hf.below h.bel.size h2), S, h3, h2⟩
theorem Xs.clear (h : Xs W g k l w) (hl : l.length ≤ 100000) (s : Int) : Calls Try.prog 14 #[.pointer (some ⟨g, 0, none⟩), .int .i64 s] w fun e w' => e = .returned (.int .i64 ((ixIs l s).length : Nat)) ∧ Xs W g k (ixClr l s) w' := by
  obtain ⟨S, h1, h2⟩ := h.px
  refine (xclear_any s h1 hl).mono ?_
  rintro e w' ⟨he, h3, hf⟩
  exact ⟨he, h.bel.trans (hf.below h.bel.size h2), S, h3, h2⟩
theorem Xs.get (h : Xs W g k l w) {s d : Int} (hs : In64 s) (hd : In64 d) : Calls Try.prog 15 #[.pointer (some ⟨g, 0, none⟩), vKey s d] w fun e w' => e = .returned (.tuple #[.int .i64 ((ixg l s d).getD 0), .bool (ixg l s d).isSome]) ∧ Xs W g k l w' := by
  obtain ⟨S, h1, h2⟩ := h.px
  exact (xget_any s d hs hd h1).mono fun e w' ⟨he, hb⟩ => ⟨he, h.below hb⟩
theorem Xs.len (h : Xs W g k l w) (hl : l.length ≤ 100000) (s : Int) : Calls Try.prog 9 #[.pointer (some ⟨g, 0, none⟩), .int .i64 s] w fun e w' => e = .returned (.int .i64 ((ixIs l s).length : Nat)) ∧ Xs W g k l w' := by
  obtain ⟨S, h1, h2⟩ := h.px
  exact (xlen_any s h1 hl).mono fun e w' ⟨he, hb⟩ => ⟨he, h.below hb⟩
theorem Xs.new (W : World) : Calls Try.prog 7 #[] W fun e w' => ∃ g, e = .returned (.pointer (some ⟨g, 0, none⟩)) ∧ Xs W g 0 [] w' :=
  (xnew_any W).mono fun e w' ⟨g, S, he, h1, h2, h3⟩ => ⟨g, he, h3, S, h1, h2⟩
end
set_option maxRecDepth 8000 in
set_option maxHeartbeats 2000000 in
theorem alive_any (W : World) : Calls Try.prog 6 #[] W fun e w' => e = .returned (.bool true) ∧ Below W.heap.size W w' := by
  have i0 : In64 0 := by unfold In64; omega
  have i1 : In64 1 := by unfold In64; omega
  have i3 : In64 3 := by unfold In64; omega
  have i5 : In64 5 := by unfold In64; omega
  have cN := Xs.new W
  have cP : ∀ g w, Xs W g 0 [] w → Calls Try.prog 12 #[.pointer (some ⟨g, 0, none⟩), .agg #[.int .i64 0, .int .i64 5], .int .i64 3] w fun e w' => e = .returned (.bool true) ∧ Xs W g 1 [⟨0, 5, 3⟩] w' := fun g w h => h.put (by omega) i0 i5 i3
  have cG : ∀ g w, Xs W g 1 [⟨0, 5, 3⟩] w → Calls Try.prog 15 #[.pointer (some ⟨g, 0, none⟩), .agg #[.int .i64 0, .int .i64 5]] w fun e w' => e = .returned (.tuple #[.int .i64 3, .bool true]) ∧ Xs W g 1 [⟨0, 5, 3⟩] w' := fun g w h => h.get i0 i5
  have cH : ∀ g w, Xs W g 1 [⟨0, 5, 3⟩] w → Calls Try.prog 15 #[.pointer (some ⟨g, 0, none⟩), .agg #[.int .i64 1, .int .i64 5]] w fun e w' => e = .returned (.tuple #[.int .i64 0, .bool false]) ∧ Xs W g 1 [⟨0, 5, 3⟩] w' := fun g w h => h.get i1 i5
  have cL : ∀ g w, Xs W g 1 [⟨0, 5, 3⟩] w → Calls Try.prog 9 #[.pointer (some ⟨g, 0, none⟩), .int .i64 0] w fun e w' => e = .returned (.int .i64 1) ∧ Xs W g 1 [⟨0, 5, 3⟩] w' := fun g w h => h.len (by simp) 0
  clear i0 i1 i3 i5
  generalize h0 : ([] : List Ixr) = l0 at *
  generalize h1 : [(⟨0, 5, 3⟩ : Ixr)] = l1 at *
  clear h0 h1
  go_enter Try.func6, Try.ntmps6
  go_wp2_with (first
    | (go_at_call 7; refine cN.mono ?_; rintro e w1 ⟨g, rfl, k1⟩; clear cN)
    | (go_at_call 12; (with_reducible refine (cP _ _ k1).mono ?_); rintro e w2 ⟨rfl, k2⟩; clear cP)
    | (go_at_call 15; (with_reducible refine (cG _ _ k2).mono ?_); rintro e w3 ⟨rfl, k3⟩; clear cG)
    | (go_at_call 15; (with_reducible refine (cH _ _ k3).mono ?_); rintro e w4 ⟨rfl, k4⟩; clear cH)
    | (go_at_call 9; (with_reducible refine (cL _ _ k4).mono ?_); rintro e w5 ⟨rfl, k5⟩; clear cL)
    | fail)
  go_ret
  exact ⟨rfl, k5.bel⟩
end Go.Proofs.Ytbfidpngpdaieaa
