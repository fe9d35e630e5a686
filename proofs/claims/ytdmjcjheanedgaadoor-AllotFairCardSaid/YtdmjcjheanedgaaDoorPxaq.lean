/-
  The program's index (a struct of one map, behind a pointer; nil till the first Put): New, Get, Put, Drop.
-/
import Derived.Test.YtdmjcjheanedgaaDoorGO
import Derived.Lib.Hide
import Derived.BigQuiet
import Derived.Deep.QuietTactic
import Derived.Deep.LoopGhost
import Derived.IntWalk
import Derived.WalkKit
import Derived.WalkMore
import Derived.StillTailTactics
import Derived.Maps.OwnOps
import Derived.Laws.IdiomRangeMap
import Derived.WalkSpells
namespace Go.Proofs.YtdmjcjheanedgaaDoor
open Go.RowKit Go.WideMaps Go.WideElems
set_option linter.unusedSimpArgs false
set_option maxRecDepth 20000
/-- The program's index at g: its map's value m is nil (no rows), or a map of its own in block b. -/
structure PxB (w : World) (g : Nat) (S : Nat → Prop) (m : Value) (k : Nat) (l : List Ixr) : Prop where
  hg : Blk w g 107 #[m]
  hm : (m = .map none ∧ l = []) ∨ ∃ b, m = .map (some b) ∧ MpB w b k l ∧ S b ∧ b ≠ g
  sg : S g
  lt : ∀ c, S c → c < w.heap.size
def PX (w : World) (g : Nat) (S : Nat → Prop) (k : Nat) (l : List Ixr) : Prop := ∃ m, PxB w g S m k l
section
variable {w w' W : World} {g b k : Nat} {m : Value} {S T : Nat → Prop} {l l' : List Ixr}
theorem PxB.frm (h : PxB w g S m k l) (hf : Frm T w w') (hT : ∀ c, T c → ¬ S c) : PxB w' g S m k l := by
  have q : ∀ c, S c → w'.heap[c]? = w.heap[c]? := fun c hc => hf.block c (h.lt c hc) (fun ht => hT c ht hc)
  refine ⟨(q _ h.sg).trans h.hg, ?_, h.sg, fun c hc => Nat.lt_of_lt_of_le (h.lt c hc) hf.size⟩
  rcases h.hm with h1 | ⟨b, h1, h2, h3, h4⟩
  · exact .inl h1
  · exact .inr ⟨b, h1, h2.keep (q _ h3), h3, h4⟩
theorem PxB.below (h : PxB w g S m k l) (hb : Below w.heap.size w w') : PxB w' g S m k l := h.frm (Frm.of_below (S := fun _ => False) hb) (fun _ f => f.elim)
theorem PX.frm (h : PX w g S k l) (hf : Frm T w w') (hT : ∀ c, T c → ¬ S c) : PX w' g S k l := by
  obtain ⟨m, h⟩ := h
  exact ⟨m, h.frm hf hT⟩
theorem PX.below (h : PX w g S k l) (hb : Below w.heap.size w w') : PX w' g S k l := h.frm (Frm.of_below (S := fun _ => False) hb) (fun _ f => f.elim)
theorem PX.lt (h : PX w g S k l) : ∀ c, S c → c < w.heap.size := by
  obtain ⟨m, h⟩ := h
  exact h.lt
theorem PX.sg (h : PX w g S k l) : S g := by
  obtain ⟨m, h⟩ := h
  exact h.sg
theorem PxB.u (h : PxB w g S m k l) : Ixu l := by
  rcases h.hm with ⟨-, rfl⟩ | ⟨b, -, h2, -⟩
  · exact Ixu.nil
  · exact h2.u
theorem PX.u (h : PX w g S k l) : Ixu l := by
  obtain ⟨m, h⟩ := h
  exact h.u
theorem PX.mono (h : PX w g S k l) {n : Nat} (hk : k ≤ n) : PX w g S n l := by
  obtain ⟨m, h⟩ := h
  refine ⟨m, h.hg, ?_, h.sg, h.lt⟩
  rcases h.hm with h1 | ⟨b, h1, h2, h3, h4⟩
  · exact .inl h1
  · exact .inr ⟨b, h1, h2.mono hk, h3, h4⟩
theorem PxB.drewN (h : PxB w g S m k l) (n : Nat) : PxB (w.drewN n) g S m k l := h.below ⟨rfl, rfl, rfl, Nat.le_refl _, fun _ _ => rfl⟩
/-- What a look-up says, the map nil or not. -/
theorem PxB.look (h : PxB w g S m k l) {s d : Int} (hs : In64 s) (hd : In64 d) : (Instr.lookup 105 m (vKey s d) true).run Tryd.prog w = .ok (.tuple #[.int .i64 ((ixg l s d).getD 0), .bool (ixg l s d).isSome]) w := by
  rcases h.hm with ⟨rfl, rfl⟩ | ⟨b, rfl, h2, -⟩
  · exact Maps.look_nil true key_law Tryd.underlying105 (int_zero w) (keyOf_mk hs hd)
  · exact h2.look hs hd
/-- Where something is the map is not nil. -/
theorem PxB.ex (h : PxB w g S m k l) {x : Ixr} (hx : x ∈ l) : ∃ b, m = .map (some b) ∧ MpB w b k l ∧ S b ∧ b ≠ g := by
  rcases h.hm with ⟨-, rfl⟩ | h1
  · cases hx
  · exact h1
/-- Its map turned alone. -/
theorem PxB.turn (h : PxB w g S (.map (some b)) k l) (hb : S b) (hn : b ≠ g) {n : Nat} (hm : MpB w' b n l') (hf : Frm (fun c => c = b) w w') : PxB w' g S (.map (some b)) n l' ∧ Frm S w w' :=
  ⟨⟨(hf.block g (h.lt _ h.sg) hn.symm).trans h.hg, .inr ⟨b, rfl, hm, hb, hn⟩, h.sg, fun c hc => Nat.lt_of_lt_of_le (h.lt c hc) hf.size⟩,
    ⟨hf.os, hf.tape, hf.output, hf.size, fun c hc hn => hf.block c hc (fun e => hn (e ▸ hb))⟩⟩
/-- A map is made, in a block of its own. -/
theorem PxB.make (h : PxB w g S m k []) : PxB ((w.alloc (.map #[] 0)).setCell ⟨g, 0, none⟩ (.map (some w.heap.size))) g (fun c => S c ∨ c = w.heap.size) (.map (some w.heap.size)) 0 [] ∧ Frm S w ((w.alloc (.map #[] 0)).setCell ⟨g, 0, none⟩ (.map (some w.heap.size))) := by
  have hf : Frm S w ((w.alloc (.map #[] 0)).setCell ⟨g, 0, none⟩ (.map (some w.heap.size))) := ((Frm.refl _ _).alloc _).setCell _ _ (.inl h.sg)
  have hs : ((w.alloc (.map #[] 0)).setCell ⟨g, 0, none⟩ (.map (some w.heap.size))).heap.size = w.heap.size + 1 := by simp
  have hgl := h.lt _ h.sg
  refine ⟨⟨(h.hg.alloc _).set 0 _, .inr ⟨w.heap.size, rfl, ?_, .inr rfl, by omega⟩, .inl h.sg, fun c hc => ?_⟩, hf⟩
  · exact (MpB.made w).keep (Below.heap_setCell _ _ _ _ (fun e => by simp at e; omega))
  · rw [hs]
    rcases hc with hc | rfl
    · have := h.lt c hc; omega
    · omega
theorem xnew_any (W : World) : Calls Tryd.prog 32 #[] W fun e w' => ∃ g S, e = .returned (.pointer (some ⟨g, 0, none⟩)) ∧ PX w' g S 0 [] ∧ (∀ c, S c → W.heap.size ≤ c) ∧ Below W.heap.size W w' := by
  have hend : ∃ g S, g = W.heap.size ∧ PX (W.alloc (.cells #[.map none] 107)) g S 0 [] ∧ (∀ c, S c → W.heap.size ≤ c) ∧ Below W.heap.size W (W.alloc (.cells #[.map none] 107)) := by
    refine ⟨_, fun c => c = W.heap.size, rfl, ⟨_, Blk.new' rfl, .inl ⟨rfl, rfl⟩, rfl, ?_⟩, ?_, (Below.refl _ W).alloc (Nat.le_refl _) _⟩
    · intro c hc; simp; omega
    · intro c hc; omega
  obtain ⟨g, S, hg, h⟩ := hend
  replace h := Lib.hid h
  go_enter Tryd.func32, Tryd.ntmps32
  go_wp2_with fail
  go_ret
  subst hg; exact ⟨_, S, rfl, h.out⟩
set_option maxRecDepth 8000 in
set_option maxHeartbeats 2000000 in
theorem xget_any (s d : Int) (hs : In64 s) (hd : In64 d) (h : PX W g S k l) :
    Calls Tryd.prog 66 #[.pointer (some ⟨g, 0, none⟩), vKey s d] W fun e w' => e = .returned (.tuple #[.int .i64 ((ixg l s d).getD 0), .bool (ixg l s d).isSome]) ∧ Below W.heap.size W w' := by
  obtain ⟨m, h⟩ := h
  obtain ⟨w1, hw1⟩ : ∃ w1, w1 = W.alloc (.cells #[.int .i64 s, .int .i64 d] 91) := ⟨_, rfl⟩
  have hb1 : Below W.heap.size W w1 := by rw [hw1]; exact (Below.refl _ W).alloc (Nat.le_refl _) _
  have h1 := h.below hb1
  have hk : Blk w1 W.heap.size 91 #[.int .i64 s, .int .i64 d] := by rw [hw1]; exact Blk.new _ _ _
  have k0 : w1.cell? ⟨W.heap.size, 0, none⟩ = some (.int .i64 s) := hk.cell_eq 0 _ rfl
  have k1 : w1.cell? ⟨W.heap.size, 1, none⟩ = some (.int .i64 d) := hk.cell_eq 1 _ rfl
  have c0 : w1.cell? ⟨g, 0, none⟩ = some m := h1.hg.cell_eq 0 _ rfl
  have hlk := fun n => (h1.drewN n).look hs hd
  have hlk0 := h1.look hs hd
  have hbf : ∀ n, Hid (Below W.heap.size W (w1.drewN n)) := fun n => Lib.hid ⟨hb1.os, hb1.tape, hb1.output, hb1.size, hb1.block⟩
  simp only [vKey] at hlk hlk0 ⊢
  go_enter Tryd.func66, Tryd.ntmps66
  go_wp2_with fail
  rw [← hw1]
  clear hw1 hk h h1
  go_quiet (fail)
  go_wp2_with fail
  go_ret2
  exact ⟨rfl, (hbf nq).out⟩
set_option maxRecDepth 8000 in
set_option maxHeartbeats 2000000 in
theorem xputOld_any (s d t : Int) (hs : In64 s) (hd : In64 d) (h : PX W g S k l) (hn : (ixg l s d).isSome = true) :
    Calls Tryd.prog 41 #[.pointer (some ⟨g, 0, none⟩), vKey s d, .int .i64 t] W fun e w' => e = .returned (.bool false) ∧ Below W.heap.size W w' := by
  obtain ⟨m, h⟩ := h
  obtain ⟨w1, hw1⟩ : ∃ w1, w1 = W.alloc (.cells #[.int .i64 s, .int .i64 d] 91) := ⟨_, rfl⟩
  have hb1 : Below W.heap.size W w1 := by rw [hw1]; exact (Below.refl _ W).alloc (Nat.le_refl _) _
  have h1 := h.below hb1
  have hk : Blk w1 W.heap.size 91 #[.int .i64 s, .int .i64 d] := by rw [hw1]; exact Blk.new _ _ _
  have k0 : w1.cell? ⟨W.heap.size, 0, none⟩ = some (.int .i64 s) := hk.cell_eq 0 _ rfl
  have k1 : w1.cell? ⟨W.heap.size, 1, none⟩ = some (.int .i64 d) := hk.cell_eq 1 _ rfl
  have c0 : w1.cell? ⟨g, 0, none⟩ = some m := h1.hg.cell_eq 0 _ rfl
  have hlk := fun n => (h1.drewN n).look hs hd
  have hlk0 := h1.look hs hd
  have hbf : ∀ n, Hid (Below W.heap.size W (w1.drewN n)) := fun n => Lib.hid ⟨hb1.os, hb1.tape, hb1.output, hb1.size, hb1.block⟩
  rw [hn] at hlk0
  simp only [vKey, hn] at hlk hlk0 ⊢
  clear hn
  generalize (ixg l s d).getD 0 = o at *
  go_enter Tryd.func41, Tryd.ntmps41
  go_wp2_with fail
  rw [← hw1]
  clear hw1 hk h h1
  go_quiet (fail)
  go_wp2_with fail
  go_ret
  exact ⟨rfl, (hbf nq).out⟩
set_option maxRecDepth 8000 in
set_option maxHeartbeats 2000000 in
theorem xputNew_any (s d t : Int) (hs : In64 s) (hd : In64 d) (ht : In64 t) (h : PxB W g S (.map (some b)) k l) (hb0 : MpB W b k l) (hSb : S b) (hbg : b ≠ g) (hk : k < 100000) (hn : ixf l s d = none) :
    Calls Tryd.prog 41 #[.pointer (some ⟨g, 0, none⟩), vKey s d, .int .i64 t] W fun e w' => e = .returned (.bool true) ∧ PX w' g S (k + 1) (l ++ [⟨s, d, t⟩]) ∧ Frm S W w' := by
  obtain ⟨w1, hw1⟩ : ∃ w1, w1 = W.alloc (.cells #[.int .i64 s, .int .i64 d] 91) := ⟨_, rfl⟩
  have hb1 : Below W.heap.size W w1 := by rw [hw1]; exact (Below.refl _ W).alloc (Nat.le_refl _) _
  have h1 := h.below hb1
  have hb0' := hb0.below hb1
  have hk' : Blk w1 W.heap.size 91 #[.int .i64 s, .int .i64 d] := by rw [hw1]; exact Blk.new _ _ _
  have k0 : w1.cell? ⟨W.heap.size, 0, none⟩ = some (.int .i64 s) := hk'.cell_eq 0 _ rfl
  have k1 : w1.cell? ⟨W.heap.size, 1, none⟩ = some (.int .i64 d) := hk'.cell_eq 1 _ rfl
  have c0 : w1.cell? ⟨g, 0, none⟩ = some (.map (some b)) := h1.hg.cell_eq 0 _ rfl
  have hlk := fun n => (h1.drewN n).look hs hd
  have hlk0 := h1.look hs hd
  have hst : ∀ w, Below w1.heap.size w1 w → ∃ w', (Instr.mapUpdate 105 (.map (some b)) (.agg #[.int .i64 s, .int .i64 d]) (.int .i64 t)).run Tryd.prog w = .ok () w' ∧ PX w' g S (k + 1) (l ++ [⟨s, d, t⟩]) ∧ Frm S W w' := by
    intro w hw
    obtain ⟨w', e, h3, h4⟩ := (hb0'.keep (hw.block b hb0'.lt)).put hk hs hd ht hn
    obtain ⟨h5, h6⟩ := (h1.below hw).turn hSb hbg h3 h4
    exact ⟨w', e, ⟨_, h5⟩, Frm.trans (Frm.of_below (hb1.trans (hw.mono hb1.size))) h6 (fun c e => .inl e)⟩
  have hbn : ∀ n, Below w1.heap.size w1 (w1.drewN n) := fun n => ⟨rfl, rfl, rfl, Nat.le_refl _, fun _ _ => rfl⟩
  rw [ixg_none.2 hn] at hlk0
  simp only [vKey, ixg_none.2 hn, Option.isSome_none, Option.getD_none] at hlk hlk0 ⊢
  replace hst := Lib.hid hst
  clear hn hk hb0 hb0'
  have qT : ∀ (w : World) (r : Option Nat), (binOp .eql 105 (.map r) (.map none)).run Tryd.prog w = .ok (.bool r.isNone) w := fun w r => run_eql_map_nil w _ _ _ r Tryd.underlying105
  go_enter Tryd.func41, Tryd.ntmps41
  go_wp2_with fail
  rw [← hw1]
  clear hw1 hk' h h1 hb1
  go_quiet (fail)
  have k0' : (w1.drewN nq).cell? ⟨W.heap.size, 0, none⟩ = some (.int .i64 s) := k0
  have k1' : (w1.drewN nq).cell? ⟨W.heap.size, 1, none⟩ = some (.int .i64 d) := k1
  have c0' : (w1.drewN nq).cell? ⟨g, 0, none⟩ = some (.map (some b)) := c0
  have hb2 := hbn nq
  clear k0 k1 c0 hlk hlk0 hbn
  generalize w1.drewN nq = w2 at *
  go_wp2_with fail
  obtain ⟨w3, e3, hfin⟩ := hst.out w2.drew hb2.drew
  replace hfin := Lib.hid hfin
  clear hst hb2
  go_still_tail 6, (by kernel_rfl)
  go_wp2_with fail
  go_ret
  exact ⟨rfl, hfin.out⟩
theorem xputNil_any0 (s d t : Int) (hs : In64 s) (hd : In64 d) (ht : In64 t) (h : PxB W g S (.map none) k []) :
    Calls Tryd.prog 41 #[.pointer (some ⟨g, 0, none⟩), vKey s d, .int .i64 t] W fun e w' => e = .returned (.bool true) ∧ (∃ S', PX w' g S' (k + 1) [⟨s, d, t⟩] ∧ ∀ c, S' c → S c ∨ W.heap.size ≤ c) ∧ Frm S W w' := by
  obtain ⟨w1, hw1⟩ : ∃ w1, w1 = W.alloc (.cells #[.int .i64 s, .int .i64 d] 91) := ⟨_, rfl⟩
  have hb1 : Below W.heap.size W w1 := by rw [hw1]; exact (Below.refl _ W).alloc (Nat.le_refl _) _
  have h1 := h.below hb1
  have hk' : Blk w1 W.heap.size 91 #[.int .i64 s, .int .i64 d] := by rw [hw1]; exact Blk.new _ _ _
  have k0 : w1.cell? ⟨W.heap.size, 0, none⟩ = some (.int .i64 s) := hk'.cell_eq 0 _ rfl
  have k1 : w1.cell? ⟨W.heap.size, 1, none⟩ = some (.int .i64 d) := hk'.cell_eq 1 _ rfl
  have c0 : w1.cell? ⟨g, 0, none⟩ = some (.map none) := h1.hg.cell_eq 0 _ rfl
  have hlk := fun n => (h1.drewN n).look hs hd
  have hlk0 := h1.look hs hd
  have hmk : ∀ w, Below w1.heap.size w1 w → Hid ((w.alloc (.map #[] 0)).frozen? ⟨g, 0, none⟩ = false ∧ (w.alloc (.map #[] 0)).cell? ⟨g, 0, none⟩ = some (.map none)) ∧ ∀ v, v = (w.alloc (.map #[] 0)).setCell ⟨g, 0, none⟩ (.map (some w.heap.size)) → v.cell? ⟨g, 0, none⟩ = some (.map (some w.heap.size)) ∧ v.cell? ⟨W.heap.size, 0, none⟩ = some (.int .i64 s) ∧ v.cell? ⟨W.heap.size, 1, none⟩ = some (.int .i64 d) ∧
      ∃ w', (Instr.mapUpdate 105 (.map (some w.heap.size)) (.agg #[.int .i64 s, .int .i64 d]) (.int .i64 t)).run Tryd.prog v.drew = .ok () w' ∧ (∃ S', PX w' g S' (k + 1) [⟨s, d, t⟩] ∧ ∀ c, S' c → S c ∨ W.heap.size ≤ c) ∧ Frm S W w' := by
    intro w hw
    have hA := h1.below hw
    refine ⟨Lib.hid ⟨(hA.hg.alloc _).free 0, (hA.hg.alloc _).cell_eq 0 _ rfl⟩, ?_⟩
    rintro v rfl
    obtain ⟨h2, h3⟩ := hA.make
    have h4 : Below W.heap.size W w := hb1.trans (hw.mono hb1.size)
    have hne : W.heap.size ≠ g := by have := h.lt _ h.sg; omega
    have kk := ((hk'.below hw hk'.lt).alloc (.map #[] 0)).other (a := ⟨g, 0, none⟩) hne.symm (.map (some w.heap.size))
    refine ⟨h2.hg.cell_eq 0 _ rfl, kk.cell_eq 0 _ rfl, kk.cell_eq 1 _ rfl, ?_⟩
    generalize (w.alloc (.map #[] 0)).setCell ⟨g, 0, none⟩ (.map (some w.heap.size)) = v at *
    have h2' := h2.drewN 1
    rcases h2'.hm with ⟨e, -⟩ | ⟨b', e, hm, hSb, hbg⟩
    · cases e
    · cases e
      obtain ⟨w', e, h5, h6⟩ := hm.put (by omega) hs hd ht (by rfl)
      obtain ⟨h7, h8⟩ := h2'.turn hSb hbg h5 h6
      refine ⟨w', e, ⟨_, PX.mono ⟨_, h7⟩ (by omega), ?_⟩, ?_⟩
      · rintro c (hc | rfl)
        · exact .inl hc
        · exact .inr h4.size
      · have h3' : Frm S w (v.drewN 1) := ⟨h3.os, h3.tape, h3.output, h3.size, h3.block⟩
        refine Frm.trans (Frm.of_below h4) (Frm.trans h3' h8 (fun c hc => ?_)) (fun c e => ?_)
        · rcases hc with hc | rfl
          · exact .inl hc
          · exact .inr (Nat.le_refl _)
        · exact .inl e
  have hbn : ∀ n, Below w1.heap.size w1 (w1.drewN n) := fun n => ⟨rfl, rfl, rfl, Nat.le_refl _, fun _ _ => rfl⟩
  have hn : ixg [] s d = none := rfl
  rw [hn] at hlk0
  simp only [vKey, hn, Option.isSome_none, Option.getD_none] at hlk hlk0 ⊢
  replace hmk := Lib.hid hmk
  clear hn
  have qT : ∀ (w : World) (r : Option Nat), (binOp .eql 105 (.map r) (.map none)).run Tryd.prog w = .ok (.bool r.isNone) w := fun w r => run_eql_map_nil w _ _ _ r Tryd.underlying105
  have hmm := @run_makeMap Tryd.prog
  go_enter Tryd.func41, Tryd.ntmps41
  go_wp2_with fail
  rw [← hw1]
  clear hw1 hk' h h1 hb1
  go_quiet (fail)
  have k0' : (w1.drewN nq).cell? ⟨W.heap.size, 0, none⟩ = some (.int .i64 s) := k0
  have k1' : (w1.drewN nq).cell? ⟨W.heap.size, 1, none⟩ = some (.int .i64 d) := k1
  have c0' : (w1.drewN nq).cell? ⟨g, 0, none⟩ = some (.map none) := c0
  have hb2 := hbn nq
  clear k0 k1 c0 hlk hlk0 hbn
  generalize w1.drewN nq = w2 at *
  obtain ⟨hfz, hmk2⟩ := hmk.out w2 hb2
  obtain ⟨hfz, hcz⟩ := hfz.out
  replace hmk2 := Lib.hid hmk2
  clear hmk hb2
  go_wp2_with fail
  obtain ⟨v, hv⟩ : ∃ v, v = (w2.alloc (.map #[] 0)).setCell ⟨g, 0, none⟩ (.map (some w2.heap.size)) := ⟨_, rfl⟩
  rw [← hv]
  obtain ⟨c0, k0, k1, w3, e3, hfin⟩ := hmk2.out v hv
  replace hfin := Lib.hid hfin
  clear hmk2 hv k0' k1' c0' hfz hcz
  go_still_tail 6, (by kernel_rfl)
  go_wp2_with fail
  go_ret
  exact ⟨rfl, hfin.out⟩
theorem xput_any (s d t : Int) (hs : In64 s) (hd : In64 d) (ht : In64 t) (h : PX W g S k l) (hk : k < 100000) :
    Calls Tryd.prog 41 #[.pointer (some ⟨g, 0, none⟩), vKey s d, .int .i64 t] W fun e w' => e = .returned (.bool (ixg l s d).isNone) ∧ (∃ S', PX w' g S' (k + 1) (ixPut l s d t) ∧ ∀ c, S' c → S c ∨ W.heap.size ≤ c) ∧ Frm S W w' := by
  unfold ixPut
  cases hf : ixf l s d with
  | none =>
    rw [ixg_none.2 hf]
    obtain ⟨m, h⟩ := h
    rcases h.hm with ⟨rfl, rfl⟩ | ⟨b, rfl, h2, h3, h4⟩
    · exact xputNil_any0 s d t hs hd ht h
    · exact (xputNew_any s d t hs hd ht h h2 h3 h4 hk hf).mono fun e w' ⟨h5, h6, h7⟩ => ⟨h5, ⟨S, h6, fun c hc => .inl hc⟩, h7⟩
  | some i =>
    obtain ⟨t', ht', -⟩ := ixf_some hf
    have e := ixg_some.2 ⟨i, hf, ht'⟩
    rw [e]
    exact (xputOld_any s d t hs hd h (by rw [e]; rfl)).mono fun e w' ⟨h1, h2⟩ => ⟨h1, ⟨S, (h.below h2).mono (Nat.le_succ _), fun c hc => .inl hc⟩, Frm.of_below h2⟩
theorem xdrop_box (h : PX W g S k l) (s d : Int) : ∃ m w1, w1 = W.alloc (.cells #[.int .i64 s, .int .i64 d] 91) ∧ PxB w1 g S m k l ∧ Below W.heap.size W w1 ∧ (∀ w, Below w1.heap.size w1 w → w.cell? ⟨W.heap.size, 0, none⟩ = some (.int .i64 s) ∧ w.cell? ⟨W.heap.size, 1, none⟩ = some (.int .i64 d) ∧ w.cell? ⟨g, 0, none⟩ = some m) := by
  obtain ⟨m, h⟩ := h
  have hb1 : Below W.heap.size W (W.alloc (.cells #[.int .i64 s, .int .i64 d] 91)) := (Below.refl _ W).alloc (Nat.le_refl _) _
  refine ⟨m, _, rfl, h.below hb1, hb1, fun w hw => ?_⟩
  have hk := Blk.new W 91 #[.int .i64 s, .int .i64 d]
  have hk := hk.below hw hk.lt
  exact ⟨hk.cell_eq 0 _ rfl, hk.cell_eq 1 _ rfl, ((h.below hb1).below hw).hg.cell_eq 0 _ rfl⟩
set_option maxRecDepth 8000 in
set_option maxHeartbeats 2000000 in
theorem xdropNo_any (s d : Int) (hs : In64 s) (hd : In64 d) (h : PX W g S k l) (hn : ixg l s d = none) :
    Calls Tryd.prog 70 #[.pointer (some ⟨g, 0, none⟩), vKey s d] W fun e w' => e = .returned (.bool false) ∧ Below W.heap.size W w' := by
  obtain ⟨m, w1, hw1, h1, hb1, hx⟩ := xdrop_box h s d
  obtain ⟨k0, k1, c0⟩ := hx _ (Below.refl _ _)
  have cG := xget_any s d hs hd ⟨m, h1⟩
  rw [hn] at cG
  simp only [vKey, Option.isSome_none, Option.getD_none] at cG ⊢
  have hfin : ∀ w, Below w1.heap.size w1 w → Hid (Below W.heap.size W w) := fun w hw => Lib.hid (hb1.trans (hw.mono hb1.size))
  clear hn h h1 hb1 hx
  go_enter Tryd.func70, Tryd.ntmps70
  go_wp2_with (first
    | (rw [← hw1]; clear hw1)
    | (go_at_call 66; refine cG.mono ?_; rintro e w2 ⟨rfl, hb2⟩; replace hfin := hfin _ hb2; clear cG hb2)
    | fail)
  go_ret
  exact ⟨rfl, hfin.out⟩
set_option maxRecDepth 8000 in
set_option maxHeartbeats 2000000 in
theorem xdropYes_any (s d t : Int) (hs : In64 s) (hd : In64 d) (h : PX W g S k l) {i : Nat} (hn : ixf l s d = some i) (hgt : ixg l s d = some t) :
    Calls Tryd.prog 70 #[.pointer (some ⟨g, 0, none⟩), vKey s d] W fun e w' => e = .returned (.bool true) ∧ PX w' g S k (l.eraseIdx i) ∧ Frm S W w' := by
  obtain ⟨m, w1, hw1, h1, hb1, hx⟩ := xdrop_box h s d
  obtain ⟨k0, k1, c0⟩ := hx _ (Below.refl _ _)
  have cG := xget_any s d hs hd ⟨m, h1⟩
  rw [hgt] at cG
  simp only [vKey, Option.isSome_some, Option.getD_some] at cG ⊢
  have hmem : (⟨s, d, t⟩ : Ixr) ∈ l := (ixg_key h1.u).1 hgt
  obtain ⟨b, rfl, -, hSb, hbg⟩ := h1.ex hmem
  have hst : ∀ w, Below w1.heap.size w1 w → ∃ w', (∀ ty, (Builtin.delete_ #[105, 91] ty #[.map (some b), .agg #[.int .i64 s, .int .i64 d]]).run Tryd.prog w = .ok (.tuple #[]) w') ∧ PX w' g S k (l.eraseIdx i) ∧ Frm S W w' := by
    intro w hw
    have h2 := h1.below hw
    obtain ⟨b', e, hm, -⟩ := h2.ex hmem
    cases e
    obtain ⟨w', e, h3, h4⟩ := hm.drop hs hd hn
    obtain ⟨h5, h6⟩ := h2.turn hSb hbg h3 h4
    exact ⟨w', e, ⟨_, h5⟩, Frm.trans (Frm.of_below (hb1.trans (hw.mono hb1.size))) h6 (fun c e => .inl e)⟩
  replace hst := Lib.hid hst
  replace hx := Lib.hid hx
  clear hn hgt h h1 hb1 hmem hSb hbg
  go_enter Tryd.func70, Tryd.ntmps70
  go_wp2_with (first
    | (rw [← hw1]; clear hw1)
    | (go_at_call 66; refine cG.mono ?_; rintro e w2 ⟨rfl, hb2⟩; clear cG k0 k1 c0)
    | fail)
  obtain ⟨k0, k1, c0⟩ := hx.out _ hb2
  obtain ⟨w3, e3, hfin⟩ := hst.out w2.drew hb2.drew
  replace hfin := Lib.hid hfin
  clear hst hb2 hx
  go_still_tail 5, (by kernel_rfl)
  go_wp2_with fail
  go_ret
  exact ⟨rfl, hfin.out⟩
theorem xdrop_any (s d : Int) (hs : In64 s) (hd : In64 d) (h : PX W g S k l) :
    Calls Tryd.prog 70 #[.pointer (some ⟨g, 0, none⟩), vKey s d] W fun e w' => e = .returned (.bool (ixg l s d).isSome) ∧ PX w' g S k (ixDrop l s d) ∧ Frm S W w' := by
  unfold ixDrop
  cases hf : ixf l s d with
  | none =>
    rw [ixg_none.2 hf]
    exact (xdropNo_any s d hs hd h (ixg_none.2 hf)).mono fun e w' ⟨h1, h2⟩ => ⟨h1, h.below h2, Frm.of_below h2⟩
  | some i =>
    obtain ⟨t', ht', -⟩ := ixf_some hf
    have e := ixg_some.2 ⟨i, hf, ht'⟩
    rw [e]
    exact xdropYes_any s d t' hs hd h hf e
end
end Go.Proofs.YtdmjcjheanedgaaDoor
