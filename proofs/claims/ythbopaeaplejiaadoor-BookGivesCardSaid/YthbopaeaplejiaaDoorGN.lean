/-
  The contract of the program's Worth.
  The program's levels, whole: what it is asked, and what becomes of it, in plain lists.
  What a nil ladder answers to what only asks.
-/
import Derived.Test.YthbopaeaplejiaaDoorLeaq
import Derived.Test.YthbopaeaplejiaaDoorGM
import Derived.Test.YthbopaeaplejiaaDoorGB
import Derived.Test.YthbopaeaplejiaaDoorGK
import Derived.RangeFuncCalls
import Derived.Shelf.RegionOpen
import Derived.Test.YthbopaeaplejiaaDoorGL
namespace Go.Proofs.YthbopaeaplejiaaDoor
open Go.RowKit
set_option linter.unusedSimpArgs false
attribute [local go_sem] Oper.semAt_some
attribute [local go_sem] wide_fn
section
variable {W : World} {g : Nat} {S T : Nat → Prop} {ko : Option Nat} {ao : Option Addr} {cap : Nat} {buy : Bool} {P : List Lvl} {F : List Nat}
set_option maxRecDepth 100000 in
set_option maxHeartbeats 4000000 in
theorem pworth_any (lim : Int) (h : PmB W g S ko ao cap buy P F) (hS : Std buy P) (hq : ∀ x ∈ P, 0 ≤ x.qty ∧ x.qty < 9223372036854775808) :
    Calls Tryd.prog 51 #[.pointer (some ⟨g, 0, none⟩), .int .i64 lim] W fun e w' => e = .returned (.int .i64 (min (wsum (fun x => !btr buy lim x.price) P) 4611686018427387904)) ∧ Below W.heap.size W w' := by
  obtain ⟨f, hf⟩ : ∃ f : Lvl → Bool, f = fun x => !btr buy lim x.price := ⟨_, rfl⟩
  obtain ⟨V, hV⟩ : ∃ V, V = min (wsum f P) 4611686018427387904 := ⟨_, rfl⟩
  have hst : ∀ (n : Nat) x, P[n]? = some x → btr buy lim x.price = false → wsum f (P.take (n + 1)) = wsum f (P.take n) + x.qty := fun n x hx hb => by
    rw [wsum_step (f := f) hx, if_pos (by rw [hf]; simp [hb])]
  have hstop : ∀ (n : Nat) x, P[n]? = some x → btr buy lim x.price = true → wsum f (P.take n) ≤ 4611686018427387904 → wsum f (P.take n) = V := fun n x hx hb hl => by
    have := wsum_stop hS hx hb
    rw [← hf] at this
    rw [hV, ← this]
    omega
  have hover : ∀ (n : Nat) x, P[n]? = some x → btr buy lim x.price = false → 4611686018427387904 ≤ wsum f (P.take n) + x.qty → V = 4611686018427387904 := fun n x hx hb hl => by
    rw [hV]
    exact worth_over (fun y hy => (hq y hy).1) hx (by rw [hf]; simp [hb]) hl
  have hall : wsum f (P.take P.length) ≤ 4611686018427387904 → wsum f (P.take P.length) = V := fun hl => by
    rw [List.take_length] at hl ⊢
    rw [hV]
    omega
  have hpos : ∀ n, 0 ≤ wsum f (P.take n) := fun n => wsum_pos fun x hx => (hq x (List.mem_of_mem_take hx)).1
  rw [← hf, ← hV]
  have hz : wsum f (P.take 0) = 0 := rfl
  clear hf hV
  generalize wsum f = ws at *
  clear f
  have hgl := h.lt g h.sg
  have hSl := h.lt
  obtain ⟨W3, hW3⟩ : ∃ W3, W3 = ((W.alloc (.cells #[.pointer (some ⟨g, 0, none⟩)] 64)).alloc (.cells #[.int .i64 lim] 2)).alloc (.cells #[.int .i64 0] 2) := ⟨_, rfl⟩
  have hb3 : Below W.heap.size W W3 := by rw [hW3]; exact (((Below.refl _ _).alloc (Nat.le_refl _) _).alloc (by simp) _).alloc (by simp; omega) _
  have hs3 : W3.heap.size = W.heap.size + 3 := by rw [hW3]; simp
  have k0 : Blk W3 W.heap.size 64 #[.pointer (some ⟨g, 0, none⟩)] := by rw [hW3]; exact ((Blk.new _ _ _).alloc _).alloc _
  have k1 : Blk W3 (W.heap.size + 1) 2 #[.int .i64 lim] := by rw [hW3]; exact (Blk.new' (by simp)).alloc _
  have k2 : Blk W3 (W.heap.size + 2) 2 #[.int .i64 0] := by rw [hW3]; exact Blk.new' (by simp)
  have hP3 := h.below hb3
  have cE := peach_any (some ⟨g, 0, none⟩) W3
  clear h
  refine (callsIn_wide (n := 6)).1 ?_
  refine callsIn_of_wp_marks Tryd.func51 rfl trivial ?_ rfl
  simp only [Tryd.ntmps51, List.size_toArray, List.length_cons, List.length_nil, Nat.reduceAdd, Nat.reduceSub, Array.replicate_succ, Array.replicate_zero, List.push_toArray, List.append_toArray, List.nil_append, List.cons_append]
  refine wpIn_wide.2 ?_
  go_wp2_with fail
  go_step3
  go_wp2_with fail
  go_step3
  go_wp2_with (go_at_call 60; rw [← hW3]; refine cE.mono ?_; rintro e w8 ⟨rfl, hb8, T1, hB1⟩; clear cE hW3)
  refine (wpIn_wide (n := 6)).1 ?_
  have hs8 := hB1.lt
  have k08 := k0.below hb8 (by omega)
  have k18 := k1.below hb8 (by omega)
  have k28 := k2.below hb8 (by omega)
  have hP8 := hP3.below hb8
  have hb08 : Below W.heap.size W w8 := hb3.trans (hb8.mono (by omega))
  rw [hs3] at hB1 hs8
  try rw [hs3]
  clear k0 k1 k2 hP3 hb3 hb8
  have hseq := peach_seqs Fence.wide rfl (6 - 1) (by omega) (W.heap.size + 3) T1 w8 (fun q => q = W.heap.size + 2) hB1 hP8 hS (by omega) (fun b e h => by have := hSl b h; omega) (fun b e => by omega)
  refine range_law5 (F := Fence.wide) rfl (by omega) (gf := 81) (lb := #[.pointer (some ⟨W.heap.size + 3, 0, none⟩)]) rfl trivial (goes_of Tryd.func81 (by kernel_rfl) rfl) (enc := encL) (fun _ => rfl) (fun q => q = W.heap.size + 2) (fun b e => by omega) (G := goodL P) (goodL_put P) hseq
    (fun pre A => Blk A (W.heap.size + 2) 2 #[.int .i64 (ws (P.take pre.length))] ∧ Frm (fun b => b = W.heap.size + 2 ∨ w8.heap.size ≤ b) w8 A ∧ ws (P.take pre.length) ≤ 4611686018427387904)
    (fun c pre A => c = .exit 0 ∧ Blk A (W.heap.size + 2) 2 #[.int .i64 V] ∧ Frm (fun b => b = W.heap.size + 2 ∨ w8.heap.size ≤ b) w8 A)
    (fun pre A B ⟨h1, h3, h4⟩ hf => ⟨blk_frm h1 hf (by omega), h3.trans hf (fun b h => .inl (.inr (by omega))), h4⟩)
    (fun c pre A B ⟨h0, h1, h3⟩ hf => ⟨h0, blk_frm h1 hf (by omega), h3.trans hf (fun b h => .inl (.inr (by omega)))⟩)
    ⟨by rw [show ([] : List Lvl).length = 0 from rfl, hz]; exact k28, Frm.refl _ _, by rw [show ([] : List Lvl).length = 0 from rfl, hz]; omega⟩
    ?a1 (fun x A => A.alloc (.cells (cLvl x) 92)) (fun x A => (Below.refl _ _).alloc (Nat.le_refl _) _) (fun _ _ _ h => h) ?assign ?body ?done ?stop
  case assign =>
    intro l x V K hK
    simp only [encL]
    gi_wp2
    exact hK
  case body =>
    rintro lb pre x A0 A ⟨h1, h3, h4⟩ hgood hlen hl0 hfA
    have hx : P[pre.length]? = some x := hgood
    obtain ⟨z0, z1, z2, z3⟩ := Lvl.cells (blk_frm (Blk.new A0 92 (cLvl x)) hfA (by omega))
    have hPA := hP8.frm h3 (fun b hb hs => by have := hSl b hs; omega)
    have k0A := blk_frm k08 h3 (by omega)
    have k1A := blk_frm k18 h3 (by omega)
    have hlp : (pre ++ [x]).length = pre.length + 1 := by simp
    have hAl := h3.size
    have hwA : W.heap.size + 3 < A.heap.size := by omega
    have hzl : A0.heap.size < A.heap.size := by have := hfA.size; simp at this; omega
    have hbl := lim
    have c2 : A.cell? ⟨W.heap.size, 0, none⟩ = some (.pointer (some ⟨g, 0, none⟩)) := k0A.cell_eq 0 _ rfl
    have c3 : A.cell? ⟨W.heap.size + 1, 0, none⟩ = some (.int .i64 lim) := k1A.cell_eq 0 _ rfl
    have c5 : A.cell? ⟨W.heap.size + 1 + 1, 0, none⟩ = some (.int .i64 (ws (P.take pre.length))) := h1.cell_eq 0 _ rfl
    have hfac : ∀ w1, Below A.heap.size A w1 → w1.cell? ⟨W.heap.size, 0, none⟩ = some (.pointer (some ⟨g, 0, none⟩)) ∧ w1.cell? ⟨W.heap.size + 1, 0, none⟩ = some (.int .i64 lim) ∧ w1.cell? ⟨A0.heap.size, 0, none⟩ = some (.int .i64 x.price) ∧ (w1.cell? ⟨W.heap.size + 1 + 1, 0, none⟩ = some (.int .i64 (ws (P.take pre.length))) ∧ w1.frozen? ⟨W.heap.size + 1 + 1, 0, none⟩ = false) ∧ Calls Tryd.prog 78 #[.pointer (some ⟨g, 0, none⟩), .int .i64 lim, .int .i64 x.price] w1 fun e w' => e = .returned (.bool (btr buy lim x.price)) ∧ w' = w1 := by
      intro w1 hb
      exact ⟨((bcell hb).1 _ _ (by omega)).trans c2, ((bcell hb).1 _ _ (by omega)).trans c3, ((bcell hb).1 _ _ hzl).trans z0, ⟨((bcell hb).1 _ _ (by omega)).trans c5, ((bcell hb).2 _ _ (by omega)).trans (h1.free 0)⟩, pbetter_any lim x.price (hPA.below hb)⟩
    have hst1 := hst _ _ hx
    have hsp1 := hstop _ _ hx
    have hov1 := hover _ _ hx
    have hxq := hq x (List.mem_of_getElem? hx)
    have hp1 := hpos pre.length
    have hN : ∀ w1, Below A.heap.size A w1 → btr buy lim x.price = false → ws (P.take pre.length) + x.qty ≤ 4611686018427387904 → Frm (fun q => q = W.heap.size + 2) A (w1.setCell ⟨W.heap.size + 1 + 1, 0, none⟩ (.int .i64 (ws (P.take pre.length) + x.qty))) ∧ Blk (w1.setCell ⟨W.heap.size + 1 + 1, 0, none⟩ (.int .i64 (ws (P.take pre.length) + x.qty))) (W.heap.size + 2) 2 #[.int .i64 (ws (P.take (pre ++ [x]).length))] ∧ Frm (fun b => b = W.heap.size + 2 ∨ w8.heap.size ≤ b) w8 (w1.setCell ⟨W.heap.size + 1 + 1, 0, none⟩ (.int .i64 (ws (P.take pre.length) + x.qty))) ∧ ws (P.take (pre ++ [x]).length) ≤ 4611686018427387904 := by
      intro w1 hb hbt hle
      rw [hlp, hst1 hbt]
      have hf : Frm (fun q => q = W.heap.size + 2) A (w1.setCell ⟨W.heap.size + 1 + 1, 0, none⟩ (.int .i64 (ws (P.take pre.length) + x.qty))) := (Frm.of_below hb).setCell _ _ (.inl rfl)
      exact ⟨hf, (h1.below hb h1.lt).set 0 _, h3.trans hf (fun b e => .inl (.inl e)), hle⟩
    have hX : ∀ w1, Below A.heap.size A w1 → btr buy lim x.price = true → Frm (fun q => q = W.heap.size + 2) A w1 ∧ Blk w1 (W.heap.size + 2) 2 #[.int .i64 V] ∧ Frm (fun b => b = W.heap.size + 2 ∨ w8.heap.size ≤ b) w8 w1 := by
      intro w1 hb hbt
      have hf : Frm (fun q => q = W.heap.size + 2) A w1 := Frm.of_below hb
      rw [← hsp1 hbt h4]
      exact ⟨hf, h1.below hb h1.lt, h3.trans hf (fun b e => .inl (.inl e))⟩
    have hY : ∀ w1, Below A.heap.size A w1 → btr buy lim x.price = false → 4611686018427387904 ≤ ws (P.take pre.length) + x.qty → Frm (fun q => q = W.heap.size + 2) A (w1.setCell ⟨W.heap.size + 1 + 1, 0, none⟩ (.int .i64 4611686018427387904)) ∧ Blk (w1.setCell ⟨W.heap.size + 1 + 1, 0, none⟩ (.int .i64 4611686018427387904)) (W.heap.size + 2) 2 #[.int .i64 V] ∧ Frm (fun b => b = W.heap.size + 2 ∨ w8.heap.size ≤ b) w8 (w1.setCell ⟨W.heap.size + 1 + 1, 0, none⟩ (.int .i64 4611686018427387904)) := by
      intro w1 hb hbt hle
      have hf : Frm (fun q => q = W.heap.size + 2) A (w1.setCell ⟨W.heap.size + 1 + 1, 0, none⟩ (.int .i64 4611686018427387904)) := (Frm.of_below hb).setCell _ _ (.inl rfl)
      rw [hov1 hbt hle]
      exact ⟨hf, (h1.below hb h1.lt).set 0 _, h3.trans hf (fun b e => .inl (.inl e))⟩
    have cA := fadd_any (ws (P.take pre.length)) x.qty ⟨by omega, by omega⟩ ⟨by omega, by omega⟩ A
    replace hN := Lib.hid hN
    replace hX := Lib.hid hX
    replace hY := Lib.hid hY
    replace hfac := Lib.hid hfac
    clear hst hstop hover hall hpos hz hst1 hsp1 hov1 hseq hPA k0A k1A k08 k18 k28 hP8 hb08 hB1 hgood hx h1 h3 z2 z3 hlen hfA hs3 hbl
    generalize hwn : ws (P.take pre.length) = wn at *
    clear hwn
    obtain ⟨x0, x1, x2, x3⟩ := x
    simp only at *
    generalize btr buy lim x0 = B at *
    cases B with
    | true =>
      obtain ⟨v1, ok1, hfit, -⟩ := fit_is (wn + x1)
      rw [hfit] at cA
      clear hfit
      gi_wp2_with (first
        | (gi_at_call 67; refine (CallsIn.inRound lb (callsIn_wide.2 cA)).mono ?_; rintro e w1 ⟨rfl, hb1⟩; clear cA c2 c3 c5 z0 z1; obtain ⟨c2, c3, z0, ⟨c5, f5⟩, cB⟩ := hfac.out _ hb1)
        | (gi_at_call 78; refine (CallsIn.inRound lb (callsIn_wide.2 cB)).mono ?_; rintro e w2 ⟨rfl, hw2⟩; subst w2; clear cB))
      obtain ⟨r1, r2, r3⟩ := hX.out _ hb1 (by simp)
      exact ⟨r1, rfl, r2, r3⟩
    | false =>
      by_cases hs : In64 (wn + x1)
      · rw [fit_yes hs] at cA
        by_cases hm : wn + x1 ≤ 4611686018427387904
        · have hd : decide (4611686018427387904 < wn + x1) = false := decide_eq_false (by omega)
          clear hs
          gi_wp2_with (first
            | (gi_at_call 67; refine (CallsIn.inRound lb (callsIn_wide.2 cA)).mono ?_; rintro e w1 ⟨rfl, hb1⟩; clear cA c2 c3 c5 z0 z1; obtain ⟨c2, c3, z0, ⟨c5, f5⟩, cB⟩ := hfac.out _ hb1)
            | (gi_at_call 78; refine (CallsIn.inRound lb (callsIn_wide.2 cB)).mono ?_; rintro e w2 ⟨rfl, hw2⟩; subst w2; clear cB))
          exact hN.out _ hb1 (by simp) hm
        · have hd : decide (4611686018427387904 < wn + x1) = true := decide_eq_true (by omega)
          clear hs
          gi_wp2_with (first
            | (gi_at_call 67; refine (CallsIn.inRound lb (callsIn_wide.2 cA)).mono ?_; rintro e w1 ⟨rfl, hb1⟩; clear cA c2 c3 c5 z0 z1; obtain ⟨c2, c3, z0, ⟨c5, f5⟩, cB⟩ := hfac.out _ hb1)
            | (gi_at_call 78; refine (CallsIn.inRound lb (callsIn_wide.2 cB)).mono ?_; rintro e w2 ⟨rfl, hw2⟩; subst w2; clear cB))
          obtain ⟨r1, r2, r3⟩ := hY.out _ hb1 (by simp) (by omega)
          exact ⟨r1, rfl, r2, r3⟩
      · rw [fit_no hs] at cA
        have hm : 4611686018427387904 ≤ wn + x1 := by unfold In64 at hs; omega
        clear hs
        gi_wp2_with (first
          | (gi_at_call 67; refine (CallsIn.inRound lb (callsIn_wide.2 cA)).mono ?_; rintro e w1 ⟨rfl, hb1⟩; clear cA c2 c3 c5 z0 z1; obtain ⟨c2, c3, z0, ⟨c5, f5⟩, cB⟩ := hfac.out _ hb1)
          | (gi_at_call 78; refine (CallsIn.inRound lb (callsIn_wide.2 cB)).mono ?_; rintro e w2 ⟨rfl, hw2⟩; subst w2; clear cB))
        obtain ⟨r1, r2, r3⟩ := hY.out _ hb1 (by simp) hm
        exact ⟨r1, rfl, r2, r3⟩
  case done =>
    rintro D ys U hD hys ⟨h1, h3, h4⟩ hK
    rw [hys] at h1 h4
    rw [hall h4] at h1
    have c5 : U.cell? ⟨W.heap.size + 1 + 1, 0, none⟩ = some (.int .i64 V) := h1.cell_eq 0 _ rfl
    have hbU : Below W.heap.size W U := hb08.trans (h3.below hb08.size (fun b h => by have := hb08.size; omega))
    have hfin : Below W.heap.size W (U.putObj D (.deferred none)) := hbU.trans ((Frm.put (S := fun b => b = D) U D (.deferred none) rfl).below hbU.size (fun b h => by have := hb08.size; omega))
    clear hst hstop hover hall hpos hz hseq k08 k18 k28 hP8 hb08 hB1 h1 h3 h4 hys hs3
    go_wp2_with fail
    rw [Exit.noGoto_ret]
    refine ⟨by simp, .inl ⟨_, _, rfl, run_takeDeferred hK, ?_⟩⟩
    refine ⟨.int .i64 V, ?_, rfl, hfin⟩
    simp [results, Tryd.results51, go_sem]
  case stop =>
    rintro D c' pre U hD hsp ⟨rfl, h1, h3⟩ hK
    have c5 : U.cell? ⟨W.heap.size + 1 + 1, 0, none⟩ = some (.int .i64 V) := h1.cell_eq 0 _ rfl
    have hbU : Below W.heap.size W U := hb08.trans (h3.below hb08.size (fun b h => by have := hb08.size; omega))
    have hfin : Below W.heap.size W (U.putObj D (.deferred none)) := hbU.trans ((Frm.put (S := fun b => b = D) U D (.deferred none) rfl).below hbU.size (fun b h => by have := hb08.size; omega))
    clear hst hstop hover hall hpos hz hseq k08 k18 k28 hP8 hb08 hB1 h1 h3 hsp hs3
    refine wpIn_wide.2 ?_
    go_wp2_with fail
    rw [Exit.noGoto_ret]
    refine ⟨by simp, .inl ⟨_, _, rfl, run_takeDeferred hK, ?_⟩⟩
    refine ⟨.int .i64 V, ?_, rfl, hfin⟩
    simp [results, Tryd.results51, go_sem]
end
end Go.Proofs.YthbopaeaplejiaaDoor
namespace Go.Proofs.YthbopaeaplejiaaDoor
open Go.RowKit
/-- The program's ladder, which has these levels. -/
structure PlB (w : World) (g : Nat) (S : Nat → Prop) (s : Ld) (ko : Option Nat) (ao : Option Addr) (cap : Nat) (P : List Lvl) (F : List Nat) : Prop where
  mem : PmB w g S ko ao cap s.buy P F
  ord : Sord s.buy s.L P
  bits : Bits F (frb s.most s.L)
  most : s.most ≤ 200
def PL (w : World) (g : Nat) (S : Nat → Prop) (s : Ld) : Prop := ∃ ko ao cap P F, PlB w g S s ko ao cap P F
section
variable {w w' W : World} {g : Nat} {S T : Nat → Prop} {s : Ld}
theorem PL.frm (h : PL w g S s) (hf : Frm T w w') (hT : ∀ b, T b → ¬ S b) : PL w' g S s := by
  obtain ⟨ko, ao, cap, P, F, h⟩ := h
  exact ⟨ko, ao, cap, P, F, ⟨h.mem.frm hf hT, h.ord, h.bits, h.most⟩⟩
theorem PL.below (h : PL w g S s) (hb : Below w.heap.size w w') : PL w' g S s := h.frm (Frm.of_below (S := fun _ => False) hb) (fun _ f => f.elim)
theorem PL.lt (h : PL w g S s) : ∀ b, S b → b < w.heap.size := by
  obtain ⟨ko, ao, cap, P, F, h⟩ := h
  exact h.mem.lt
theorem ath_find {P : List Lvl} (h : Sord s.buy s.L P) (p : Int) : ath s.buy P p = (s.find p).isSome := by
  unfold ath
  cases hf : s.find p with
  | some i =>
    obtain ⟨x, -, rfl, hk⟩ := h.found hf
    rw [hk]
    simp
  | none =>
    cases hx : P[plc s.buy P p]? with
    | none => rfl
    | some x => simpa using h.unfound hf x hx
theorem pfull_any (h : PL W g S s) {k : Nat} (hw : s.Wf k) : ∃ (q : Int), ∀ V, PL V g S s → Calls Tryd.prog 79 #[.pointer (some ⟨g, 0, none⟩)] V fun e w' => e = .returned (.tuple #[.int .i64 q, .bool (decide (s.L.length < s.most))]) ∧ w' = V := by
  by_cases hr : s.L.length < s.most
  · obtain ⟨h1, h2, h3⟩ := frb_room hr
    refine ⟨(freeQ s.L : Nat), fun V hV => ?_⟩
    obtain ⟨ko, ao, cap, P, F, hV⟩ := hV
    have := hV.most
    rw [decide_eq_true hr]
    exact punused_some hV.mem hV.bits (by omega) h2 h3
  · refine ⟨0, fun V hV => ?_⟩
    obtain ⟨ko, ao, cap, P, F, hV⟩ := hV
    rw [decide_eq_false hr]
    exact punused_none hV.mem hV.bits fun q _ => frb_full hw hr q
theorem pput_any (p q : Int) (h : PL W g S s) {k : Nat} (hw : s.Wf k) (hk : k ≤ 1000000) (hq : In64 q) :
    Calls Tryd.prog 42 #[.pointer (some ⟨g, 0, none⟩), .int .i64 p, .int .i64 q] W fun e w' => e = .returned (.tuple #[.int .i64 (s.putR p q).1, .int .i64 (s.putR p q).2]) ∧ (∃ S', PL w' g S' (s.putS p q) ∧ ∀ b, S' b → S b ∨ W.heap.size ≤ b) ∧ Frm S W w' := by
  have h' := h
  obtain ⟨ko, ao, cap, P, F, h⟩ := h
  unfold Ld.putR Ld.putS
  by_cases hpq : p < 1 ∨ q < 1
  · rw [if_pos hpq, if_pos hpq]
    refine (pputRange_any p q hpq W).mono ?_
    rintro e w' ⟨rfl, hw'⟩
    subst hw'
    exact ⟨rfl, ⟨S, h', fun b hb => .inl hb⟩, Frm.refl _ _⟩
  · rw [if_neg hpq, if_neg hpq]
    cases hf : s.find p with
    | some i =>
      obtain ⟨hP, hxp, hO⟩ := h.ord.putOld (q := q) hf
      obtain ⟨x, hx, -, -⟩ := Ld.find_some hf
      have hxm := List.mem_of_getElem? hx
      have hxq := hw.qty x hxm
      have hxo := hw.orders x hxm
      simp only
      rw [Ld.at_eq hx] at hP hxp hO ⊢
      by_cases hs : x.qty + q < 9223372036854775808
      · rw [if_pos hs, if_pos hs]
        refine (pputOld_any p q h.mem h.ord.std (by omega) (by omega) hP hxp ⟨by omega, by omega⟩ hq ⟨by omega, hs⟩ ⟨by omega, by omega⟩).mono ?_
        rintro e w' ⟨rfl, h1, h2⟩
        exact ⟨rfl, ⟨S, ⟨ko, ao, cap, _, F, h1, hO, h.bits.congr fun u _ => (frb_set (y := x.add q) hx rfl u).symm, h.most⟩, fun b hb => .inl hb⟩, h2⟩
      · rw [if_neg hs, if_neg hs]
        refine (pputOver_any p q h.mem h.ord.std (by omega) (by omega) hP hxp ⟨by omega, by omega⟩ hq (fun e => hs e.2)).mono ?_
        rintro e w' ⟨rfl, h1⟩
        exact ⟨rfl, ⟨S, h'.below h1, fun b hb => .inl hb⟩, Frm.of_below h1⟩
    | none =>
      simp only
      have ha : ath s.buy P p = false := by rw [ath_find h.ord, hf]; rfl
      have hPl := h.ord.len
      have hm := h.most
      have hlen := hw.len
      have hple := plc_le s.buy P p
      by_cases hr : s.L.length < s.most
      · rw [if_pos hr, if_pos hr]
        obtain ⟨hf1, hf2, hf3⟩ := frb_room hr
        refine (pputOpen_any p q h.mem h.ord.std (by omega) (by omega) ha (r := (freeQ s.L : Nat)) (f := 0) (Q := fun w' => (∃ S', PL w' g S' ⟨s.buy, s.most, s.L ++ [⟨p, q, 1, (freeQ s.L : Nat)⟩]⟩ ∧ ∀ b, S' b → S b ∨ W.heap.size ≤ b) ∧ Frm S W w') (fun w hb => ?_)).mono (fun e w' hQ => hQ)
        have hmw := h.mem.below hb
        refine (popen_new (plc s.buy P p) p q hmw h.bits.lt hple (by omega) (u := freeQ s.L) (by omega) (punused_some hmw h.bits (by omega) hf2 hf3)).mono ?_
        rintro e w' ⟨rfl, S', ko', ao', cap', h1, h2, h3⟩
        refine ⟨rfl, ⟨S', ⟨ko', ao', cap', _, _, h1, h.ord.putNew hf rfl, (h.bits.flip (by omega)).congr fun u _ => ?_, h.most⟩, fun b hb' => ?_⟩, ((Frm.of_below (S := S) hb)).trans h2 (fun b e => .inl e)⟩
        · exact (frb_app (x := ⟨p, q, 1, (freeQ s.L : Nat)⟩) rfl hf2 u).symm
        · rcases h3 b hb' with e | e
          · exact .inl e
          · right; have := hb.size; omega
      · rw [if_neg hr, if_neg hr]
        refine (pputOpen_any p q h.mem h.ord.std (by omega) (by omega) ha (r := 0) (f := 7) (Q := fun w' => (∃ S', PL w' g S' s ∧ ∀ b, S' b → S b ∨ W.heap.size ≤ b) ∧ Frm S W w') (fun w hb => ?_)).mono (fun e w' hQ => hQ)
        refine (popen_full _ p q (punused_none (h.mem.below hb) h.bits fun u _ => frb_full hw hr u)).mono ?_
        rintro e w' ⟨rfl, hw'⟩
        subst hw'
        exact ⟨rfl, ⟨S, h'.below hb, fun b hb => .inl hb⟩, Frm.of_below hb⟩
theorem ptake_any (p q : Int) (gone : Bool) (h : PL W g S s) {k : Nat} (hw : s.Wf k) (hk : k ≤ 1000000) :
    Calls Tryd.prog 72 #[.pointer (some ⟨g, 0, none⟩), .int .i64 p, .int .i64 q, .bool gone] W fun e w' => e = .returned (.tuple #[.int .i64 (s.takeR p q).1, .int .i64 (s.takeR p q).2]) ∧ (∃ S', PL w' g S' (s.takeS p q gone) ∧ ∀ b, S' b → S b ∨ W.heap.size ≤ b) ∧ Frm S W w' := by
  have h' := h
  obtain ⟨ko, ao, cap, P, F, h⟩ := h
  unfold Ld.takeR Ld.takeS
  cases hf : s.find p with
  | none =>
    refine (ptakeNo_any p q gone h.mem h.ord.std (by rw [ath_find h.ord, hf]; rfl)).mono ?_
    rintro e w' ⟨rfl, h1⟩
    exact ⟨rfl, ⟨S, h'.below h1, fun b hb => .inl hb⟩, Frm.of_below h1⟩
  | some i =>
    obtain ⟨x, hx, hxp, hP⟩ := h.ord.found hf
    have hxm := List.mem_of_getElem? hx
    have hxq := hw.qty x hxm
    have hxo := hw.orders x hxm
    have hO1 := h.ord.takeSet q gone hf
    have hO2 := h.ord.takeDel hf
    simp only [Ld.at_eq hx] at hO1 ⊢
    by_cases hq : q < 0 ∨ x.qty < q
    · rw [if_pos hq, if_pos hq]
      refine (ptakeRange_any p q gone h.mem h.ord.std hP hxp hq).mono ?_
      rintro e w' ⟨rfl, h1⟩
      exact ⟨rfl, ⟨S, h'.below h1, fun b hb => .inl hb⟩, Frm.of_below h1⟩
    · rw [if_neg hq, if_neg hq]
      by_cases hz : (x.sub q gone).orders = 0
      · rw [if_pos hz]
        obtain ⟨rfl, ho⟩ : gone = true ∧ x.orders = 1 := by
          cases gone with
          | false => simp [Lvl.sub] at hz; omega
          | true => simp [Lvl.sub] at hz; exact ⟨rfl, by omega⟩
        have hqu := hw.queue x hxm
        have hm := h.most
        obtain ⟨u, hu⟩ : ∃ u : Nat, x.queue = (u : Int) := ⟨x.queue.toNat, by omega⟩
        refine (ptakeDel_any p q h.mem h.bits.lt h.ord.std hP hxp hq (by omega) ho (u := u) (by omega) hu).mono ?_
        rintro e w' ⟨rfl, h1, h2⟩
        exact ⟨by rw [hu], ⟨S, ⟨ko, ao, cap, _, _, h1, hO2, (h.bits.flip (by omega)).congr fun v _ => (frb_erase hw hx u hu v).symm, h.most⟩, fun b hb => .inl hb⟩, h2⟩
      · rw [if_neg hz]
        refine (ptakeSet_any p q gone h.mem h.ord.std hP hxp hq (by omega) ⟨by omega, by omega⟩ hz).mono ?_
        rintro e w' ⟨rfl, h1, h2⟩
        exact ⟨rfl, ⟨S, ⟨ko, ao, cap, _, F, h1, hO1, h.bits.congr fun u _ => (frb_set (y := x.sub q gone) hx rfl u).symm, h.most⟩, fun b hb => .inl hb⟩, h2⟩
theorem pfind_any (p : Int) (h : PL W g S s) :
    Calls Tryd.prog 50 #[.pointer (some ⟨g, 0, none⟩), .int .i64 p] W fun e w' => e = .returned (.tuple #[vLvl (s.findV p), .bool (s.find p).isSome]) ∧ Below W.heap.size W w' := by
  obtain ⟨ko, ao, cap, P, F, h⟩ := h
  unfold Ld.findV
  cases hf : s.find p with
  | none => exact pfind_no p h.mem h.ord.std (by rw [ath_find h.ord, hf]; rfl)
  | some i =>
    obtain ⟨x, hx, hxp, hP⟩ := h.ord.found hf
    simp only [Ld.at_eq hx]
    exact pfind_yes p h.mem h.ord.std hP hxp
theorem pfits2_any (p : Int) (h : PL W g S s) {k : Nat} (hw : s.Wf k) :
    Calls Tryd.prog 53 #[.pointer (some ⟨g, 0, none⟩), .int .i64 p] W fun e w' => e = .returned (.bool (s.fits p)) ∧ Below W.heap.size W w' := by
  obtain ⟨q, cU⟩ := pfull_any h hw
  obtain ⟨ko, ao, cap, P, F, h⟩ := h
  have := pfits_any p h.mem h.ord.std (q := q) (room := decide (s.L.length < s.most)) fun w hm => cU w ⟨ko, ao, cap, P, F, hm, h.ord, h.bits, h.most⟩
  rwa [ath_find h.ord] at this
theorem pworth2_any (lim : Int) (h : PL W g S s) {k : Nat} (hw : s.Wf k) :
    Calls Tryd.prog 51 #[.pointer (some ⟨g, 0, none⟩), .int .i64 lim] W fun e w' => e = .returned (.int .i64 (s.worth lim)) ∧ Below W.heap.size W w' := by
  obtain ⟨ko, ao, cap, P, F, h⟩ := h
  rw [h.ord.worth lim]
  exact pworth_any lim h.mem h.ord.std fun x hx => hw.qty x (h.ord.mem.1 hx)
theorem plen2_any (h : PL W g S s) :
    Calls Tryd.prog 77 #[.pointer (some ⟨g, 0, none⟩)] W fun e w' => e = .returned (.int .i64 (s.L.length : Nat)) ∧ w' = W := by
  obtain ⟨ko, ao, cap, P, F, h⟩ := h
  rw [← h.ord.len]
  exact plen_any h.mem
/-- The best one. -/
theorem pbest2_any {P : List Lvl} (hO : Sord s.buy s.L P) (h : PL W g S s) :
    Calls Tryd.prog 49 #[.pointer (some ⟨g, 0, none⟩)] W fun e w' => e = .returned (.tuple #[vLvl (P[0]?.getD .zero), .bool (decide (0 < s.L.length))]) ∧ Below W.heap.size W w' := by
  obtain ⟨ko, ao, cap, P', F, h⟩ := h
  obtain rfl := hO.uni h.ord
  have hl := hO.len
  cases hp : P[0]? with
  | some x =>
    have := (List.getElem?_eq_some_iff.1 hp).1
    rw [decide_eq_true (by omega)]
    exact pbest_yes h.mem hp
  | none =>
    have := List.getElem?_eq_none_iff.1 hp
    obtain rfl : P = [] := List.eq_nil_of_length_eq_zero (by omega)
    rw [decide_eq_false (by simp at hl; omega)]
    exact pbest_no h.mem
end
end Go.Proofs.YthbopaeaplejiaaDoor
namespace Go.Proofs.YthbopaeaplejiaaDoor
open Go.RowKit
set_option linter.unusedSimpArgs false
attribute [local go_sem] Oper.semAt_some
attribute [local go_sem] wide_fn
theorem lgoodNo_put (pre : List Lvl) (x : Lvl) (A : World) (l : Nat) (o o' : Obj) (h : (fun (_ : List Lvl) (_ : Lvl) (_ : World) => False) pre x A) (_ : A.heap[l]? = some o) (_ : o.isCells = false) : (fun (_ : List Lvl) (_ : Lvl) (_ : World) => False) pre x (A.putObj l o') := h
section
variable (x y : Int) (W : World)
theorem llenNil_any : Calls Tryd.prog 77 #[.pointer none] W fun e w' => e = .returned (.int .i64 0) ∧ w' = W := by
  go_enter Tryd.func77, Tryd.ntmps77
  go_wp2_with fail
  all_goals go_ret
  all_goals exact ⟨rfl, rfl⟩
theorem lfitsNil_any : Calls Tryd.prog 53 #[.pointer none, .int .i64 x] W fun e w' => e = .returned (.bool false) ∧ w' = W := by
  go_enter Tryd.func53, Tryd.ntmps53
  go_wp2_with fail
  all_goals go_ret
  all_goals exact ⟨rfl, rfl⟩
set_option maxRecDepth 8000 in
set_option maxHeartbeats 1000000 in
theorem lbestNil_any : Calls Tryd.prog 49 #[.pointer none] W fun e w' => e = .returned (.tuple #[vLvl Lvl.zero, .bool false]) ∧ Below W.heap.size W w' := by
  obtain ⟨W1, hW1⟩ : ∃ W1, W1 = W.alloc (.cells (cLvl Lvl.zero) 92) := ⟨_, rfl⟩
  have hBx : Blk W1 W.heap.size 92 (cLvl Lvl.zero) := by rw [hW1]; exact Blk.new _ _ _
  have hF : Below W.heap.size W W1 := by rw [hW1]; exact (Below.refl _ _).alloc (Nat.le_refl _) _
  have cH := llenNil_any W1
  obtain ⟨b0, b1, b2, b3⟩ := Lvl.cells hBx
  have hfr := hBx.free
  obtain ⟨c0, c1, c2, c3⟩ := Lvl.cells (Lvl.lay hBx 0 0 0 0)
  have hbel := Lvl.below hF (Nat.le_refl _) (.int .i64 0) (.int .i64 0) (.int .i64 0) (.int .i64 0)
  simp only [Lvl.zero] at b0 b1 b2 b3
  simp only at c0 c1 c2 c3
  simp only [Lvl.zero, cLvl] at hW1
  clear hBx hF
  go_enter Tryd.func49, Tryd.ntmps49
  go_wp2_with (go_at_call 77; rw [← hW1]; (with_reducible refine cH.mono ?_); rintro e w1 ⟨rfl, hw1⟩; subst w1; clear hW1 cH)
  refine bodyPost_ret (v := .tuple #[.agg #[.int .i64 0, .int .i64 0, .int .i64 0, .int .i64 0], .bool false]) ?_ rfl ⟨rfl, hbel⟩
  simp [results, Tryd.results49, go_sem, c0, c1, c2, c3]
set_option maxRecDepth 8000 in
set_option maxHeartbeats 1000000 in
theorem lfindNil_any : Calls Tryd.prog 50 #[.pointer none, .int .i64 x] W fun e w' => e = .returned (.tuple #[vLvl Lvl.zero, .bool false]) ∧ Below W.heap.size W w' := by
  obtain ⟨W1, hW1⟩ : ∃ W1, W1 = W.alloc (.cells (cLvl Lvl.zero) 92) := ⟨_, rfl⟩
  have hBx : Blk W1 W.heap.size 92 (cLvl Lvl.zero) := by rw [hW1]; exact Blk.new _ _ _
  have hF : Below W.heap.size W W1 := by rw [hW1]; exact (Below.refl _ _).alloc (Nat.le_refl _) _
  obtain ⟨c0, c1, c2, c3⟩ := Lvl.cells hBx
  have hbel := hF
  simp only [Lvl.zero, cLvl] at hW1 c0 c1 c2 c3
  rw [hW1] at hbel c0 c1 c2 c3
  clear hBx hF hW1
  go_enter Tryd.func50, Tryd.ntmps50
  go_wp2_with fail
  refine bodyPost_ret (v := .tuple #[.agg #[.int .i64 0, .int .i64 0, .int .i64 0, .int .i64 0], .bool false]) ?_ rfl ⟨rfl, hbel⟩
  simp [results, Tryd.results50, go_sem, c0, c1, c2, c3]
set_option maxRecDepth 100000 in
set_option maxHeartbeats 4000000 in
theorem lworthNil_any : Calls Tryd.prog 51 #[.pointer none, .int .i64 x] W fun e w' => e = .returned (.int .i64 0) ∧ Below W.heap.size W w' := by
  obtain ⟨W3, hW3⟩ : ∃ W3, W3 = ((W.alloc (.cells #[.pointer none] 64)).alloc (.cells #[.int .i64 x] 2)).alloc (.cells #[.int .i64 0] 2) := ⟨_, rfl⟩
  have hb3 : Below W.heap.size W W3 := by rw [hW3]; exact (((Below.refl _ _).alloc (Nat.le_refl _) _).alloc (by simp) _).alloc (by simp; omega) _
  have hs3 : W3.heap.size = W.heap.size + 3 := by rw [hW3]; simp
  have k2 : Blk W3 (W.heap.size + 2) 2 #[.int .i64 0] := by rw [hW3]; exact Blk.new' (by simp)
  have cE := peach_any none W3
  refine (callsIn_wide (n := 6)).1 ?_
  refine callsIn_of_wp_marks Tryd.func51 rfl trivial ?_ rfl
  simp only [Tryd.ntmps51, List.size_toArray, List.length_cons, List.length_nil, Nat.reduceAdd, Nat.reduceSub, Array.replicate_succ, Array.replicate_zero, List.push_toArray, List.append_toArray, List.nil_append, List.cons_append]
  refine wpIn_wide.2 ?_
  go_wp2_with fail
  go_step3
  go_wp2_with fail
  go_step3
  go_wp2_with (go_at_call 60; rw [← hW3]; refine cE.mono ?_; rintro e w8 ⟨rfl, hb8, T1, hB1⟩; clear cE hW3)
  refine (wpIn_wide (n := 6)).1 ?_
  have hs8 := hB1.lt
  have k28 := k2.below hb8 (by omega)
  have hb08 : Below W.heap.size W w8 := hb3.trans (hb8.mono (by omega))
  rw [hs3] at hB1 hs8
  try rw [hs3]
  clear k2 hb3 hb8
  have hseq := peachNil_seqs Fence.wide rfl (6 - 1) (by omega) (W.heap.size + 3) T1 w8 hB1 (fun _ => False)
  refine range_law5 (F := Fence.wide) rfl (by omega) (gf := 81) (lb := #[.pointer (some ⟨W.heap.size + 3, 0, none⟩)]) rfl trivial (goes_of Tryd.func81 (by kernel_rfl) rfl) (enc := encL) (fun _ => rfl) (fun _ => False) (fun b e => e.elim) (G := fun _ _ _ => False) lgoodNo_put hseq
    (fun _ A => Frm (fun b => w8.heap.size ≤ b) w8 A) (fun _ _ _ => False)
    (fun pre A B h hf => h.trans hf (fun b h => .inl (by omega))) (fun c pre A B h hf => h) (Frm.refl _ _)
    ?a1 (fun x A => A.alloc (.cells (cLvl x) 92)) (fun x A => (Below.refl _ _).alloc (Nat.le_refl _) _) (fun _ _ _ h => h) ?assign ?body ?done ?stop
  case assign =>
    intro l x V K hK
    simp only [encL]
    gi_wp2
    exact hK
  case body =>
    rintro lb pre x A0 A h1 hgood
    exact hgood.elim
  case stop =>
    rintro D c pre V hD hsp
    exact hsp.elim
  case done =>
    rintro D ys U hD hys h3 hK
    have c5 : U.cell? ⟨W.heap.size + 1 + 1, 0, none⟩ = some (.int .i64 0) := (blk_frm k28 h3 (by omega)).cell_eq 0 _ rfl
    have hbU : Below W.heap.size W U := hb08.trans (h3.below hb08.size (fun b h => by have := hb08.size; omega))
    have hfin : Below W.heap.size W (U.putObj D (.deferred none)) := hbU.trans ((Frm.put (S := fun b => b = D) U D (.deferred none) rfl).below hbU.size (fun b h => by have := hb08.size; omega))
    clear hseq k28 hb08 hB1 h3 hys hs3
    go_wp2_with fail
    rw [Exit.noGoto_ret]
    refine ⟨by simp, .inl ⟨_, _, rfl, run_takeDeferred hK, ?_⟩⟩
    refine ⟨.int .i64 0, ?_, rfl, hfin⟩
    simp [results, Tryd.results51, go_sem]
end
end Go.Proofs.YthbopaeaplejiaaDoor
