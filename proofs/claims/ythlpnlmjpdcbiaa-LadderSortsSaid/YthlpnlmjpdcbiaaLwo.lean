/-
  The contract of the program's Worth.
-/
import Derived.Test.YthlpnlmjpdcbiaaLea
import Derived.Test.YthlpnlmjpdcbiaaRanged
import Derived.Test.YthlpnlmjpdcbiaaEnt
import Derived.Test.YthlpnlmjpdcbiaaRadd
import Derived.RangeFuncCalls
import Derived.Shelf.RegionOpen
namespace Go.Proofs.Ythlpnlmjpdcbiaa
open Go.RowKit
set_option linter.unusedSimpArgs false
attribute [local go_sem] Oper.semAt_some
attribute [local go_sem] wide_fn
section
variable {W : World} {g : Nat} {S T : Nat → Prop} {ko : Option Nat} {ao : Option Addr} {cap : Nat} {buy : Bool} {P : List Lvl} {F : List Nat}
set_option maxRecDepth 100000 in
set_option maxHeartbeats 4000000 in
theorem pworth_any (lim : Int) (h : PmB W g S ko ao cap buy P F) (hS : Std buy P) (hq : ∀ x ∈ P, 0 ≤ x.qty ∧ x.qty < 9223372036854775808) :
    Calls Try.prog 22 #[.pointer (some ⟨g, 0, none⟩), .int .i64 lim] W fun e w' => e = .returned (.int .i64 (min (wsum (fun x => !btr buy lim x.price) P) 4611686018427387904)) ∧ Below W.heap.size W w' := by
  obtain ⟨f, hf⟩ : ∃ f : Lvl → Bool, f = fun x => !btr buy lim x.price := ⟨_, rfl⟩
  obtain ⟨V, hV⟩ : ∃ V, V = min (wsum f P) 4611686018427387904 := ⟨_, rfl⟩
  have hst : ∀ (n : Nat) x, P[n]? = some x → btr buy lim x.price = false → wsum f (P.take (n + 1)) = wsum f (P.take n) + x.qty := fun n x hx hb => by
    rw [wsum_step (f := f) hx, if_pos (by rw [hf]; simp [hb])]
  have hstop : ∀ (n : Nat) x, P[n]? = some x → btr buy lim x.price = true → wsum f (P.take n) ≤ 4611686018427387904 → wsum f (P.take n) = V := fun n x hx hb hl => by
    have := wsum_stop hS hx hb
    rw [← hf] at this
    rw [hV, ← this]
    omega
  have hover : ∀ (n : Nat) x, P[n]? = some x → btr buy lim x.price = false → 4611686018427387904 ≤ wsum f (P.take n) + x.qty → V = 4611686018427387904 := fun n x hx hb hl => by
    rw [hV]
    exact worth_over (fun y hy => (hq y hy).1) hx (by rw [hf]; simp [hb]) hl
  have hall : wsum f (P.take P.length) ≤ 4611686018427387904 → wsum f (P.take P.length) = V := fun hl => by
    rw [List.take_length] at hl ⊢
    rw [hV]
    omega
  have hpos : ∀ n, 0 ≤ wsum f (P.take n) := fun n => wsum_pos fun x hx => (hq x (List.mem_of_mem_take hx)).1
  rw [← hf, ← hV]
  have hz : wsum f (P.take 0) = 0 := rfl
  clear hf hV
  generalize wsum f = ws at *
  clear f
  have hgl := h.lt g h.sg
  have hSl := h.lt
  obtain ⟨W3, hW3⟩ : ∃ W3, W3 = ((W.alloc (.cells #[.pointer (some ⟨g, 0, none⟩)] 25)).alloc (.cells #[.int .i64 lim] 2)).alloc (.cells #[.int .i64 0] 2) := ⟨_, rfl⟩
  have hb3 : Below W.heap.size W W3 := by rw [hW3]; exact (((Below.refl _ _).alloc (Nat.le_refl _) _).alloc (by simp) _).alloc (by simp; omega) _
  have hs3 : W3.heap.size = W.heap.size + 3 := by rw [hW3]; simp
  have k0 : Blk W3 W.heap.size 25 #[.pointer (some ⟨g, 0, none⟩)] := by rw [hW3]; exact ((Blk.new _ _ _).alloc _).alloc _
  have k1 : Blk W3 (W.heap.size + 1) 2 #[.int .i64 lim] := by rw [hW3]; exact (Blk.new' (by simp)).alloc _
  have k2 : Blk W3 (W.heap.size + 2) 2 #[.int .i64 0] := by rw [hW3]; exact Blk.new' (by simp)
  have hP3 := h.below hb3
  have cE := peach_any (some ⟨g, 0, none⟩) W3
  clear h
  refine (callsIn_wide (n := 6)).1 ?_
  refine callsIn_of_wp_marks Try.func22 rfl trivial ?_ rfl
  simp only [Try.ntmps22, List.size_toArray, List.length_cons, List.length_nil, Nat.reduceAdd, Nat.reduceSub, Array.replicate_succ, Array.replicate_zero, List.push_toArray, List.append_toArray, List.nil_append, List.cons_append]
  refine wpIn_wide.2 ?_
  go_wp2_with fail
  go_step3
  go_wp2_with fail
  go_step3
  go_wp2_with (go_at_call 16; rw [← hW3]; refine cE.mono ?_; rintro e w8 ⟨rfl, hb8, T1, hB1⟩; clear cE hW3)
  refine (wpIn_wide (n := 6)).1 ?_
  have hs8 := hB1.lt
  have k08 := k0.below hb8 (by omega)
  have k18 := k1.below hb8 (by omega)
  have k28 := k2.below hb8 (by omega)
  have hP8 := hP3.below hb8
  have hb08 : Below W.heap.size W w8 := hb3.trans (hb8.mono (by omega))
  rw [hs3] at hB1 hs8
  try rw [hs3]
  clear k0 k1 k2 hP3 hb3 hb8
  have hseq := peach_seqs Fence.wide rfl (6 - 1) (by omega) (W.heap.size + 3) T1 w8 (fun q => q = W.heap.size + 2) hB1 hP8 hS (by omega) (fun b e h => by have := hSl b h; omega) (fun b e => by omega)
  refine range_law5 (F := Fence.wide) rfl (by omega) (gf := 28) (lb := #[.pointer (some ⟨W.heap.size + 3, 0, none⟩)]) rfl trivial (goes_of Try.func28 (by kernel_rfl) rfl) (enc := encL) (fun _ => rfl) (fun q => q = W.heap.size + 2) (fun b e => by omega) (G := goodL P) (goodL_put P) hseq
    (fun pre A => Blk A (W.heap.size + 2) 2 #[.int .i64 (ws (P.take pre.length))] ∧ Frm (fun b => b = W.heap.size + 2 ∨ w8.heap.size ≤ b) w8 A ∧ ws (P.take pre.length) ≤ 4611686018427387904)
    (fun c pre A => c = .exit 0 ∧ Blk A (W.heap.size + 2) 2 #[.int .i64 V] ∧ Frm (fun b => b = W.heap.size + 2 ∨ w8.heap.size ≤ b) w8 A)
    (fun pre A B ⟨h1, h3, h4⟩ hf => ⟨blk_frm h1 hf (by omega), h3.trans hf (fun b h => .inl (.inr (by omega))), h4⟩)
    (fun c pre A B ⟨h0, h1, h3⟩ hf => ⟨h0, blk_frm h1 hf (by omega), h3.trans hf (fun b h => .inl (.inr (by omega)))⟩)
    ⟨by rw [show ([] : List Lvl).length = 0 from rfl, hz]; exact k28, Frm.refl _ _, by rw [show ([] : List Lvl).length = 0 from rfl, hz]; omega⟩
    ?a1 (fun x A => A.alloc (.cells (cLvl x) 40)) (fun x A => (Below.refl _ _).alloc (Nat.le_refl _) _) (fun _ _ _ h => h) ?assign ?body ?done ?stop
  case assign =>
    intro l x V K hK
    simp only [encL]
    gi_wp2
    exact hK
  case body =>
    rintro lb pre x A0 A ⟨h1, h3, h4⟩ hgood hlen hl0 hfA
    have hx : P[pre.length]? = some x := hgood
    obtain ⟨z0, z1, z2, z3⟩ := Lvl.cells (blk_frm (Blk.new A0 40 (cLvl x)) hfA (by omega))
    have hPA := hP8.frm h3 (fun b hb hs => by have := hSl b hs; omega)
    have k0A := blk_frm k08 h3 (by omega)
    have k1A := blk_frm k18 h3 (by omega)
    have hlp : (pre ++ [x]).length = pre.length + 1 := by simp
    have hAl := h3.size
    have hwA : W.heap.size + 3 < A.heap.size := by omega
    have hzl : A0.heap.size < A.heap.size := by have := hfA.size; simp at this; omega
    have hbl := lim
    have c2 : A.cell? ⟨W.heap.size, 0, none⟩ = some (.pointer (some ⟨g, 0, none⟩)) := k0A.cell_eq 0 _ rfl
    have c3 : A.cell? ⟨W.heap.size + 1, 0, none⟩ = some (.int .i64 lim) := k1A.cell_eq 0 _ rfl
    have c5 : A.cell? ⟨W.heap.size + 1 + 1, 0, none⟩ = some (.int .i64 (ws (P.take pre.length))) := h1.cell_eq 0 _ rfl
    have hfac : ∀ w1, Below A.heap.size A w1 → w1.cell? ⟨W.heap.size, 0, none⟩ = some (.pointer (some ⟨g, 0, none⟩)) ∧ w1.cell? ⟨W.heap.size + 1, 0, none⟩ = some (.int .i64 lim) ∧ w1.cell? ⟨A0.heap.size, 0, none⟩ = some (.int .i64 x.price) ∧ (w1.cell? ⟨W.heap.size + 1 + 1, 0, none⟩ = some (.int .i64 (ws (P.take pre.length))) ∧ w1.frozen? ⟨W.heap.size + 1 + 1, 0, none⟩ = false) ∧ Calls Try.prog 35 #[.pointer (some ⟨g, 0, none⟩), .int .i64 lim, .int .i64 x.price] w1 fun e w' => e = .returned (.bool (btr buy lim x.price)) ∧ w' = w1 := by
      intro w1 hb
      exact ⟨((bcell hb).1 _ _ (by omega)).trans c2, ((bcell hb).1 _ _ (by omega)).trans c3, ((bcell hb).1 _ _ hzl).trans z0, ⟨((bcell hb).1 _ _ (by omega)).trans c5, ((bcell hb).2 _ _ (by omega)).trans (h1.free 0)⟩, pbetter_any lim x.price (hPA.below hb)⟩
    have hst1 := hst _ _ hx
    have hsp1 := hstop _ _ hx
    have hov1 := hover _ _ hx
    have hxq := hq x (List.mem_of_getElem? hx)
    have hp1 := hpos pre.length
    have hN : ∀ w1, Below A.heap.size A w1 → btr buy lim x.price = false → ws (P.take pre.length) + x.qty ≤ 4611686018427387904 → Frm (fun q => q = W.heap.size + 2) A (w1.setCell ⟨W.heap.size + 1 + 1, 0, none⟩ (.int .i64 (ws (P.take pre.length) + x.qty))) ∧ Blk (w1.setCell ⟨W.heap.size + 1 + 1, 0, none⟩ (.int .i64 (ws (P.take pre.length) + x.qty))) (W.heap.size + 2) 2 #[.int .i64 (ws (P.take (pre ++ [x]).length))] ∧ Frm (fun b => b = W.heap.size + 2 ∨ w8.heap.size ≤ b) w8 (w1.setCell ⟨W.heap.size + 1 + 1, 0, none⟩ (.int .i64 (ws (P.take pre.length) + x.qty))) ∧ ws (P.take (pre ++ [x]).length) ≤ 4611686018427387904 := by
      intro w1 hb hbt hle
      rw [hlp, hst1 hbt]
      have hf : Frm (fun q => q = W.heap.size + 2) A (w1.setCell ⟨W.heap.size + 1 + 1, 0, none⟩ (.int .i64 (ws (P.take pre.length) + x.qty))) := (Frm.of_below hb).setCell _ _ (.inl rfl)
      exact ⟨hf, (h1.below hb h1.lt).set 0 _, h3.trans hf (fun b e => .inl (.inl e)), hle⟩
    have hX : ∀ w1, Below A.heap.size A w1 → btr buy lim x.price = true → Frm (fun q => q = W.heap.size + 2) A w1 ∧ Blk w1 (W.heap.size + 2) 2 #[.int .i64 V] ∧ Frm (fun b => b = W.heap.size + 2 ∨ w8.heap.size ≤ b) w8 w1 := by
      intro w1 hb hbt
      have hf : Frm (fun q => q = W.heap.size + 2) A w1 := Frm.of_below hb
      rw [← hsp1 hbt h4]
      exact ⟨hf, h1.below hb h1.lt, h3.trans hf (fun b e => .inl (.inl e))⟩
    have hY : ∀ w1, Below A.heap.size A w1 → btr buy lim x.price = false → 4611686018427387904 ≤ ws (P.take pre.length) + x.qty → Frm (fun q => q = W.heap.size + 2) A (w1.setCell ⟨W.heap.size + 1 + 1, 0, none⟩ (.int .i64 4611686018427387904)) ∧ Blk (w1.setCell ⟨W.heap.size + 1 + 1, 0, none⟩ (.int .i64 4611686018427387904)) (W.heap.size + 2) 2 #[.int .i64 V] ∧ Frm (fun b => b = W.heap.size + 2 ∨ w8.heap.size ≤ b) w8 (w1.setCell ⟨W.heap.size + 1 + 1, 0, none⟩ (.int .i64 4611686018427387904)) := by
      intro w1 hb hbt hle
      have hf : Frm (fun q => q = W.heap.size + 2) A (w1.setCell ⟨W.heap.size + 1 + 1, 0, none⟩ (.int .i64 4611686018427387904)) := (Frm.of_below hb).setCell _ _ (.inl rfl)
      rw [hov1 hbt hle]
      exact ⟨hf, (h1.below hb h1.lt).set 0 _, h3.trans hf (fun b e => .inl (.inl e))⟩
    have cA := fadd_any (ws (P.take pre.length)) x.qty ⟨by omega, by omega⟩ ⟨by omega, by omega⟩ A
    replace hN := Lib.hid hN
    replace hX := Lib.hid hX
    replace hY := Lib.hid hY
    replace hfac := Lib.hid hfac
    clear hst hstop hover hall hpos hz hst1 hsp1 hov1 hseq hPA k0A k1A k08 k18 k28 hP8 hb08 hB1 hgood hx h1 h3 z2 z3 hlen hfA hs3 hbl
    generalize hwn : ws (P.take pre.length) = wn at *
    clear hwn
    obtain ⟨x0, x1, x2, x3⟩ := x
    simp only at *
    generalize btr buy lim x0 = B at *
    cases B with
    | true =>
      obtain ⟨v1, ok1, hfit, -⟩ := fit_is (wn + x1)
      rw [hfit] at cA
      clear hfit
      gi_wp2_with (first
        | (gi_at_call 32; refine (CallsIn.inRound lb (callsIn_wide.2 cA)).mono ?_; rintro e w1 ⟨rfl, hb1⟩; clear cA c2 c3 c5 z0 z1; obtain ⟨c2, c3, z0, ⟨c5, f5⟩, cB⟩ := hfac.out _ hb1)
        | (gi_at_call 35; refine (CallsIn.inRound lb (callsIn_wide.2 cB)).mono ?_; rintro e w2 ⟨rfl, hw2⟩; subst w2; clear cB))
      obtain ⟨r1, r2, r3⟩ := hX.out _ hb1 (by simp)
      exact ⟨r1, rfl, r2, r3⟩
    | false =>
      by_cases hs : In64 (wn + x1)
      · rw [fit_yes hs] at cA
        by_cases hm : wn + x1 ≤ 4611686018427387904
        · have hd : decide (4611686018427387904 < wn + x1) = false := decide_eq_false (by omega)
          clear hs
          gi_wp2_with (first
            | (gi_at_call 32; refine (CallsIn.inRound lb (callsIn_wide.2 cA)).mono ?_; rintro e w1 ⟨rfl, hb1⟩; clear cA c2 c3 c5 z0 z1; obtain ⟨c2, c3, z0, ⟨c5, f5⟩, cB⟩ := hfac.out _ hb1)
            | (gi_at_call 35; refine (CallsIn.inRound lb (callsIn_wide.2 cB)).mono ?_; rintro e w2 ⟨rfl, hw2⟩; subst w2; clear cB))
          exact hN.out _ hb1 (by simp) hm
        · have hd : decide (4611686018427387904 < wn + x1) = true := decide_eq_true (by omega)
          clear hs
          gi_wp2_with (first
            | (gi_at_call 32; refine (CallsIn.inRound lb (callsIn_wide.2 cA)).mono ?_; rintro e w1 ⟨rfl, hb1⟩; clear cA c2 c3 c5 z0 z1; obtain ⟨c2, c3, z0, ⟨c5, f5⟩, cB⟩ := hfac.out _ hb1)
            | (gi_at_call 35; refine (CallsIn.inRound lb (callsIn_wide.2 cB)).mono ?_; rintro e w2 ⟨rfl, hw2⟩; subst w2; clear cB))
          obtain ⟨r1, r2, r3⟩ := hY.out _ hb1 (by simp) (by omega)
          exact ⟨r1, rfl, r2, r3⟩
      · rw [fit_no hs] at cA
        have hm : 4611686018427387904 ≤ wn + x1 := by unfold In64 at hs; omega
        clear hs
        gi_wp2_with (first
          | (gi_at_call 32; refine (CallsIn.inRound lb (callsIn_wide.2 cA)).mono ?_; rintro e w1 ⟨rfl, hb1⟩; clear cA c2 c3 c5 z0 z1; obtain ⟨c2, c3, z0, ⟨c5, f5⟩, cB⟩ := hfac.out _ hb1)
          | (gi_at_call 35; refine (CallsIn.inRound lb (callsIn_wide.2 cB)).mono ?_; rintro e w2 ⟨rfl, hw2⟩; subst w2; clear cB))
        obtain ⟨r1, r2, r3⟩ := hY.out _ hb1 (by simp) hm
        exact ⟨r1, rfl, r2, r3⟩
  case done =>
    rintro D ys U hD hys ⟨h1, h3, h4⟩ hK
    rw [hys] at h1 h4
    rw [hall h4] at h1
    have c5 : U.cell? ⟨W.heap.size + 1 + 1, 0, none⟩ = some (.int .i64 V) := h1.cell_eq 0 _ rfl
    have hbU : Below W.heap.size W U := hb08.trans (h3.below hb08.size (fun b h => by have := hb08.size; omega))
    have hfin : Below W.heap.size W (U.putObj D (.deferred none)) := hbU.trans ((Frm.put (S := fun b => b = D) U D (.deferred none) rfl).below hbU.size (fun b h => by have := hb08.size; omega))
    clear hst hstop hover hall hpos hz hseq k08 k18 k28 hP8 hb08 hB1 h1 h3 h4 hys hs3
    go_wp2_with fail
    rw [Exit.noGoto_ret]
    refine ⟨by simp, .inl ⟨_, _, rfl, run_takeDeferred hK, ?_⟩⟩
    refine ⟨.int .i64 V, ?_, rfl, hfin⟩
    simp [results, Try.results22, go_sem]
  case stop =>
    rintro D c' pre U hD hsp ⟨rfl, h1, h3⟩ hK
    have c5 : U.cell? ⟨W.heap.size + 1 + 1, 0, none⟩ = some (.int .i64 V) := h1.cell_eq 0 _ rfl
    have hbU : Below W.heap.size W U := hb08.trans (h3.below hb08.size (fun b h => by have := hb08.size; omega))
    have hfin : Below W.heap.size W (U.putObj D (.deferred none)) := hbU.trans ((Frm.put (S := fun b => b = D) U D (.deferred none) rfl).below hbU.size (fun b h => by have := hb08.size; omega))
    clear hst hstop hover hall hpos hz hseq k08 k18 k28 hP8 hb08 hB1 h1 h3 hsp hs3
    refine wpIn_wide.2 ?_
    go_wp2_with fail
    rw [Exit.noGoto_ret]
    refine ⟨by simp, .inl ⟨_, _, rfl, run_takeDeferred hK, ?_⟩⟩
    refine ⟨.int .i64 V, ?_, rfl, hfin⟩
    simp [results, Try.results22, go_sem]
end
end Go.Proofs.Ythlpnlmjpdcbiaa
