/-
  What the program's walk over a side's orders yields.
  The program's Front.
-/
import Derived.Test.YtdmjcjheanedgaaDoorGV
import Derived.Test.YtdmjcjheanedgaaDoorGW
import Derived.RangeFuncCalls
import Derived.Shelf.RegionOpen
import Derived.OwnWalkIn
import Derived.TacticsInMore
import Derived.LoopNIn
import Derived.LoopIn
import Derived.Stop.RegionWithIn
import Derived.Sort.QuietTacIn
namespace Go.Proofs.YtdmjcjheanedgaaDoor
open Go.RowKit
set_option linter.unusedSimpArgs false
attribute [local go_sem] Oper.semAt_some
attribute [local go_sem] wide_fn
section
variable {W : World} {g k ga gf gx g0 g1 : Nat} {S So : Nat → Prop} {b : Bk} {Z : List (Nat × Ord)} {a : Ar} {x : List Ixr} {f : Fq} {d : Int → Ld}
theorem Bs.turnT {V A : World} {S T : Nat → Prop} (h : Bs V S ga gf gx g0 g1 k a x f d V) (hf : Frm T V A) (hT : ∀ c, T c → V.heap.size ≤ c ∨ (2 ≤ c ∧ ¬ S c)) : Bs A S ga gf gx g0 g1 k a x f d A := by
  have h2 := h.gl.two
  obtain ⟨Sf, Sx, S1, S2, h3, h4⟩ := h.p
  have hS : ∀ i c, own5 ga Sf Sx S1 S2 i c → S c := fun i c e => by
    have := h3.lt i c e
    rcases h4 i c e with e' | e'
    · exact e'
    · omega
  refine ⟨Frm.refl _ _, Sf, Sx, S1, S2, h3.frm hf (fun c e => ⟨?_, fun i e' => ?_⟩), fun i c e => .inl (hS i c e)⟩
  · rcases hT c e with e' | e'
    · omega
    · exact e'.1
  · have := h3.lt i c e'
    rcases hT c e with e'' | e''
    · omega
    · exact e''.2 (hS i c e')
/-- How far the statement with a level's queue has come. -/
def Jqe (U U2 : World) (Post : World → Prop) (p q : Bool) (w : World) : Prop := bif q then (p = true ∧ Post w) else bif p then w = U2 else w = U
set_option maxRecDepth 100000 in
set_option maxHeartbeats 8000000 in
theorem walk_seqs (s : Int) (hs : s = 0 ∨ s = 1) (t1 t2 : Nat) (T1 T2 : TypeId) (w : World) (T : Nat → Prop) (n : Nat) (hb1 : Blk w t1 T1 #[.pointer (some ⟨g, 0, none⟩)]) (hb2 : Blk w t2 T2 #[.int .i64 s]) (hg : Blk w g 77 (cBook b.levels ga gf gx g0 g1))
    (hR : Rl b Z a x f d) (hB : Bs w So ga gf gx g0 g1 k a x f d w) (hSo : ∀ c, So c → c < w.heap.size) (hT : ∀ c, T c → 2 ≤ c ∧ c < w.heap.size ∧ ¬ So c ∧ c ≠ g ∧ c ≠ t1 ∧ c ≠ t2) :
    SeqsX Fence.wide n Tryd.prog 80 #[.pointer (some ⟨t1, 0, none⟩), .pointer (some ⟨t2, 0, none⟩)] encO (goodO (bkOf b.L s)) T (fun ys => ys.length = (bkOf b.L s).length) (fun pre => pre.length ≤ (bkOf b.L s).length) (bkOf b.L s).length w := by
  intro l J Jx W hW hlW hlw hJ hJx hY h0
  obtain ⟨P, hP⟩ := Sord.exists (buy := (d s).buy) (hR.l s hs).wf.uniP
  have hflat := hR.flat hs hP
  rw [← hflat] at hY ⊢
  clear hflat
  have hlev : ∀ (j : Nat) (y : Lvl), P[j]? = some y → (0 ≤ y.queue ∧ y.queue < b.levels) ∧ f.qi (bq b.levels s + y.queue) = (grp Z s y.price).map (·.1) := fun j y hy => hR.queue hs (hP.mem.1 (List.mem_of_getElem? hy))
  have hslot : ∀ (p : Int) (m i : Nat), ((grp Z s p).map (·.1))[m]? = some i → a.has i = true ∧ ∃ o, a.O[i]? = some o ∧ ((grp Z s p).map (·.2))[m]? = some o := fun p m i hm => grp_slots hR.ar hm
  have hlv := hR.ok.l2
  have hl1 := hb1.lt
  have hl2 := hb2.lt
  have hlg := hg.lt
  have hWs := hW.size
  have hBW := hB.rebase hW
  have hgl := hB.gl.two
  replace hb1 := hb1.below hW hl1
  replace hb2 := hb2.below hW hl2
  replace hg := hg.below hW hlg
  clear hB
  obtain ⟨V0, hV0⟩ : ∃ V0, V0 = W.alloc (.cells #[.func (.yield l) #[] #[]] 135) := ⟨_, rfl⟩
  have hbV0 : Below W.heap.size W V0 := by rw [hV0]; exact (Below.refl _ _).alloc (Nat.le_refl _) _
  have hy0 : Blk V0 W.heap.size 135 #[.func (.yield l) #[] #[]] := by rw [hV0]; exact Blk.new _ _ _
  have c1 : V0.cell? ⟨t1, 0, none⟩ = some (.pointer (some ⟨g, 0, none⟩)) := (hb1.below hbV0 (by omega)).cell_eq 0 _ rfl
  have c2 : V0.cell? ⟨t2, 0, none⟩ = some (.int .i64 s) := (hb2.below hbV0 (by omega)).cell_eq 0 _ rfl
  have cH := half_yes s hs (hg.below hbV0 (by omega))
  rw [hV0] at c1 c2
  have hnx : ∀ w1, Below V0.heap.size V0 w1 → ∃ V2, V2 = w1.alloc (.cells #[.pointer (some ⟨gsd g0 g1 s, 0, none⟩), .int .i64 (bq b.levels s)] 73) ∧ Below V0.heap.size V0 V2 ∧ Blk V2 w1.heap.size 73 #[.pointer (some ⟨gsd g0 g1 s, 0, none⟩), .int .i64 (bq b.levels s)] := fun w1 h => ⟨_, rfl, h.alloc h.size _, Blk.new _ _ _⟩
  refine callsIn_wide.2 ((callsIn_wide (n := 12)).1 ?_)
  refine callsIn_of_wp_marks Tryd.func80 rfl trivial ?_ rfl
  simp only [Tryd.ntmps80, List.size_toArray, List.length_cons, List.length_nil, Nat.reduceAdd, Nat.reduceSub, Array.replicate_succ, Array.replicate_zero, List.push_toArray, List.append_toArray, List.nil_append, List.cons_append]
  refine wpIn_wide.2 ?_
  go_wp2_with fail
  go_step3
  go_wp2_with (first
    | (go_at_call 38; rw [← hV0]; refine cH.mono ?_; rintro e w1 ⟨rfl, hbw1⟩; clear cH hV0 c1 c2; obtain ⟨V2, hV2, hbV2, hq4⟩ := hnx _ hbw1; have e0 := hq4.cell_eq 0 _ rfl; have hbWV2 : Below W.heap.size W V2 := hbV0.trans (hbV2.mono hbV0.size); have cE := (hBW.rebase hbWV2).leachx hs hP)
    | fail)
  go_step3
  go_wp2_with (first
    | (go_at_call 81; rw [← hV2]; refine cE.mono ?_; rintro e w3 ⟨lb, rfl, hb3, hseq⟩; clear cE)
    | fail)
  refine (wpIn_wide (n := 12)).1 ?_
  have hbw3 : Below W.heap.size W w3 := hbWV2.trans (hb3.mono hbWV2.size)
  have hs3 := hbw3.size
  have hV0s := hbV0.size
  have hV2s := hbV2.size
  have hb3s := hb3.size
  have hw1s := hbw1.size
  have hy0l := hy0.lt
  have hq4l := hq4.lt
  have By := (hy0.below hbV2 hy0l).below hb3 (by omega)
  have Bh := hq4.below hb3 hq4l
  have B1 := hb1.below hbw3 (by omega)
  have B2 := hb2.below hbw3 (by omega)
  have Bg := hg.below hbw3 (by omega)
  have BsW := hBW.rebase hbw3
  have hJ3 : J (fun _ => False) [] w3 := (hJ _).below h0 hbw3
  have hTl : ∀ c, T c ∨ c = l → 2 ≤ c ∧ c < W.heap.size ∧ ¬ So c := fun c e => by
    rcases e with e | rfl
    · obtain ⟨a1, a2, a3, -⟩ := hT c e
      exact ⟨a1, by omega, a3⟩
    · exact ⟨by omega, hlW, fun e => by have := hSo _ e; omega⟩
  have hn1 : ¬ (T t1 ∨ t1 = l) := fun e => by
    rcases e with e | e
    · exact (hT _ e).2.2.2.2.1 rfl
    · omega
  have hng : ¬ (T g ∨ g = l) := fun e => by
    rcases e with e | e
    · exact (hT _ e).2.2.2.1 rfl
    · omega
  have hseq' := hseq (12 - 1) (fun c => T c ∨ c = l) (by omega) (fun c e => ⟨by have := (hTl c e).2.1; omega, (hTl c e).2.2⟩)
  obtain ⟨q3, hq3⟩ : ∃ q3, q3 = W.heap.size := ⟨_, rfl⟩
  obtain ⟨q4, hq4'⟩ : ∃ q4, q4 = w1.heap.size := ⟨_, rfl⟩
  rw [← hq3] at By
  rw [← hq4'] at Bh
  rw [← hq4', ← hq3]
  have hq3l : q3 < w3.heap.size := by omega
  have hq4l' : q4 < w3.heap.size := by omega
  have hn3 : ¬ (T q3 ∨ q3 = l) := fun e => by have := (hTl _ e).2.1; omega
  have hn4 : ¬ (T q4 ∨ q4 = l) := fun e => by have := (hTl _ e).2.1; omega
  clear hseq hb3 hbV2 hbV0 hbw1 hbWV2 hq4 hy0 hb1 hb2 hg hBW h0 hnx hV2 e0 hV0s hV2s hw1s hy0l hq4l
  clear hq4' hq3
  refine range_law5x (F := Fence.wide) rfl (by omega) (gf := 91) (lb := lb) rfl trivial (goes_of Tryd.func91 (by kernel_rfl) rfl) (enc := encL) (fun _ => rfl) (fun c => T c ∨ c = l) (fun c e => by have := (hTl c e).2.1; omega) (G := goodL P) (goodL_put P) hseq'
    (fun Xo pre A => ∃ X, J X (upF Z s P pre.length) A ∧ (∀ c, X c → Xo c) ∧ Frm (fun c => (T c ∨ c = l) ∨ w3.heap.size ≤ c) w3 A)
    (fun c pre A => c = .exit 0 ∧ ∃ ys, ys.length ≤ (flatP Z s P).length ∧ Jx ys A)
    (fun Xo pre A B ⟨X, h1, h3, h2⟩ hf => ⟨X, ((hJ X).mono hs3) _ _ _ h1 hf, h3, h2.trans hf (fun c e => .inl (.inr e.1))⟩)
    (fun c pre A B ⟨h1, ys, h2, h3⟩ hf => ⟨h1, ys, h2, (hJx.mono hs3) _ _ _ h3 hf⟩)
    ⟨fun _ => False, hJ3, fun _ e => e, Frm.refl _ _⟩
    ?a1 (fun y A => A.alloc (.cells (cLvl y) 133)) (fun y A => (Below.refl _ _).alloc (Nat.le_refl _) _) (fun _ _ _ h => h) ?assign ?body ?done ?stop
  case assign =>
    intro l' y V K hK
    simp only [encL]
    gi_wp2
    exact hK
  case body =>
    rintro lo Xo pre y A0 A hlo ⟨r, hr⟩ ⟨X0, hJA, hX0, hFA⟩ hXb hgood hlen hl0 hfA
    have hX0b : ∀ c, X0 c → w3.heap.size + 1 < c ∧ c < A0.heap.size := fun c e => hXb c (hX0 c e)
    subst hlo
    have hy : P[pre.length]? = some y := hgood
    obtain ⟨hqb, hqi⟩ := hlev _ _ hy
    have hA1 := hFA.size
    have hA01 := hfA.size
    rw [World.size_alloc] at hA01
    have hbx := blk_frm (Blk.new A0 133 (cLvl y)) hfA (by omega)
    have hbxl := hbx.lt
    have cA1 := blk_frm B1 hFA (fun e => e.elim hn1 (fun e => by omega))
    have cAg := blk_frm Bg hFA (fun e => e.elim hng (fun e => by omega))
    have cAh := blk_frm Bh hFA (fun e => e.elim hn4 (fun e => by omega))
    have BsA := BsW.turnT hFA (fun c e => e.elim (fun e => .inr ⟨(hTl c e).1, (hTl c e).2.2⟩) .inl)
    have hwr : IntKind.i64.wrap (bq b.levels s + y.queue) = bq b.levels s + y.queue := by
      rw [IntKind.wrap_i64]
      have : 0 ≤ bq b.levels s ∧ bq b.levels s ≤ 200 := by unfold bq; split <;> omega
      omega
    have bz : ∀ w', Below A.heap.size A w' → w'.cell? ⟨t1, 0, none⟩ = some (.pointer (some ⟨g, 0, none⟩)) ∧ w'.cell? ⟨g, 5, none⟩ = some (.pointer (some ⟨gf, 0, none⟩)) ∧ (w'.cell? ⟨q4, 0, none⟩ = some (.pointer (some ⟨gsd g0 g1 s, 0, none⟩)) ∧ w'.cell? ⟨q4, 1, none⟩ = some (.int .i64 (bq b.levels s))) ∧ (w'.cell? ⟨A0.heap.size, 0, none⟩ = some (.int .i64 y.price) ∧ w'.cell? ⟨A0.heap.size, 1, none⟩ = some (.int .i64 y.qty) ∧ w'.cell? ⟨A0.heap.size, 2, none⟩ = some (.int .i64 y.orders) ∧ w'.cell? ⟨A0.heap.size, 3, none⟩ = some (.int .i64 y.queue)) := fun w' h =>
      ⟨(cA1.below h cA1.lt).cell_eq 0 _ rfl, (cAg.below h cAg.lt).cell_eq 5 _ rfl, ⟨(cAh.below h cAh.lt).cell_eq 0 _ rfl, (cAh.below h cAh.lt).cell_eq 1 _ rfl⟩, Lvl.cells (hbx.below h hbxl)⟩
    obtain ⟨U, hU⟩ : ∃ U, U = A.drew := ⟨_, rfl⟩
    obtain ⟨U2, hU2⟩ : ∃ U2, U2 = (U.alloc (.cells #[.pointer (some ⟨gsd g0 g1 s, 0, none⟩), .int .i64 (bq b.levels s)] 73)).alloc (.cells (cLvl y) 133) := ⟨_, rfl⟩
    have hAU : Below A.heap.size A U := by rw [hU]; exact (Below.refl _ _).drew
    have hUs : U.heap.size = A.heap.size := by rw [hU]; rfl
    have hAU2 : Below A.heap.size A U2 := by rw [hU2]; exact (hAU.alloc (by omega) _).alloc (by simp; omega) _
    have cQ := queue_any (.pointer (some ⟨gsd g0 g1 s, 0, none⟩)) (bq b.levels s) y hwr U
    rw [← hU2] at cQ
    obtain ⟨Post, hPost⟩ : ∃ Post : World → Prop, Post = fun w' => Below A.heap.size A w' ∧ ∀ (n : Nat) (T : Nat → Prop), 1 ≤ n → (∀ c, T c → 2 ≤ c ∧ c < U2.heap.size ∧ ¬ So c) → SeqsX Fence.wide n Tryd.prog 94 #[.pointer (some ⟨U2.heap.size, 0, none⟩), .pointer (some ⟨U2.heap.size + 1, 0, none⟩)] encF (goodF ((grp Z s y.price).map (·.1))) T (fun ys => ys.length = ((grp Z s y.price).map (·.1)).length) (fun pre => pre.length ≤ ((grp Z s y.price).map (·.1)).length) ((grp Z s y.price).map (·.1)).length w' := ⟨_, rfl⟩
    have cE2 : Calls Tryd.prog 82 #[.pointer (some ⟨gf, 0, none⟩), .int .i64 (bq b.levels s + y.queue)] U2 fun e w' => e = .returned (.func (.func 94) #[] #[.pointer (some ⟨U2.heap.size, 0, none⟩), .pointer (some ⟨U2.heap.size + 1, 0, none⟩)]) ∧ Post w' := by
      refine ((BsA.rebase hAU2).feach2 _).mono ?_
      rintro e w' ⟨he, hb, hs⟩
      rw [hqi] at hs
      rw [hPost]
      exact ⟨he, hAU2.trans (hb.mono hAU2.size), hs⟩
    have bj : ∀ p q w', Jqe U U2 Post p q w' → Below A.heap.size A w' := by
      intro p q w' h
      unfold Jqe at h
      cases q
      · cases p
        · rw [show w' = U from h]; exact hAU
        · rw [show w' = U2 from h]; exact hAU2
      · rw [hPost] at h; exact h.2.1
    have hl2 : ∀ w', Below A.heap.size A w' → w'.heap[w3.heap.size + 1]? = some (.loop r) := fun w' h => (h.block _ (Array.getElem?_eq_some_iff.1 hr).1).trans hr
    have hJ0 : Jqe U U2 Post false false A.drew := by rw [← hU]; rfl
    have hU2s := hAU2.size
    clear hr hseq' cA1 cAh hbx hJ3 hU hU2 hUs
    gi_wp2
    obtain ⟨v0, v1, v2, v3⟩ := y
    simp only [vLvl, cLvl] at cQ
    simp only at hwr hqb bz cQ cE2
    refine wpIn_region_S_round (S := fun L w => Duo 8 6 7 (Jqe U U2 Post) L w) (by kernel_rfl) (by kernel_rfl) (Duo.start 8 6 7 hJ0) ?_
    refine AllS.next (v := ?_) rfl rfl rfl (by kernel_rfl) ?_ ?_
    rotate_left
    · refine yieldsS_run (fun _ _ h => h.other (by decide) (by decide)) (by rfl) ?_
      intro L wx hS
      obtain ⟨l1, l5, ⟨e0, e1⟩, ⟨v0', v1', v2', v3'⟩⟩ := bz _ (bj _ _ _ hS.at')
      go_simp
      try with_reducible rfl
    try simp only [Act.put, List.setIfInBounds_toArray, List.set_cons_zero, List.set_cons_succ, List.getElem_toArray, List.getElem_cons_zero, List.getElem_cons_succ]
    refine AllS.next (v := ?_) rfl rfl rfl (by kernel_rfl) ?_ ?_
    rotate_left
    · refine yieldsS_run (fun _ _ h => h.other (by decide) (by decide)) (by rfl) ?_
      intro L wx hS
      go_simp
      try with_reducible rfl
    try simp only [Act.put, List.setIfInBounds_toArray, List.set_cons_zero, List.set_cons_succ, List.getElem_toArray, List.getElem_cons_zero, List.getElem_cons_succ]
    refine AllS.next (v := ?_) rfl rfl rfl (by kernel_rfl) ?_ ?_
    rotate_left
    · refine yieldsS_run (fun _ _ h => h.other (by decide) (by decide)) (by rfl) ?_
      intro L wx hS
      go_simp
      try with_reducible rfl
    try simp only [Act.put, List.setIfInBounds_toArray, List.set_cons_zero, List.set_cons_succ, List.getElem_toArray, List.getElem_cons_zero, List.getElem_cons_succ]
    refine AllS.next (v := ?_) rfl rfl rfl (by kernel_rfl) ?_ ?_
    rotate_left
    · refine yieldsS_run (fun _ _ h => h.other (by decide) (by decide)) (by rfl) ?_
      intro L wx hS
      obtain ⟨l1, l5, ⟨e0, e1⟩, ⟨v0', v1', v2', v3'⟩⟩ := bz _ (bj _ _ _ hS.at')
      go_simp
      try with_reducible rfl
    try simp only [Act.put, List.setIfInBounds_toArray, List.set_cons_zero, List.set_cons_succ, List.getElem_toArray, List.getElem_cons_zero, List.getElem_cons_succ]
    refine AllS.next (v := ?_) rfl rfl rfl (by kernel_rfl) ?_ ?_
    rotate_left
    · refine yieldsS_run (fun _ _ h => h.other (by decide) (by decide)) (by rfl) ?_
      intro L wx hS
      obtain ⟨l1, l5, ⟨e0, e1⟩, ⟨v0', v1', v2', v3'⟩⟩ := bz _ (bj _ _ _ hS.at')
      go_simp
      try with_reducible rfl
    try simp only [Act.put, List.setIfInBounds_toArray, List.set_cons_zero, List.set_cons_succ, List.getElem_toArray, List.getElem_cons_zero, List.getElem_cons_succ]
    refine AllS.next (v := ?_) rfl rfl rfl (by kernel_rfl) ?_ ?_
    rotate_left
    · refine yieldsS_run (fun _ _ h => h.other (by decide) (by decide)) (by rfl) ?_
      intro L wx hS
      obtain ⟨l1, l5, ⟨e0, e1⟩, ⟨v0', v1', v2', v3'⟩⟩ := bz _ (bj _ _ _ hS.at')
      go_simp
      try with_reducible rfl
    try simp only [Act.put, List.setIfInBounds_toArray, List.set_cons_zero, List.set_cons_succ, List.getElem_toArray, List.getElem_cons_zero, List.getElem_cons_succ]
    refine AllS.next (v := .int .i64 (bq b.levels s + v3)) rfl rfl rfl (by kernel_rfl) ?_ ?_
    · refine yieldsS_callq (f := 83) (args := #[.agg #[.pointer (some ⟨gsd g0 g1 s, 0, none⟩), .int .i64 (bq b.levels s)], .agg #[.int .i64 v0, .int .i64 v1, .int .i64 v2, .int .i64 v3]]) (by rfl) ?_ ?_
      · intro wx
        go_simp
        try with_reducible rfl
      · intro L wx hL hS
        exact hS.fst hL (by decide) (by decide) (fun q w h => by
        cases q
        · rw [show w = U from h]; exact cQ
        · exact absurd h.1 (by decide))
    try simp only [Act.put, List.setIfInBounds_toArray, List.set_cons_zero, List.set_cons_succ, List.getElem_toArray, List.getElem_cons_zero, List.getElem_cons_succ]
    refine AllS.next (v := .func (.func 94) #[] #[.pointer (some ⟨U2.heap.size, 0, none⟩), .pointer (some ⟨U2.heap.size + 1, 0, none⟩)]) rfl rfl rfl (by kernel_rfl) ?_ ?_
    · refine yieldsS_callq (f := 82) (args := #[.pointer (some ⟨gf, 0, none⟩), .int .i64 (bq b.levels s + v3)]) (by rfl) ?_ ?_
      · intro wx
        go_simp
        try with_reducible rfl
      · intro L wx hL hS
        exact hS.snd1 hL (by decide) (by decide) (ready_dep hL (by kernel_rfl)) (fun h => by
        rw [show _ = U2 from h]
        exact cE2.mono fun e w' h => ⟨h.1, rfl, h.2⟩)
    try simp only [Act.put, List.setIfInBounds_toArray, List.set_cons_zero, List.set_cons_succ, List.getElem_toArray, List.getElem_cons_zero, List.getElem_cons_succ]
    refine AllS.done rfl ?_
    intro w9 hS9
    have k9 : Post w9 := (Duo.fin hS9 (by rfl) (by rfl)).2
    rw [hPost] at k9
    obtain ⟨hb9, hs9⟩ := k9
    clear hS9 hJ0 bj cQ cE2 hPost
    have hl9 := hl2 _ hb9
    gi_wp2
    have hs9s := hb9.size
    obtain ⟨T2, hT2⟩ : ∃ T2 : Nat → Prop, T2 = fun c => (T c ∨ c = l) ∨ X0 c := ⟨_, rfl⟩
    have hT2b : ∀ c, T2 c → 2 ≤ c ∧ c < A.heap.size ∧ ¬ So c := fun c e => by
      rw [hT2] at e
      rcases e with e | e
      · obtain ⟨a1, a2, a3⟩ := hTl c e
        exact ⟨a1, by omega, a3⟩
      · have := hX0b c e
        exact ⟨by omega, by omega, fun e' => by have := hSo c e'; omega⟩
    have hT2l : ∀ c, T c ∨ c = l → T2 c := fun c e => by rw [hT2]; exact .inl e
    have hT2x : ∀ c, X0 c → T2 c := fun c e => by rw [hT2]; exact .inr e
    have hwB : ∀ B, Frm (fun c => T2 c ∨ w9.heap.size ≤ c) w9 B → Frm (fun c => (T c ∨ c = l) ∨ w3.heap.size ≤ c) w3 B := fun B hF => (hFA.trans (Frm.of_below (S := fun _ => False) hb9) (fun _ e => e.elim)).trans hF (fun c e => by
      rw [hT2] at e
      rcases e with (e | e) | e
      · exact .inl (.inl e)
      · have := hX0b c e; exact .inr (by omega)
      · exact .inr (by omega))
    have hAB : ∀ B, Frm (fun c => T2 c ∨ w9.heap.size ≤ c) w9 B → Frm (fun c => (T c ∨ c = l) ∨ Xo c) A B := fun B hF => (Frm.of_below (S := fun c => (T c ∨ c = l) ∨ Xo c) hb9).trans hF (fun c e => by
      rw [hT2] at e
      rcases e with (e | e) | e
      · exact .inl (.inl e)
      · exact .inl (.inr (hX0 c e))
      · exact .inr (by omega))
    have hJ9 := (hJ X0).below hJA hb9
    have hup1 := upF_succ (Z := Z) (s := s) hy
    have hgl2 : ((grp Z s v0).map (·.1)).length = ((grp Z s v0).map (·.2)).length := by simp
    simp only at hup1
    clear hl2 bz BsA cAg hfA hbxl hAU hAU2 hqi hgood hFA hJA hT2
    refine range_law6x (F := Fence.wide.inRound (w3.heap.size + 1)) (l₀ := w3.heap.size + 1) (r₀ := r) rfl hl9 (by omega) (gf := 94) (lb := #[.pointer (some ⟨U2.heap.size, 0, none⟩), .pointer (some ⟨U2.heap.size + 1, 0, none⟩)]) rfl trivial (goes_of Tryd.func94 (by kernel_rfl) rfl) (enc := encF) (fun _ => rfl) T2 (fun c e => by have := (hT2b c e).2.1; omega) (G := goodF ((grp Z s v0).map (·.1))) (goodF_put _) ((hs9 (10 - 1) T2 (by omega) (fun c e => ⟨(hT2b c e).1, by have := (hT2b c e).2.1; omega, (hT2b c e).2.2⟩)).inRound (w3.heap.size + 1))
      (fun Y pre2 B => ∃ X, J X (upF Z s P pre.length ++ ((grp Z s v0).map (·.2)).take pre2.length) B ∧ (∀ c, X c → X0 c ∨ (Y c ∧ w9.heap.size ≤ c ∧ c < B.heap.size)) ∧ Frm (fun c => T2 c ∨ w9.heap.size ≤ c) w9 B)
      (fun c pre2 B => c = .exit 0 ∧ (∃ ys, ys.length ≤ (flatP Z s P).length ∧ Jx ys B) ∧ Frm (fun c => T2 c ∨ w9.heap.size ≤ c) w9 B)
      (fun Y pre A B ⟨X, h1, h3, h2⟩ hf => ⟨X, ((hJ X).mono (by omega)) _ _ _ h1 hf, fun c e => (h3 c e).imp id (fun e => ⟨e.1, e.2.1, Nat.lt_of_lt_of_le e.2.2 hf.size⟩), h2.trans hf (fun c e => .inl (.inr e.1))⟩)
      (fun c pre A B ⟨h1, ⟨ys, h2, h3⟩, h4⟩ hf => ⟨h1, ⟨ys, h2, (hJx.mono (by omega)) _ _ _ h3 hf⟩, h4.trans hf (fun c e => .inl (.inr e.1))⟩)
      ⟨X0, by simpa using hJ9, fun _ e => .inl e, Frm.refl _ _⟩
      ?a2 (fun _ A => A) (fun _ A => Below.refl _ _) (fun _ _ _ h => h) ?assign2 ?body2 ?done2 ?stop2
    case assign2 =>
      intro l' y V K hK
      simp only [encF]
      gi_wp2
      exact hK
    case body2 =>
      rintro li Y pre2 i B0 B ⟨X1, hJB, hX1, hFB⟩ hYb hgood2 hlen2 hl02 hfB
      have hi2 : ((grp Z s v0).map (·.1))[pre2.length]? = some i := hgood2
      obtain ⟨ha, oo, ho, hgo⟩ := hslot v0 _ _ hi2
      obtain ⟨hat, hltN, hsucc⟩ := upF_at hy hgo
      simp only at hat hltN hsucc
      have hwb := hwB B hFB
      have hFBs := hFB.size
      have BsB := BsW.turnT hwb (fun c e => e.elim (fun e => .inr ⟨(hTl c e).1, (hTl c e).2.2⟩) .inl)
      have cG := BsB.get ha ho
      have c1 : B.cell? ⟨t1, 0, none⟩ = some (.pointer (some ⟨g, 0, none⟩)) := (blk_frm B1 hwb (fun e => e.elim hn1 (fun e => by omega))).cell_eq 0 _ rfl
      have c0 : B.cell? ⟨g, 0, none⟩ = some (.pointer (some ⟨ga, 0, none⟩)) := (blk_frm Bg hwb (fun e => e.elim hng (fun e => by omega))).cell_eq 0 _ rfl
      have hy3 := blk_frm By hwb (fun e => e.elim hn3 (fun e => by omega))
      have hnx : ∀ w', Below B.heap.size B w' → ∃ V, V = w'.alloc (.cells (cOrd oo) 44) ∧ Below B.heap.size B V ∧ Blk V w'.heap.size 44 (cOrd oo) ∧ V.cell? ⟨q3, 0, none⟩ = some (.func (.yield l) #[] #[]) := fun w' h => by
        obtain ⟨V, e1, e2, e3⟩ := ordBox w' oo
        have e4 := h.trans (e2.mono h.size)
        exact ⟨V, e1, e4, e3, (hy3.below e4 hy3.lt).cell_eq 0 _ rfl⟩
      have hX1b : ∀ c, X1 c → W.heap.size ≤ c ∧ c < B.heap.size := fun c e => by
        rcases hX1 c e with e | e
        · have := hX0b c e; omega
        · omega
      have hYq := fun V (hb : Below B.heap.size B V) => Go.Proofs.YtdmjcjheanedgaaDoor.YieldAt.wideN (m' := 7) (l' := li) (hY X1 _ oo V ((hJ X1).below hJB hb) (fun c e => ⟨(hX1b c e).1, by have := (hX1b c e).2; have := hb.size; omega⟩) hat hltN)
      have hend : ∀ V B', Below B.heap.size B V → Frm (fun c => T c ∨ c = l ∨ X1 c) V B' → Frm (fun c => T2 c ∨ Y c) B B' ∧ Frm (fun c => T2 c ∨ w9.heap.size ≤ c) w9 B' := fun V B' hb hf => by
        have e1 : Frm (fun c => T c ∨ c = l ∨ X1 c) B B' := (Frm.of_below (S := fun c => T c ∨ c = l ∨ X1 c) hb).trans hf (fun c e => .inl e)
        refine ⟨e1.mono fun c _ e => ?_, hFB.trans e1 fun c e => .inl ?_⟩
        · rcases e with e | e | e
          · exact .inl (hT2l c (.inl e))
          · exact .inl (hT2l c (.inr e))
          · exact (hX1 c e).imp (hT2x c) (fun e => e.1)
        · rcases e with e | e | e
          · exact .inl (hT2l c (.inl e))
          · exact .inl (hT2l c (.inr e))
          · exact (hX1 c e).imp (hT2x c) (fun e => e.2.1)
      have hgrw : ∀ V B' X', Below B.heap.size B V → V.heap.size ≤ B'.heap.size → Grw X1 X' V B' → ∀ c, X' c → X0 c ∨ ((Y c ∨ (B.heap.size ≤ c ∧ c < B'.heap.size)) ∧ w9.heap.size ≤ c ∧ c < B'.heap.size) := fun V B' X' hb hs hg c e => by
        have hbs := hb.size
        rcases hg c e with e | e
        · exact (hX1 c e).imp id (fun e => ⟨.inl e.1, e.2.1, by omega⟩)
        · exact .inr ⟨.inr ⟨by omega, e.2⟩, by omega, e.2⟩
      rw [hsucc] at hYq
      have hlp : (pre2 ++ [i]).length = pre2.length + 1 := by simp
      have hlx : (upF Z s P pre.length ++ ((grp Z s v0).map (·.2)).take (pre2.length + 1)).length ≤ (flatP Z s P).length := by
        have e := congrArg List.length hsucc
        rw [List.length_append (bs := [oo])] at e
        have : [oo].length = 1 := rfl
        omega
      replace hlp := Lib.hid hlp
      replace hlx := Lib.hid hlx
      replace hend := Lib.hid hend
      replace hgrw := Lib.hid hgrw
      clear hgood2 hlen2 hfB hi2 ha ho hgo hat hltN hsucc hwb BsB hy3 hJB hFB hY hJ9 hs9 hl9 hwB hAB hlev hslot hX1 hX1b hT2b hT2l hT2x
      obtain ⟨o0, o1, o2, o3, o4, o5, o6⟩ := oo
      simp only [vOrd] at cG
      simp only [cOrd] at hnx
      gi_wp2_with (first
        | (gi_at_call 67; refine (CallsIn.inRound li (CallsIn.inRound (w3.heap.size + 1) (callsIn_wide.2 cG))).mono ?_; rintro e w10 ⟨rfl, hb10⟩; clear cG c1 c0; obtain ⟨V, hV, hbV, hBV, cy⟩ := hnx _ hb10; obtain ⟨z0, z1, z2, z3, z4, z5, z6⟩ := Ord.cells (m := ⟨o0, o1, o2, o3, o4, o5, o6⟩) hBV; simp only at z0 z1 z2 z3 z4 z5 z6; obtain ⟨fn, tmps, assign, body, hyy, hRR⟩ := hYq V hbV; clear hYq hnx hb10 hBV; dsimp only [encO, vOrd] at hyy hRR)
        | (rw [← hV]; clear hV)
        | (refine hRR.mono ?_; rintro e W3 h3; obtain ⟨kk, rfl, hk⟩ := merge3 h3; rcases hk with ⟨rfl, X', hJ3, hG3, hk3⟩ | ⟨rfl, hJx3, hk3⟩))
      all_goals first
        | (obtain ⟨e1, e2⟩ := hend.out V W3 hbV hk3
           exact ⟨e1, fun c => Y c ∨ (B.heap.size ≤ c ∧ c < W3.heap.size), fun _ e => e, X', by rw [hlp.out]; exact hJ3, hgrw.out V W3 X' hbV hk3.size hG3, e2⟩)
        | (obtain ⟨e1, e2⟩ := hend.out V W3 hbV hk3
           exact ⟨e1, rfl, ⟨_, hlx.out, hJx3⟩, e2⟩)
        | trace_state
    case done2 =>
      rintro xs Y B hxs ⟨X1, h1, hX1, h2⟩
      have e1 : J X1 (upF Z s P (pre ++ [(⟨v0, v1, v2, v3⟩ : Lvl)]).length) B := by
        have e2 : (pre ++ [(⟨v0, v1, v2, v3⟩ : Lvl)]).length = pre.length + 1 := by simp
        rw [e2, hup1, ← List.take_length (l := (grp Z s v0).map (·.2)), ← hgl2]
        rw [hxs] at h1
        exact h1
      have e3 := hAB B h2
      have e4 := hwB B h2
      have e5 : ∀ c, X1 c → Xo c ∨ (A.heap.size ≤ c ∧ c < B.heap.size) := fun c e => (hX1 c e).imp (hX0 c) (fun e => ⟨by omega, e.2.2⟩)
      clear h1 h2 hs9 hJ9 hl9 hY hAB hwB hlev hslot hX1
      gi_wp2
      exact ⟨e3, fun c => Xo c ∨ (A.heap.size ≤ c ∧ c < B.heap.size), fun _ e => e, X1, e1, e5, e4⟩
    case stop2 =>
      rintro c pre2 B hsp ⟨rfl, ⟨ys, h1, h2⟩, h3⟩
      have e3 := hAB B h3
      clear h3 hs9 hJ9 hl9 hY hAB hwB hlev hslot
      gi_wp2
      exact ⟨e3, rfl, ys, h1, h2⟩
  case done =>
    rintro D ys Xo V hD hys ⟨X0, h1, -, h2⟩ hK
    rw [hys, upF_all] at h1
    have hfin : J X0 (flatP Z s P) (V.putObj D (.deferred none)) := hJ X0 _ _ _ h1 (Frm.put _ _ _ ⟨by omega, _, hK, rfl⟩)
    clear h1 h2 hY hlev hslot hseq' BsW B1 B2 Bg By Bh
    go_wp2_with fail
    rw [Exit.noGoto_normal]
    refine ⟨by simp, .inl ⟨_, _, rfl, run_takeDeferred hK, ?_⟩⟩
    exact ⟨_, results_none rfl _ _ _, ⟨_, rfl⟩, .inl ⟨_, _, rfl, hfin⟩⟩
  case stop =>
    rintro D c pre V hD hsp ⟨rfl, ys, h1, h2⟩ hK
    have hfin : Jx ys (V.putObj D (.deferred none)) := hJx _ _ _ h2 (Frm.put _ _ _ ⟨by omega, _, hK, rfl⟩)
    clear h2 hY hlev hslot hseq' BsW B1 B2 Bg By Bh
    refine wpIn_wide.2 ?_
    go_wp2_with fail
    rw [Exit.noGoto_normal]
    refine ⟨by simp, .inl ⟨_, _, rfl, run_takeDeferred hK, ?_⟩⟩
    exact ⟨_, results_none rfl _ _ _, ⟨_, rfl⟩, .inr ⟨_, h1, hfin⟩⟩
set_option maxRecDepth 100000 in
set_option maxHeartbeats 8000000 in
/-- Of no side, or of no book, it yields nothing. -/
theorem walk_none (p : Option Addr) (s : Int) (t1 t2 : Nat) (T1 T2 : TypeId) (w : World) (T : Nat → Prop) (n : Nat) (hb1 : Blk w t1 T1 #[.pointer p]) (hb2 : Blk w t2 T2 #[.int .i64 s]) (cH0 : ∀ V, Calls Tryd.prog 38 #[.pointer p, .int .i64 s] V fun e w' => e = .returned (.agg #[.pointer none, .int .i64 0]) ∧ Below V.heap.size V w')
    (G : List Ord → Ord → World → Prop) :
    SeqsX Fence.wide n Tryd.prog 80 #[.pointer (some ⟨t1, 0, none⟩), .pointer (some ⟨t2, 0, none⟩)] encO G T (fun ys => ys = []) (fun _ => False) 0 w := by
  intro l J Jx W hW hlW hlw hJ hJx hY h0
  clear hY
  have hl1 := hb1.lt
  have hl2 := hb2.lt
  have hWs := hW.size
  replace hb1 := hb1.below hW hl1
  replace hb2 := hb2.below hW hl2
  obtain ⟨V0, hV0⟩ : ∃ V0, V0 = W.alloc (.cells #[.func (.yield l) #[] #[]] 135) := ⟨_, rfl⟩
  have hbV0 : Below W.heap.size W V0 := by rw [hV0]; exact (Below.refl _ _).alloc (Nat.le_refl _) _
  have c1 : V0.cell? ⟨t1, 0, none⟩ = some (.pointer p) := (hb1.below hbV0 (by omega)).cell_eq 0 _ rfl
  have c2 : V0.cell? ⟨t2, 0, none⟩ = some (.int .i64 s) := (hb2.below hbV0 (by omega)).cell_eq 0 _ rfl
  have cH := cH0 V0
  rw [hV0] at c1 c2
  have hnx : ∀ w1, Below V0.heap.size V0 w1 → ∃ V2, V2 = w1.alloc (.cells #[.pointer none, .int .i64 0] 73) ∧ Below V0.heap.size V0 V2 ∧ Blk V2 w1.heap.size 73 #[.pointer none, .int .i64 0] := fun w1 h => ⟨_, rfl, h.alloc h.size _, Blk.new _ _ _⟩
  clear cH0
  refine callsIn_wide.2 ((callsIn_wide (n := 12)).1 ?_)
  refine callsIn_of_wp_marks Tryd.func80 rfl trivial ?_ rfl
  simp only [Tryd.ntmps80, List.size_toArray, List.length_cons, List.length_nil, Nat.reduceAdd, Nat.reduceSub, Array.replicate_succ, Array.replicate_zero, List.push_toArray, List.append_toArray, List.nil_append, List.cons_append]
  refine wpIn_wide.2 ?_
  go_wp2_with fail
  go_step3
  go_wp2_with (first
    | (go_at_call 38; rw [← hV0]; refine cH.mono ?_; rintro e w1 ⟨rfl, hbw1⟩; clear cH hV0 c1 c2; obtain ⟨V2, hV2, hbV2, hq4⟩ := hnx _ hbw1; have e0 := hq4.cell_eq 0 _ rfl; have hbWV2 : Below W.heap.size W V2 := hbV0.trans (hbV2.mono hbV0.size); have cE := peach_any none V2)
    | fail)
  rw [← hV2]
  clear hV2
  go_step3
  go_wp2_with (first
    | (go_at_call 81; refine cE.mono ?_; rintro e w3 ⟨rfl, hb3, T3, hB3⟩; clear cE)
    | fail)
  refine (wpIn_wide (n := 12)).1 ?_
  have hbw3 : Below W.heap.size W w3 := hbWV2.trans (hb3.mono hbWV2.size)
  have hs3 := hbw3.size
  have hJ3 : J (fun _ => False) [] w3 := (hJ _).below h0 hbw3
  have hseq := peachNil_seqs Fence.wide rfl (12 - 1) (by omega) V2.heap.size T3 w3 hB3 (fun _ => False)
  clear hb1 hb2 hnx e0 hq4 hbV2 hbw1 hbV0 hb3 hB3 h0
  refine range_law5x (F := Fence.wide) rfl (by omega) (gf := 91) (lb := #[.pointer (some ⟨V2.heap.size, 0, none⟩)]) rfl trivial (goes_of Tryd.func91 (by kernel_rfl) rfl) (enc := encL) (fun _ => rfl) (fun _ => False) (fun c e => e.elim) (G := fun _ _ _ => False) lgoodNo_put (SeqsX.none hseq)
    (fun _ _ A => J (fun _ => False) [] A) (fun _ _ _ => False)
    (fun _ pre A B h1 hf => ((hJ _).mono hs3) _ _ _ h1 hf)
    (fun c pre A B h1 hf => h1)
    hJ3
    ?a1 (fun y A => A.alloc (.cells (cLvl y) 133)) (fun y A => (Below.refl _ _).alloc (Nat.le_refl _) _) (fun _ _ _ h => h) ?assign ?body ?done ?stop
  case assign =>
    intro l' y V K hK
    simp only [encL]
    gi_wp2
    exact hK
  case body =>
    rintro lo X pre y A0 A hlo hr hJA hX hgood
    exact hgood.elim
  case stop =>
    rintro D c pre V hD hsp
    exact hsp.elim
  case done =>
    rintro D ys X V hD hys h1 hK
    have hfin : J (fun _ => False) [] (V.putObj D (.deferred none)) := hJ _ _ _ _ h1 (Frm.put _ _ _ ⟨by omega, _, hK, rfl⟩)
    clear h1 hseq
    go_wp2_with fail
    rw [Exit.noGoto_normal]
    refine ⟨by simp, .inl ⟨_, _, rfl, run_takeDeferred hK, ?_⟩⟩
    exact ⟨_, results_none rfl _ _ _, ⟨_, rfl⟩, .inl ⟨_, _, rfl, hfin⟩⟩
/-- The function itself. -/
theorem walk_any (p : Option Addr) (s : Int) (W : World) : Calls Tryd.prog 65 #[.pointer p, .int .i64 s] W fun e w' => e = .returned (.func (.func 80) #[] #[.pointer (some ⟨W.heap.size, 0, none⟩), .pointer (some ⟨W.heap.size + 1, 0, none⟩)]) ∧ Below W.heap.size W w' ∧ ∃ T1 T2, Blk w' W.heap.size T1 #[.pointer p] ∧ Blk w' (W.heap.size + 1) T2 #[.int .i64 s] := by
  have hA : Blk ((W.alloc (.cells #[.pointer p] 24)).alloc (.cells #[.int .i64 s] 3)) W.heap.size 24 #[.pointer p] := (Blk.new _ _ _).alloc _
  have hB : Blk ((W.alloc (.cells #[.pointer p] 24)).alloc (.cells #[.int .i64 s] 3)) (W.heap.size + 1) 3 #[.int .i64 s] := Blk.new' (by simp)
  have hbel : Below W.heap.size W ((W.alloc (.cells #[.pointer p] 24)).alloc (.cells #[.int .i64 s] 3)) := ((Below.refl _ _).alloc (Nat.le_refl _) _).alloc (by simp) _
  go_enter Tryd.func65, Tryd.ntmps65
  go_wp2_with fail
  go_ret
  exact ⟨rfl, hbel, _, _, hA, hB⟩
theorem bkOf_none (L : List Ord) (s : Int) (hs : ¬ (s = 0 ∨ s = 1)) (h : ∀ y ∈ L, y.side = 0 ∨ y.side = 1) : bkOf L s = [] := by
  rw [List.eq_nil_iff_forall_not_mem]
  intro y hy
  have h1 := bkOf_mem.1 hy
  have := h y h1.1
  omega
/-- What the walk that it hands back yields: of a book. -/
theorem walk_book (s : Int) (h : PB W g S k b) : Calls Tryd.prog 65 #[.pointer (some ⟨g, 0, none⟩), .int .i64 s] W fun e w' => ∃ lb, e = .returned (.func (.func 80) #[] lb) ∧ Below W.heap.size W w' ∧
    ∀ V, Below w'.heap.size w' V → ∀ (n : Nat) (T : Nat → Prop), (∀ c, T c → 2 ≤ c ∧ c < V.heap.size ∧ ¬ S c ∧ (c < W.heap.size ∨ w'.heap.size ≤ c)) → SeqsX Fence.wide n Tryd.prog 80 lb encO (goodO (bkOf b.L s)) T (fun ys => ys.length = (bkOf b.L s).length) (fun pre => pre.length ≤ (bkOf b.L s).length) (bkOf b.L s).length V := by
  obtain ⟨ga, gf, gx, g0, g1, Sf, Sx, S1, S2, Z, a, x, f, d, h⟩ := h
  have ho := h.own
  refine (walk_any (some ⟨g, 0, none⟩) s W).mono ?_
  rintro e w' ⟨he, hb, T1, T2, hA, hB⟩
  refine ⟨_, he, hb, fun V hV n T hT => ?_⟩
  have hlg := h.blk.lt
  have hbs := hb.size
  have hBl := hB.lt
  have hVs := hV.size
  have hbV : Below W.heap.size W V := hb.trans (hV.mono hbs)
  by_cases hs : s = 0 ∨ s = 1
  · refine walk_seqs (So := fun c => ∃ i, own5 ga Sf Sx S1 S2 i c) s hs _ _ T1 T2 V T n (hA.below hV hA.lt) (hB.below hV hBl) (h.blk.below hbV hlg) h.rl ⟨Frm.refl _ _, Sf, Sx, S1, S2, h.p.below hbV, fun i c e => .inl ⟨i, e⟩⟩ (fun c ⟨i, e⟩ => by have := h.p.lt i c e; omega) (fun c e => ?_)
    obtain ⟨a1, a2, a3, a4⟩ := hT c e
    rw [ho] at a3
    exact ⟨a1, a2, fun e => a3 (.inr e), fun e => a3 (.inl e), by omega, by omega⟩
  · rw [bkOf_none _ _ hs fun y hy => (h.rl.ok.ok y hy).side]
    intro l J Jx V1 hV1 hlV hlw hJ hJx hY h0
    refine ((walk_none (some ⟨g, 0, none⟩) s _ _ T1 T2 V T n (hA.below hV hA.lt) (hB.below hV hBl) (fun V => half_no s hs g V) (fun _ _ _ => False)) l J Jx V1 hV1 hlV hlw hJ hJx (fun _ _ _ _ _ _ h => h.elim) h0).mono ?_
    rintro e B ⟨h1, h2⟩
    refine ⟨h1, h2.elim (fun ⟨xs, X, e, h⟩ => .inl ⟨xs, X, by rw [e], h⟩) (fun ⟨pre, e, _⟩ => e.elim)⟩
theorem walk_nil (s : Int) (W : World) : Calls Tryd.prog 65 #[.pointer none, .int .i64 s] W fun e w' => ∃ lb, e = .returned (.func (.func 80) #[] lb) ∧ Below W.heap.size W w' ∧
    ∀ V, Below w'.heap.size w' V → ∀ (n : Nat) (T : Nat → Prop), SeqsX Fence.wide n Tryd.prog 80 lb encO (goodO []) T (fun ys => ys.length = ([] : List Ord).length) (fun pre => pre.length ≤ ([] : List Ord).length) ([] : List Ord).length V := by
  refine (walk_any none s W).mono ?_
  rintro e w' ⟨he, hb, T1, T2, hA, hB⟩
  refine ⟨_, he, hb, fun V hV n T => ?_⟩
  intro l J Jx V1 hV1 hlV hlw hJ hJx hY h0
  refine ((walk_none none s _ _ T1 T2 V T n (hA.below hV hA.lt) (hB.below hV hB.lt) (fun V => half_nil s V) (fun _ _ _ => False)) l J Jx V1 hV1 hlV hlw hJ hJx (fun _ _ _ _ _ _ h => h.elim) h0).mono ?_
  rintro e B ⟨h1, h2⟩
  refine ⟨h1, h2.elim (fun ⟨xs, X, e, h⟩ => .inl ⟨xs, X, by rw [e], h⟩) (fun ⟨pre, e, _⟩ => e.elim)⟩
end
end Go.Proofs.YtdmjcjheanedgaaDoor
namespace Go.Proofs.YtdmjcjheanedgaaDoor
open Go.RowKit
set_option linter.unusedSimpArgs false
attribute [local go_sem] Oper.semAt_some
attribute [local go_sem] wide_fn
section
variable {w W : World} {g k : Nat} {S T : Nat → Prop} {b : Bk}
end
end Go.Proofs.YtdmjcjheanedgaaDoor
