/-
  The walk of SessionChanges.
-/
import Derived.Test.YtjcopnhienijjaaSesI
namespace Go.Proofs.Ytjcopnhienijjaa
open Go.RowKit
attribute [local go_sem] Oper.semAt_some
theorem goodC_put (l : List Rowp) (pre : List Rowp) (x : Rowp) (A : World) (lb : Nat) (o o' : Obj) (h : goodC l pre x A) (_ : A.heap[lb]? = some o) (_ : o.isCells = false) : goodC l pre x (A.putObj lb o') := h
set_option maxRecDepth 100000 in
set_option maxHeartbeats 2000000 in
theorem schanges_any (ao : Option Addr) (cap : Nat) (l : List Rowp) (stop : Int) (W : World) (hL : Rowps W ao cap l) :
    Calls Try.prog 4 #[.slice ao l.length cap, .int .i64 stop] W fun e w' => e = .returned (.bool true) ∧ Below W.heap.size W w' := by
  have hl := hL.len
  have hm := hL.top
  unfold maxLen at hm
  obtain ⟨W1, hW1⟩ : ∃ W1, W1 = (W.alloc (.cells #[.int .i64 stop] 3)).alloc (.cells #[.bool false] 4) := ⟨_, rfl⟩
  have m1 : Mem W [(W.heap.size + 1, 4, #[.bool false]), (W.heap.size, 3, #[.int .i64 stop])] W1 := by
    rw [hW1]
    exact ((Mem.start W).new _ _).new' _ _ (by simp)
  have cLt := fun w hw => light_any ao cap l 0 w hw
  by_cases hg : Ris l ∧ l.length ≤ 60 ∧ (0 : Int) ≤ 0
  · obtain ⟨hR, h60, -⟩ := hg
    have hcl := chL_len l 0
    refine (callsIn_wide (n := 6)).1 ?_
    refine callsIn_of_wp_marks Try.func4 rfl trivial ?_ rfl
    simp only [Try.ntmps4, List.size_toArray, List.length_cons, List.length_nil, Nat.reduceAdd, Nat.reduceSub, Array.replicate_succ, Array.replicate_zero, List.push_toArray, List.append_toArray, List.nil_append, List.cons_append]
    gi_wp2_with (first
      | (refine ⟨trivial, ?_⟩; gi_at_call 8; rw [← hW1]; refine (callsIn_wide.2 (alive8_any W1)).mono ?_; rintro e w2 ⟨rfl, hb2⟩; have m2 := m1.keep hb2; clear m1 hW1 hb2)
      | (refine ⟨trivial, ?_⟩; gi_at_call 7; refine (callsIn_wide.2 (cLt _ (hL.below m2.below))).mono ?_; rintro e w3 ⟨kk, rfl, -, hb3⟩; have m3 := m2.keep hb3; clear m2 hb3; have hr3 := m3.blk (W.heap.size + 1) 4 #[.bool false] (by simp); have d0 := hr3.cell_eq 0 _ rfl; have d1 := hr3.free 0; cases kk)
      | (refine ⟨trivial, ?_⟩; gi_at_call 13; refine (callsIn_wide.2 (refChanges_any ao cap l (by omega) _ (hL.below m3.below))).mono ?_; rintro e w4 ⟨ko, oc, oo, rfl, hG⟩; have m4 := ((m3.keep hG.bel).new 22 #[.slice oo (chL 0 l).length oc]).new' (n := w4.heap.size + 1) 3 #[.int .i64 0] (by simp))
      | (refine ⟨trivial, ?_⟩; gi_at_call 14; refine (callsIn_wide.2 (changes_any ao cap l (by omega) _ (hL.below m4.below))).mono ?_; rintro e w5 ⟨Bs, ao5, cap5, rfl, hb5, hL5, hbel5, hBs, hk5⟩; have m5 := m4.keep hbel5))
    · have hfin3 := m3.below.setCell (p := ⟨W.heap.size + 1, 0, none⟩) (by simp) (.bool true)
      have hcr : (w3.setCell ⟨W.heap.size + 1, 0, none⟩ (.bool true)).cell? ⟨W.heap.size + 1, 0, none⟩ = some (.bool true) := (hr3.set 0 (.bool true)).cell_eq 0 _ rfl
      refine ⟨.bool true, ?_, rfl, hfin3⟩
      simp [results, Try.results4, go_sem, hcr]
    · have hr4 := m4.blk (W.heap.size + 1) 4 #[.bool false] (by simp)
      have hs5 := hbel5.size
      simp only [World.size_alloc] at hs5 hBs hk5
      have hW3 : W.heap.size + 1 < w3.heap.size := hr3.lt
      have hs4 := hG.bel.size
      have hn5 := m5.blk (w4.heap.size + 1) 3 #[.int .i64 0] (by simp)
      have hr5 := m5.blk (W.heap.size + 1) 4 #[.bool false] (by simp)
      have ht5 := m5.blk W.heap.size 3 #[.int .i64 stop] (by simp)
      have hl5 := m5.blk w4.heap.size 22 #[.slice oo (chL 0 l).length oc] (by simp)
      have hO4 : Rowps w4 oo oc (chL 0 l) := Rowps.of_own hG.ow
      have hb45 : Below w4.heap.size w4 w5 := (((Below.refl _ w4).alloc (Nat.le_refl _) _).alloc (by simp) _).trans (hbel5.mono (by simp; omega))
      have hO5 := hO4.below hb45
      have hOk : ∀ b off s, oo = some ⟨b, off, s⟩ → b < w4.heap.size := by
        intro b off s e
        rcases hG.ow.at' with ⟨-, h0, -⟩ | ⟨k, cur, h1, h2, h3, -⟩
        · rw [h0] at e; cases e
        · rw [h2] at e; cases e; exact (Array.getElem?_eq_some_iff.1 h3).1
      have h5k : ∀ b off s, ao5 = some ⟨b, off, s⟩ → b ≠ w4.heap.size + 1 ∧ b < w5.heap.size := by
        intro b off s e
        have h1 := hk5 b off s e
        exact ⟨by omega, h1.2⟩
      refine range_law (F := Fence.wide) rfl (by omega) (gf := 23) (lb := #[.pointer (some ⟨Bs, 0, none⟩)]) rfl trivial (goes_of Try.func23 (by kernel_rfl) rfl) (enc := fun x => #[.int .i64 x.tick, .int .i64 x.phase]) (fun _ => rfl) (fun q => q = w4.heap.size + 1) (fun q e => by omega) (G := goodC l) (goodC_put l)
        (changes_seqs Fence.wide rfl (6 - 1) (by omega) Bs cap5 ao5 l w5 (fun q => q = w4.heap.size + 1) hb5 hL5 (by omega) h5k)
        (fun pre A => Blk A (w4.heap.size + 1) 3 #[.int .i64 (pre.length : Int)] ∧ Blk A (W.heap.size + 1) 4 #[.bool false] ∧ Frm (fun q => q = w4.heap.size + 1 ∨ w5.heap.size ≤ q) w5 A ∧ (0 < stop → (pre.length : Int) < stop))
        (fun c pre A => (c = .exit 0 ∧ 0 < pre.length) ∧ Blk A (w4.heap.size + 1) 3 #[.int .i64 (pre.length : Int)] ∧ Blk A (W.heap.size + 1) 4 #[.bool false] ∧ Frm (fun q => q = w4.heap.size + 1 ∨ w5.heap.size ≤ q) w5 A ∧ (pre.length : Int) = stop)
        (fun pre A B ⟨h1, h2, h3, h4⟩ hf => ⟨blk_frm h1 hf (by omega), blk_frm h2 hf (by omega), h3.trans hf (fun q h => .inl (.inr h)), h4⟩)
        (fun c pre A B ⟨h0, h1, h2, h3, h4⟩ hf => ⟨h0, blk_frm h1 hf (by omega), blk_frm h2 hf (by omega), h3.trans hf (fun q h => .inl (.inr h)), h4⟩)
        ⟨hn5, hr5, Frm.refl _ _, fun h => h⟩
        (fun x => { tmps := #[.slice ao l.length cap, .int .i64 stop, undef, .pointer (some ⟨W.heap.size, 0, none⟩), .pointer (some ⟨W.heap.size + 1, 0, none⟩), .pointer (some ⟨w4.heap.size, 0, none⟩), .pointer (some ⟨w4.heap.size + 1, 0, none⟩), .int .i64 x.tick, .int .i64 x.phase, undef, .bool true, .bool false, .slice ao l.length cap, .bool true, .bool false, .slice ao l.length cap, .slice oo (chL 0 l).length oc, .slice ao l.length cap, .func (.func 23) #[] #[.pointer (some ⟨Bs, 0, none⟩)], .int .i64 x.tick, .int .i64 x.phase, undef, undef, undef, undef, undef, undef, undef, undef, undef, undef, undef, undef, undef, undef, undef, undef, undef, undef, undef, undef, undef, undef, undef, undef, undef, undef, undef, undef, undef, undef, undef, undef], defers := [] })
        ?assign ?body ?done ?stop
      case assign =>
        intro l x V K hK
        gi_wp2
        exact hK
      case body =>
        rintro lb pre x A ⟨h1, h2, h3, h4⟩ hgood hlen
        have hll := blk_frm hl5 h3 (by omega)
        have ht := blk_frm ht5 h3 (by omega)
        have hO := hO5.frm h3 (fun b off s e => by have := hOk b off s e; omega)
        obtain ⟨b, off, rfl, y0, y1⟩ := hO.get hgood
        replace y0 : A.cell? ⟨b, off + pre.length * 2, none⟩ = some (.int .i64 x.tick) := y0
        have c1 : A.cell? ⟨w4.heap.size + 1, 0, none⟩ = some (.int .i64 (pre.length : Int)) := h1.cell_eq 0 _ rfl
        have c2 := h1.free 0
        have c4 : A.cell? ⟨w4.heap.size, 0, none⟩ = some (.slice (some ⟨b, off, none⟩) (chL 0 l).length oc) := hll.cell_eq 0 _ rfl
        have c5 : A.cell? ⟨W.heap.size, 0, none⟩ = some (.int .i64 stop) := ht.cell_eq 0 _ rfl
        have hlp : (pre ++ [x]).length = pre.length + 1 := by simp
        have hE := fun w => neq_Rowp x x w
        rw [eqRowp_self] at hE
        simp only [Bool.not_true] at hE
        have hset : Frm (fun q => q = w4.heap.size + 1) A (A.setCell ⟨w4.heap.size + 1, 0, none⟩ (.int .i64 ((pre.length : Int) + 1))) := (Frm.refl _ A).setCell _ _ (.inl rfl)
        have hset1 := h1.set 0 (.int .i64 ((pre.length : Int) + 1))
        have hset2 := h2.other (a := ⟨w4.heap.size + 1, 0, none⟩) (by show w4.heap.size + 1 ≠ W.heap.size + 1; omega) (.int .i64 ((pre.length : Int) + 1))
        have hset3 := h3.trans hset (fun q h => .inl (.inl h))
        by_cases hx : (pre.length : Int) + 1 = stop
        · have hd : ((pre.length : Int) + 1 == stop) = true := by simpa using hx
          have hcast : (((pre ++ [x]).length : Nat) : Int) = stop := by rw [hlp]; omega
          rw [hx] at hset hset1 hset2 hset3
          gi_wp2
          exact ⟨hset, ⟨rfl, by omega⟩, by rw [hcast]; exact hset1, hset2, hset3, hcast⟩
        · have hd : ((pre.length : Int) + 1 == stop) = false := by simpa using hx
          gi_wp2
          exact ⟨hset, by rw [hlp]; exact hset1, hset2, hset3, fun h => by have := h4 h; rw [hlp]; omega⟩
      case done =>
        rintro D ys V hD hys ⟨h1, h2, h3, h4⟩ hK
        have hll := blk_frm hl5 h3 (by omega)
        have ht := blk_frm ht5 h3 (by omega)
        rw [hys] at h1 h4
        have c1 : V.cell? ⟨w4.heap.size + 1, 0, none⟩ = some (.int .i64 ((chL 0 l).length : Int)) := h1.cell_eq 0 _ rfl
        have c2 : V.cell? ⟨W.heap.size + 1, 0, none⟩ = some (.bool false) := h2.cell_eq 0 _ rfl
        have c3 := h2.free 0
        have c4 : V.cell? ⟨w4.heap.size, 0, none⟩ = some (.slice oo (chL 0 l).length oc) := hll.cell_eq 0 _ rfl
        have c5 : V.cell? ⟨W.heap.size, 0, none⟩ = some (.int .i64 stop) := ht.cell_eq 0 _ rfl
        obtain ⟨V2, hV2⟩ : ∃ V2, V2 = V.setCell ⟨W.heap.size + 1, 0, none⟩ (.bool true) := ⟨_, rfl⟩
        have hK' : V2.heap[D]? = some (.deferred (some [])) := by rw [hV2]; exact (Below.heap_setCell _ _ _ _ (by show D ≠ W.heap.size + 1; omega)).trans hK
        have hfin : Below W.heap.size W (V2.putObj D (.deferred none)) := by
          have g1 := m5.below.trans (h3.below m5.below.size (fun q h => by omega))
          have g2 : Below W.heap.size W V2 := by rw [hV2]; exact g1.setCell (p := ⟨W.heap.size + 1, 0, none⟩) (by simp) _
          exact g2.trans ((Frm.put (S := fun q => q = D) V2 D (.deferred none) rfl).below g2.size (fun q h => by omega))
        have hcr : (V2.putObj D (.deferred none)).cell? ⟨W.heap.size + 1, 0, none⟩ = some (.bool true) := by
          refine (World.cell?_of_block (a := ⟨W.heap.size + 1, 0, none⟩) (World.putObj_heap_other (by show W.heap.size + 1 ≠ D; omega))).trans ?_
          rw [hV2]
          exact (h2.set 0 (.bool true)).cell_eq 0 _ rfl
        gi_wp2
        all_goals
          rw [← hV2]
          refine ⟨by simp, .inl ⟨_, _, rfl, run_takeDeferred hK', ?_⟩⟩
          refine ⟨.bool true, ?_, rfl, hfin⟩
          simp [results, Try.results4, go_sem, hcr]
      case stop =>
        rintro D c pre V hD hsp ⟨⟨rfl, hpos⟩, h1, h2, h3, h4⟩ hK
        have hll := blk_frm hl5 h3 (by omega)
        have ht := blk_frm ht5 h3 (by omega)
        rw [h4] at h1
        have c1 : V.cell? ⟨w4.heap.size + 1, 0, none⟩ = some (.int .i64 stop) := h1.cell_eq 0 _ rfl
        have c2 : V.cell? ⟨W.heap.size + 1, 0, none⟩ = some (.bool false) := h2.cell_eq 0 _ rfl
        have c3 := h2.free 0
        have c4 : V.cell? ⟨w4.heap.size, 0, none⟩ = some (.slice oo (chL 0 l).length oc) := hll.cell_eq 0 _ rfl
        have c5 : V.cell? ⟨W.heap.size, 0, none⟩ = some (.int .i64 stop) := ht.cell_eq 0 _ rfl
        obtain ⟨V2, hV2⟩ : ∃ V2, V2 = V.setCell ⟨W.heap.size + 1, 0, none⟩ (.bool true) := ⟨_, rfl⟩
        have hK' : V2.heap[D]? = some (.deferred (some [])) := by rw [hV2]; exact (Below.heap_setCell _ _ _ _ (by show D ≠ W.heap.size + 1; omega)).trans hK
        have hfin : Below W.heap.size W (V2.putObj D (.deferred none)) := by
          have g1 := m5.below.trans (h3.below m5.below.size (fun q h => by omega))
          have g2 : Below W.heap.size W V2 := by rw [hV2]; exact g1.setCell (p := ⟨W.heap.size + 1, 0, none⟩) (by simp) _
          exact g2.trans ((Frm.put (S := fun q => q = D) V2 D (.deferred none) rfl).below g2.size (fun q h => by omega))
        have hcr : (V2.putObj D (.deferred none)).cell? ⟨W.heap.size + 1, 0, none⟩ = some (.bool true) := by
          refine (World.cell?_of_block (a := ⟨W.heap.size + 1, 0, none⟩) (World.putObj_heap_other (by show W.heap.size + 1 ≠ D; omega))).trans ?_
          rw [hV2]
          exact (h2.set 0 (.bool true)).cell_eq 0 _ rfl
        gi_wp2
        all_goals first
          | (exfalso; omega)
          | skip
        all_goals
          first
            | rw [← hV2]
            | (have hst : (stop == ((chL 0 l).length : Int)) = true := by
                 have e : stop = ((chL 0 l).length : Int) := by omega
                 rw [e]
                 simp
               rw [hst, ← hV2])
          refine ⟨by simp, .inl ⟨_, _, rfl, run_takeDeferred hK', ?_⟩⟩
          refine ⟨.bool true, ?_, rfl, hfin⟩
          simp [results, Try.results4, go_sem, hcr]
  · go_enter Try.func4, Try.ntmps4
    go_wp2_with (first
      | (go_at_call 8; rw [← hW1]; refine (alive8_any W1).mono ?_; rintro e w2 ⟨rfl, hb2⟩; have m2 := m1.keep hb2)
      | (go_at_call 7; refine (cLt _ (hL.below m2.below)).mono ?_; rintro e w3 ⟨kk, rfl, hk, hb3⟩; have m3 := m2.keep hb3; have hr3 := m3.blk (W.heap.size + 1) 4 #[.bool false] (by simp); have d0 := hr3.cell_eq 0 _ rfl; have d1 := hr3.free 0; obtain rfl := no_of hk hg))
    have hcr : (w3.setCell ⟨W.heap.size + 1, 0, none⟩ (.bool true)).cell? ⟨W.heap.size + 1, 0, none⟩ = some (.bool true) := (hr3.set 0 (.bool true)).cell_eq 0 _ rfl
    refine bodyPost_ret (v := .bool true) ?_ rfl ⟨rfl, m3.below.setCell (p := ⟨W.heap.size + 1, 0, none⟩) (by simp) _⟩
    simp [results, Try.results4, go_sem, hcr]
end Go.Proofs.Ytjcopnhienijjaa
