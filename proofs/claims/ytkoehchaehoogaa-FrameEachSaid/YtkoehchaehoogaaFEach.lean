/-
  FrameEach, for every slice of bytes and every place to stop.
-/
import Derived.Test.YtkoehchaehoogaaFEachI
import Derived.Test.YtkoehchaehoogaaJoinM
import Derived.Test.YtkoehchaehoogaaPost
namespace Go.Proofs.Ytkoehchaehoogaa
open Go.RowKit
attribute [local go_sem] Oper.semAt_some

set_option maxRecDepth 100000 in
set_option maxHeartbeats 2000000 in
theorem feach_any (k cap : Nat) (ao : Option Addr) (xs : List Nat) (stop : Int) (W : World) (hB : Bt W k ao cap xs) :
    Calls Try.prog 4 #[.slice ao xs.length cap, .int .i64 stop] W fun e w' => e = .returned (.bool true) ∧ Below W.heap.size W w' := by
  have hl := hB.len
  have hm := hB.top
  unfold maxLen at hm
  by_cases hs : xs.length ≤ 400
  · have hfl := frames_len xs
    obtain ⟨W1, hW1⟩ : ∃ W1, W1 = (W.alloc (.cells #[.int .i64 stop] 3)).alloc (.cells #[.bool false] 4) := ⟨_, rfl⟩
    have m1 : Mem W [(W.heap.size + 1, 4, #[.bool false]), (W.heap.size, 3, #[.int .i64 stop])] W1 := by
      rw [hW1]
      exact ((Mem.start W).new _ _).new' _ _ (by simp)
    have hB1 : Bt W1 k ao cap xs := by rw [hW1]; exact (hB.alloc _).alloc _
    refine (callsIn_wide (n := 6)).1 ?_
    refine callsIn_of_wp_marks Try.func4 rfl trivial ?_ rfl
    simp only [Try.ntmps4, List.size_toArray, List.length_cons, List.length_nil, Nat.reduceAdd, Nat.reduceSub, Array.replicate_succ, Array.replicate_zero, List.push_toArray, List.append_toArray, List.nil_append, List.cons_append]
    gi_wp2_with (first
      | (refine ⟨trivial, ?_⟩; gi_at_call 7; rw [← hW1]; refine (callsIn_wide.2 (alive_any W1)).mono ?_; rintro e w2 ⟨rfl, hb2⟩; have m2 := m1.keep hb2; have hB2 := hB1.below hb2; clear m1 hB1 hW1 hb2)
      | (refine ⟨trivial, ?_⟩; gi_at_call 13; refine (callsIn_wide.2 (all_any k cap ao xs (by omega) w2 hB2)).mono ?_; rintro e w3 ⟨kA, aA, cA, kO, aO, cO, rfl, hA3, hO3, hb3, hkA, hkO⟩; have m3 := ((m2.keep hb3).new 30 #[.slice aA (allF xs).1.length cA]).new' (n := w3.heap.size + 1) 31 #[.slice aO (allF xs).1.length cO] (by simp) |>.new' (n := w3.heap.size + 1 + 1) 3 #[.int .i64 0] (by simp); have hB3 := hB2.below hb3)
      | (refine ⟨trivial, ?_⟩; gi_at_call 14; refine (callsIn_wide.2 (each_any k cap ao xs (by omega) _ (((hB3.alloc _).alloc _).alloc _))).mono ?_; rintro e w4 ⟨Bs, ao4, cap4, k4, rfl, hb4, hB4, hbel4, hBs, hk4⟩; have m4 := m3.keep hbel4))
    have hs4 := hbel4.size
    simp only [World.size_alloc] at hs4 hBs hk4
    have hz3 : W.heap.size + 1 < w3.heap.size := by
      have h1 := hb3.size
      have h2 := (m2.blk (W.heap.size + 1) 4 #[.bool false] (by simp)).lt
      omega
    have hn4 := m4.blk (w3.heap.size + 1 + 1) 3 #[.int .i64 0] (by simp)
    have hr4 := m4.blk (W.heap.size + 1) 4 #[.bool false] (by simp)
    have ht4 := m4.blk W.heap.size 3 #[.int .i64 stop] (by simp)
    have ha4 := m4.blk w3.heap.size 30 #[.slice aA (allF xs).1.length cA] (by simp)
    have hl4 := m4.blk (w3.heap.size + 1) 31 #[.slice aO (allF xs).1.length cO] (by simp)
    have hb34 : Below w3.heap.size w3 w4 := ((((Below.refl _ w3).alloc (Nat.le_refl _) _).alloc (by simp) _).alloc (by simp; omega) _).trans (hbel4.mono (by simp; omega))
    have hA4 := hA3.below hb34
    have hO4 := hO3.below hb34
    have hAlt : ∀ q, kA = some q → q < w3.heap.size := fun q e => by subst e; exact hA3.lt
    have hOlt : ∀ q, kO = some q → q < w3.heap.size := fun q e => by subst e; exact hO3.lt
    have hklt : xs ≠ [] → k < w3.heap.size := hB3.size
    refine range_law (F := Fence.wide) rfl (by omega) (gf := 29) (lb := #[.pointer (some ⟨Bs, 0, none⟩)]) rfl trivial (enters_of Try.func29 (by kernel_rfl) rfl) (enc := fun x => #[.int .i64 (x.i : Int), .slice x.ao x.p.length x.cap]) (fun _ => rfl) (fun q => q = w3.heap.size + 1 + 1) (fun q e => by omega) (G := El.good xs) (El.good_put xs)
      (each_seqs Fence.wide rfl (6 - 1) (by omega) Bs k4 cap4 ao4 xs w4 (fun q => q = w3.heap.size + 1 + 1) hb4 hB4 (by omega) (by omega))
      (fun pre A => Blk A (w3.heap.size + 1 + 1) 3 #[.int .i64 (pre.length : Int)] ∧ Blk A (W.heap.size + 1) 4 #[.bool false] ∧ Frm (fun q => q = w3.heap.size + 1 + 1 ∨ w4.heap.size ≤ q) w4 A ∧ (0 < stop → (pre.length : Int) < stop))
      (fun c pre A => (c = .exit 0 ∧ 0 < pre.length) ∧ Blk A (w3.heap.size + 1 + 1) 3 #[.int .i64 (pre.length : Int)] ∧ Blk A (W.heap.size + 1) 4 #[.bool false] ∧ Frm (fun q => q = w3.heap.size + 1 + 1 ∨ w4.heap.size ≤ q) w4 A ∧ (pre.length : Int) = stop)
      (fun pre A B ⟨h1, h2, h3, h4⟩ hf => ⟨h1.frm hf (by omega), h2.frm hf (by omega), h3.trans hf (fun q h => .inl (.inr h)), h4⟩)
      (fun c pre A B ⟨h0, h1, h2, h3, h4⟩ hf => ⟨h0, h1.frm hf (by omega), h2.frm hf (by omega), h3.trans hf (fun q h => .inl (.inr h)), h4⟩)
      ⟨hn4, hr4, Frm.refl _ _, fun h => h⟩
      (fun x => { tmps := #[.slice ao xs.length cap, .int .i64 stop, undef, .pointer (some ⟨W.heap.size, 0, none⟩), .pointer (some ⟨W.heap.size + 1, 0, none⟩), .pointer (some ⟨w3.heap.size, 0, none⟩), .pointer (some ⟨w3.heap.size + 1, 0, none⟩), .int .i64 ((allF xs).2.1 : Int), .int .i64 ((allF xs).2.2 : Int), .pointer (some ⟨w3.heap.size + 1 + 1, 0, none⟩), .int .i64 (x.i : Int), .slice x.ao x.p.length x.cap, undef, .bool true, .bool false, .slice ao xs.length cap, .int .i64 (xs.length : Int), .bool (decide ((400 : Int) < (xs.length : Int))), .tuple #[.slice aA (allF xs).1.length cA, .slice aO (allF xs).1.length cO, .int .i64 ((allF xs).2.1 : Int), .int .i64 ((allF xs).2.2 : Int)], .slice ao xs.length cap, .tuple #[.slice aA (allF xs).1.length cA, .slice aO (allF xs).1.length cO, .int .i64 ((allF xs).2.1 : Int), .int .i64 ((allF xs).2.2 : Int)], .slice aA (allF xs).1.length cA, .slice aO (allF xs).1.length cO, .int .i64 ((allF xs).2.1 : Int), .int .i64 ((allF xs).2.2 : Int), .slice ao xs.length cap, .func (.func 29) #[] #[.pointer (some ⟨Bs, 0, none⟩)], .int .i64 (x.i : Int), .slice x.ao x.p.length x.cap, undef, undef, undef, undef, undef, undef, undef, undef, undef, undef, undef, undef, undef, undef, undef, undef, undef, undef, undef, undef, undef, undef, undef, undef, undef, undef, undef, undef, undef, undef, undef, undef, undef, undef, undef, undef, undef, undef, undef], defers := [] })
      ?assign ?body ?done ?stop
    case assign =>
      intro l x V K hK
      gi_wp2
      exact hK
    case body =>
      rintro l pre x A ⟨h1, h2, h3, h4⟩ ⟨hp, hgp, hgi⟩ hlen
      have ha := ha4.frm h3 (by omega)
      have hll := hl4.frm h3 (by omega)
      have ht := ht4.frm h3 (by omega)
      have hA := hA4.frm h3 (fun q e => by have := hAlt q e; omega)
      obtain ⟨ka, rfl, rfl, ca, -⟩ := hA.cell pre.length (.int .i64 (x.i : Int)) (by unfold nv; rw [List.getElem?_map, hgi]; rfl)
      have hxs : xs ≠ [] := by
        intro h0
        rw [h0, allF_nil] at hlen
        simp at hlen
      have hkl := hklt hxs
      have hLb := (hO4.frm h3 (fun q e => by have := hOlt q e; omega) (fun q h5 h6 h7 => by have h8 := (show q = k from h7); omega)).lb
      obtain ⟨b, off, kE, eo, ec, rfl, hE⟩ := hLb.get hgp
      obtain ⟨hE1, ce⟩ := hE A (Below.refl _ _)
      have c1 : A.cell? ⟨w3.heap.size + 1 + 1, 0, none⟩ = some (.int .i64 (pre.length : Int)) := h1.cell_eq 0 _ rfl
      have c2 := h1.free 0
      have c3 : A.cell? ⟨w3.heap.size, 0, none⟩ = some (.slice (some ⟨ka, 0, none⟩) (allF xs).1.length cA) := ha.cell_eq 0 _ rfl
      have c4 : A.cell? ⟨w3.heap.size + 1, 0, none⟩ = some (.slice (some ⟨b, off, none⟩) (allF xs).1.length cO) := hll.cell_eq 0 _ rfl
      have c5 : A.cell? ⟨W.heap.size, 0, none⟩ = some (.int .i64 stop) := ht.cell_eq 0 _ rfl
      have hlp : (pre ++ [x]).length = pre.length + 1 := by simp
      have hset : Frm (fun q => q = w3.heap.size + 1 + 1) A (A.setCell ⟨w3.heap.size + 1 + 1, 0, none⟩ (.int .i64 ((pre.length : Int) + 1))) := (Frm.refl _ A).setCell _ _ (.inl rfl)
      gi_wp2_with (refine ⟨trivial, ?_⟩; gi_at_call 12; refine (CallsIn.inRound l (callsIn_wide.2 (same_true A hp hE1 rfl rfl))).mono ?_; rintro e w' ⟨rfl, rfl⟩)
      · rename_i hx
        have hx2 := eq_of_beq hx
        refine ⟨hset, ⟨rfl, by omega⟩, ?_, h2.other (by show w3.heap.size + 1 + 1 ≠ W.heap.size + 1; omega) _, h3.trans hset (fun q h => .inl (.inl h)), by rw [hlp]; exact hx2⟩
        have h5 := h1.set 0 (.int .i64 ((pre.length : Int) + 1))
        rw [hlp]
        exact h5
      · rename_i hx
        have hx2 : ¬ ((pre.length : Int) + 1 = stop) := fun e => by rw [e] at hx; simp at hx
        refine ⟨hset, ?_, h2.other (by show w3.heap.size + 1 + 1 ≠ W.heap.size + 1; omega) _, h3.trans hset (fun q h => .inl (.inl h)), fun h => by have := h4 h; rw [hlp]; omega⟩
        have h5 := h1.set 0 (.int .i64 ((pre.length : Int) + 1))
        rw [hlp]
        exact h5
    case done =>
      rintro D ys V hD hys ⟨h1, h2, h3, h4⟩ hK
      have hll := hl4.frm h3 (by omega)
      have ht := ht4.frm h3 (by omega)
      rw [hys] at h1 h4
      have c1 : V.cell? ⟨w3.heap.size + 1 + 1, 0, none⟩ = some (.int .i64 ((allF xs).1.length : Int)) := h1.cell_eq 0 _ rfl
      have c2 : V.cell? ⟨W.heap.size + 1, 0, none⟩ = some (.bool false) := h2.cell_eq 0 _ rfl
      have c3 := h2.free 0
      have c4 : V.cell? ⟨w3.heap.size + 1, 0, none⟩ = some (.slice aO (allF xs).1.length cO) := hll.cell_eq 0 _ rfl
      have c5 : V.cell? ⟨W.heap.size, 0, none⟩ = some (.int .i64 stop) := ht.cell_eq 0 _ rfl
      obtain ⟨V2, hV2⟩ : ∃ V2, V2 = V.setCell ⟨W.heap.size + 1, 0, none⟩ (.bool true) := ⟨_, rfl⟩
      have hK' : V2.heap[D]? = some (.deferred (some [])) := by rw [hV2]; exact (Below.heap_setCell _ _ _ _ (by show D ≠ W.heap.size + 1; omega)).trans hK
      have hfin : Below W.heap.size W (V2.putObj D (.deferred none)) := by
        have g1 := m4.below.trans (h3.below m4.below.size (fun q h => by omega))
        have g2 : Below W.heap.size W V2 := by rw [hV2]; exact g1.setCell (p := ⟨W.heap.size + 1, 0, none⟩) (by simp) _
        exact g2.trans ((Frm.put (S := fun q => q = D) V2 D (.deferred none) rfl).below g2.size (fun q h => by omega))
      have hcr : (V2.putObj D (.deferred none)).cell? ⟨W.heap.size + 1, 0, none⟩ = some (.bool true) := by
        refine (World.cell?_of_block (a := ⟨W.heap.size + 1, 0, none⟩) (World.putObj_heap_other (by show W.heap.size + 1 ≠ D; omega))).trans ?_
        rw [hV2]
        exact (h2.set 0 (.bool true)).cell_eq 0 _ rfl
      gi_wp2
      all_goals
        rw [← hV2]
        refine ⟨by simp, .inl ⟨_, _, rfl, run_takeDeferred hK', ?_⟩⟩
        refine ⟨.bool true, ?_, rfl, hfin⟩
        simp [results, Try.results4, go_sem, hcr]
    case stop =>
      rintro D c pre V hD hsp ⟨⟨rfl, hpos⟩, h1, h2, h3, h4⟩ hK
      have hll := hl4.frm h3 (by omega)
      have ht := ht4.frm h3 (by omega)
      rw [h4] at h1
      have c1 : V.cell? ⟨w3.heap.size + 1 + 1, 0, none⟩ = some (.int .i64 stop) := h1.cell_eq 0 _ rfl
      have c2 : V.cell? ⟨W.heap.size + 1, 0, none⟩ = some (.bool false) := h2.cell_eq 0 _ rfl
      have c3 := h2.free 0
      have c4 : V.cell? ⟨w3.heap.size + 1, 0, none⟩ = some (.slice aO (allF xs).1.length cO) := hll.cell_eq 0 _ rfl
      have c5 : V.cell? ⟨W.heap.size, 0, none⟩ = some (.int .i64 stop) := ht.cell_eq 0 _ rfl
      obtain ⟨V2, hV2⟩ : ∃ V2, V2 = V.setCell ⟨W.heap.size + 1, 0, none⟩ (.bool true) := ⟨_, rfl⟩
      have hK' : V2.heap[D]? = some (.deferred (some [])) := by rw [hV2]; exact (Below.heap_setCell _ _ _ _ (by show D ≠ W.heap.size + 1; omega)).trans hK
      have hfin : Below W.heap.size W (V2.putObj D (.deferred none)) := by
        have g1 := m4.below.trans (h3.below m4.below.size (fun q h => by omega))
        have g2 : Below W.heap.size W V2 := by rw [hV2]; exact g1.setCell (p := ⟨W.heap.size + 1, 0, none⟩) (by simp) _
        exact g2.trans ((Frm.put (S := fun q => q = D) V2 D (.deferred none) rfl).below g2.size (fun q h => by omega))
      have hcr : (V2.putObj D (.deferred none)).cell? ⟨W.heap.size + 1, 0, none⟩ = some (.bool true) := by
        refine (World.cell?_of_block (a := ⟨W.heap.size + 1, 0, none⟩) (World.putObj_heap_other (by show W.heap.size + 1 ≠ D; omega))).trans ?_
        rw [hV2]
        exact (h2.set 0 (.bool true)).cell_eq 0 _ rfl
      gi_wp2
      all_goals first
        | (exfalso; omega)
        | skip
      all_goals
        first
          | rw [← hV2]
          | (have hst : (stop == ((allF xs).1.length : Int)) = true := by
               have e : stop = ((allF xs).1.length : Int) := by omega
               rw [e]
               simp
             rw [hst, ← hV2])
        refine ⟨by simp, .inl ⟨_, _, rfl, run_takeDeferred hK', ?_⟩⟩
        refine ⟨.bool true, ?_, rfl, hfin⟩
        simp [results, Try.results4, go_sem, hcr]
  · go_enter Try.func4, Try.ntmps4
    have m1 : Mem W [(W.heap.size + 1, 4, #[.bool false]), (W.heap.size, 3, #[.int .i64 stop])] ((W.alloc (.cells #[.int .i64 stop] 3)).alloc (.cells #[.bool false] 4)) := ((Mem.start W).new _ _).new' _ _ (by simp)
    go_wp2_with (go_at_call 7; refine (alive_any _).mono ?_; rintro e w2 ⟨rfl, hb2⟩; have m2 := m1.keep hb2; have hr := m2.blk (W.heap.size + 1) 4 #[.bool false] (by simp); have d0 := hr.cell_eq 0 _ rfl; have d1 := hr.free 0)
    all_goals first
      | (exfalso; omega)
      | skip
    have hcr : (w2.setCell ⟨W.heap.size + 1, 0, none⟩ (.bool true)).cell? ⟨W.heap.size + 1, 0, none⟩ = some (.bool true) := (hr.set 0 (.bool true)).cell_eq 0 _ rfl
    refine bodyPost_ret (v := .bool true) ?_ rfl ⟨rfl, m2.below.setCell (p := ⟨W.heap.size + 1, 0, none⟩) (by simp) _⟩
    simp [results, Try.results4, go_sem, hcr]
end Go.Proofs.Ytkoehchaehoogaa
