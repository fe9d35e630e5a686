/-
  The contracts of the document's Changes, of slices.Clone of rows, and of package session's Changes.
-/
import Derived.Test.YtjcopnhienijjaaSesE
import Derived.Test.YtjcopnhienijjaaGrow
import Derived.Lib.SliceRun
namespace Go.Proofs.Ytjcopnhienijjaa
open Go.RowKit
theorem infoRow : (Try.prog.info? 33).map (fun i => (i.zero, i.size, i.bytes)) = some (some (vRowp Rowp.zero), 2, 16) := by kernel_rfl
abbrev cellsR (l : List Rowp) : List Value := l.flatMap fun m => (cRowp m).toList
theorem cellsR_len (l : List Rowp) : (cellsR l).length = l.length * 2 := by
  induction l with
  | nil => rfl
  | cons r t ih =>
    show ((cRowp r).toList ++ cellsR t).length = _
    rw [List.length_append, ih]
    simp; omega
theorem cellsR_get : ∀ (l : List Rowp) (j : Nat) (u : Value), (cellsR l)[j]? = some u → ∃ i m k, l[i]? = some m ∧ (cRowp m)[k]? = some u ∧ j = i * 2 + k := by
  intro l
  induction l with
  | nil => intro j u h; simp at h
  | cons r t ih =>
    intro j u h
    have e : cellsR (r :: t) = .int .i64 r.tick :: .int .i64 r.phase :: cellsR t := rfl
    rw [e] at h
    match j, h with
    | 0, h => exact ⟨0, r, 0, rfl, h, rfl⟩
    | 1, h => exact ⟨0, r, 1, rfl, h, rfl⟩
    | j + 2, h =>
      obtain ⟨i, m, k, h1, h2, h3⟩ := ih j u h
      exact ⟨i + 1, m, k, h1, h2, by omega⟩
theorem cellsR_one (l : List Rowp) : ∀ u ∈ cellsR l, u.oneCell' = true := by
  intro u hu
  obtain ⟨m, -, hm⟩ := List.mem_flatMap.1 hu
  simp only [List.mem_cons, List.not_mem_nil, or_false] at hm
  rcases hm with rfl | rfl <;> rfl
/-- Rows that are read, appended elsewhere. -/
theorem Rowps.src {w : World} {ao : Option Addr} {cap : Nat} {l : List Rowp} (h : Rowps w ao cap l) (ha : ao ≠ none) : SrcG 2 w ao cap l.length (cellsR l) := by
  refine ⟨cellsR_len l, cellsR_one l, .inr ?_⟩
  rcases h.at' with h0 | ⟨b, off, e, hl⟩
  · subst h0
    cases ao with
    | none => exact absurd rfl ha
    | some a => exact ⟨a, rfl, fun j u hj => by simp at hj⟩
  · subst e
    refine ⟨_, rfl, fun j u hj => ?_⟩
    obtain ⟨i, m, k, h1, h2, rfl⟩ := cellsR_get l j u hj
    have h3 := hl i m h1 k u h2
    rw [Addr.add_mid]
    rw [show off + (i * 2 + k) = off + i * 2 + k by omega]
    exact h3
theorem Rowps.frm {S : Nat → Prop} {w w' : World} {ao : Option Addr} {cap : Nat} {l : List Rowp} (h : Rowps w ao cap l) (hf : Frm S w w') (hk : ∀ b off s, ao = some ⟨b, off, s⟩ → ¬ S b) : Rowps w' ao cap l := by
  refine ⟨h.len, h.top, ?_⟩
  rcases h.at' with h0 | ⟨b, off, ha, hl⟩
  · exact .inl h0
  · refine .inr ⟨b, off, ha, fun i m hi j v hj => ?_⟩
    have hc := hl i m hi j v hj
    have hlt : b < w.heap.size := World.block_lt_of_cell? w ⟨b, off + i * 2 + j, none⟩ hc
    exact (World.cell?_of_block (a := ⟨b, off + i * 2 + j, none⟩) (hf.block b hlt (hk b off none ha))).trans hc
theorem OwG.empty (E : TypeId) (sz : Nat) (w : World) : OwG E sz (w.alloc (.cells #[] E)) (some w.heap.size) (some ⟨w.heap.size, 0, none⟩) 0 0 [] :=
  ⟨by simp, Nat.le_refl _, Nat.zero_le _, .inr ⟨_, #[], rfl, rfl, heap_alloc_last w _, by simp, by simp⟩⟩
set_option maxHeartbeats 1000000 in
theorem cloneR_any (ao : Option Addr) (cap : Nat) (l : List Rowp) (h60 : l.length ≤ 1000000) (W : World) (hL : Rowps W ao cap l) :
    Calls Try.prog 22 #[.slice ao l.length cap] W fun e w' => ∃ ao' cap', e = .returned (.slice ao' l.length cap') ∧ Rowps w' ao' cap' l ∧ (∀ b off s, ao' = some ⟨b, off, s⟩ → W.heap.size ≤ b ∧ b < w'.heap.size) ∧ Below W.heap.size W w' := by
  have eN : ∀ (w : World) (b : Option Addr) (n c : Nat), (binOp .eql 22 (.slice b n c) (.slice none 0 0)).run Try.prog w = .ok (.bool b.isNone) w := fun w b n c => Lib.run_eql_slice_nil w _ _ b n c 0 0 Try.underlying22
  cases ao with
  | none =>
    have h0 : l = [] := by
      rcases hL.at' with h | ⟨b, off, h, -⟩
      · exact h
      · cases h
    subst h0
    go_enter Try.func22, Try.ntmps22
    go_wp2
    go_ret
    exact ⟨_, _, rfl, Rowps.nil _, (fun b off s h => by cases h), Below.refl _ _⟩
  | some a =>
    obtain ⟨i1, hi1, hz1, hs1, hb1⟩ := info_parts infoRow
    have hsrc := fun w (h : Rowps w (some a) cap l) => h.src (by simp)
    go_enter Try.func22, Try.ntmps22
    go_wp2_with (at_builtin; refine wpList_appG rfl (.tmp 5) (.tmp 6) 22 33 i1 _ 2 16 Try.underlying22 hi1 hz1 hs1 hb1 rfl (by decide) rfl (OwG.empty _ _ W) (hsrc _ (hL.below ((Below.refl _ W).alloc (Nat.le_refl _) _))) rfl rfl (by omega) (by omega) ?_; intro oo' oc' ko' w3 ho hf3 hm3)
    go_ret
    rw [List.nil_append] at ho
    have hown : ∀ k, ko' = some k → W.heap.size ≤ k := by
      intro k hk
      rcases hm3 with h1 | h1 | ⟨k2, h1, h2⟩
      · rw [h1] at hk; cases hk
      · rw [h1] at hk; cases hk; exact Nat.le_refl _
      · rw [h1] at hk; cases hk; simp at h2; omega
    rw [Nat.zero_add] at ho
    refine ⟨oo', oc', rfl, Rowps.of_own ho, ?_, ?_⟩
    · intro b off s h
      rcases ho.at' with ⟨-, h0, -⟩ | ⟨k, cur, h1, h2, -⟩
      · rw [h0] at h; cases h
      · rw [h2] at h; cases h; subst h1; exact ⟨hown _ rfl, ho.lt⟩
    · exact ((Below.refl _ W).alloc (Nat.le_refl _) _).trans (hf3.below (by simp) (by intro k h; cases h; exact Nat.le_refl _))
theorem changes_any (ao : Option Addr) (cap : Nat) (l : List Rowp) (h60 : l.length ≤ 1000000) (W : World) (hL : Rowps W ao cap l) :
    Calls Try.prog 14 #[.slice ao l.length cap] W fun e w' => ∃ Bs ao' cap', e = .returned (.func (.func 23) #[] #[.pointer (some ⟨Bs, 0, none⟩)]) ∧ Blk w' Bs 22 #[.slice ao' l.length cap'] ∧ Rowps w' ao' cap' l ∧ Below W.heap.size W w' ∧ W.heap.size ≤ Bs ∧ (∀ b off s, ao' = some ⟨b, off, s⟩ → W.heap.size ≤ b ∧ b < w'.heap.size) := by
  have cC := cloneR_any ao cap l h60 W hL
  go_enter Try.func14, Try.ntmps14
  go_wp2_with (go_at_call 22; refine cC.mono ?_; rintro e w1 ⟨ao', cap', rfl, hR1, hk1, hb1⟩)
  go_ret
  exact ⟨w1.heap.size, ao', cap', rfl, Blk.new _ _ _, hR1.below ((Below.refl _ _).alloc (Nat.le_refl _) _), hb1.alloc hb1.size _, hb1.size, fun b off s h => ⟨(hk1 b off s h).1, by have := (hk1 b off s h).2; simp; omega⟩⟩
set_option maxRecDepth 8000 in
set_option maxHeartbeats 2000000 in
theorem refChanges_any (ao : Option Addr) (cap : Nat) (l : List Rowp) (h60 : l.length ≤ 1000000) (W : World) (hL : Rowps W ao cap l) :
    Calls Try.prog 13 #[.slice ao l.length cap] W fun e w' => ∃ ko oc oo, e = .returned (.slice oo (chL 0 l).length oc) ∧ Gr 33 2 cRowp W w' (chL 0 l) ko oc oo := by
  obtain ⟨i1, hi1, hz1, hs1, hb1⟩ := info_parts infoRow
  have hm := hL.len
  have hm2 := hL.top
  unfold maxLen at hm2
  go_enter Try.func13, Try.ntmps13
  go_wp2_with fail
  go_loopg [3, 4, 5] l.length (fun j p3 p4 p5 wr => ∃ (q : Nat) (ko : Option Nat) (oc : Nat) (oo : Option Addr) (n : Nat), q + j = l.length ∧ p5 = .int .i64 (q : Int) ∧ p4 = .int .i64 (phN l q) ∧ p3 = .slice oo n oc ∧ Hid (n = (chL 0 (l.take q)).length) ∧ Gr 33 2 cRowp W wr (chL 0 (l.take q)) ko oc oo)
  case atStart => exact ⟨0, none, 0, none, 0, by omega, rfl, rfl, rfl, by simp [Hid, chL], Gr.start W⟩
  case round =>
    obtain ⟨q, ko, oc, oo, n, hq, rfl, rfl, rfl, hn, hG⟩ := hrel
    by_cases hj : q < l.length
    · obtain ⟨r, hr⟩ : ∃ x, l[q]? = some x := ⟨l[q], List.getElem?_eq_getElem hj⟩
      have hL1 := hL.below (hG.bel.mono (Nat.le_refl _))
      obtain ⟨b, off, rfl, x0, x1⟩ := hL1.get hr
      have hnx : phN l (q + 1) = r.phase := by unfold phN; rw [if_neg (by omega), Nat.add_sub_cancel, ph_get hr]
      have hch := chL_take hr
      have hnl : n ≤ l.length := by
        have h1 := chL_len (l.take q) 0
        rw [List.length_take] at h1
        rw [hn.out]; omega
      replace hch := Lib.hid hch
      by_cases he : r.phase = phN l q
      · have e2 : chL 0 (l.take (q + 1)) = chL 0 (l.take q) := by rw [hch.out, if_pos he, List.append_nil]
        have hG2 : Hid (Gr 33 2 cRowp W wr (chL 0 (l.take (q + 1))) ko oc oo) := Lib.hid (by rw [e2]; exact hG)
        have hn2 : Hid (n = (chL 0 (l.take (q + 1))).length) := Lib.hid (by rw [e2]; exact hn.out)
        replace hnx := Lib.hid hnx
        clear hr hch hL hL1 hG hn e2
        obtain ⟨t', p'⟩ := r
        simp only at *
        subst he
        go_wp2_with fail
        go_roundg (l.length - (q + 1))
        case measure => omega
        case rel => exact ⟨q + 1, ko, oc, oo, n, by omega, by go_num, by rw [hnx.out], rfl, hn2, hG2.out⟩
      · have e2 : chL 0 (l.take (q + 1)) = chL 0 (l.take q) ++ [r] := by rw [hch.out, if_neg he]
        have hX : ∀ (w2 w3 : World) (ko' : Option Nat) (oc' : Nat) (oo' : Option Addr), Below wr.heap.size wr w2 → OwG 33 2 w3 ko' oo' oc' (n + 1) (cellsR (chL 0 (l.take q)) ++ (cRowp r).toList) → Frm (fun b => ko = some b) w2 w3 → Moved w2 ko ko' → Gr 33 2 cRowp W w3 (chL 0 (l.take (q + 1))) ko' oc' oo' := by
          intro w2 w3 ko' oc' oo' hb ho hf hm
          rw [e2]
          exact (hG.call hb).app (by rw [← hn.out]; exact ho) hf hm
        have hn2 : Hid (n + 1 = (chL 0 (l.take (q + 1))).length) := Lib.hid (by rw [e2, List.length_append, ← hn.out]; rfl)
        have hO : OwG 33 2 wr ko oo oc n (cellsR (chL 0 (l.take q))) := by rw [hn.out]; exact hG.ow
        have hY : ∀ w3 ko' oc' oo', Gr 33 2 cRowp W w3 (chL 0 (l.take (q + 1))) ko' oc' oo' → w3.cell? ⟨b, off + q * 2 + 1, none⟩ = some (.int .i64 r.phase) := fun w3 ko' oc' oo' h => by
          obtain ⟨b', off', h1, -, h2⟩ := (hL.below h.bel).get hr
          cases h1
          exact h2
        have hsz := hG.bel.size
        have hne : ((r.phase : Int) != phN l q) = true := by simpa using he
        replace hnx := Lib.hid hnx
        replace x0 : wr.cell? ⟨b, off + q * 2, none⟩ = some (.int .i64 r.tick) := x0
        have one : ∀ u ∈ (cRowp r).toList, u.oneCell' = true := fun u hu => by
          simp only [List.mem_cons, List.not_mem_nil, or_false] at hu
          rcases hu with rfl | rfl <;> rfl
        clear hr hch hL hL1 hG hn e2 he
        obtain ⟨t', p'⟩ := r
        simp only at *
        go_wp2_with (at_builtin; refine wpList_appG rfl (.tmp 19) (.tmp 24) 22 33 i1 _ 2 16 Try.underlying22 hi1 hz1 hs1 hb1 rfl (by decide) rfl (hO.alloc _) (SrcG.row (cs := cRowp ⟨t', p'⟩) (Blk.new' (by simp)) rfl one) rfl rfl (by omega) (by omega) ?_; intro oo' oc' ko' w3 ho hf3 hm3; have hN := hX _ _ _ _ _ ((Below.refl _ wr).alloc (Nat.le_refl _) _) ho hf3 hm3; have y1 := hY _ _ _ _ hN; clear hX hY hO)
        go_roundg (l.length - (q + 1))
        case measure => omega
        case rel => exact ⟨q + 1, ko', oc', oo', n + 1, by omega, by go_num, by rw [hnx.out], rfl, hn2, hN⟩
    · have hqe : q = l.length := by omega
      rw [hqe, List.take_length] at hG hn
      obtain rfl := hn.out
      go_wp2_with fail
      go_ret
      exact ⟨ko, oc, oo, rfl, hG⟩
end Go.Proofs.Ytjcopnhienijjaa
