/-
  leave of the program's window: the trades that have left it are taken off its sums and cut off its list. (Written by gen/p_wlv.py.)
-/
import Derived.Test.YteljjjdejjkgfaaGG
import Derived.Test.YteljjjdejjkgfaaGI
import Derived.Test.YteljjjdejjkgfaaGH
namespace Go.Proofs.Yteljjjdejjkgfaa
open Go.RowKit
set_option linter.unusedSimpArgs false
theorem frm_twoW (w : World) (g i j : Nat) (u v : Value) : Frm (fun c => c = g) w ((w.setCell ⟨g, i, none⟩ u).setCell ⟨g, j, none⟩ v) := by
  have h0 : Frm (fun c => c = g) w w := Frm.refl _ w
  have h1 : Frm (fun c => c = g) w (w.setCell ⟨g, i, none⟩ u) := h0.setCell ⟨g, i, none⟩ u (.inl rfl)
  exact h1.setCell ⟨g, j, none⟩ v (.inl rfl)
theorem infoPtr : (Try.prog.info? 59).map (fun i => (i.zero, i.size, i.bytes)) = some (some (vTrd Trd.zero), 3, 24) := by kernel_rfl
theorem cells_ptr : Try.prog.cellsOf 59 = 3 := by kernel_rfl
/-- Of trades in order those behind a tick are what is left behind the first ones. -/
theorem drop_filter (c : Int) : ∀ L : List Trd, (L.Pairwise fun x y => x.tick ≤ y.tick) → ∃ k, k ≤ L.length ∧ (L.filter fun x => decide (c < x.tick)) = L.drop k ∧ (∀ (i : Nat) x, i < k → L[i]? = some x → x.tick ≤ c) ∧ ∀ x, L[k]? = some x → c < x.tick
  | [], _ => ⟨0, Nat.le_refl _, rfl, fun i x h => by omega, fun x h => by simp at h⟩
  | y :: l, h => by
    obtain ⟨h1, h2⟩ := List.pairwise_cons.1 h
    by_cases hc : c < y.tick
    · refine ⟨0, Nat.zero_le _, ?_, fun i x h => by omega, fun x hx => by simp at hx; subst hx; exact hc⟩
      rw [List.drop_zero]
      refine List.filter_eq_self.2 fun x hx => ?_
      rcases List.mem_cons.1 hx with rfl | hx
      · simpa using hc
      · have := h1 x hx
        simp only [decide_eq_true_eq]
        omega
    · obtain ⟨k, k1, k2, k3, k4⟩ := drop_filter c l h2
      refine ⟨k + 1, by simp only [List.length_cons]; omega, ?_, fun i x hi hx => ?_, fun x hx => k4 x (by simpa using hx)⟩
      · rw [List.filter_cons, if_neg (by simpa using hc), k2, List.drop_succ_cons]
      · cases i with
        | zero => simp at hx; subst hx; omega
        | succ i => exact k3 i x (by omega) (by simpa using hx)
theorem drop_at {α : Type} {l : List α} {i : Nat} {x : α} (h : l[i]? = some x) : l.drop i = x :: l.drop (i + 1) := by
  obtain ⟨hlt, rfl⟩ := List.getElem?_eq_some_iff.1 h
  exact List.drop_eq_getElem_cons hlt
theorem sums_drop {l : List Trd} {i : Nat} {x : Trd} (h : l[i]? = some x) : pqs (l.drop (i + 1)) = pqs (l.drop i) - x.price * x.qty ∧ qqs (l.drop (i + 1)) = qqs (l.drop i) - x.qty := by
  rw [drop_at h]
  simp only [pqs, qqs]
  omega
theorem sums_small2 {l : List Trd} (h : ∀ x ∈ l, x.Ok) (hl : l.length ≤ 1000000) : 0 ≤ pqs l ∧ 0 ≤ qqs l ∧ qqs l ≤ 4294967296000000 ∧ pqs l ≤ 4722366482869645213696000000 := by
  obtain ⟨h1, h2, h3, h4⟩ := sums_small h
  omega
theorem tcs_drop (l : List Trd) (k : Nat) : (tcs l).drop (k * 3) = tcs (l.drop k) := by
  induction k generalizing l with
  | zero => simp
  | succ k ih =>
    cases l with
    | nil => simp
    | cons x l =>
      rw [List.drop_succ_cons, ← ih l]
      simp only [tcs, List.flatMap_cons]
      rw [show (k + 1) * 3 = 3 + k * 3 by omega, ← List.drop_drop]
      rfl
set_option maxHeartbeats 1000000 in
theorem slice_fromP {w : World} {ko : Option Nat} {ao : Option Addr} {cap n k : Nat} {cs : List Value} (h : OwD 59 3 w ko ao cap n cs) (hk : k ≤ n) :
    ∃ ao2 cap2, (∀ w, (Instr.slice 50 (.slice ao n cap) (some (.int .i64 (k : Int))) none none).run Try.prog w = .ok (.slice ao2 (n - k) cap2) w) ∧ ∀ w', OwD 59 3 w' ko ao cap n cs → OwD 59 3 w' ko ao2 cap2 (n - k) (cs.drop (k * 3)) := by
  have hl := h.len
  have ht := h.top
  unfold maxLen at ht
  have hu := Try.underlying50
  have hc := cells_ptr
  have haddr : ∀ w', OwD 59 3 w' ko ao cap n cs → (ko = none ∧ ao = none) ∨ ∃ k d, ko = some k ∧ ao = some ⟨k, d, none⟩ := fun w' h' => by
    rcases h'.at' with ⟨e1, e2, _⟩ | ⟨k, cur, d, e1, e2, _⟩
    · exact .inl ⟨e1, e2⟩
    · exact .inr ⟨k, d, e1, e2⟩
  by_cases hx : cap = k
  · subst hx
    refine ⟨ao, 0, fun w => ?_, fun w' h' => h'.cut hk (by omega) ((haddr w' h').imp id fun ⟨k, d, e1, e2⟩ => ⟨k, d, e1, e2, .inr ⟨rfl, e2⟩⟩)⟩
    simp [go_sem, Instr.slice]
    intro h; omega
  · refine ⟨Option.map (fun x => x.add (k * 3)) ao, cap - k, fun w => ?_, fun w' h' => h'.cut hk rfl ((haddr w' h').imp (fun ⟨e1, e2⟩ => ⟨e1, by rw [e2]; rfl⟩) fun ⟨k', d, e1, e2⟩ => ⟨k', d, e1, e2, .inl (by rw [e2]; simp [Addr.add_mid])⟩)⟩
    simp [go_sem, Instr.slice]
    rw [if_pos hk, if_neg hx]
set_option maxHeartbeats 1000000 in
theorem pclone_any {W : World} {ko : Option Nat} {ao : Option Addr} {cap n : Nat} {cs : List Value} (h1 : ∀ u ∈ cs, u.oneCell' = true) (hn : n ≤ 1000000) (h : OwD 59 3 W ko ao cap n cs) :
    Calls Try.prog 45 #[.slice ao n cap] W fun e w' => ∃ ko' ao' cap', e = .returned (.slice ao' n cap') ∧ OwD 59 3 w' ko' ao' cap' n cs ∧ (∀ k, ko' = some k → W.heap.size ≤ k) ∧ Below W.heap.size W w' := by
  have eN : ∀ (w : World) (b : Option Addr) (n c : Nat), (binOp .eql 50 (.slice b n c) (.slice none 0 0)).run Try.prog w = .ok (.bool b.isNone) w := fun w b n c => Lib.run_eql_slice_nil w _ _ b n c 0 0 Try.underlying50
  cases ao with
  | none =>
    have h0 : n = 0 ∧ cs = [] := by
      rcases h.at' with ⟨_, _, h0⟩ | ⟨k, cur, d, _, h2, _⟩
      · have := h.len
        have e : n = 0 := by omega
        exact ⟨e, List.eq_nil_of_length_eq_zero (by rw [h.cells, e, Nat.zero_mul])⟩
      · cases h2
    obtain ⟨rfl, rfl⟩ := h0
    go_enter Try.func45, Try.ntmps45
    go_wp2
    go_ret
    exact ⟨none, none, 0, rfl, OwD.nil _ _ _, (fun k e => by cases e), Below.refl _ _⟩
  | some a =>
    obtain ⟨i1, hi1, e1⟩ := Option.map_eq_some_iff.1 infoPtr
    simp only [Prod.mk.injEq] at e1
    obtain ⟨hz1, hs1, hb1⟩ := e1
    have hsrc := (h.below ((Below.refl _ W).alloc (Nat.le_refl _) (.cells #[] 59))).src h1
    go_enter Try.func45, Try.ntmps45
    go_wp2_with (at_builtin; refine wpList_appG rfl (.tmp 5) (.tmp 6) 50 59 i1 _ 3 24 Try.underlying50 hi1 hz1 hs1 hb1 rfl (by decide) rfl (OwG.emptyW _ _ W) hsrc rfl rfl (by omega) (by omega) ?_; intro oo' oc' ko' w3 ho hf3 hm3)
    go_ret
    rw [List.nil_append] at ho
    have hown : ∀ k, ko' = some k → W.heap.size ≤ k := by
      intro k hk
      rcases hm3 with h1 | h1 | ⟨k2, h1, h2⟩
      · rw [h1] at hk; cases hk
      · rw [h1] at hk; cases hk; exact Nat.le_refl _
      · rw [h1] at hk; cases hk; simp at h2; omega
    rw [Nat.zero_add] at ho
    exact ⟨ko', oo', oc', rfl, .of_own ho, hown, ((Below.refl _ W).alloc (Nat.le_refl _) _).trans (hf3.below (by simp) (by intro k h; cases h; exact Nat.le_refl _))⟩
section
variable {w w' W : World} {g : Nat} {S T : Nat → Prop} {m : Wn} {ko : Option Nat} {ao : Option Addr} {cap : Nat}
theorem Wn.Ok.inW (h : m.Ok) (t : Int) : ({ m with L := m.inW t } : Wn).Ok :=
  ⟨h.s, h.g, h.r, h.l, fun x hx => h.ok x (List.mem_filter.1 hx).1, h.srt.filter _⟩
theorem tcs_at : ∀ (l : List Trd) (i : Nat) (m : Trd), l[i]? = some m → ∀ (j : Nat) (v : Value), (cTrd m)[j]? = some v → (tcs l)[i * 3 + j]? = some v := by
  intro l
  induction l with
  | nil => intro i m hi; simp at hi
  | cons x t ih =>
    intro i m hi j v hj
    have hx : ((cTrd x).toList).length = 3 := rfl
    rw [tcs, List.flatMap_cons]
    cases i with
    | zero =>
      obtain rfl : x = m := by simpa using hi
      have hlt : j < 3 := by
        have := (Array.getElem?_eq_some_iff.1 hj).1
        simpa using this
      rw [List.getElem?_append_left (by rw [hx]; omega), Nat.zero_mul, Nat.zero_add]
      simpa using hj
    | succ i =>
      rw [List.getElem?_append_right (by rw [hx]; omega), hx, show (i + 1) * 3 + j - 3 = i * 3 + j by omega]
      exact ih i m (by simpa using hi) j v hj
theorem WpB.row (h : WpB W g S ko ao cap m) (hf : Frm (fun c => c = g) W w) {i : Nat} {x : Trd} (hi : m.L[i]? = some x) : ∃ b off, ao = some ⟨b, off, none⟩ ∧ w.cell? ⟨b, off + i * 3, none⟩ = some (.int .i64 x.tick) ∧ w.cell? ⟨b, off + i * 3 + 1, none⟩ = some (.int .i64 x.price) ∧ w.cell? ⟨b, off + i * 3 + 2, none⟩ = some (.int .i64 x.qty) := by
  have h1 := h.how.frm hf fun k e => (h.sk k e).2
  obtain ⟨b, d, -, ha, -⟩ := h1.cell _ _ (tcs_at _ i x hi 0 _ rfl)
  have hc : ∀ (j : Nat) (v : Value), (cTrd x)[j]? = some v → w.cell? ⟨b, d + i * 3 + j, none⟩ = some v := fun j v hj => by
    obtain ⟨b', d', -, ha', hv, -⟩ := h1.cell _ _ (tcs_at _ i x hi j v hj)
    rw [ha] at ha'
    cases ha'
    rwa [Nat.add_assoc]
  exact ⟨b, d, ha, hc 0 _ rfl, hc 1 _ rfl, hc 2 _ rfl⟩
set_option maxRecDepth 100000 in
set_option maxHeartbeats 8000000 in
theorem pleave_any (t : Int) (ht : 0 ≤ t ∧ t ≤ 1152921504606846976) (hlen : m.L.length ≤ 1000000) (h : WpB W g S ko ao cap m) : Calls Try.prog 32 #[.pointer (some ⟨g, 0, none⟩), .int .i64 t] W fun e w' => e = .returned (.tuple #[]) ∧ Tp W g S { m with L := m.inW t } w' := by
  have hok := h.ok
  obtain ⟨k, k1, k2, k3, k4⟩ := drop_filter (t - m.span) m.L hok.srt
  have hin : m.inW t = m.L.drop k := k2
  have hsp := hok.s
  have hdt : IntKind.i64.wrap (t - m.span) = t - m.span := by rw [IntKind.wrap_i64]; omega
  have hgl := h.lt g h.sg
  have hrest : ∃ ao2 cap2, (∀ w, (Instr.slice 50 (.slice ao m.L.length cap) (some (.int .i64 (k : Int))) none none).run Try.prog w = .ok (.slice ao2 (m.L.length - k) cap2) w) ∧ ∀ w', Frm (fun c => c = g) W w' → OwD 59 3 w' ko ao2 cap2 (m.L.length - k) (tcs (m.L.drop k)) := by
    obtain ⟨ao2, cap2, h1, h2⟩ := slice_fromP h.how k1
    refine ⟨ao2, cap2, h1, fun w' hf => ?_⟩
    rw [← tcs_drop]
    exact h2 w' (h.how.frm hf fun k e => (h.sk k e).2)
  have hfinE : ∀ V, Blk V g 55 (cWin m.span m.grid m.ref m.last ao m.L.length cap (pqs (m.L.drop k)) (qqs (m.L.drop k))) → Frm (fun c => c = g) W V → ∀ V5 koF aoF capF, Below V.heap.size V V5 → OwD 59 3 V5 koF aoF capF (m.L.length - k) (tcs (m.L.drop k)) → (∀ c, koF = some c → ko = some c ∨ V.heap.size ≤ c) → V5.cell? ⟨g, 4, none⟩ = some (.slice ao m.L.length cap) ∧ (∀ i, V5.frozen? ⟨g, i, none⟩ = false) ∧ ∀ w5, w5 = V5.setCell ⟨g, 4, none⟩ (.slice aoF (m.L.length - k) capF) → Tp W g S { m with L := m.inW t } w5 := by
    intro V hBV hfV V5 koF aoF capF hb5 hO hko
    have hB5 := hBV.below hb5 hBV.lt
    have hs3 := hfV.size
    have hs5 := hb5.size
    refine ⟨hB5.cell_eq 4 _ rfl, hB5.free, ?_⟩
    rintro w5 rfl
    have hs : (V5.setCell ⟨g, 4, none⟩ (.slice aoF (m.L.length - k) capF)).heap.size = V5.heap.size := by simp
    have hne : ∀ c, koF = some c → c ≠ g ∧ (S c ∨ W.heap.size ≤ c) := fun c e => by
      rcases hko c e with e1 | e1
      · exact ⟨(h.sk c e1).2, .inl (h.sk c e1).1⟩
      · exact ⟨by omega, .inr (by omega)⟩
    refine ⟨fun c => c = g ∨ koF = some c, ⟨koF, aoF, capF, ?_, ?_, .inl rfl, fun c e => ⟨.inr e, (hne c e).1⟩, ?_, hok.inW t⟩, ?_, ?_⟩
    · rw [hin]
      have := hB5.set 4 (.slice aoF (m.L.length - k) capF)
      simp only [List.length_drop]
      exact this
    · rw [hin]
      simp only [List.length_drop]
      exact hO.keep fun c e => heap_oth _ _ _ (hne c e).1
    · rintro c (rfl | e)
      · rw [hs]; omega
      · rw [hs]; subst e; exact hO.lt
    · exact ((hfV.mono fun c _ e => by subst e; exact h.sg).trans (Frm.of_below (S := fun _ => False) hb5) (fun _ f => f.elim)).setCell ⟨g, 4, none⟩ _ (.inl h.sg)
    · rintro c (rfl | e)
      · exact .inl h.sg
      · exact (hne c e).2
  have hsum : ∀ i, 0 ≤ pqs (m.L.drop i) ∧ 0 ≤ qqs (m.L.drop i) ∧ qqs (m.L.drop i) ≤ 4294967296000000 ∧ pqs (m.L.drop i) ≤ 4722366482869645213696000000 := fun i => sums_small2 (fun x hx => (hok.ok x (List.mem_of_mem_drop hx)).1) (by rw [List.length_drop]; omega)
  have hB0 := h.hg
  have hrow := fun w (hf : Frm (fun c => c = g) W w) i x hi => h.row hf (i := i) (x := x) hi
  have hxo := fun i x (hi : m.L[i]? = some x) => (hok.ok x (List.mem_of_getElem? hi)).1
  have c4 := hB0.cell_eq 4 _ rfl
  replace hrest := Lib.hid hrest
  replace hfinE := Lib.hid hfinE
  replace hrow := Lib.hid hrow
  replace hsum := Lib.hid hsum
  replace hB0 := Lib.hid hB0
  clear k2 hin hok h
  go_enter Try.func32, Try.ntmps32
  go_wp2_with fail
  go_step3
  go_wp2_with fail
  go_step3
  go_wp2_with fail
  go_loopg [4, 13] m.L.length (fun j p4 p13 wr => ∃ (i : Nat) (P Q : Int), i + j = m.L.length ∧ i ≤ k ∧ p4 = .int .i64 (i : Int) ∧ p13 = .int .i64 (i : Int) ∧ Hid (P = pqs (m.L.drop i)) ∧ Hid (Q = qqs (m.L.drop i)) ∧ Hid (Blk wr g 55 (cWin m.span m.grid m.ref m.last ao m.L.length cap P Q)) ∧ Hid (Frm (fun c => c = g) W wr))
  case atStart => exact ⟨0, _, _, by omega, by omega, rfl, rfl, Lib.hid rfl, Lib.hid rfl, by rw [List.drop_zero]; exact hB0, Lib.hid (Frm.refl _ _)⟩
  case round =>
    obtain ⟨i, P, Q, hij, hik, rfl, rfl, hP, hQ, hBg, hFg⟩ := hrel
    by_cases him : i < k
    · obtain ⟨x, hx⟩ : ∃ x, m.L[i]? = some x := ⟨_, List.getElem?_eq_getElem (by omega)⟩
      have hi2 : (i : Int) < (m.L.length : Int) := by omega
      have hxk := hxo i x hx
      have hx3 := k3 i x him hx
      obtain ⟨bb, off, rfl, u0, u1, u2⟩ := hrow.out wr hFg.out i x hx
      obtain ⟨e1, e2⟩ := sums_drop hx
      have hs0 := hsum.out i
      have hs1 := hsum.out (i + 1)
      rw [e1, e2, ← hP.out, ← hQ.out] at hs1
      rw [← hP.out, ← hQ.out] at hs0
      have cW := fun w => up_subW P x hxk (by omega) (by omega) w
      have cA := fun w => up_subQ Q x hxk (by omega) (by omega) w
      have hP2 := Lib.hid (show P - x.price * x.qty = pqs (m.L.drop (i + 1)) by rw [e1, hP.out])
      have hQ2 := Lib.hid (show Q - x.qty = qqs (m.L.drop (i + 1)) by rw [e2, hQ.out])
      have hij' := Lib.hid hij
      have hng : ¬ t - m.span < x.tick := by omega
      clear hx hs0 hs1 e1 e2 hP hQ hsum hrow hxo k3 k4 hrest hfinE hB0 hij hxk hx3
      obtain ⟨x0, x1, x2⟩ := x
      simp only at u0 u1 u2 cW cA hP2 hQ2 hng
      go_wp2_with fail
      have hb1 : Below wr.heap.size wr (wr.alloc (.cells #[.int .i64 x0, .int .i64 x1, .int .i64 x2] 59)) := (Below.refl _ _).alloc (Nat.le_refl _) _
      have hTb0 : Blk (wr.alloc (.cells #[.int .i64 x0, .int .i64 x1, .int .i64 x2] 59)) wr.heap.size 59 (cTrd ⟨x0, x1, x2⟩) := Blk.new _ _ _
      have hgw : g < wr.heap.size := hBg.out.lt
      have hne : ¬ wr.heap.size = g := by omega
      generalize wr.alloc (.cells #[.int .i64 x0, .int .i64 x1, .int .i64 x2] 59) = V1 at *
      have hBg1 := hBg.out.below hb1 hgw
      have hFg1 := Lib.hid (hFg.out.trans (Frm.of_below (S := fun _ => False) hb1) (fun _ f => f.elim))
      have y0 := (Trd.cells hTb0).1
      have c0 := hBg1.cell_eq 0 _ rfl
      clear hBg hFg hb1 hgw u0 u1 u2 c4
      go_quiet (fail)
      have hb2 : Below V1.heap.size V1 (V1.drewN nq) := ⟨rfl, rfl, rfl, Nat.le_refl _, fun _ _ => rfl⟩
      generalize V1.drewN nq = V2 at *
      have hBz := hBg1.below hb2 hBg1.lt
      have hTb := hTb0.below hb2 hTb0.lt
      have hF2 := Lib.hid (hFg1.out.trans (Frm.of_below (S := fun _ => False) hb2) (fun _ f => f.elim))
      clear hBg1 hTb0 hFg1 hb2 y0 c0
      go_wp2_with fail
      refine wp_region_S (S := Lst V2 g 55 (cWin m.span m.grid m.ref m.last (some ⟨bb, off, none⟩) m.L.length cap (P) (Q)) (cWin m.span m.grid m.ref m.last (some ⟨bb, off, none⟩) m.L.length cap (P - x1 * x2) (Q)) 11 4) (by kernel_rfl) (Lst.start hBz _) ?_
      refine AllS.next (v := ?_) rfl rfl rfl (by kernel_rfl) ?_ ?_
      rotate_left
      · refine yieldsS_runr ?_ (by rfl) ?_
        · intro L wx hL hS
          exact Lst.other (by decide) hS
        intro L wx hL hS
        go_simp
        try with_reducible rfl
      try simp only [Act.put, List.setIfInBounds_toArray, List.set_cons_zero, List.set_cons_succ, List.getElem_toArray, List.getElem_cons_zero, List.getElem_cons_succ]
      refine AllS.next (v := ?_) rfl rfl rfl (by kernel_rfl) ?_ ?_
      rotate_left
      · refine yieldsS_runr ?_ (by rfl) ?_
        · intro L wx hL hS
          exact Lst.other (by decide) hS
        intro L wx hL hS
        go_simp
        try with_reducible rfl
      try simp only [Act.put, List.setIfInBounds_toArray, List.set_cons_zero, List.set_cons_succ, List.getElem_toArray, List.getElem_cons_zero, List.getElem_cons_succ]
      refine AllS.next (v := ?_) rfl rfl rfl (by kernel_rfl) ?_ ?_
      rotate_left
      · refine yieldsS_runr ?_ (by rfl) ?_
        · intro L wx hL hS
          exact Lst.other (by decide) hS
        intro L wx hL hS
        go_simp
        try with_reducible rfl
      try simp only [Act.put, List.setIfInBounds_toArray, List.set_cons_zero, List.set_cons_succ, List.getElem_toArray, List.getElem_cons_zero, List.getElem_cons_succ]
      refine AllS.next (v := ?_) rfl rfl rfl (by kernel_rfl) ?_ ?_
      rotate_left
      · refine yieldsS_runr ?_ (by rfl) ?_
        · intro L wx hL hS
          exact Lst.other (by decide) hS
        intro L wx hL hS
        go_simp
        try with_reducible rfl
      try simp only [Act.put, List.setIfInBounds_toArray, List.set_cons_zero, List.set_cons_succ, List.getElem_toArray, List.getElem_cons_zero, List.getElem_cons_succ]
      refine AllS.next (v := ?_) rfl rfl rfl (by kernel_rfl) ?_ ?_
      rotate_left
      · refine yieldsS_runr ?_ (by rfl) ?_
        · intro L wx hL hS
          exact Lst.other (by decide) hS
        intro L wx hL hS
        have hBg := hS.read hL
        have z5 := hBg.cell_eq 5 _ rfl
        have z6 := hBg.cell_eq 6 _ rfl
        go_simp
        try with_reducible rfl
      try simp only [Act.put, List.setIfInBounds_toArray, List.set_cons_zero, List.set_cons_succ, List.getElem_toArray, List.getElem_cons_zero, List.getElem_cons_succ]
      refine AllS.next (v := ?_) rfl rfl rfl (by kernel_rfl) ?_ ?_
      rotate_left
      · refine yieldsS_runr ?_ (by rfl) ?_
        · intro L wx hL hS
          exact Lst.other (by decide) hS
        intro L wx hL hS
        go_simp
        try with_reducible rfl
      try simp only [Act.put, List.setIfInBounds_toArray, List.set_cons_zero, List.set_cons_succ, List.getElem_toArray, List.getElem_cons_zero, List.getElem_cons_succ]
      refine AllS.next (v := ?_) rfl rfl rfl (by kernel_rfl) ?_ ?_
      rotate_left
      · refine yieldsS_runr ?_ (by rfl) ?_
        · intro L wx hL hS
          exact Lst.other (by decide) hS
        intro L wx hL hS
        obtain ⟨y0, y1, y2⟩ := Trd.cells (blk_frmW hTb hS.frm hne)
        go_simp
        try with_reducible rfl
      try simp only [Act.put, List.setIfInBounds_toArray, List.set_cons_zero, List.set_cons_succ, List.getElem_toArray, List.getElem_cons_zero, List.getElem_cons_succ]
      refine AllS.next (v := ?_) rfl rfl rfl (by kernel_rfl) ?_ ?_
      rotate_left
      · refine yieldsS_runr ?_ (by rfl) ?_
        · intro L wx hL hS
          exact Lst.other (by decide) hS
        intro L wx hL hS
        go_simp
        try with_reducible rfl
      try simp only [Act.put, List.setIfInBounds_toArray, List.set_cons_zero, List.set_cons_succ, List.getElem_toArray, List.getElem_cons_zero, List.getElem_cons_succ]
      refine AllS.next (v := .agg #[.int .u64 (hi (P - x1 * x2)), .int .u64 (lo (P - x1 * x2))]) rfl rfl rfl (by kernel_rfl) ?_ ?_
      · refine yieldsS_call (f := 28) (args := #[fnSub P, fnWorth ⟨x0, x1, x2⟩]) (by rfl) ?_ ?_
        · intro wx
          go_simp
          try with_reducible rfl
        · intro L wx hS
          exact (cW wx).mono fun e w h => ⟨h.1, Lst.call (by decide) hS h.2⟩
      try simp only [Act.put, List.setIfInBounds_toArray, List.set_cons_zero, List.set_cons_succ, List.getElem_toArray, List.getElem_cons_zero, List.getElem_cons_succ]
      refine AllS.next (v := ?_) rfl rfl rfl (by kernel_rfl) ?_ ?_
      rotate_left
      · refine yieldsS_runr ?_ (by rfl) ?_
        · intro L wx hL hS
          exact Lst.other (by decide) hS
        intro L wx hL hS
        go_simp
        try with_reducible rfl
      try simp only [Act.put, List.setIfInBounds_toArray, List.set_cons_zero, List.set_cons_succ, List.getElem_toArray, List.getElem_cons_zero, List.getElem_cons_succ]
      refine AllS.next (v := ?_) rfl rfl rfl (by kernel_rfl) ?_ ?_
      rotate_left
      · refine yieldsS_runr ?_ (by rfl) ?_
        · intro L wx hL hS
          exact Lst.other (by decide) hS
        intro L wx hL hS
        go_simp
        try with_reducible rfl
      try simp only [Act.put, List.setIfInBounds_toArray, List.set_cons_zero, List.set_cons_succ, List.getElem_toArray, List.getElem_cons_zero, List.getElem_cons_succ]
      refine AllS.next (v := undef) rfl rfl rfl (by kernel_rfl) ?_ ?_
      · refine yieldsS_skip (by rfl) fun L wx hL hS => ⟨(wx.setCell ⟨g, 5, none⟩ (.int .u64 (hi (P - x1 * x2)))).setCell ⟨g, 6, none⟩ (.int .u64 (lo (P - x1 * x2))), ?_, hS.done hL (ready_dep hL (by kernel_rfl)) (frm_twoW wx g _ _ _ _) (((hS.old hL).set 5 (.int .u64 (hi (P - x1 * x2)))).set 6 (.int .u64 (lo (P - x1 * x2))))⟩
        have hBg := hS.old hL
        have z5 := hBg.cell_eq 5 _ rfl
        have z6 := hBg.cell_eq 6 _ rfl
        have fr := hBg.free
        go_simp
        try with_reducible rfl
      try simp only [Act.put, List.setIfInBounds_toArray, List.set_cons_zero, List.set_cons_succ, List.getElem_toArray, List.getElem_cons_zero, List.getElem_cons_succ]
      refine AllS.done (by kernel_rfl) ?_
      intro V3 hS3
      obtain ⟨hBz3, hF3⟩ := hS3.end' (by rfl)
      replace hTb := blk_frmW hTb hF3 hne
      replace hF3 := Lib.hid (hF2.out.trans hF3 (fun c e => .inl e))
      clear hBz hF2 hS3 cW
      have hBz := hBz3
      clear hBz3
      go_wp2_with fail
      refine wp_region_S (S := Lst V3 g 55 (cWin m.span m.grid m.ref m.last (some ⟨bb, off, none⟩) m.L.length cap (P - x1 * x2) (Q)) (cWin m.span m.grid m.ref m.last (some ⟨bb, off, none⟩) m.L.length cap (P - x1 * x2) (Q - x2)) 11 4) (by kernel_rfl) (Lst.start hBz _) ?_
      refine AllS.next (v := ?_) rfl rfl rfl (by kernel_rfl) ?_ ?_
      rotate_left
      · refine yieldsS_runr ?_ (by rfl) ?_
        · intro L wx hL hS
          exact Lst.other (by decide) hS
        intro L wx hL hS
        go_simp
        try with_reducible rfl
      try simp only [Act.put, List.setIfInBounds_toArray, List.set_cons_zero, List.set_cons_succ, List.getElem_toArray, List.getElem_cons_zero, List.getElem_cons_succ]
      refine AllS.next (v := ?_) rfl rfl rfl (by kernel_rfl) ?_ ?_
      rotate_left
      · refine yieldsS_runr ?_ (by rfl) ?_
        · intro L wx hL hS
          exact Lst.other (by decide) hS
        intro L wx hL hS
        go_simp
        try with_reducible rfl
      try simp only [Act.put, List.setIfInBounds_toArray, List.set_cons_zero, List.set_cons_succ, List.getElem_toArray, List.getElem_cons_zero, List.getElem_cons_succ]
      refine AllS.next (v := ?_) rfl rfl rfl (by kernel_rfl) ?_ ?_
      rotate_left
      · refine yieldsS_runr ?_ (by rfl) ?_
        · intro L wx hL hS
          exact Lst.other (by decide) hS
        intro L wx hL hS
        go_simp
        try with_reducible rfl
      try simp only [Act.put, List.setIfInBounds_toArray, List.set_cons_zero, List.set_cons_succ, List.getElem_toArray, List.getElem_cons_zero, List.getElem_cons_succ]
      refine AllS.next (v := ?_) rfl rfl rfl (by kernel_rfl) ?_ ?_
      rotate_left
      · refine yieldsS_runr ?_ (by rfl) ?_
        · intro L wx hL hS
          exact Lst.other (by decide) hS
        intro L wx hL hS
        go_simp
        try with_reducible rfl
      try simp only [Act.put, List.setIfInBounds_toArray, List.set_cons_zero, List.set_cons_succ, List.getElem_toArray, List.getElem_cons_zero, List.getElem_cons_succ]
      refine AllS.next (v := ?_) rfl rfl rfl (by kernel_rfl) ?_ ?_
      rotate_left
      · refine yieldsS_runr ?_ (by rfl) ?_
        · intro L wx hL hS
          exact Lst.other (by decide) hS
        intro L wx hL hS
        have hBg := hS.read hL
        have z5 := hBg.cell_eq 7 _ rfl
        have z6 := hBg.cell_eq 8 _ rfl
        go_simp
        try with_reducible rfl
      try simp only [Act.put, List.setIfInBounds_toArray, List.set_cons_zero, List.set_cons_succ, List.getElem_toArray, List.getElem_cons_zero, List.getElem_cons_succ]
      refine AllS.next (v := ?_) rfl rfl rfl (by kernel_rfl) ?_ ?_
      rotate_left
      · refine yieldsS_runr ?_ (by rfl) ?_
        · intro L wx hL hS
          exact Lst.other (by decide) hS
        intro L wx hL hS
        go_simp
        try with_reducible rfl
      try simp only [Act.put, List.setIfInBounds_toArray, List.set_cons_zero, List.set_cons_succ, List.getElem_toArray, List.getElem_cons_zero, List.getElem_cons_succ]
      refine AllS.next (v := ?_) rfl rfl rfl (by kernel_rfl) ?_ ?_
      rotate_left
      · refine yieldsS_runr ?_ (by rfl) ?_
        · intro L wx hL hS
          exact Lst.other (by decide) hS
        intro L wx hL hS
        obtain ⟨y0, y1, y2⟩ := Trd.cells (blk_frmW hTb hS.frm hne)
        go_simp
        try with_reducible rfl
      try simp only [Act.put, List.setIfInBounds_toArray, List.set_cons_zero, List.set_cons_succ, List.getElem_toArray, List.getElem_cons_zero, List.getElem_cons_succ]
      refine AllS.next (v := ?_) rfl rfl rfl (by kernel_rfl) ?_ ?_
      rotate_left
      · refine yieldsS_runr ?_ (by rfl) ?_
        · intro L wx hL hS
          exact Lst.other (by decide) hS
        intro L wx hL hS
        go_simp
        try with_reducible rfl
      try simp only [Act.put, List.setIfInBounds_toArray, List.set_cons_zero, List.set_cons_succ, List.getElem_toArray, List.getElem_cons_zero, List.getElem_cons_succ]
      refine AllS.next (v := .agg #[.int .u64 (hi (Q - x2)), .int .u64 (lo (Q - x2))]) rfl rfl rfl (by kernel_rfl) ?_ ?_
      · refine yieldsS_call (f := 28) (args := #[fnSub Q, fnAmount ⟨x0, x1, x2⟩]) (by rfl) ?_ ?_
        · intro wx
          go_simp
          try with_reducible rfl
        · intro L wx hS
          exact (cA wx).mono fun e w h => ⟨h.1, Lst.call (by decide) hS h.2⟩
      try simp only [Act.put, List.setIfInBounds_toArray, List.set_cons_zero, List.set_cons_succ, List.getElem_toArray, List.getElem_cons_zero, List.getElem_cons_succ]
      refine AllS.next (v := ?_) rfl rfl rfl (by kernel_rfl) ?_ ?_
      rotate_left
      · refine yieldsS_runr ?_ (by rfl) ?_
        · intro L wx hL hS
          exact Lst.other (by decide) hS
        intro L wx hL hS
        go_simp
        try with_reducible rfl
      try simp only [Act.put, List.setIfInBounds_toArray, List.set_cons_zero, List.set_cons_succ, List.getElem_toArray, List.getElem_cons_zero, List.getElem_cons_succ]
      refine AllS.next (v := ?_) rfl rfl rfl (by kernel_rfl) ?_ ?_
      rotate_left
      · refine yieldsS_runr ?_ (by rfl) ?_
        · intro L wx hL hS
          exact Lst.other (by decide) hS
        intro L wx hL hS
        go_simp
        try with_reducible rfl
      try simp only [Act.put, List.setIfInBounds_toArray, List.set_cons_zero, List.set_cons_succ, List.getElem_toArray, List.getElem_cons_zero, List.getElem_cons_succ]
      refine AllS.next (v := undef) rfl rfl rfl (by kernel_rfl) ?_ ?_
      · refine yieldsS_skip (by rfl) fun L wx hL hS => ⟨(wx.setCell ⟨g, 7, none⟩ (.int .u64 (hi (Q - x2)))).setCell ⟨g, 8, none⟩ (.int .u64 (lo (Q - x2))), ?_, hS.done hL (ready_dep hL (by kernel_rfl)) (frm_twoW wx g _ _ _ _) (((hS.old hL).set 7 (.int .u64 (hi (Q - x2)))).set 8 (.int .u64 (lo (Q - x2))))⟩
        have hBg := hS.old hL
        have z5 := hBg.cell_eq 7 _ rfl
        have z6 := hBg.cell_eq 8 _ rfl
        have fr := hBg.free
        go_simp
        try with_reducible rfl
      try simp only [Act.put, List.setIfInBounds_toArray, List.set_cons_zero, List.set_cons_succ, List.getElem_toArray, List.getElem_cons_zero, List.getElem_cons_succ]
      refine AllS.done (by kernel_rfl) ?_
      intro V4 hS4
      obtain ⟨hBz4, hF4⟩ := hS4.end' (by rfl)
      replace hF4 := Lib.hid (hF3.out.trans hF4 (fun c e => .inl e))
      replace hBz4 := Lib.hid hBz4
      clear hBz hF3 hS4 cA hTb
      go_wp2_with fail
      go_roundg (m.L.length - (i + 1))
      case measure => have := hij'.out; omega
      case rel => exact ⟨i + 1, P - x1 * x2, Q - x2, by have := hij'.out; omega, by omega, by go_num, by go_num, hP2, hQ2, hBz4, hF4⟩
    · obtain rfl : i = k := by omega
      have hBg1 := hBg.out
      rw [hP.out, hQ.out] at hBg1
      have hFg1 := hFg.out
      clear hP hQ hBg hFg hsum hxo k3 hB0
      by_cases hil : i < m.L.length
      · obtain ⟨x, hx⟩ : ∃ x, m.L[i]? = some x := ⟨_, List.getElem?_eq_getElem hil⟩
        have hi2 : (i : Int) < (m.L.length : Int) := by omega
        have hx4 := k4 x hx
        obtain ⟨bb, off, rfl, u0, u1, u2⟩ := hrow.out wr hFg1 i x hx
        clear hrow hx k4 hij
        obtain ⟨x0, x1, x2⟩ := x
        simp only at u0 u1 u2 hx4
        go_wp2_with fail
        have hb1 : Below wr.heap.size wr (wr.alloc (.cells #[.int .i64 x0, .int .i64 x1, .int .i64 x2] 59)) := (Below.refl _ _).alloc (Nat.le_refl _) _
        have hTb0 : Blk (wr.alloc (.cells #[.int .i64 x0, .int .i64 x1, .int .i64 x2] 59)) wr.heap.size 59 (cTrd ⟨x0, x1, x2⟩) := Blk.new _ _ _
        generalize wr.alloc (.cells #[.int .i64 x0, .int .i64 x1, .int .i64 x2] 59) = V1 at *
        have hBg2 := hBg1.below hb1 hBg1.lt
        have hFg2 := hFg1.trans (Frm.of_below (S := fun _ => False) hb1) (fun _ f => f.elim)
        have y0 := (Trd.cells hTb0).1
        have c0 := hBg2.cell_eq 0 _ rfl
        clear hBg1 hFg1 hb1 u0 u1 u2 c4
        go_quiet (fail)
        have hb2 : Below V1.heap.size V1 (V1.drewN nq) := ⟨rfl, rfl, rfl, Nat.le_refl _, fun _ _ => rfl⟩
        generalize V1.drewN nq = V2 at *
        have hBg := hBg2.below hb2 hBg2.lt
        have hFg := hFg2.trans (Frm.of_below (S := fun _ => False) hb2) (fun _ f => f.elim)
        clear hBg2 hTb0 hFg2 hb2 y0 c0
        obtain ⟨ao2, cap2, hsl, hcut⟩ := hrest.out
        have c4 := hBg.cell_eq 4 _ rfl
        have frg := hBg.free
        have hend := Lib.hid (hfinE.out V2 hBg hFg)
        have hcutV := hcut V2 hFg
        have hO1 := tcs_one (m.L.drop i)
        have hkn : (i : Int) ≤ (m.L.length : Int) := by omega
        have hnk : ((m.L.length - i : Nat) : Int) = (m.L.length : Int) - (i : Int) := by omega
        clear hrest hfinE hcut hBg hFg
        by_cases hcl : m.L.length - i < i
        · have hcl1 : decide (((m.L.length - i : Nat) : Int) < (i : Int)) = true := by simp only [decide_eq_true_eq]; omega
          have cC := pclone_any hO1 (by omega) hcutV
          clear hnk
          generalize m.L.length - i = nr at *
          go_wp2_with (first
            | (go_at_call 45; refine cC.mono ?_; rintro e V5 ⟨ko5, ao5, cap5, rfl, hO5, hk5, hb5⟩; clear cC; obtain ⟨c45, fr5, hT5⟩ := hend.out V5 ko5 ao5 cap5 hb5 hO5 (fun c e => .inr (hk5 c e)))
            | fail)
          try rw [Exit.noGoto_normal]
          go_end0
          exact ⟨rfl, hT5 _ rfl⟩
        · have hcl1 : decide (((m.L.length - i : Nat) : Int) < (i : Int)) = false := by simp only [decide_eq_false_iff_not]; omega
          clear hnk
          obtain ⟨c45, fr5, hT5⟩ := hend.out V2 ko ao2 cap2 (Below.refl _ _) hcutV (fun c e => .inl e)
          generalize m.L.length - i = nr at *
          go_wp2_with fail
          try rw [Exit.noGoto_normal]
          go_end0
          exact ⟨rfl, hT5 _ rfl⟩
      · obtain rfl : i = m.L.length := by omega
        have hnl : ¬ (m.L.length : Int) < (m.L.length : Int) := by omega
        have hBg := hBg1
        have hFg := hFg1
        clear hBg1 hFg1 hrow k4 hij c4
        obtain ⟨ao2, cap2, hsl, hcut⟩ := hrest.out
        have c4 := hBg.cell_eq 4 _ rfl
        have frg := hBg.free
        have hend := Lib.hid (hfinE.out wr hBg hFg)
        have hcutV := hcut wr hFg
        have hO1 := tcs_one (m.L.drop m.L.length)
        have hkn : (m.L.length : Int) ≤ (m.L.length : Int) := by omega
        have hnk : ((m.L.length - m.L.length : Nat) : Int) = (m.L.length : Int) - (m.L.length : Int) := by omega
        clear hrest hfinE hcut hBg hFg
        by_cases hcl : m.L.length - m.L.length < m.L.length
        · have hcl1 : decide (((m.L.length - m.L.length : Nat) : Int) < (m.L.length : Int)) = true := by simp only [decide_eq_true_eq]; omega
          have cC := pclone_any hO1 (by omega) hcutV
          clear hnk
          generalize m.L.length - m.L.length = nr at *
          go_wp2_with (first
            | (go_at_call 45; refine cC.mono ?_; rintro e V5 ⟨ko5, ao5, cap5, rfl, hO5, hk5, hb5⟩; clear cC; obtain ⟨c45, fr5, hT5⟩ := hend.out V5 ko5 ao5 cap5 hb5 hO5 (fun c e => .inr (hk5 c e)))
            | fail)
          try rw [Exit.noGoto_normal]
          go_end0
          exact ⟨rfl, hT5 _ rfl⟩
        · have hcl1 : decide (((m.L.length - m.L.length : Nat) : Int) < (m.L.length : Int)) = false := by simp only [decide_eq_false_iff_not]; omega
          clear hnk
          obtain ⟨c45, fr5, hT5⟩ := hend.out wr ko ao2 cap2 (Below.refl _ _) hcutV (fun c e => .inl e)
          generalize m.L.length - m.L.length = nr at *
          go_wp2_with fail
          try rw [Exit.noGoto_normal]
          go_end0
          exact ⟨rfl, hT5 _ rfl⟩
end
end Go.Proofs.Yteljjjdejjkgfaa
