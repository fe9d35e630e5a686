/-
  The reader of the document's Read: its numbers.
  The reader of the document's Read: counts; symbol.
  What the document's Read comes to, in plain arithmetic (no Go text).
-/
import Derived.Test.YtbkiipeoabbiiaaCfgD
import Derived.Test.YtbkiipeoabbiiaaOctT
import Derived.Test.YtbkiipeoabbiiaaPart
namespace Go.Proofs.Ytbkiipeoabbiiaa
open Go.RowKit
/-- A reader at block g, its bytes in block k. -/
def Qr (w : World) (g k : Nat) (zs : List Nat) (f : Nat) (big : Bool) : Prop := ∃ ao cap, Blk w g 82 #[.slice ao zs.length cap, .int .i64 (f : Int), .bool big] ∧ Bt w k ao cap zs ∧ (zs ≠ [] → g ≠ k)
theorem Qr.frm {S : Nat → Prop} {w w' : World} {g k f : Nat} {zs : List Nat} {big : Bool} (h : Qr w g k zs f big) (hf : Frm S w w') (hg : ¬ S g) (hk : zs ≠ [] → ¬ S k) : Qr w' g k zs f big := by
  obtain ⟨ao, cap, hb, hB, hn⟩ := h
  exact ⟨ao, cap, (hf.block g hb.lt hg).trans hb, hB.frm hf hk, hn⟩
theorem Qr.below {w w' : World} {g k f : Nat} {zs : List Nat} {big : Bool} (h : Qr w g k zs f big) (hb : Below w.heap.size w w') : Qr w' g k zs f big := h.frm (S := fun _ => False) (Frm.of_below hb) (fun h => h) (fun _ h => h)
def valN (n : Nat) : Nat := if 4611686018427387904 < n then 0 else n
set_option maxRecDepth 8000 in
set_option maxHeartbeats 1000000 in
theorem refnum_any (g k : Nat) (zs : List Nat) (f : Nat) (big : Bool) (W : World) (hR : Qr W g k zs f big) :
    Calls Try.prog 55 #[.pointer (some ⟨g, 0, none⟩)] W fun e w' => e = .returned (.int .i64 (valN (stepR 3 0 zs f).n : Int)) ∧ Qr w' g k (zs.drop (stepR 3 0 zs f).size) (stepR 3 0 zs f).f (big || bigN (stepR 3 0 zs f).n) ∧ Frm (fun b => b = g) W w' := by
  have hR0 := hR
  obtain ⟨ao, cap, hb, hB, hg⟩ := hR
  have c0 : W.cell? ⟨g, 0, none⟩ = some (.slice ao zs.length cap) := hb.cell_eq 0 _ rfl
  have c1 : W.cell? ⟨g, 1, none⟩ = some (.int .i64 (f : Int)) := hb.cell_eq 1 _ rfl
  have hlt := hb.lt
  by_cases hf : f = 0
  · subst hf
    have e : stepR 3 0 zs 0 = ⟨(rn zs 10 0 0).1, 0, [], (rn zs 10 0 0).2.1, (rn zs 10 0 0).2.2⟩ := rfl
    have cR := refReadNum_any k cap ao zs 0 W hB
    have e3 : rd 3 0 zs = ⟨(rn zs 10 0 0).1, 0, [], (rn zs 10 0 0).2.1, (rn zs 10 0 0).2.2⟩ := rfl
    have hsz := (rn_size zs 10 0 0).1
    rw [e3] at cR
    rw [e]
    simp only
    generalize (rn zs 10 0 0).1 = N at cR ⊢
    generalize (rn zs 10 0 0).2.1 = sz at cR hsz ⊢
    generalize (rn zs 10 0 0).2.2 = ff at cR ⊢
    clear e e3
    unfold rv at cR
    simp only [List.length_nil] at cR
    obtain ⟨ao2, cap2, hS, hB2⟩ := slice_from k cap ao zs sz hsz W hB
    have hld : (zs.drop sz).length = zs.length - sz := List.length_drop
    have fin : ∀ w1, Below W.heap.size W w1 → (Qr ((w1.setCell ⟨g, 1, none⟩ (.int .i64 (ff : Int))).setCell ⟨g, 0, none⟩ (.slice ao2 (zs.length - sz) cap2)) g k (zs.drop sz) ff big ∧ Frm (fun b => b = g) W ((w1.setCell ⟨g, 1, none⟩ (.int .i64 (ff : Int))).setCell ⟨g, 0, none⟩ (.slice ao2 (zs.length - sz) cap2))) ∧
        Qr (((w1.setCell ⟨g, 1, none⟩ (.int .i64 (ff : Int))).setCell ⟨g, 0, none⟩ (.slice ao2 (zs.length - sz) cap2)).setCell ⟨g, 2, none⟩ (.bool true)) g k (zs.drop sz) ff true ∧ Frm (fun b => b = g) W (((w1.setCell ⟨g, 1, none⟩ (.int .i64 (ff : Int))).setCell ⟨g, 0, none⟩ (.slice ao2 (zs.length - sz) cap2)).setCell ⟨g, 2, none⟩ (.bool true)) := by
      intro w1 hb1
      have hF : Frm (fun b => b = g) W ((w1.setCell ⟨g, 1, none⟩ (.int .i64 (ff : Int))).setCell ⟨g, 0, none⟩ (.slice ao2 (zs.length - sz) cap2)) := ((Frm.of_below (S := fun b => b = g) hb1).setCell _ _ (.inl rfl)).setCell _ _ (.inl rfl)
      have h3 : Blk ((w1.setCell ⟨g, 1, none⟩ (.int .i64 (ff : Int))).setCell ⟨g, 0, none⟩ (.slice ao2 (zs.length - sz) cap2)) g 82 #[.slice ao2 (zs.length - sz) cap2, .int .i64 (ff : Int), .bool big] :=
        (((hb.below hb1 hlt).set 1 (.int .i64 (ff : Int))).set 0 (.slice ao2 (zs.length - sz) cap2))
      have hB3 : Bt ((w1.setCell ⟨g, 1, none⟩ (.int .i64 (ff : Int))).setCell ⟨g, 0, none⟩ (.slice ao2 (zs.length - sz) cap2)) k ao2 cap2 (zs.drop sz) := hB2 _ (hB.frm hF (fun hx e => hg hx e.symm))
      exact ⟨⟨⟨ao2, cap2, by rw [hld]; exact h3, hB3, fun hx => hg (drop_some hx)⟩, hF⟩, ⟨ao2, cap2, by rw [hld]; exact h3.set 2 _, hB3.keep fun hx => Below.heap_setCell _ _ _ _ (fun e => hg (drop_some hx) e.symm), fun hx => hg (drop_some hx)⟩, hF.setCell _ _ (.inl rfl)⟩
    have bel : ∀ (w : World) o, Below w.heap.size w (w.alloc o).drew := fun w o => ((Below.refl _ w).alloc (Nat.le_refl _) o).drew
    have k1 : ∀ w1, Below W.heap.size W w1 → Blk w1 g 82 #[.slice ao zs.length cap, .int .i64 ((0 : Nat) : Int), .bool big] := fun w1 h => hb.below h hlt
    cases hk : bigN N with
    | true =>
      have hd : decide ((4611686018427387904 : Int) < (N : Int)) = true := by
        unfold bigN at hk; simp at hk ⊢; omega
      have hv : valN N = 0 := by unfold valN; unfold bigN at hk; simp at hk; rw [if_pos hk]
      rw [hv, Bool.or_true]
      clear hk hv hB hB2 hb hR0
      go_enter Try.func55, Try.ntmps55
      go_wp2_with (go_at_call 74; refine cR.mono ?_; rintro e w1 ⟨rfl, hb1⟩; have hf1 := fin w1 hb1; have y1 := (k1 w1 hb1).cell_eq 1 _ rfl; have y0 := (k1 w1 hb1).cell_eq 0 _ rfl; have y2 := (k1 w1 hb1).cell_eq 2 _ rfl; have z1 := (k1 w1 hb1).free 1; have z0 := (k1 w1 hb1).free 0; have z2 := (k1 w1 hb1).free 2; have hl1 := (k1 w1 hb1).lt)
      go_region
      all_goals go_wp2_with fail
      all_goals go_ret
      all_goals exact ⟨rfl, hf1.2.1.below (bel _ _), hf1.2.2.trans (Frm.of_below (S := fun _ => False) (bel _ _)) (fun _ h => h.elim)⟩
    | false =>
      have hd : decide ((4611686018427387904 : Int) < (N : Int)) = false := by
        unfold bigN at hk; simp at hk ⊢; omega
      have hN : N ≤ 4611686018427387904 := by unfold bigN at hk; simp at hk; exact hk
      have hv : valN N = N := by unfold valN; rw [if_neg (by omega)]
      have hcv : ∀ w, (convert 67 2 (.int .u64 (N : Int))).run Try.prog w = .ok (.int .i64 (N : Int)) w := by
        have h := (cut_facts N).2
        rw [cutN_same hN] at h
        exact h
      rw [hv, Bool.or_false]
      clear hk hv hB hB2 hb hR0 hN
      go_enter Try.func55, Try.ntmps55
      go_wp2_with (go_at_call 74; refine cR.mono ?_; rintro e w1 ⟨rfl, hb1⟩; have hf1 := fin w1 hb1; have y1 := (k1 w1 hb1).cell_eq 1 _ rfl; have y0 := (k1 w1 hb1).cell_eq 0 _ rfl; have y2 := (k1 w1 hb1).cell_eq 2 _ rfl; have z1 := (k1 w1 hb1).free 1; have z0 := (k1 w1 hb1).free 0; have z2 := (k1 w1 hb1).free 2; have hl1 := (k1 w1 hb1).lt)
      go_region
      all_goals go_wp2_with fail
      all_goals go_ret
      all_goals exact ⟨rfl, hf1.1.1.below (bel _ _), hf1.1.2.trans (Frm.of_below (S := fun _ => False) (bel _ _)) (fun _ h => h.elim)⟩
  · have e : stepR 3 0 zs f = ⟨0, 0, [], 0, f⟩ := if_neg hf
    rw [e]
    have t0 : ((f : Int) != 0) = true := by simp; omega
    have hv : valN 0 = 0 := rfl
    have hbg : bigN 0 = false := rfl
    simp only [hv, hbg, Bool.or_false, List.drop_zero]
    clear hB hb
    go_enter Try.func55, Try.ntmps55
    go_wp2_with fail
    go_ret
    exact ⟨rfl, hR0, Frm.refl _ _⟩
end Go.Proofs.Ytbkiipeoabbiiaa
namespace Go.Proofs.Ytbkiipeoabbiiaa
open Go.RowKit
def cntV (M : Nat) (r : Res) : Nat := if r.f = 0 ∧ M < r.n then 0 else r.n
def cntF (M : Nat) (r : Res) : Nat := if r.f = 0 ∧ M < r.n then 4 else r.f
theorem step_n0 (zs : List Nat) (f : Nat) (h : (stepR 3 0 zs f).f ≠ 0) : (stepR 3 0 zs f).n = 0 := by
  by_cases hf : f = 0
  · subst hf; exact (stepR_fault zs h).1
  · rw [step_bad hf]
set_option maxHeartbeats 1000000 in
theorem refcount_any (M : Nat) (hM : M ≤ 1000) (g k : Nat) (zs : List Nat) (f : Nat) (W : World) (hR : Qr W g k zs f false) :
    Calls Try.prog 54 #[.pointer (some ⟨g, 0, none⟩), .int .i64 (M : Int)] W fun e w' => e = .returned (.int .i64 (cntV M (stepR 3 0 zs f) : Int)) ∧ Qr w' g k (zs.drop (stepR 3 0 zs f).size) (cntF M (stepR 3 0 zs f)) (bigN (stepR 3 0 zs f).n) ∧ Frm (fun b => b = g) W w' := by
  have cN := refnum_any g k zs f false W hR
  have h0 := step_n0 zs f
  simp only [Bool.false_or] at cN
  unfold cntV cntF
  have q : ∀ w1 ao cap (X : List Nat) (ff : Nat) (b : Bool), Blk w1 g 82 #[.slice ao X.length cap, .int .i64 (ff : Int), .bool b] → w1.cell? ⟨g, 1, none⟩ = some (.int .i64 (ff : Int)) ∧ w1.cell? ⟨g, 2, none⟩ = some (.bool b) ∧ w1.frozen? ⟨g, 1, none⟩ = false := fun w1 ao cap X ff b h => ⟨h.cell_eq 1 _ rfl, h.cell_eq 2 _ rfl, h.free 1⟩
  have q4 : ∀ w1 X ff b, Qr w1 g k X ff b → Frm (fun b => b = g) W w1 → Qr (w1.setCell ⟨g, 1, none⟩ (.int .i64 4)) g k X 4 b ∧ Frm (fun b => b = g) W (w1.setCell ⟨g, 1, none⟩ (.int .i64 4)) := fun w1 X ff b h hf => by
    obtain ⟨ao, cap, hb, hB, hn⟩ := h
    exact ⟨⟨ao, cap, hb.set 1 _, hB.keep fun hx => Below.heap_setCell _ _ _ _ (fun e => hn hx e.symm), hn⟩, hf.setCell _ _ (.inl rfl)⟩
  clear hR
  generalize zs.drop (stepR 3 0 zs f).size = X at *
  generalize stepR 3 0 zs f = r at *
  obtain ⟨n, s, raw, sz, ff⟩ := r
  simp only at *
  by_cases hf : ff = 0
  · subst hf
    cases hk : bigN n with
    | true =>
      have hM2 : M < n := by unfold bigN at hk; simp at hk; omega
      have hv : valN n = 0 := by unfold valN; unfold bigN at hk; simp at hk; rw [if_pos hk]
      rw [if_pos ⟨rfl, hM2⟩, if_pos ⟨rfl, hM2⟩]
      rw [hk, hv] at cN
      clear hk hv hM2 h0
      go_enter Try.func54, Try.ntmps54
      go_wp2_with (go_at_call 55; refine cN.mono ?_; rintro e w1 ⟨rfl, hR1, hF1⟩; obtain ⟨g1, g2⟩ := q4 _ _ _ _ hR1 hF1; obtain ⟨ao, cap, hb, hB, hn⟩ := hR1; obtain ⟨y1, y2, z1⟩ := q _ _ _ _ _ _ hb)
      go_ret
      exact ⟨rfl, g1, g2⟩
    | false =>
      have hv : valN n = n := by unfold valN; unfold bigN at hk; simp at hk; rw [if_neg (by omega)]
      rw [hk, hv] at cN
      by_cases hM2 : M < n
      · rw [if_pos ⟨rfl, hM2⟩, if_pos ⟨rfl, hM2⟩]
        have hd : decide ((M : Int) < (n : Int)) = true := by simp; omega
        have hd3 : (M : Int) < (n : Int) := by omega
        clear hk hv h0
        go_enter Try.func54, Try.ntmps54
        go_wp2_with (go_at_call 55; refine cN.mono ?_; rintro e w1 ⟨rfl, hR1, hF1⟩; obtain ⟨g1, g2⟩ := q4 _ _ _ _ hR1 hF1; obtain ⟨ao, cap, hb, hB, hn⟩ := hR1; obtain ⟨y1, y2, z1⟩ := q _ _ _ _ _ _ hb)
        go_ret
        exact ⟨rfl, g1, g2⟩
      · rw [if_neg (fun h => hM2 h.2), if_neg (fun h => hM2 h.2)]
        have hd : decide ((M : Int) < (n : Int)) = false := by simp; omega
        have hd3 : ¬ (M : Int) < (n : Int) := by omega
        clear hk hv h0
        go_enter Try.func54, Try.ntmps54
        go_wp2_with (go_at_call 55; refine cN.mono ?_; rintro e w1 ⟨rfl, hR1, hF1⟩; have hR2 := hR1; obtain ⟨ao, cap, hb, hB, hn⟩ := hR1; obtain ⟨y1, y2, z1⟩ := q _ _ _ _ _ _ hb)
        go_ret
        exact ⟨rfl, hR2, hF1⟩
  · obtain rfl := h0 hf
    rw [if_neg (fun h => hf h.1), if_neg (fun h => hf h.1)]
    have hd : ((ff : Int) == 0) = false := by simp; omega
    have hv : valN 0 = 0 := rfl
    rw [hv] at cN
    clear h0
    go_enter Try.func54, Try.ntmps54
    go_wp2_with (go_at_call 55; refine cN.mono ?_; rintro e w1 ⟨rfl, hR1, hF1⟩; have hR2 := hR1; obtain ⟨ao, cap, hb, hB, hn⟩ := hR1; obtain ⟨y1, y2, z1⟩ := q _ _ _ _ _ _ hb)
    go_ret
    exact ⟨rfl, hR2, hF1⟩
set_option maxHeartbeats 1000000 in
theorem refrows_any (g k : Nat) (zs : List Nat) (f : Nat) (big : Bool) (W : World) (hR : Qr W g k zs f big) :
    Calls Try.prog 57 #[.pointer (some ⟨g, 0, none⟩)] W fun e w' => e = .returned (.int .i64 (cntV 20 (stepR 3 0 zs f) : Int)) ∧ Qr w' g k (zs.drop (stepR 3 0 zs f).size) (cntF 20 (stepR 3 0 zs f)) (bigN (stepR 3 0 zs f).n || big) ∧ Frm (fun b => b = g) W w' := by
  obtain ⟨ao, cap, hb, hB, hn⟩ := hR
  have y2 : W.cell? ⟨g, 2, none⟩ = some (.bool big) := hb.cell_eq 2 _ rfl
  have z2 := hb.free 2
  have hF0 : Frm (fun b => b = g) W (W.setCell ⟨g, 2, none⟩ (.bool false)) := (Frm.refl _ W).setCell _ _ (.inl rfl)
  have hR0 : Qr (W.setCell ⟨g, 2, none⟩ (.bool false)) g k zs f false := ⟨ao, cap, hb.set 2 _, hB.keep fun hx => Below.heap_setCell _ _ _ _ (fun e => hn hx e.symm), hn⟩
  have cC := refcount_any 20 (by decide) g k zs f _ hR0
  have fin : ∀ w1 X ff b v, Qr w1 g k X ff b → Frm (fun b => b = g) (W.setCell ⟨g, 2, none⟩ (.bool false)) w1 → Qr (w1.setCell ⟨g, 2, none⟩ (.bool v)) g k X ff v ∧ Frm (fun b => b = g) W (w1.setCell ⟨g, 2, none⟩ (.bool v)) ∧ w1.cell? ⟨g, 2, none⟩ = some (.bool b) ∧ w1.frozen? ⟨g, 2, none⟩ = false := fun w1 X ff b v h hf => by
    obtain ⟨ao, cap, hb, hB, hn⟩ := h
    exact ⟨⟨ao, cap, hb.set 2 _, hB.keep fun hx => Below.heap_setCell _ _ _ _ (fun e => hn hx e.symm), hn⟩, (hF0.trans hf (fun _ h => .inl h)).setCell _ _ (.inl rfl), hb.cell_eq 2 _ rfl, hb.free 2⟩
  clear hb hB hn hR0 hF0
  generalize zs.drop (stepR 3 0 zs f).size = X at *
  generalize cntF 20 (stepR 3 0 zs f) = F at *
  generalize cntV 20 (stepR 3 0 zs f) = V at *
  generalize bigN (stepR 3 0 zs f).n = b2 at *
  go_enter Try.func57, Try.ntmps57
  go_wp2_with (go_at_call 54; refine cC.mono ?_; rintro e w1 ⟨rfl, hR1, hF1⟩; obtain ⟨g1, g2, g3, g4⟩ := fin _ _ _ _ (b2 || big) hR1 hF1; cases b2)
  all_goals go_ret
  all_goals exact ⟨rfl, g1, g2⟩
/-- A symbol of numbers. -/
def symI (l : List Int) : Symb := ⟨l.getD 0 0, l.getD 1 0, l.getD 2 0, l.getD 3 0, l.getD 4 0, l.getD 5 0, l.getD 6 0, l.getD 7 0, l.getD 8 0, l.getD 9 0, l.getD 10 0, l.getD 11 0, l.getD 12 0, l.getD 13 0, l.getD 14 0, l.getD 15 0⟩
set_option maxRecDepth 8000 in
set_option maxHeartbeats 1000000 in
theorem refsym_any (a0 a1 a2 a3 a4 a5 a6 a7 a8 a9 a10 a11 a12 a13 a14 a15 : Int) (W : World) :
    Calls Try.prog 56 #[.agg #[.int .i64 a0, .int .i64 a1, .int .i64 a2, .int .i64 a3, .int .i64 a4, .int .i64 a5, .int .i64 a6, .int .i64 a7, .int .i64 a8, .int .i64 a9, .int .i64 a10, .int .i64 a11, .int .i64 a12, .int .i64 a13, .int .i64 a14, .int .i64 a15]] W
      fun e w' => e = .returned (vSymb ⟨a0, a1, a2, a3, a4, a5, a6, a7, a8, a9, a10, a11, a12, a13, a14, a15⟩) ∧ Below W.heap.size W w' := by
  go_enter Try.func56, Try.ntmps56
  go_wp2_with fail
  have hB := Blk.new' (w := W.alloc (.cells #[.int .i64 a0, .int .i64 a1, .int .i64 a2, .int .i64 a3, .int .i64 a4, .int .i64 a5, .int .i64 a6, .int .i64 a7, .int .i64 a8, .int .i64 a9, .int .i64 a10, .int .i64 a11, .int .i64 a12, .int .i64 a13, .int .i64 a14, .int .i64 a15] 71)) (n := W.heap.size + 1) (t := 35) (cs := cSymb ⟨a0, a1, a2, a3, a4, a5, a6, a7, a8, a9, a10, a11, a12, a13, a14, a15⟩) (by simp)
  refine bodyPost_ret (results_cell_row (p := 2) rfl _ _ _ _ (cSymb ⟨a0, a1, a2, a3, a4, a5, a6, a7, a8, a9, a10, a11, a12, a13, a14, a15⟩) _ _ rfl hB Try.underlying35 rfl sizeSymb) rfl ⟨rfl, ?_⟩
  exact ((Below.refl _ W).alloc (Nat.le_refl _) _).alloc (by simp) _
end Go.Proofs.Ytbkiipeoabbiiaa
namespace Go.Proofs.Ytbkiipeoabbiiaa
def q2M (z : List Nat) (f : Nat) : Nat := cntV 20 (stepR 3 0 z f)
def q2R (z : List Nat) (f : Nat) : List Nat × List Nat × Nat := rdNs (2 * q2M z f) (z.drop (stepR 3 0 z f).size) (cntF 20 (stepR 3 0 z f))
def q2T (z : List Nat) (f : Nat) : List Nat × List Nat × Nat := rdNs 6 (q2R z f).2.1 (q2R z f).2.2
def qN (b : List Nat) : Nat := cntV 8 (stepR 3 0 b 0)
def qS (b : List Nat) : List Nat × List Nat × Nat := rdNs (16 * qN b) (b.drop (stepR 3 0 b 0).size) (cntF 8 (stepR 3 0 b 0))
def qBig (b : List Nat) : Bool := (((bigN (stepR 3 0 (qS b).2.1 (qS b).2.2).n || (bigN (stepR 3 0 b 0).n || greatN (qS b).1)) || greatN (q2R (qS b).2.1 (qS b).2.2).1) || greatN (q2T (qS b).2.1 (qS b).2.2).1)
def qCfg (b : List Nat) : Cfg := cfgOf (qN b) ((qS b).1.map valN) (q2M (qS b).2.1 (qS b).2.2) ((q2R (qS b).2.1 (qS b).2.2).1.map valN) ((q2T (qS b).2.1 (qS b).2.2).1.map valN)
theorem cnt_bad {M : Nat} {r : Res} (hf : r.f ≠ 0) (hn : r.n = 0) : cntV M r = 0 ∧ cntF M r = r.f := by
  unfold cntV cntF
  rw [if_neg (fun h => hf h.1), if_neg (fun h => hf h.1)]
  exact ⟨hn, rfl⟩
theorem cnt_big {M : Nat} {r : Res} (hf : r.f = 0) (hn : M < r.n) : cntV M r = 0 ∧ cntF M r = 4 := by
  unfold cntV cntF
  rw [if_pos ⟨hf, hn⟩, if_pos ⟨hf, hn⟩]
  exact ⟨rfl, rfl⟩
theorem cnt_ok {M : Nat} {r : Res} (hf : r.f = 0) (hn : ¬ M < r.n) : cntV M r = r.n ∧ cntF M r = 0 := by
  unfold cntV cntF
  rw [if_neg (fun h => hn h.2), if_neg (fun h => hn h.2)]
  exact ⟨rfl, hf⟩
theorem q2_bad (z : List Nat) (f : Nat) (hf : f ≠ 0) : (q2T z f).2.2 = f := by
  have e := step_bad (b := z) hf
  have hM : q2M z f = 0 ∧ cntF 20 (stepR 3 0 z f) = f := by
    have h := cnt_bad (M := 20) (r := stepR 3 0 z f) (by rw [e]; exact hf) (by rw [e])
    rw [e] at h
    unfold q2M
    rw [e]
    exact h
  unfold q2T q2R
  rw [hM.1, hM.2, Nat.mul_zero, rdNs, rdNs_fault _ _ _ hf]
theorem q2_ok (z : List Nat) : (q2T z 0).2.2 = (got2 z).2 ∧ ((got2 z).2 = 0 → q2M z 0 = (got2 z).1.m ∧ (q2R z 0).1 = (got2 z).1.rs ∧ (q2T z 0).1 = (got2 z).1.ts ∧ (q2T z 0).2.1 = (got2 z).1.left ∧ bigN (stepR 3 0 z 0).n = false) := by
  unfold got2 got2c q2T q2R q2M
  have hn := step_n0 z 0
  generalize z.drop (stepR 3 0 z 0).size = z1
  generalize stepR 3 0 z 0 = r at *
  by_cases h1 : r.f = 0
  · by_cases h2 : 20 < r.n
    · obtain ⟨e1, e2⟩ := cnt_big h1 h2
      rw [e1, e2, if_neg (fun g => g h1), if_pos h2, Nat.mul_zero, rdNs, rdNs_fault _ _ _ (by show (4 : Nat) ≠ 0; decide)]
      exact ⟨rfl, fun h => by cases h⟩
    · obtain ⟨e1, e2⟩ := cnt_ok h1 h2
      rw [e1, e2, if_neg (fun g => g h1), if_neg h2]
      by_cases h3 : (rdNs (2 * r.n) z1 0).2.2 = 0
      · rw [if_neg (fun g => g h3), h3]
        by_cases h4 : (rdNs 6 (rdNs (2 * r.n) z1 0).2.1 0).2.2 = 0
        · rw [if_neg (fun g => g h4)]
          exact ⟨h4, fun _ => ⟨rfl, rfl, rfl, rfl, bigN_small (by omega)⟩⟩
        · rw [if_pos h4]
          exact ⟨rfl, fun h => absurd h h4⟩
      · rw [if_pos h3, rdNs_fault _ _ _ h3]
        exact ⟨rfl, fun h => absurd h h3⟩
  · obtain ⟨e1, e2⟩ := cnt_bad (M := 20) h1 (hn h1)
    rw [e1, e2, if_pos h1, Nat.mul_zero, rdNs, rdNs_fault _ _ _ h1]
    exact ⟨rfl, fun h => absurd h h1⟩
theorem q1_ok (b : List Nat) : (q2T (qS b).2.1 (qS b).2.2).2.2 = (gotK b).2 ∧ ((gotK b).2 = 0 → qN b = (gotK b).1.n ∧ (qS b).1 = (gotK b).1.ss ∧ q2M (qS b).2.1 (qS b).2.2 = (gotK b).1.m ∧ (q2R (qS b).2.1 (qS b).2.2).1 = (gotK b).1.rs ∧ (q2T (qS b).2.1 (qS b).2.2).1 = (gotK b).1.ts ∧ (q2T (qS b).2.1 (qS b).2.2).2.1 = (gotK b).1.left ∧ bigN (stepR 3 0 b 0).n = false ∧ bigN (stepR 3 0 (qS b).2.1 (qS b).2.2).n = false) := by
  rw [gotK_split]
  unfold got1c qS qN
  have hn := step_n0 b 0
  generalize b.drop (stepR 3 0 b 0).size = z1
  generalize stepR 3 0 b 0 = r at *
  by_cases h1 : r.f = 0
  · by_cases h2 : 8 < r.n
    · obtain ⟨e1, e2⟩ := cnt_big h1 h2
      rw [e1, e2, if_neg (fun g => g h1), if_pos h2, Nat.mul_zero, rdNs]
      exact ⟨q2_bad _ _ (by show (4 : Nat) ≠ 0; decide), fun h => by cases h⟩
    · obtain ⟨e1, e2⟩ := cnt_ok h1 h2
      rw [e1, e2, if_neg (fun g => g h1), if_neg h2]
      by_cases h3 : (rdNs (16 * r.n) z1 0).2.2 = 0
      · rw [if_neg (fun g => g h3), h3]
        obtain ⟨g1, g2⟩ := q2_ok (rdNs (16 * r.n) z1 0).2.1
        by_cases h4 : (got2 (rdNs (16 * r.n) z1 0).2.1).2 = 0
        · rw [if_neg (fun g => g h4)]
          obtain ⟨a1, a2, a3, a4, a5⟩ := g2 h4
          exact ⟨g1.trans h4, fun _ => ⟨rfl, rfl, a1, a2, a3, a4, bigN_small (by omega), a5⟩⟩
        · rw [if_pos h4]
          exact ⟨g1, fun h => absurd h h4⟩
      · rw [if_pos h3]
        exact ⟨q2_bad _ _ h3, fun h => absurd h h3⟩
  · obtain ⟨e1, e2⟩ := cnt_bad (M := 8) h1 (hn h1)
    rw [e1, e2, if_pos h1, Nat.mul_zero, rdNs]
    exact ⟨q2_bad _ _ h1, fun h => absurd h h1⟩
theorem valN_same {l : List Nat} (h : greatN l = false) : l.map valN = l := by
  conv => rhs; rw [← List.map_id l]
  refine List.map_congr_left fun n hn => ?_
  have := great_no h n hn
  unfold valN
  rw [if_neg (by omega)]
  rfl
/-- What the document's Read comes to, and what bytes are. -/
inductive QCase (b : List Nat) : Prop
  | fault (h : (q2T (qS b).2.1 (qS b).2.2).2.2 ≠ 0) (e : readC b = (Cfg.zero, (q2T (qS b).2.1 (qS b).2.2).2.2))
  | shape (h : (q2T (qS b).2.1 (qS b).2.2).2.2 = 0) (h2 : qBig b = true ∨ (q2T (qS b).2.1 (qS b).2.2).2.1 ≠ []) (e : readC b = (Cfg.zero, 4))
  | wrong (h : (q2T (qS b).2.1 (qS b).2.2).2.2 = 0) (h2 : qBig b = false) (h3 : (q2T (qS b).2.1 (qS b).2.2).2.1 = []) (bad : (checkF (qCfg b)).1 ≠ 0) (e : readC b = (Cfg.zero, (checkF (qCfg b)).1))
  | right (h : (q2T (qS b).2.1 (qS b).2.2).2.2 = 0) (h2 : qBig b = false) (h3 : (q2T (qS b).2.1 (qS b).2.2).2.1 = []) (ok : (checkF (qCfg b)).1 = 0) (e : readC b = (qCfg b, 0))
theorem q_cases (b : List Nat) : QCase b := by
  obtain ⟨h1, h2⟩ := q1_ok b
  by_cases h0 : (gotK b).2 = 0
  · obtain ⟨a1, a2, a3, a4, a5, a6, a7, a8⟩ := h2 h0
    have hb : qBig b = (gotK b).1.great := by
      unfold qBig Got.great
      rw [a2, a4, a5, a7, a8]
      simp only [Bool.false_or, Bool.or_assoc]
    by_cases h3 : (gotK b).1.great = true ∨ (gotK b).1.left ≠ []
    · refine .shape (h1.trans h0) (by rw [hb, a6]; exact h3) ?_
      unfold readC
      rw [if_neg (fun g => g h0), if_pos h3]
    · have hg : (gotK b).1.great = false := by
        cases e : (gotK b).1.great with
        | false => rfl
        | true => exact absurd (.inl e) h3
      have hl : (gotK b).1.left = [] := Classical.byContradiction fun h => h3 (.inr h)
      have hc : qCfg b = (gotK b).1.cfg := by
        have hg2 := hg
        unfold Got.great at hg2
        simp only [Bool.or_eq_false_iff] at hg2
        unfold qCfg Got.cfg
        rw [a1, a2, a3, a4, a5, valN_same hg2.1, valN_same hg2.2.1, valN_same hg2.2.2]
      by_cases h4 : (checkF (gotK b).1.cfg).1 = 0
      · refine .right (h1.trans h0) (hb.trans hg) (a6.trans hl) (by rw [hc]; exact h4) ?_
        unfold readC
        rw [if_neg (fun g => g h0), if_neg h3, if_neg (fun g => g h4), hc]
      · refine .wrong (h1.trans h0) (hb.trans hg) (a6.trans hl) (by rw [hc]; exact h4) ?_
        unfold readC
        rw [if_neg (fun g => g h0), if_neg h3, if_pos h4, hc]
  · refine .fault (by rw [h1]; exact h0) ?_
    unfold readC
    rw [if_pos h0, h1]
end Go.Proofs.Ytbkiipeoabbiiaa
