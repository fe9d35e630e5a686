/-
  SweepKeeps, for takers of the side 1. (Written by gen/p_swk.py.)
-/
import Derived.Test.YtdpibjnlpdgdeaaDoorGSd
import Derived.Test.YtdpibjnlpdgdeaaDoorGSa
import Derived.Test.YtdpibjnlpdgdeaaDoorGC
namespace Go.Proofs.YtdpibjnlpdgdeaaDoor
open Go.RowKit
set_option linter.unusedSimpArgs false
set_option maxRecDepth 100000 in
set_option maxHeartbeats 16000000 in
theorem skeeps_1 (ao : Option Addr) (cap : Nat) (l : List Ord) (t : Tkr) (ht : t.Fit) (W : World) (hG : Gl W) (hL : Ords W ao cap l) (hF : ∀ m ∈ l, m.Fit) (hl60 : l.length ≤ 60) (hS : t.side = 1) (hq : ¬ t.qty < 1) :
    Calls Tryd.prog 4 #[.slice ao l.length cap, vTkr t] W fun e w' => e = .returned (.bool true) ∧ Below W.heap.size W w' := by
  have hl1 := hL.len
  have hl2 := hL.top
  unfold maxLen at hl2
  have hl3 : l.length ≤ 9223372036854775807 := by omega
  clear hl1 hl2
  have cA := fun w (h : Gl w) => alive_any w h
  obtain ⟨W1, hW1⟩ : ∃ W1, W1 = W.alloc (.cells (cTkr t) 34) := ⟨_, rfl⟩
  have hb1 : Below W.heap.size W W1 := by rw [hW1]; exact (Below.refl _ _).alloc (Nat.le_refl _) _
  have hBT : Blk W1 W.heap.size 34 (cTkr t) := by rw [hW1]; exact Blk.new _ _ _
  have hT0 := fun w (h : Below W1.heap.size W1 w) => seven_cells (hBT.below h hBT.lt)
  have d60 : decide ((60 : Int) < (l.length : Int)) = false := decide_eq_false (by omega)
  clear hl3
  have hs : t.side = 0 ∨ t.side = 1 := .inr hS
  obtain ⟨x0, x1, x2, x3, x4, x5, x6⟩ := hT0 W1 (Below.refl _ _)
  have dq : decide (t.qty < 1) = false := decide_eq_false hq
  have hq1 : 1 ≤ t.qty := by omega
  clear hq
  have cB := books_any ao cap l W1 (hG.below hb1) (hL.below hb1) hF hl60
  have cO := fun w => own_any t w
  have hok := bks_ok hF
  obtain ⟨b, hb⟩ : ∃ b, b = bks l := ⟨_, rfl⟩
  rw [← hb] at cB hok
  have hlk : l.length ≤ 60 := hl60
  clear hb hL hF hl60
  have cM : ∀ g S k w, PB w g S k b → _ := fun g S k w h => sw_make (w := w) (g := g) (S := S) (k := k) t ht h
  obtain ⟨s1, s2, s3, s4, s5, s6⟩ := swm_sum hok hs hq1
  have hat := fun i x (h : (swm b t).fills[i]? = some x) => swm_at hok hs hq1 h
  have hbl : b.L.length ≤ 500 := by
    have := hok.len
    have := hok.s2
    omega
  have hff : ∀ x ∈ (swm b t).fills, x.Fit := fun x hx => by
    obtain ⟨i, hi⟩ := List.mem_iff_getElem?.1 hx
    obtain ⟨o, ho⟩ := hat i x hi
    exact ho.fit
  have hq2 : t.qty ≤ 9223372036854775807 := by have := ht.qty.2; omega
  generalize swm b t = p at *
  obtain ⟨fs, lf, st⟩ := p
  simp only at s1 s2 s3 s4 s5 s6 hat hff cM
  obtain ⟨z, hz⟩ : ∃ z, decide (0 < lf) = z := ⟨_, rfl⟩
  have hz2 : (st == 0) = !z := by
    rw [← hz]
    by_cases e : lf = 0
    · rw [s3.2 e, e]; rfl
    · have e2 : st ≠ 0 := fun f => e (s3.1 f)
      have e3 : (st == 0) = false := by simpa using e2
      have e4 : decide (0 < lf) = true := decide_eq_true (by omega)
      rw [e3, e4]; rfl
  have hz3 : (z == !z) = false := by cases z <;> rfl
  have dlf : decide (lf < 0) = false := decide_eq_false (by omega)
  have s7 : ∀ n, 0 ≤ trd (fs.take n) ∧ trd (fs.take n) ≤ 9223372036854775807 := fun n => ⟨(s4 n).1, by have := (s4 n).2; omega⟩
  obtain ⟨n, hn⟩ : ∃ n, n = fs.length := ⟨_, rfl⟩
  rw [← hn] at cM
  have hn2 : n ≤ 500 := by omega
  have cTr0 := fun (ao : Option Addr) (cap : Nat) (w : World) (h : Flls w ao cap fs) => sw_traded lf st h s7
  rw [← hn] at cTr0
  have cAp0 := fun (g : Nat) (S : Nat → Prop) (ao : Option Addr) (cap : Nat) (w : World) (hp : PB w g S l.length b) (h : Flls w ao cap fs) (hS : ∀ c off s, ao = some ⟨c, off, s⟩ → ¬ S c) => sw_apply lf st hp (by omega) h hff hS
  rw [← hn] at cAp0
  rw [s6] at cAp0
  replace hn := Lib.hid hn
  generalize trd fs = tr at *
  have hws : Hid (IntKind.i64.wrap t.qty = t.qty) := Lib.hid (by
    rw [IntKind.wrap_i64]
    have h1 := ht.qty.1
    omega)
  replace hz := Lib.hid hz
  replace hz2 := Lib.hid hz2
  clear s2 s3 s4 s6 s7 hff hq1 hs
  obtain ⟨side, owner, lim, qty, ⟨lo, hi⟩, self⟩ := t
  simp only at x0 x1 x2 x3 x4 x5 x6 s1 dq hS hq2 hws hT0
  clear ht
  simp only [cTkr] at hW1 hBT
  simp only [vTkr, cTkr] at cM cO ⊢
  subst hS
  go_enter Tryd.func4, Tryd.ntmps4
  go_wp2_with (first
    | (go_at_call 6; refine cB.mono ?_; rintro e w2 ⟨g, r, rfl, k2⟩; clear cB; have hb2 : Below W1.heap.size W1 w2 := (k2.frm.below (Nat.le_refl _) (fun _ f => f.elim)); obtain ⟨Sp, Sr, hP2, -, -, hSp⟩ := k2.both; clear k2 x0 x1 x2 x3 x4 x5 x6; obtain ⟨x0, x1, x2, x3, x4, x5, x6⟩ := hT0 w2 hb2)
    | (go_at_call 10; refine (cO w2).mono ?_; rintro e w3 ⟨rfl, hb3⟩; have hP3 := hP2.below hb3; clear cO x0 x1 x2 x3 x4 x5 x6)
    | (go_at_call 9; (with_reducible refine (cM _ _ _ _ hP3).mono ?_); rintro e w4 ⟨ao', cap', rfl, hFl4, hfr4, hb4⟩; obtain ⟨w6, hw6⟩ : ∃ w6, w6 = w4.alloc (.cells #[.slice ao' n cap', .int .i64 lf, .int .i64 st] 37) := ⟨_, rfl⟩; clear cM)
    | (rw [← hW1]; clear hW1)
    | fail)
  rw [← hw6]
  have hb56 : Below w4.heap.size w4 w6 := by rw [hw6]; exact (Below.refl _ _).alloc (Nat.le_refl _) _
  have hPl : Blk w6 w4.heap.size 37 #[.slice ao' n cap', .int .i64 lf, .int .i64 st] := by rw [hw6]; exact Blk.new _ _ _
  clear hw6
  have hb16 : Below W1.heap.size W1 w6 := hb2.trans ((hb3.trans ((hb4.trans (hb56.mono hb4.size)).mono hb3.size)).mono hb2.size)
  have hPB := (hP3.below hb4).below hb56
  have hFl := hFl4.below hb56
  have hT := fun w (h : Below w6.heap.size w6 w) => hT0 w (hb16.trans (h.mono hb16.size))
  have hP : ∀ w, Below w6.heap.size w6 w → w.cell? ⟨w4.heap.size, 0, none⟩ = some (.slice ao' n cap') ∧ w.cell? ⟨w4.heap.size, 1, none⟩ = some (.int .i64 lf) ∧ w.cell? ⟨w4.heap.size, 2, none⟩ = some (.int .i64 st) := fun w h => by
    have hB := hPl.below h hPl.lt
    exact ⟨hB.cell_eq 0 _ rfl, hB.cell_eq 1 _ rfl, hB.cell_eq 2 _ rfl⟩
  have hSn : ∀ c off s, ao' = some ⟨c, off, s⟩ → ¬ Sp c := fun c off s e hc => by
    have := hfr4 c off s e
    have := hP3.lt c hc
    omega
  have hSW : ∀ c, Sp c → W.heap.size ≤ c := fun c hc => by
    rcases hSp c (.inl hc) with e | e
    · exact e.elim
    · have := hb1.size; omega
  have hWz : W.heap.size + 1 ≤ w4.heap.size := by
    have := hBT.lt
    have := hb2.size
    have := hb3.size
    have := hb4.size
    omega
  have cTr : ∀ wx, Below w6.heap.size w6 wx → Calls Tryd.prog 11 #[.agg #[.slice ao' n cap', .int .i64 lf, .int .i64 st]] wx fun e w => e = .returned (.int .i64 tr) ∧ Below w6.heap.size w6 w := fun wx hS => (cTr0 _ _ wx (hFl.below hS)).mono fun e w h => ⟨h.1, hS.trans (h.2.mono hS.size)⟩
  have cAp : ∀ wx, Below w6.heap.size w6 wx → Calls Tryd.prog 14 #[.pointer (some ⟨g, 0, none⟩), .agg #[.slice ao' n cap', .int .i64 lf, .int .i64 st]] wx fun e w => e = .returned (.int .i64 0) ∧ Below W.heap.size W w := fun wx hS => (cAp0 g Sp _ _ wx (hPB.below hS) (hFl.below hS) hSn).mono fun e w h => ⟨h.1, (hb1.trans ((hb16.trans (hS.mono hb16.size)).mono hb1.size)).trans (h.2.2.below (by have := hb1.size; have := hb16.size; have := hS.size; omega) hSW)⟩
  have hbW : Below W.heap.size W w6 := hb1.trans (hb16.mono hb1.size)
  clear cTr0 cAp0 hFl4 hfr4 hb3 hb4 hb56 hP2 hP3 hSp hSn hSW hPl hb2 hT0 hBT hb16
  generalize w4.heap.size = pb at *
  refine wp_region_S (S := (fun _ w => Below w6.heap.size w6 w)) (by kernel_rfl) (Below.refl _ _).drew ?_
  refine AllS.next (v := ?_) rfl rfl rfl (by kernel_rfl) ?_ ?_
  rotate_left
  · refine yieldsS_run (fun _ _ h => h) (by rfl) ?_
    intro L wx hS
    obtain ⟨p0, p1, p2⟩ := hP _ hS
    go_simp
    try with_reducible rfl
  try simp only [Act.put, List.setIfInBounds_toArray, List.set_cons_zero, List.set_cons_succ, List.getElem_toArray, List.getElem_cons_zero, List.getElem_cons_succ]
  refine AllS.next (v := (.int .i64 tr)) rfl rfl rfl (by kernel_rfl) ?_ ?_
  · refine yieldsS_call (f := 11) (args := #[.agg #[.slice ao' n cap', .int .i64 lf, .int .i64 st]]) (by rfl) ?_ ?_
    · intro wx
      go_simp
      try with_reducible rfl
    · intro L wx hS
      exact cTr wx hS
  try simp only [Act.put, List.setIfInBounds_toArray, List.set_cons_zero, List.set_cons_succ, List.getElem_toArray, List.getElem_cons_zero, List.getElem_cons_succ]
  refine AllS.next (v := ?_) rfl rfl rfl (by kernel_rfl) ?_ ?_
  rotate_left
  · refine yieldsS_run (fun _ _ h => h) (by rfl) ?_
    intro L wx hS
    go_simp
    try with_reducible rfl
  try simp only [Act.put, List.setIfInBounds_toArray, List.set_cons_zero, List.set_cons_succ, List.getElem_toArray, List.getElem_cons_zero, List.getElem_cons_succ]
  refine AllS.next (v := ?_) rfl rfl rfl (by kernel_rfl) ?_ ?_
  rotate_left
  · refine yieldsS_run (fun _ _ h => h) (by rfl) ?_
    intro L wx hS
    obtain ⟨p0, p1, p2⟩ := hP _ hS
    go_simp
    try with_reducible rfl
  try simp only [Act.put, List.setIfInBounds_toArray, List.set_cons_zero, List.set_cons_succ, List.getElem_toArray, List.getElem_cons_zero, List.getElem_cons_succ]
  refine AllS.next (v := (.int .i64 qty)) rfl rfl rfl (by kernel_rfl) ?_ ?_
  · refine yieldsS_run (fun _ _ h => h) (by rfl) ?_
    intro L wx hS
    have hws := hws.out
    go_simp
    all_goals first
      | done
      | with_reducible rfl
      | omega
      | assumption
      | (rw [IntKind.wrap_i64]; omega)
      | (simp_all; done)
  try simp only [Act.put, List.setIfInBounds_toArray, List.set_cons_zero, List.set_cons_succ, List.getElem_toArray, List.getElem_cons_zero, List.getElem_cons_succ]
  refine AllS.next (v := ?_) rfl rfl rfl (by kernel_rfl) ?_ ?_
  rotate_left
  · refine yieldsS_run (fun _ _ h => h) (by rfl) ?_
    intro L wx hS
    go_simp
    try with_reducible rfl
  try simp only [Act.put, List.setIfInBounds_toArray, List.set_cons_zero, List.set_cons_succ, List.getElem_toArray, List.getElem_cons_zero, List.getElem_cons_succ]
  refine AllS.next (v := ?_) rfl rfl rfl (by kernel_rfl) ?_ ?_
  rotate_left
  · refine yieldsS_run (fun _ _ h => h) (by rfl) ?_
    intro L wx hS
    obtain ⟨t0, t1, t2, t3, t4, t5, t6⟩ := hT _ hS
    go_simp
    try with_reducible rfl
  try simp only [Act.put, List.setIfInBounds_toArray, List.set_cons_zero, List.set_cons_succ, List.getElem_toArray, List.getElem_cons_zero, List.getElem_cons_succ]
  refine AllS.next (v := (.bool false)) rfl rfl rfl (by kernel_rfl) ?_ ?_
  · refine yieldsS_run (fun _ _ h => h) (by rfl) ?_
    intro L wx hS
    go_simp
    all_goals first
      | done
      | with_reducible rfl
      | omega
      | assumption
      | (rw [IntKind.wrap_i64]; omega)
      | (simp_all; done)
  try simp only [Act.put, List.setIfInBounds_toArray, List.set_cons_zero, List.set_cons_succ, List.getElem_toArray, List.getElem_cons_zero, List.getElem_cons_succ]
  refine AllS.next (v := ?_) rfl rfl rfl (by kernel_rfl) ?_ ?_
  rotate_left
  · refine yieldsS_run (fun _ _ h => h) (by rfl) ?_
    intro L wx hS
    go_simp
    try with_reducible rfl
  try simp only [Act.put, List.setIfInBounds_toArray, List.set_cons_zero, List.set_cons_succ, List.getElem_toArray, List.getElem_cons_zero, List.getElem_cons_succ]
  refine AllS.next (v := ?_) rfl rfl rfl (by kernel_rfl) ?_ ?_
  rotate_left
  · refine yieldsS_run (fun _ _ h => h) (by rfl) ?_
    intro L wx hS
    go_simp
    try with_reducible rfl
  try simp only [Act.put, List.setIfInBounds_toArray, List.set_cons_zero, List.set_cons_succ, List.getElem_toArray, List.getElem_cons_zero, List.getElem_cons_succ]
  refine AllS.next (v := ?_) rfl rfl rfl (by kernel_rfl) ?_ ?_
  rotate_left
  · refine yieldsS_run (fun _ _ h => h) (by rfl) ?_
    intro L wx hS
    obtain ⟨p0, p1, p2⟩ := hP _ hS
    go_simp
    try with_reducible rfl
  try simp only [Act.put, List.setIfInBounds_toArray, List.set_cons_zero, List.set_cons_succ, List.getElem_toArray, List.getElem_cons_zero, List.getElem_cons_succ]
  refine AllS.next (v := (.bool false)) rfl rfl rfl (by kernel_rfl) ?_ ?_
  · refine yieldsS_run (fun _ _ h => h) (by rfl) ?_
    intro L wx hS
    go_simp
    all_goals first
      | done
      | with_reducible rfl
      | omega
      | assumption
      | (rw [IntKind.wrap_i64]; omega)
      | (simp_all; done)
  try simp only [Act.put, List.setIfInBounds_toArray, List.set_cons_zero, List.set_cons_succ, List.getElem_toArray, List.getElem_cons_zero, List.getElem_cons_succ]
  refine AllS.next (v := ?_) rfl rfl rfl (by kernel_rfl) ?_ ?_
  rotate_left
  · refine yieldsS_run (fun _ _ h => h) (by rfl) ?_
    intro L wx hS
    go_simp
    try with_reducible rfl
  try simp only [Act.put, List.setIfInBounds_toArray, List.set_cons_zero, List.set_cons_succ, List.getElem_toArray, List.getElem_cons_zero, List.getElem_cons_succ]
  refine AllS.next (v := ?_) rfl rfl rfl (by kernel_rfl) ?_ ?_
  rotate_left
  · refine yieldsS_run (fun _ _ h => h) (by rfl) ?_
    intro L wx hS
    go_simp
    try with_reducible rfl
  try simp only [Act.put, List.setIfInBounds_toArray, List.set_cons_zero, List.set_cons_succ, List.getElem_toArray, List.getElem_cons_zero, List.getElem_cons_succ]
  refine AllS.next (v := ?_) rfl rfl rfl (by kernel_rfl) ?_ ?_
  rotate_left
  · refine yieldsS_run (fun _ _ h => h) (by rfl) ?_
    intro L wx hS
    go_simp
    try with_reducible rfl
  try simp only [Act.put, List.setIfInBounds_toArray, List.set_cons_zero, List.set_cons_succ, List.getElem_toArray, List.getElem_cons_zero, List.getElem_cons_succ]
  refine AllS.next (v := ?_) rfl rfl rfl (by kernel_rfl) ?_ ?_
  rotate_left
  · refine yieldsS_run (fun _ _ h => h) (by rfl) ?_
    intro L wx hS
    obtain ⟨p0, p1, p2⟩ := hP _ hS
    go_simp
    try with_reducible rfl
  try simp only [Act.put, List.setIfInBounds_toArray, List.set_cons_zero, List.set_cons_succ, List.getElem_toArray, List.getElem_cons_zero, List.getElem_cons_succ]
  refine AllS.next (v := (.bool z)) rfl rfl rfl (by kernel_rfl) ?_ ?_
  · refine yieldsS_run (fun _ _ h => h) (by rfl) ?_
    intro L wx hS
    have hz := hz.out
    go_simp
    all_goals first
      | done
      | with_reducible rfl
      | omega
      | assumption
      | (rw [IntKind.wrap_i64]; omega)
      | (simp_all; done)
  try simp only [Act.put, List.setIfInBounds_toArray, List.set_cons_zero, List.set_cons_succ, List.getElem_toArray, List.getElem_cons_zero, List.getElem_cons_succ]
  refine AllS.next (v := ?_) rfl rfl rfl (by kernel_rfl) ?_ ?_
  rotate_left
  · refine yieldsS_run (fun _ _ h => h) (by rfl) ?_
    intro L wx hS
    go_simp
    try with_reducible rfl
  try simp only [Act.put, List.setIfInBounds_toArray, List.set_cons_zero, List.set_cons_succ, List.getElem_toArray, List.getElem_cons_zero, List.getElem_cons_succ]
  refine AllS.next (v := ?_) rfl rfl rfl (by kernel_rfl) ?_ ?_
  rotate_left
  · refine yieldsS_run (fun _ _ h => h) (by rfl) ?_
    intro L wx hS
    obtain ⟨p0, p1, p2⟩ := hP _ hS
    go_simp
    try with_reducible rfl
  try simp only [Act.put, List.setIfInBounds_toArray, List.set_cons_zero, List.set_cons_succ, List.getElem_toArray, List.getElem_cons_zero, List.getElem_cons_succ]
  refine AllS.next (v := (.bool !z)) rfl rfl rfl (by kernel_rfl) ?_ ?_
  · refine yieldsS_run (fun _ _ h => h) (by rfl) ?_
    intro L wx hS
    have hz2 := hz2.out
    go_simp
    all_goals first
      | done
      | with_reducible rfl
      | omega
      | assumption
      | (rw [IntKind.wrap_i64]; omega)
      | (simp_all; done)
  try simp only [Act.put, List.setIfInBounds_toArray, List.set_cons_zero, List.set_cons_succ, List.getElem_toArray, List.getElem_cons_zero, List.getElem_cons_succ]
  refine AllS.next (v := (.bool false)) rfl rfl rfl (by kernel_rfl) ?_ ?_
  · refine yieldsS_run (fun _ _ h => h) (by rfl) ?_
    intro L wx hS
    go_simp
    all_goals first
      | done
      | with_reducible rfl
      | omega
      | assumption
      | (rw [IntKind.wrap_i64]; omega)
      | (simp_all; done)
  try simp only [Act.put, List.setIfInBounds_toArray, List.set_cons_zero, List.set_cons_succ, List.getElem_toArray, List.getElem_cons_zero, List.getElem_cons_succ]
  refine AllS.next (v := ?_) rfl rfl rfl (by kernel_rfl) ?_ ?_
  rotate_left
  · refine yieldsS_run (fun _ _ h => h) (by rfl) ?_
    intro L wx hS
    go_simp
    try with_reducible rfl
  try simp only [Act.put, List.setIfInBounds_toArray, List.set_cons_zero, List.set_cons_succ, List.getElem_toArray, List.getElem_cons_zero, List.getElem_cons_succ]
  refine AllS.done (by kernel_rfl) ?_
  intro w7 b7
  clear cTr hws hz hz2
  go_wp2_with fail
  go_loopg [8] n (fun j p8 wr => ∃ (q : Nat), q + j = n ∧ p8 = .int .i64 (q : Int) ∧ Below w6.heap.size w6 wr)
  case atStart => exact ⟨0, by omega, rfl, b7⟩
  case round =>
    clear b7
    obtain ⟨q, hqj, rfl, br⟩ := hrel
    obtain ⟨p0, p1, p2⟩ := hP _ br
    by_cases hqn : q < n
    · obtain ⟨x, hx⟩ : ∃ x, fs[q]? = some x := ⟨_, List.getElem?_eq_getElem (by rw [← hn.out]; exact hqn)⟩
      obtain ⟨o, ho⟩ := hat q x hx
      obtain ⟨k1, k2, k3, k4, k5, k6, k7, k8, k9, k10, k11, k12, k13⟩ := ho
      obtain ⟨c0, off, rfl, y0, y1, y2, y3⟩ := (hFl.below br).get hx
      have hY0 : ∀ (jj : Nat) (y : Fll), fs[jj]? = some y → ∀ w, Below w6.heap.size w6 w → w.cell? ⟨c0, off + jj * 4 + 1, none⟩ = some (.int .i64 y.price) := fun jj y hy w h => by
        obtain ⟨c1, off1, e1, -, h1, -⟩ := (hFl.below h).get hy
        cases e1
        exact h1
      replace y0 : wr.cell? ⟨c0, off + q * 4, none⟩ = some (.int .i64 x.id) := y0
      have cG : ∀ wx, Below w6.heap.size w6 wx → Calls Tryd.prog 12 #[.pointer (some ⟨g, 0, none⟩), .int .i64 x.id] wx fun e w' => e = .returned (.tuple #[vOrd o, .bool true]) ∧ Below wx.heap.size wx w' := fun wx h => by
        have := pb_get x.id k2.id (hPB.below h)
        rw [k1] at this
        exact this
      obtain ⟨wa, hwa⟩ : ∃ wa, wa = wr.alloc (.cells (cFll x) 43) := ⟨_, rfl⟩
      have hbwa : Below w6.heap.size w6 wa := by rw [hwa]; exact br.alloc br.size _
      have hXb : Blk wa wr.heap.size 43 (cFll x) := by rw [hwa]; exact Blk.new _ _ _
      obtain ⟨jy, hjy⟩ : ∃ jy : Nat, 0 < q → ∃ y, fs[jy]? = some y ∧ (q : Int) - 1 = (jy : Int) ∧ bett (1 - 1) x.price y.price = false := ⟨q - 1, fun h => ⟨fs[q - 1]'(by have := hn.out; omega), List.getElem?_eq_getElem _, by omega, k11 _ h (List.getElem?_eq_getElem _)⟩⟩
      replace hjy := Lib.hid hjy
      have hown : Hid (x.gone = (self != 0 && o.owner == owner)) := Lib.hid k13
      have hmore : Hid (q + 1 < n → x.qty = o.qty) := Lib.hid (by rw [hn.out]; exact k12)
      have hql : (q : Int) < (n : Int) := by omega
      have d1 : decide (x.qty < 1) = false := decide_eq_false (by omega)
      have d2 : decide (o.qty < x.qty) = false := decide_eq_false (by omega)
      have d3 : decide (x.price < lo) = false := decide_eq_false (by simp only at k8; omega)
      have d4 : decide (hi < x.price) = false := decide_eq_false (by simp only at k9; omega)
      have hlim : Hid (lim ≠ 0 → bett 1 x.price lim = false) := Lib.hid fun e => by
        have e1 : (lim != 0) = true := by simpa using e
        have h := k10
        simp only [swo, e1, Bool.true_and] at h
        exact h
      clear k1 k2 k5 k6 k8 k9 k10 k11 k12 k13 hx hat hFl
      obtain ⟨xi, xp, xq, xg⟩ := x
      obtain ⟨oi, oo, od, op, oq, of, oe⟩ := o
      simp only at k3 k4 k7 y0 y1 y2 y3 hown hmore d1 d2 d3 d4 hlim cG hjy
      simp only [vOrd] at cG
      simp only [cFll] at hwa hXb
      replace k3 : od = 0 := k3
      subst k3
      replace k4 : xp = op := k4.symm
      subst k4
      have hg2 : xg = true → (xq != oq) = false := fun e => by rw [k7 e]; simp
      clear k7 s1 s5 hbl hlk dq hq2 dlf d60 hok
      replace hqj := Lib.hid hqj
      cases xg
      · have hd0 := hown
        clear hg2
        go_wp2_with (first
          | (rw [← hwa]; clear hwa; have z0 := hXb.cell_eq 0 _ rfl)
          | (go_at_call 12; refine (cG _ hbwa).mono ?_; rintro e wb ⟨rfl, hbb⟩; obtain ⟨w8, hw8⟩ : ∃ w8, w8 = wb.alloc (.cells #[.int .i64 oi, .int .i64 oo, .int .i64 0, .int .i64 xp, .int .i64 oq, .int .i64 of, .int .i64 oe] 45) := ⟨_, rfl⟩; clear cG y0 y1 y2 y3 z0 p0 p1 p2; have hb8 : Below wb.heap.size wb w8 := (by rw [hw8]; exact (Below.refl _ _).alloc (Nat.le_refl _) _); have hOb : Blk w8 wb.heap.size 45 #[.int .i64 oi, .int .i64 oo, .int .i64 0, .int .i64 xp, .int .i64 oq, .int .i64 of, .int .i64 oe] := (by rw [hw8]; exact Blk.new _ _ _); have hXw := hXb.below hbb hXb.lt; have hX8 := hXw.below hb8 hXw.lt; have hb68 : Below w6.heap.size w6 w8 := hbwa.trans ((hbb.trans (hb8.mono hbb.size)).mono hbwa.size); obtain ⟨o0, o1, o2, o3, o4, o5, o6⟩ := seven_cells hOb; have x0 := hX8.cell_eq 0 _ rfl; have x1 := hX8.cell_eq 1 _ rfl; have x2 := hX8.cell_eq 2 _ rfl; have x3 := hX8.cell_eq 3 _ rfl; obtain ⟨t0, t1, t2, t3, t4, t5, t6⟩ := hT _ hb68; clear hXw hXb hbwa hbb hb8)
          | (rw [← hw8]; clear hw8)
          | fail)
        clear x0 x1 x2 x3 o0 o1 o2 o3 o4 o5 o6 t0 t1 t2 t3 t4 t5 t6
        have hX : ∀ w, Below w8.heap.size w8 w → w.cell? ⟨wr.heap.size, 0, none⟩ = some (.int .i64 xi) ∧ w.cell? ⟨wr.heap.size, 1, none⟩ = some (.int .i64 xp) ∧ w.cell? ⟨wr.heap.size, 2, none⟩ = some (.int .i64 xq) ∧ w.cell? ⟨wr.heap.size, 3, none⟩ = some (.bool false) := fun w h => by
          have hB := hX8.below h hX8.lt
          exact ⟨hB.cell_eq 0 _ rfl, hB.cell_eq 1 _ rfl, hB.cell_eq 2 _ rfl, hB.cell_eq 3 _ rfl⟩
        have hO := fun w (h : Below w8.heap.size w8 w) => seven_cells (hOb.below h hOb.lt)
        have hT2 := fun w (h : Below w8.heap.size w8 w) => hT w (hb68.trans (h.mono hb68.size))
        have hP2 := fun w (h : Below w8.heap.size w8 w) => hP w (hb68.trans (h.mono hb68.size))
        generalize wr.heap.size = xb at *
        generalize wb.heap.size = ob at *
        clear hX8 hOb
        obtain ⟨nl, hnl⟩ : ∃ nl, nl = (lim != 0) := ⟨_, rfl⟩
        have dl : Hid ((lim != 0) = nl) := Lib.hid hnl.symm
        have cB1 : nl = true → ∀ wx, Below w8.heap.size w8 wx → Calls Tryd.prog 13 #[.int .i64 1, .int .i64 xp, .int .i64 lim] wx fun e w => e = .returned (.bool false) ∧ Below w8.heap.size w8 w := fun hh wx h => (pb_better _ _ _ wx).mono fun e w h2 => ⟨by rw [h2.1, hlim.out (by rw [hh] at hnl; simpa using hnl.symm)], by rw [h2.2]; exact h⟩
        clear hnl hlim
        obtain ⟨ip, hip⟩ : ∃ ip, ip = decide ((0 : Int) < (q : Int)) := ⟨_, rfl⟩
        have dq0 : Hid (decide ((0 : Int) < (q : Int)) = ip) := Lib.hid hip.symm
        obtain ⟨y, hy⟩ : ∃ y : Fll, y = (fs[jy]?).getD Fll.zero := ⟨_, rfl⟩
        have hyy : ip = true → fs[jy]? = some y ∧ (q : Int) - 1 = (jy : Int) ∧ bett (1 - 1) xp y.price = false := fun hh => by
          obtain ⟨y0, g1, g2, g3⟩ := hjy.out (by rw [hh] at hip; have := of_decide_eq_true hip.symm; omega)
          have : y = y0 := by rw [hy, g1]; rfl
          rw [this]; exact ⟨g1, g2, g3⟩
        have hY : ip = true → ∀ w, Below w8.heap.size w8 w → _ := fun hh w (h : Below w8.heap.size w8 w) => hY0 jy y (hyy hh).1 w (hb68.trans (h.mono hb68.size))
        have hjq : Hid (ip = true → (q : Int) - 1 = (jy : Int) ∧ (jy : Int) < (n : Int)) := Lib.hid fun hh => ⟨(hyy hh).2.1, by have := (hyy hh).2.1; omega⟩
        have cB2 : ip = true → ∀ wx, Below w8.heap.size w8 wx → Calls Tryd.prog 13 #[.int .i64 0, .int .i64 xp, .int .i64 y.price] wx fun e w => e = .returned (.bool false) ∧ Below w8.heap.size w8 w := fun hh wx h => (pb_better _ _ _ wx).mono fun e w h2 => ⟨by rw [h2.1]; exact congrArg (fun x => Ending.returned (Value.bool x)) (hyy hh).2.2, by rw [h2.2]; exact h⟩
        clear hyy hy hjy hY0 hip
        generalize y.price = yp at *
        obtain ⟨la, hla⟩ : ∃ la, la = decide ((q : Int) + 1 < (n : Int)) := ⟨_, rfl⟩
        have dla : Hid (decide ((q : Int) + 1 < (n : Int)) = la) := Lib.hid hla.symm
        replace hmore : Hid (la = true → (xq != oq) = false) := Lib.hid fun hh => by
          rw [hh] at hla
          have := of_decide_eq_true hla.symm
          rw [hmore.out (by omega)]; simp
        clear hla
        have hqn2 : Hid ((q : Int) + 1 ≤ 501) := Lib.hid (by omega)
        refine wp_region_S (S := (fun _ w => Below w8.heap.size w8 w)) (by kernel_rfl) (Below.refl _ _).drew ?_
        refine AllS.next (v := ?_) rfl rfl rfl (by kernel_rfl) ?_ ?_
        rotate_left
        · refine yieldsS_run (fun _ _ h => h) (by rfl) ?_
          intro L wx hS
          go_simp
          try with_reducible rfl
        try simp only [Act.put, List.setIfInBounds_toArray, List.set_cons_zero, List.set_cons_succ, List.getElem_toArray, List.getElem_cons_zero, List.getElem_cons_succ]
        refine AllS.next (v := ?_) rfl rfl rfl (by kernel_rfl) ?_ ?_
        rotate_left
        · refine yieldsS_run (fun _ _ h => h) (by rfl) ?_
          intro L wx hS
          obtain ⟨t0, t1, t2, t3, t4, t5, t6⟩ := hT2 _ hS
          go_simp
          try with_reducible rfl
        try simp only [Act.put, List.setIfInBounds_toArray, List.set_cons_zero, List.set_cons_succ, List.getElem_toArray, List.getElem_cons_zero, List.getElem_cons_succ]
        refine AllS.next (v := (.bool nl)) rfl rfl rfl (by kernel_rfl) ?_ ?_
        · refine yieldsS_run (fun _ _ h => h) (by rfl) ?_
          intro L wx hS
          have dl := dl.out
          go_simp
          all_goals first
            | done
            | with_reducible rfl
            | omega
            | assumption
            | (rw [IntKind.wrap_i64]; omega)
            | (simp_all; done)
        try simp only [Act.put, List.setIfInBounds_toArray, List.set_cons_zero, List.set_cons_succ, List.getElem_toArray, List.getElem_cons_zero, List.getElem_cons_succ]
        refine AllS.next (v := ?_) rfl rfl rfl (by kernel_rfl) ?_ ?_
        rotate_left
        · refine yieldsS_run (fun _ _ h => h) (by rfl) ?_
          intro L wx hS
          go_simp
          try with_reducible rfl
        try simp only [Act.put, List.setIfInBounds_toArray, List.set_cons_zero, List.set_cons_succ, List.getElem_toArray, List.getElem_cons_zero, List.getElem_cons_succ]
        refine AllS.next (v := cond nl (.pointer (some ⟨W.heap.size, 0, none⟩)) undef) rfl rfl rfl (by kernel_rfl) ?_ ?_
        · cases nl
          · exact .inr ⟨by rfl, rfl, fun _ _ h => h⟩
          · refine yieldsS_run (fun _ _ h => h) (by rfl) ?_
            intro L wx hS
            go_simp
            all_goals first
              | done
              | with_reducible rfl
              | omega
              | assumption
              | (rw [IntKind.wrap_i64]; omega)
              | (simp_all; done)
        try simp only [Act.put, List.setIfInBounds_toArray, List.set_cons_zero, List.set_cons_succ, List.getElem_toArray, List.getElem_cons_zero, List.getElem_cons_succ]
        refine AllS.next (v := cond nl (.int .i64 1) undef) rfl rfl rfl (by kernel_rfl) ?_ ?_
        · cases nl
          · exact .inr ⟨by rfl, rfl, fun _ _ h => h⟩
          · refine yieldsS_run (fun _ _ h => h) (by rfl) ?_
            intro L wx hS
            obtain ⟨t0, t1, t2, t3, t4, t5, t6⟩ := hT2 _ hS
            go_simp
            all_goals first
              | done
              | with_reducible rfl
              | omega
              | assumption
              | (rw [IntKind.wrap_i64]; omega)
              | (simp_all; done)
        try simp only [Act.put, List.setIfInBounds_toArray, List.set_cons_zero, List.set_cons_succ, List.getElem_toArray, List.getElem_cons_zero, List.getElem_cons_succ]
        refine AllS.next (v := cond nl (.pointer (some ⟨xb, 1, none⟩)) undef) rfl rfl rfl (by kernel_rfl) ?_ ?_
        · cases nl
          · exact .inr ⟨by rfl, rfl, fun _ _ h => h⟩
          · refine yieldsS_run (fun _ _ h => h) (by rfl) ?_
            intro L wx hS
            go_simp
            all_goals first
              | done
              | with_reducible rfl
              | omega
              | assumption
              | (rw [IntKind.wrap_i64]; omega)
              | (simp_all; done)
        try simp only [Act.put, List.setIfInBounds_toArray, List.set_cons_zero, List.set_cons_succ, List.getElem_toArray, List.getElem_cons_zero, List.getElem_cons_succ]
        refine AllS.next (v := cond nl (.int .i64 xp) undef) rfl rfl rfl (by kernel_rfl) ?_ ?_
        · cases nl
          · exact .inr ⟨by rfl, rfl, fun _ _ h => h⟩
          · refine yieldsS_run (fun _ _ h => h) (by rfl) ?_
            intro L wx hS
            obtain ⟨x0, x1, x2, x3⟩ := hX _ hS
            go_simp
            all_goals first
              | done
              | with_reducible rfl
              | omega
              | assumption
              | (rw [IntKind.wrap_i64]; omega)
              | (simp_all; done)
        try simp only [Act.put, List.setIfInBounds_toArray, List.set_cons_zero, List.set_cons_succ, List.getElem_toArray, List.getElem_cons_zero, List.getElem_cons_succ]
        refine AllS.next (v := cond nl (.pointer (some ⟨W.heap.size, 2, none⟩)) undef) rfl rfl rfl (by kernel_rfl) ?_ ?_
        · cases nl
          · exact .inr ⟨by rfl, rfl, fun _ _ h => h⟩
          · refine yieldsS_run (fun _ _ h => h) (by rfl) ?_
            intro L wx hS
            go_simp
            all_goals first
              | done
              | with_reducible rfl
              | omega
              | assumption
              | (rw [IntKind.wrap_i64]; omega)
              | (simp_all; done)
        try simp only [Act.put, List.setIfInBounds_toArray, List.set_cons_zero, List.set_cons_succ, List.getElem_toArray, List.getElem_cons_zero, List.getElem_cons_succ]
        refine AllS.next (v := cond nl (.int .i64 lim) undef) rfl rfl rfl (by kernel_rfl) ?_ ?_
        · cases nl
          · exact .inr ⟨by rfl, rfl, fun _ _ h => h⟩
          · refine yieldsS_run (fun _ _ h => h) (by rfl) ?_
            intro L wx hS
            obtain ⟨t0, t1, t2, t3, t4, t5, t6⟩ := hT2 _ hS
            go_simp
            all_goals first
              | done
              | with_reducible rfl
              | omega
              | assumption
              | (rw [IntKind.wrap_i64]; omega)
              | (simp_all; done)
        try simp only [Act.put, List.setIfInBounds_toArray, List.set_cons_zero, List.set_cons_succ, List.getElem_toArray, List.getElem_cons_zero, List.getElem_cons_succ]
        refine AllS.next (v := cond nl (.bool false) undef) rfl rfl rfl (by kernel_rfl) ?_ ?_
        · cases nl
          · exact .inr ⟨by rfl, rfl, fun _ _ h => h⟩
          · refine yieldsS_call (f := 13) (args := #[.int .i64 1, .int .i64 xp, .int .i64 lim]) (by rfl) ?_ ?_
            · intro wx
              go_simp
              try with_reducible rfl
            · intro L wx hS
              exact cB1 rfl wx hS
        try simp only [Act.put, List.setIfInBounds_toArray, List.set_cons_zero, List.set_cons_succ, List.getElem_toArray, List.getElem_cons_zero, List.getElem_cons_succ]
        refine AllS.next (v := (.bool false)) rfl rfl rfl (by kernel_rfl) ?_ ?_
        · cases nl
          all_goals
            refine yieldsS_run (fun _ _ h => h) (by rfl) ?_
            intro L wx hS
            go_simp
            try with_reducible rfl
        try simp only [Act.put, List.setIfInBounds_toArray, List.set_cons_zero, List.set_cons_succ, List.getElem_toArray, List.getElem_cons_zero, List.getElem_cons_succ]
        refine AllS.next (v := ?_) rfl rfl rfl (by kernel_rfl) ?_ ?_
        rotate_left
        · refine yieldsS_run (fun _ _ h => h) (by rfl) ?_
          intro L wx hS
          go_simp
          try with_reducible rfl
        try simp only [Act.put, List.setIfInBounds_toArray, List.set_cons_zero, List.set_cons_succ, List.getElem_toArray, List.getElem_cons_zero, List.getElem_cons_succ]
        refine AllS.next (v := ?_) rfl rfl rfl (by kernel_rfl) ?_ ?_
        rotate_left
        · refine yieldsS_run (fun _ _ h => h) (by rfl) ?_
          intro L wx hS
          go_simp
          try with_reducible rfl
        try simp only [Act.put, List.setIfInBounds_toArray, List.set_cons_zero, List.set_cons_succ, List.getElem_toArray, List.getElem_cons_zero, List.getElem_cons_succ]
        refine AllS.next (v := .bool ip) rfl rfl rfl (by kernel_rfl) ?_ ?_
        · refine yieldsS_run (fun _ _ h => h) (by rfl) ?_
          intro L wx hS
          rw [← dq0.out]
          go_simp
          try with_reducible rfl
        try simp only [Act.put, List.setIfInBounds_toArray, List.set_cons_zero, List.set_cons_succ, List.getElem_toArray, List.getElem_cons_zero, List.getElem_cons_succ]
        refine AllS.next (v := ?_) rfl rfl rfl (by kernel_rfl) ?_ ?_
        rotate_left
        · refine yieldsS_run (fun _ _ h => h) (by rfl) ?_
          intro L wx hS
          go_simp
          try with_reducible rfl
        try simp only [Act.put, List.setIfInBounds_toArray, List.set_cons_zero, List.set_cons_succ, List.getElem_toArray, List.getElem_cons_zero, List.getElem_cons_succ]
        refine AllS.next (v := cond ip (.pointer (some ⟨W.heap.size, 0, none⟩)) undef) rfl rfl rfl (by kernel_rfl) ?_ ?_
        · cases ip
          · exact .inr ⟨by rfl, rfl, fun _ _ h => h⟩
          · refine yieldsS_run (fun _ _ h => h) (by rfl) ?_
            intro L wx hS
            go_simp
            all_goals first
              | done
              | with_reducible rfl
              | omega
              | assumption
              | (rw [IntKind.wrap_i64]; omega)
              | (simp_all; done)
        try simp only [Act.put, List.setIfInBounds_toArray, List.set_cons_zero, List.set_cons_succ, List.getElem_toArray, List.getElem_cons_zero, List.getElem_cons_succ]
        refine AllS.next (v := cond ip (.int .i64 1) undef) rfl rfl rfl (by kernel_rfl) ?_ ?_
        · cases ip
          · exact .inr ⟨by rfl, rfl, fun _ _ h => h⟩
          · refine yieldsS_run (fun _ _ h => h) (by rfl) ?_
            intro L wx hS
            obtain ⟨t0, t1, t2, t3, t4, t5, t6⟩ := hT2 _ hS
            go_simp
            all_goals first
              | done
              | with_reducible rfl
              | omega
              | assumption
              | (rw [IntKind.wrap_i64]; omega)
              | (simp_all; done)
        try simp only [Act.put, List.setIfInBounds_toArray, List.set_cons_zero, List.set_cons_succ, List.getElem_toArray, List.getElem_cons_zero, List.getElem_cons_succ]
        refine AllS.next (v := cond ip (.int .i64 0) undef) rfl rfl rfl (by kernel_rfl) ?_ ?_
        · cases ip
          · exact .inr ⟨by rfl, rfl, fun _ _ h => h⟩
          · refine yieldsS_run (fun _ _ h => h) (by rfl) ?_
            intro L wx hS
            go_simp
            all_goals first
              | done
              | with_reducible rfl
              | omega
              | assumption
              | (rw [IntKind.wrap_i64]; omega)
              | (simp_all; done)
        try simp only [Act.put, List.setIfInBounds_toArray, List.set_cons_zero, List.set_cons_succ, List.getElem_toArray, List.getElem_cons_zero, List.getElem_cons_succ]
        refine AllS.next (v := cond ip (.pointer (some ⟨xb, 1, none⟩)) undef) rfl rfl rfl (by kernel_rfl) ?_ ?_
        · cases ip
          · exact .inr ⟨by rfl, rfl, fun _ _ h => h⟩
          · refine yieldsS_run (fun _ _ h => h) (by rfl) ?_
            intro L wx hS
            go_simp
            all_goals first
              | done
              | with_reducible rfl
              | omega
              | assumption
              | (rw [IntKind.wrap_i64]; omega)
              | (simp_all; done)
        try simp only [Act.put, List.setIfInBounds_toArray, List.set_cons_zero, List.set_cons_succ, List.getElem_toArray, List.getElem_cons_zero, List.getElem_cons_succ]
        refine AllS.next (v := cond ip (.int .i64 xp) undef) rfl rfl rfl (by kernel_rfl) ?_ ?_
        · cases ip
          · exact .inr ⟨by rfl, rfl, fun _ _ h => h⟩
          · refine yieldsS_run (fun _ _ h => h) (by rfl) ?_
            intro L wx hS
            obtain ⟨x0, x1, x2, x3⟩ := hX _ hS
            go_simp
            all_goals first
              | done
              | with_reducible rfl
              | omega
              | assumption
              | (rw [IntKind.wrap_i64]; omega)
              | (simp_all; done)
        try simp only [Act.put, List.setIfInBounds_toArray, List.set_cons_zero, List.set_cons_succ, List.getElem_toArray, List.getElem_cons_zero, List.getElem_cons_succ]
        refine AllS.next (v := cond ip (.pointer (some ⟨pb, 0, none⟩)) undef) rfl rfl rfl (by kernel_rfl) ?_ ?_
        · cases ip
          · exact .inr ⟨by rfl, rfl, fun _ _ h => h⟩
          · refine yieldsS_run (fun _ _ h => h) (by rfl) ?_
            intro L wx hS
            go_simp
            all_goals first
              | done
              | with_reducible rfl
              | omega
              | assumption
              | (rw [IntKind.wrap_i64]; omega)
              | (simp_all; done)
        try simp only [Act.put, List.setIfInBounds_toArray, List.set_cons_zero, List.set_cons_succ, List.getElem_toArray, List.getElem_cons_zero, List.getElem_cons_succ]
        refine AllS.next (v := cond ip (.slice (some ⟨c0, off, none⟩) n cap') undef) rfl rfl rfl (by kernel_rfl) ?_ ?_
        · cases ip
          · exact .inr ⟨by rfl, rfl, fun _ _ h => h⟩
          · refine yieldsS_run (fun _ _ h => h) (by rfl) ?_
            intro L wx hS
            obtain ⟨p0, p1, p2⟩ := hP2 _ hS
            go_simp
            all_goals first
              | done
              | with_reducible rfl
              | omega
              | assumption
              | (rw [IntKind.wrap_i64]; omega)
              | (simp_all; done)
        try simp only [Act.put, List.setIfInBounds_toArray, List.set_cons_zero, List.set_cons_succ, List.getElem_toArray, List.getElem_cons_zero, List.getElem_cons_succ]
        refine AllS.next (v := cond ip (.int .i64 (q : Int)) undef) rfl rfl rfl (by kernel_rfl) ?_ ?_
        · cases ip
          · exact .inr ⟨by rfl, rfl, fun _ _ h => h⟩
          · refine yieldsS_run (fun _ _ h => h) (by rfl) ?_
            intro L wx hS
            go_simp
            all_goals first
              | done
              | with_reducible rfl
              | omega
              | assumption
              | (rw [IntKind.wrap_i64]; omega)
              | (simp_all; done)
        try simp only [Act.put, List.setIfInBounds_toArray, List.set_cons_zero, List.set_cons_succ, List.getElem_toArray, List.getElem_cons_zero, List.getElem_cons_succ]
        refine AllS.next (v := cond ip (.int .i64 (jy : Int)) undef) rfl rfl rfl (by kernel_rfl) ?_ ?_
        · cases ip
          · exact .inr ⟨by rfl, rfl, fun _ _ h => h⟩
          · refine yieldsS_run (fun _ _ h => h) (by rfl) ?_
            intro L wx hS
            have e := (hjq.out rfl).1
            go_simp
            all_goals first
              | done
              | with_reducible rfl
              | omega
              | assumption
              | (rw [IntKind.wrap_i64]; omega)
              | (simp_all; done)
        try simp only [Act.put, List.setIfInBounds_toArray, List.set_cons_zero, List.set_cons_succ, List.getElem_toArray, List.getElem_cons_zero, List.getElem_cons_succ]
        refine AllS.next (v := cond ip (.pointer (some ⟨c0, off + jy * 4, none⟩)) undef) rfl rfl rfl (by kernel_rfl) ?_ ?_
        · cases ip
          · exact .inr ⟨by rfl, rfl, fun _ _ h => h⟩
          · refine yieldsS_run (fun _ _ h => h) (by rfl) ?_
            intro L wx hS
            have e := (hjq.out rfl).2
            go_simp
            all_goals first
              | done
              | with_reducible rfl
              | omega
              | assumption
              | (rw [IntKind.wrap_i64]; omega)
              | (simp_all; done)
        try simp only [Act.put, List.setIfInBounds_toArray, List.set_cons_zero, List.set_cons_succ, List.getElem_toArray, List.getElem_cons_zero, List.getElem_cons_succ]
        refine AllS.next (v := cond ip (.pointer (some ⟨c0, off + jy * 4 + 1, none⟩)) undef) rfl rfl rfl (by kernel_rfl) ?_ ?_
        · cases ip
          · exact .inr ⟨by rfl, rfl, fun _ _ h => h⟩
          · refine yieldsS_run (fun _ _ h => h) (by rfl) ?_
            intro L wx hS
            go_simp
            all_goals first
              | done
              | with_reducible rfl
              | omega
              | assumption
              | (rw [IntKind.wrap_i64]; omega)
              | (simp_all; done)
        try simp only [Act.put, List.setIfInBounds_toArray, List.set_cons_zero, List.set_cons_succ, List.getElem_toArray, List.getElem_cons_zero, List.getElem_cons_succ]
        refine AllS.next (v := cond ip (.int .i64 yp) undef) rfl rfl rfl (by kernel_rfl) ?_ ?_
        · cases ip
          · exact .inr ⟨by rfl, rfl, fun _ _ h => h⟩
          · refine yieldsS_run (fun _ _ h => h) (by rfl) ?_
            intro L wx hS
            have y1 := hY rfl _ hS
            go_simp
            all_goals first
              | done
              | with_reducible rfl
              | omega
              | assumption
              | (rw [IntKind.wrap_i64]; omega)
              | (simp_all; done)
        try simp only [Act.put, List.setIfInBounds_toArray, List.set_cons_zero, List.set_cons_succ, List.getElem_toArray, List.getElem_cons_zero, List.getElem_cons_succ]
        refine AllS.next (v := cond ip (.bool false) undef) rfl rfl rfl (by kernel_rfl) ?_ ?_
        · cases ip
          · exact .inr ⟨by rfl, rfl, fun _ _ h => h⟩
          · refine yieldsS_call (f := 13) (args := #[.int .i64 0, .int .i64 xp, .int .i64 yp]) (by rfl) ?_ ?_
            · intro wx
              go_simp
              try with_reducible rfl
            · intro L wx hS
              exact cB2 rfl wx hS
        try simp only [Act.put, List.setIfInBounds_toArray, List.set_cons_zero, List.set_cons_succ, List.getElem_toArray, List.getElem_cons_zero, List.getElem_cons_succ]
        refine AllS.next (v := (.bool false)) rfl rfl rfl (by kernel_rfl) ?_ ?_
        · cases ip
          all_goals
            refine yieldsS_run (fun _ _ h => h) (by rfl) ?_
            intro L wx hS
            go_simp
            try with_reducible rfl
        try simp only [Act.put, List.setIfInBounds_toArray, List.set_cons_zero, List.set_cons_succ, List.getElem_toArray, List.getElem_cons_zero, List.getElem_cons_succ]
        refine AllS.next (v := (.bool false)) rfl rfl rfl (by kernel_rfl) ?_ ?_
        · refine yieldsS_run (fun _ _ h => h) (by rfl) ?_
          intro L wx hS
          go_simp
          all_goals first
            | done
            | with_reducible rfl
            | omega
            | assumption
            | (rw [IntKind.wrap_i64]; omega)
            | (simp_all; done)
        try simp only [Act.put, List.setIfInBounds_toArray, List.set_cons_zero, List.set_cons_succ, List.getElem_toArray, List.getElem_cons_zero, List.getElem_cons_succ]
        refine AllS.next (v := ?_) rfl rfl rfl (by kernel_rfl) ?_ ?_
        rotate_left
        · refine yieldsS_run (fun _ _ h => h) (by rfl) ?_
          intro L wx hS
          go_simp
          try with_reducible rfl
        try simp only [Act.put, List.setIfInBounds_toArray, List.set_cons_zero, List.set_cons_succ, List.getElem_toArray, List.getElem_cons_zero, List.getElem_cons_succ]
        refine AllS.next (v := ?_) rfl rfl rfl (by kernel_rfl) ?_ ?_
        rotate_left
        · refine yieldsS_run (fun _ _ h => h) (by rfl) ?_
          intro L wx hS
          go_simp
          try with_reducible rfl
        try simp only [Act.put, List.setIfInBounds_toArray, List.set_cons_zero, List.set_cons_succ, List.getElem_toArray, List.getElem_cons_zero, List.getElem_cons_succ]
        refine AllS.next (v := (.int .i64 ((q : Int) + 1))) rfl rfl rfl (by kernel_rfl) ?_ ?_
        · refine yieldsS_run (fun _ _ h => h) (by rfl) ?_
          intro L wx hS
          have hqn2 := hqn2.out
          go_simp
          all_goals first
            | done
            | with_reducible rfl
            | omega
            | assumption
            | (rw [IntKind.wrap_i64]; omega)
            | (simp_all; done)
        try simp only [Act.put, List.setIfInBounds_toArray, List.set_cons_zero, List.set_cons_succ, List.getElem_toArray, List.getElem_cons_zero, List.getElem_cons_succ]
        refine AllS.next (v := ?_) rfl rfl rfl (by kernel_rfl) ?_ ?_
        rotate_left
        · refine yieldsS_run (fun _ _ h => h) (by rfl) ?_
          intro L wx hS
          go_simp
          try with_reducible rfl
        try simp only [Act.put, List.setIfInBounds_toArray, List.set_cons_zero, List.set_cons_succ, List.getElem_toArray, List.getElem_cons_zero, List.getElem_cons_succ]
        refine AllS.next (v := ?_) rfl rfl rfl (by kernel_rfl) ?_ ?_
        rotate_left
        · refine yieldsS_run (fun _ _ h => h) (by rfl) ?_
          intro L wx hS
          obtain ⟨p0, p1, p2⟩ := hP2 _ hS
          go_simp
          try with_reducible rfl
        try simp only [Act.put, List.setIfInBounds_toArray, List.set_cons_zero, List.set_cons_succ, List.getElem_toArray, List.getElem_cons_zero, List.getElem_cons_succ]
        refine AllS.next (v := ?_) rfl rfl rfl (by kernel_rfl) ?_ ?_
        rotate_left
        · refine yieldsS_run (fun _ _ h => h) (by rfl) ?_
          intro L wx hS
          go_simp
          try with_reducible rfl
        try simp only [Act.put, List.setIfInBounds_toArray, List.set_cons_zero, List.set_cons_succ, List.getElem_toArray, List.getElem_cons_zero, List.getElem_cons_succ]
        refine AllS.next (v := .bool la) rfl rfl rfl (by kernel_rfl) ?_ ?_
        · refine yieldsS_run (fun _ _ h => h) (by rfl) ?_
          intro L wx hS
          rw [← dla.out]
          go_simp
          try with_reducible rfl
        try simp only [Act.put, List.setIfInBounds_toArray, List.set_cons_zero, List.set_cons_succ, List.getElem_toArray, List.getElem_cons_zero, List.getElem_cons_succ]
        refine AllS.next (v := ?_) rfl rfl rfl (by kernel_rfl) ?_ ?_
        rotate_left
        · refine yieldsS_run (fun _ _ h => h) (by rfl) ?_
          intro L wx hS
          go_simp
          try with_reducible rfl
        try simp only [Act.put, List.setIfInBounds_toArray, List.set_cons_zero, List.set_cons_succ, List.getElem_toArray, List.getElem_cons_zero, List.getElem_cons_succ]
        refine AllS.next (v := cond la (.pointer (some ⟨xb, 2, none⟩)) undef) rfl rfl rfl (by kernel_rfl) ?_ ?_
        · cases la
          · exact .inr ⟨by rfl, rfl, fun _ _ h => h⟩
          · refine yieldsS_run (fun _ _ h => h) (by rfl) ?_
            intro L wx hS
            go_simp
            all_goals first
              | done
              | with_reducible rfl
              | omega
              | assumption
              | (rw [IntKind.wrap_i64]; omega)
              | (simp_all; done)
        try simp only [Act.put, List.setIfInBounds_toArray, List.set_cons_zero, List.set_cons_succ, List.getElem_toArray, List.getElem_cons_zero, List.getElem_cons_succ]
        refine AllS.next (v := cond la (.int .i64 xq) undef) rfl rfl rfl (by kernel_rfl) ?_ ?_
        · cases la
          · exact .inr ⟨by rfl, rfl, fun _ _ h => h⟩
          · refine yieldsS_run (fun _ _ h => h) (by rfl) ?_
            intro L wx hS
            obtain ⟨x0, x1, x2, x3⟩ := hX _ hS
            go_simp
            all_goals first
              | done
              | with_reducible rfl
              | omega
              | assumption
              | (rw [IntKind.wrap_i64]; omega)
              | (simp_all; done)
        try simp only [Act.put, List.setIfInBounds_toArray, List.set_cons_zero, List.set_cons_succ, List.getElem_toArray, List.getElem_cons_zero, List.getElem_cons_succ]
        refine AllS.next (v := cond la (.pointer (some ⟨ob, 4, none⟩)) undef) rfl rfl rfl (by kernel_rfl) ?_ ?_
        · cases la
          · exact .inr ⟨by rfl, rfl, fun _ _ h => h⟩
          · refine yieldsS_run (fun _ _ h => h) (by rfl) ?_
            intro L wx hS
            go_simp
            all_goals first
              | done
              | with_reducible rfl
              | omega
              | assumption
              | (rw [IntKind.wrap_i64]; omega)
              | (simp_all; done)
        try simp only [Act.put, List.setIfInBounds_toArray, List.set_cons_zero, List.set_cons_succ, List.getElem_toArray, List.getElem_cons_zero, List.getElem_cons_succ]
        refine AllS.next (v := cond la (.int .i64 oq) undef) rfl rfl rfl (by kernel_rfl) ?_ ?_
        · cases la
          · exact .inr ⟨by rfl, rfl, fun _ _ h => h⟩
          · refine yieldsS_run (fun _ _ h => h) (by rfl) ?_
            intro L wx hS
            obtain ⟨o0, o1, o2, o3, o4, o5, o6⟩ := hO _ hS
            go_simp
            all_goals first
              | done
              | with_reducible rfl
              | omega
              | assumption
              | (rw [IntKind.wrap_i64]; omega)
              | (simp_all; done)
        try simp only [Act.put, List.setIfInBounds_toArray, List.set_cons_zero, List.set_cons_succ, List.getElem_toArray, List.getElem_cons_zero, List.getElem_cons_succ]
        refine AllS.next (v := cond la (.bool false) undef) rfl rfl rfl (by kernel_rfl) ?_ ?_
        · cases la
          · exact .inr ⟨by rfl, rfl, fun _ _ h => h⟩
          · refine yieldsS_run (fun _ _ h => h) (by rfl) ?_
            intro L wx hS
            have dxo := hmore.out rfl
            go_simp
            all_goals first
              | done
              | with_reducible rfl
              | omega
              | assumption
              | (rw [IntKind.wrap_i64]; omega)
              | (simp_all; done)
        try simp only [Act.put, List.setIfInBounds_toArray, List.set_cons_zero, List.set_cons_succ, List.getElem_toArray, List.getElem_cons_zero, List.getElem_cons_succ]
        refine AllS.next (v := (.bool false)) rfl rfl rfl (by kernel_rfl) ?_ ?_
        · cases la
          all_goals
            refine yieldsS_run (fun _ _ h => h) (by rfl) ?_
            intro L wx hS
            go_simp
            try with_reducible rfl
        try simp only [Act.put, List.setIfInBounds_toArray, List.set_cons_zero, List.set_cons_succ, List.getElem_toArray, List.getElem_cons_zero, List.getElem_cons_succ]
        refine AllS.next (v := (.bool false)) rfl rfl rfl (by kernel_rfl) ?_ ?_
        · refine yieldsS_run (fun _ _ h => h) (by rfl) ?_
          intro L wx hS
          go_simp
          all_goals first
            | done
            | with_reducible rfl
            | omega
            | assumption
            | (rw [IntKind.wrap_i64]; omega)
            | (simp_all; done)
        try simp only [Act.put, List.setIfInBounds_toArray, List.set_cons_zero, List.set_cons_succ, List.getElem_toArray, List.getElem_cons_zero, List.getElem_cons_succ]
        refine AllS.done (by kernel_rfl) ?_
        intro w9 b9
        obtain ⟨x0, x1, x2, x3⟩ := hX _ b9
        obtain ⟨o0, o1, o2, o3, o4, o5, o6⟩ := hO _ b9
        obtain ⟨t0, t1, t2, t3, t4, t5, t6⟩ := hT2 _ b9
        have b69 : Below w6.heap.size w6 w9 := hb68.trans (b9.mono hb68.size)
        clear cB1 cB2 hY hjq dl dq0 dla hmore hqn2
        have hw : (self != 0) = false ∨ ((self != 0) = true ∧ (oo == owner) = false) := by
          have h := hown.out
          cases e : (self != 0)
          · exact .inl rfl
          · right; refine ⟨rfl, ?_⟩; rw [e] at h; simpa using h.symm
        rcases hw with e1 | ⟨e1, e2⟩
        all_goals
          clear hown
          go_wp2_with fail
          go_roundg (n - (q + 1))
          case measure => have := hqj.out; omega
          case rel => exact ⟨q + 1, by have := hqj.out; omega, by go_num, b69⟩
      · have dg := hg2 rfl
        clear hg2
        go_wp2_with (first
          | (rw [← hwa]; clear hwa; have z0 := hXb.cell_eq 0 _ rfl)
          | (go_at_call 12; refine (cG _ hbwa).mono ?_; rintro e wb ⟨rfl, hbb⟩; obtain ⟨w8, hw8⟩ : ∃ w8, w8 = wb.alloc (.cells #[.int .i64 oi, .int .i64 oo, .int .i64 0, .int .i64 xp, .int .i64 oq, .int .i64 of, .int .i64 oe] 45) := ⟨_, rfl⟩; clear cG y0 y1 y2 y3 z0 p0 p1 p2; have hb8 : Below wb.heap.size wb w8 := (by rw [hw8]; exact (Below.refl _ _).alloc (Nat.le_refl _) _); have hOb : Blk w8 wb.heap.size 45 #[.int .i64 oi, .int .i64 oo, .int .i64 0, .int .i64 xp, .int .i64 oq, .int .i64 of, .int .i64 oe] := (by rw [hw8]; exact Blk.new _ _ _); have hXw := hXb.below hbb hXb.lt; have hX8 := hXw.below hb8 hXw.lt; have hb68 : Below w6.heap.size w6 w8 := hbwa.trans ((hbb.trans (hb8.mono hbb.size)).mono hbwa.size); obtain ⟨o0, o1, o2, o3, o4, o5, o6⟩ := seven_cells hOb; have x0 := hX8.cell_eq 0 _ rfl; have x1 := hX8.cell_eq 1 _ rfl; have x2 := hX8.cell_eq 2 _ rfl; have x3 := hX8.cell_eq 3 _ rfl; obtain ⟨t0, t1, t2, t3, t4, t5, t6⟩ := hT _ hb68; clear hXw hXb hbwa hbb hb8)
          | (rw [← hw8]; clear hw8)
          | fail)
        clear x0 x1 x2 x3 o0 o1 o2 o3 o4 o5 o6 t0 t1 t2 t3 t4 t5 t6
        have hX : ∀ w, Below w8.heap.size w8 w → w.cell? ⟨wr.heap.size, 0, none⟩ = some (.int .i64 xi) ∧ w.cell? ⟨wr.heap.size, 1, none⟩ = some (.int .i64 xp) ∧ w.cell? ⟨wr.heap.size, 2, none⟩ = some (.int .i64 xq) ∧ w.cell? ⟨wr.heap.size, 3, none⟩ = some (.bool true) := fun w h => by
          have hB := hX8.below h hX8.lt
          exact ⟨hB.cell_eq 0 _ rfl, hB.cell_eq 1 _ rfl, hB.cell_eq 2 _ rfl, hB.cell_eq 3 _ rfl⟩
        have hO := fun w (h : Below w8.heap.size w8 w) => seven_cells (hOb.below h hOb.lt)
        have hT2 := fun w (h : Below w8.heap.size w8 w) => hT w (hb68.trans (h.mono hb68.size))
        have hP2 := fun w (h : Below w8.heap.size w8 w) => hP w (hb68.trans (h.mono hb68.size))
        generalize wr.heap.size = xb at *
        generalize wb.heap.size = ob at *
        clear hX8 hOb
        obtain ⟨nl, hnl⟩ : ∃ nl, nl = (lim != 0) := ⟨_, rfl⟩
        have dl : Hid ((lim != 0) = nl) := Lib.hid hnl.symm
        have cB1 : nl = true → ∀ wx, Below w8.heap.size w8 wx → Calls Tryd.prog 13 #[.int .i64 1, .int .i64 xp, .int .i64 lim] wx fun e w => e = .returned (.bool false) ∧ Below w8.heap.size w8 w := fun hh wx h => (pb_better _ _ _ wx).mono fun e w h2 => ⟨by rw [h2.1, hlim.out (by rw [hh] at hnl; simpa using hnl.symm)], by rw [h2.2]; exact h⟩
        clear hnl hlim
        obtain ⟨ip, hip⟩ : ∃ ip, ip = decide ((0 : Int) < (q : Int)) := ⟨_, rfl⟩
        have dq0 : Hid (decide ((0 : Int) < (q : Int)) = ip) := Lib.hid hip.symm
        obtain ⟨y, hy⟩ : ∃ y : Fll, y = (fs[jy]?).getD Fll.zero := ⟨_, rfl⟩
        have hyy : ip = true → fs[jy]? = some y ∧ (q : Int) - 1 = (jy : Int) ∧ bett (1 - 1) xp y.price = false := fun hh => by
          obtain ⟨y0, g1, g2, g3⟩ := hjy.out (by rw [hh] at hip; have := of_decide_eq_true hip.symm; omega)
          have : y = y0 := by rw [hy, g1]; rfl
          rw [this]; exact ⟨g1, g2, g3⟩
        have hY : ip = true → ∀ w, Below w8.heap.size w8 w → _ := fun hh w (h : Below w8.heap.size w8 w) => hY0 jy y (hyy hh).1 w (hb68.trans (h.mono hb68.size))
        have hjq : Hid (ip = true → (q : Int) - 1 = (jy : Int) ∧ (jy : Int) < (n : Int)) := Lib.hid fun hh => ⟨(hyy hh).2.1, by have := (hyy hh).2.1; omega⟩
        have cB2 : ip = true → ∀ wx, Below w8.heap.size w8 wx → Calls Tryd.prog 13 #[.int .i64 0, .int .i64 xp, .int .i64 y.price] wx fun e w => e = .returned (.bool false) ∧ Below w8.heap.size w8 w := fun hh wx h => (pb_better _ _ _ wx).mono fun e w h2 => ⟨by rw [h2.1]; exact congrArg (fun x => Ending.returned (Value.bool x)) (hyy hh).2.2, by rw [h2.2]; exact h⟩
        clear hyy hy hjy hY0 hip
        generalize y.price = yp at *
        obtain ⟨la, hla⟩ : ∃ la, la = decide ((q : Int) + 1 < (n : Int)) := ⟨_, rfl⟩
        have dla : Hid (decide ((q : Int) + 1 < (n : Int)) = la) := Lib.hid hla.symm
        replace hmore : Hid (la = true → (xq != oq) = false) := Lib.hid fun hh => by
          rw [hh] at hla
          have := of_decide_eq_true hla.symm
          rw [hmore.out (by omega)]; simp
        clear hla
        have hqn2 : Hid ((q : Int) + 1 ≤ 501) := Lib.hid (by omega)
        refine wp_region_S (S := (fun _ w => Below w8.heap.size w8 w)) (by kernel_rfl) (Below.refl _ _).drew ?_
        refine AllS.next (v := ?_) rfl rfl rfl (by kernel_rfl) ?_ ?_
        rotate_left
        · refine yieldsS_run (fun _ _ h => h) (by rfl) ?_
          intro L wx hS
          go_simp
          try with_reducible rfl
        try simp only [Act.put, List.setIfInBounds_toArray, List.set_cons_zero, List.set_cons_succ, List.getElem_toArray, List.getElem_cons_zero, List.getElem_cons_succ]
        refine AllS.next (v := ?_) rfl rfl rfl (by kernel_rfl) ?_ ?_
        rotate_left
        · refine yieldsS_run (fun _ _ h => h) (by rfl) ?_
          intro L wx hS
          obtain ⟨t0, t1, t2, t3, t4, t5, t6⟩ := hT2 _ hS
          go_simp
          try with_reducible rfl
        try simp only [Act.put, List.setIfInBounds_toArray, List.set_cons_zero, List.set_cons_succ, List.getElem_toArray, List.getElem_cons_zero, List.getElem_cons_succ]
        refine AllS.next (v := (.bool nl)) rfl rfl rfl (by kernel_rfl) ?_ ?_
        · refine yieldsS_run (fun _ _ h => h) (by rfl) ?_
          intro L wx hS
          have dl := dl.out
          go_simp
          all_goals first
            | done
            | with_reducible rfl
            | omega
            | assumption
            | (rw [IntKind.wrap_i64]; omega)
            | (simp_all; done)
        try simp only [Act.put, List.setIfInBounds_toArray, List.set_cons_zero, List.set_cons_succ, List.getElem_toArray, List.getElem_cons_zero, List.getElem_cons_succ]
        refine AllS.next (v := ?_) rfl rfl rfl (by kernel_rfl) ?_ ?_
        rotate_left
        · refine yieldsS_run (fun _ _ h => h) (by rfl) ?_
          intro L wx hS
          go_simp
          try with_reducible rfl
        try simp only [Act.put, List.setIfInBounds_toArray, List.set_cons_zero, List.set_cons_succ, List.getElem_toArray, List.getElem_cons_zero, List.getElem_cons_succ]
        refine AllS.next (v := cond nl (.pointer (some ⟨W.heap.size, 0, none⟩)) undef) rfl rfl rfl (by kernel_rfl) ?_ ?_
        · cases nl
          · exact .inr ⟨by rfl, rfl, fun _ _ h => h⟩
          · refine yieldsS_run (fun _ _ h => h) (by rfl) ?_
            intro L wx hS
            go_simp
            all_goals first
              | done
              | with_reducible rfl
              | omega
              | assumption
              | (rw [IntKind.wrap_i64]; omega)
              | (simp_all; done)
        try simp only [Act.put, List.setIfInBounds_toArray, List.set_cons_zero, List.set_cons_succ, List.getElem_toArray, List.getElem_cons_zero, List.getElem_cons_succ]
        refine AllS.next (v := cond nl (.int .i64 1) undef) rfl rfl rfl (by kernel_rfl) ?_ ?_
        · cases nl
          · exact .inr ⟨by rfl, rfl, fun _ _ h => h⟩
          · refine yieldsS_run (fun _ _ h => h) (by rfl) ?_
            intro L wx hS
            obtain ⟨t0, t1, t2, t3, t4, t5, t6⟩ := hT2 _ hS
            go_simp
            all_goals first
              | done
              | with_reducible rfl
              | omega
              | assumption
              | (rw [IntKind.wrap_i64]; omega)
              | (simp_all; done)
        try simp only [Act.put, List.setIfInBounds_toArray, List.set_cons_zero, List.set_cons_succ, List.getElem_toArray, List.getElem_cons_zero, List.getElem_cons_succ]
        refine AllS.next (v := cond nl (.pointer (some ⟨xb, 1, none⟩)) undef) rfl rfl rfl (by kernel_rfl) ?_ ?_
        · cases nl
          · exact .inr ⟨by rfl, rfl, fun _ _ h => h⟩
          · refine yieldsS_run (fun _ _ h => h) (by rfl) ?_
            intro L wx hS
            go_simp
            all_goals first
              | done
              | with_reducible rfl
              | omega
              | assumption
              | (rw [IntKind.wrap_i64]; omega)
              | (simp_all; done)
        try simp only [Act.put, List.setIfInBounds_toArray, List.set_cons_zero, List.set_cons_succ, List.getElem_toArray, List.getElem_cons_zero, List.getElem_cons_succ]
        refine AllS.next (v := cond nl (.int .i64 xp) undef) rfl rfl rfl (by kernel_rfl) ?_ ?_
        · cases nl
          · exact .inr ⟨by rfl, rfl, fun _ _ h => h⟩
          · refine yieldsS_run (fun _ _ h => h) (by rfl) ?_
            intro L wx hS
            obtain ⟨x0, x1, x2, x3⟩ := hX _ hS
            go_simp
            all_goals first
              | done
              | with_reducible rfl
              | omega
              | assumption
              | (rw [IntKind.wrap_i64]; omega)
              | (simp_all; done)
        try simp only [Act.put, List.setIfInBounds_toArray, List.set_cons_zero, List.set_cons_succ, List.getElem_toArray, List.getElem_cons_zero, List.getElem_cons_succ]
        refine AllS.next (v := cond nl (.pointer (some ⟨W.heap.size, 2, none⟩)) undef) rfl rfl rfl (by kernel_rfl) ?_ ?_
        · cases nl
          · exact .inr ⟨by rfl, rfl, fun _ _ h => h⟩
          · refine yieldsS_run (fun _ _ h => h) (by rfl) ?_
            intro L wx hS
            go_simp
            all_goals first
              | done
              | with_reducible rfl
              | omega
              | assumption
              | (rw [IntKind.wrap_i64]; omega)
              | (simp_all; done)
        try simp only [Act.put, List.setIfInBounds_toArray, List.set_cons_zero, List.set_cons_succ, List.getElem_toArray, List.getElem_cons_zero, List.getElem_cons_succ]
        refine AllS.next (v := cond nl (.int .i64 lim) undef) rfl rfl rfl (by kernel_rfl) ?_ ?_
        · cases nl
          · exact .inr ⟨by rfl, rfl, fun _ _ h => h⟩
          · refine yieldsS_run (fun _ _ h => h) (by rfl) ?_
            intro L wx hS
            obtain ⟨t0, t1, t2, t3, t4, t5, t6⟩ := hT2 _ hS
            go_simp
            all_goals first
              | done
              | with_reducible rfl
              | omega
              | assumption
              | (rw [IntKind.wrap_i64]; omega)
              | (simp_all; done)
        try simp only [Act.put, List.setIfInBounds_toArray, List.set_cons_zero, List.set_cons_succ, List.getElem_toArray, List.getElem_cons_zero, List.getElem_cons_succ]
        refine AllS.next (v := cond nl (.bool false) undef) rfl rfl rfl (by kernel_rfl) ?_ ?_
        · cases nl
          · exact .inr ⟨by rfl, rfl, fun _ _ h => h⟩
          · refine yieldsS_call (f := 13) (args := #[.int .i64 1, .int .i64 xp, .int .i64 lim]) (by rfl) ?_ ?_
            · intro wx
              go_simp
              try with_reducible rfl
            · intro L wx hS
              exact cB1 rfl wx hS
        try simp only [Act.put, List.setIfInBounds_toArray, List.set_cons_zero, List.set_cons_succ, List.getElem_toArray, List.getElem_cons_zero, List.getElem_cons_succ]
        refine AllS.next (v := (.bool false)) rfl rfl rfl (by kernel_rfl) ?_ ?_
        · cases nl
          all_goals
            refine yieldsS_run (fun _ _ h => h) (by rfl) ?_
            intro L wx hS
            go_simp
            try with_reducible rfl
        try simp only [Act.put, List.setIfInBounds_toArray, List.set_cons_zero, List.set_cons_succ, List.getElem_toArray, List.getElem_cons_zero, List.getElem_cons_succ]
        refine AllS.next (v := ?_) rfl rfl rfl (by kernel_rfl) ?_ ?_
        rotate_left
        · refine yieldsS_run (fun _ _ h => h) (by rfl) ?_
          intro L wx hS
          go_simp
          try with_reducible rfl
        try simp only [Act.put, List.setIfInBounds_toArray, List.set_cons_zero, List.set_cons_succ, List.getElem_toArray, List.getElem_cons_zero, List.getElem_cons_succ]
        refine AllS.next (v := ?_) rfl rfl rfl (by kernel_rfl) ?_ ?_
        rotate_left
        · refine yieldsS_run (fun _ _ h => h) (by rfl) ?_
          intro L wx hS
          go_simp
          try with_reducible rfl
        try simp only [Act.put, List.setIfInBounds_toArray, List.set_cons_zero, List.set_cons_succ, List.getElem_toArray, List.getElem_cons_zero, List.getElem_cons_succ]
        refine AllS.next (v := .bool ip) rfl rfl rfl (by kernel_rfl) ?_ ?_
        · refine yieldsS_run (fun _ _ h => h) (by rfl) ?_
          intro L wx hS
          rw [← dq0.out]
          go_simp
          try with_reducible rfl
        try simp only [Act.put, List.setIfInBounds_toArray, List.set_cons_zero, List.set_cons_succ, List.getElem_toArray, List.getElem_cons_zero, List.getElem_cons_succ]
        refine AllS.next (v := ?_) rfl rfl rfl (by kernel_rfl) ?_ ?_
        rotate_left
        · refine yieldsS_run (fun _ _ h => h) (by rfl) ?_
          intro L wx hS
          go_simp
          try with_reducible rfl
        try simp only [Act.put, List.setIfInBounds_toArray, List.set_cons_zero, List.set_cons_succ, List.getElem_toArray, List.getElem_cons_zero, List.getElem_cons_succ]
        refine AllS.next (v := cond ip (.pointer (some ⟨W.heap.size, 0, none⟩)) undef) rfl rfl rfl (by kernel_rfl) ?_ ?_
        · cases ip
          · exact .inr ⟨by rfl, rfl, fun _ _ h => h⟩
          · refine yieldsS_run (fun _ _ h => h) (by rfl) ?_
            intro L wx hS
            go_simp
            all_goals first
              | done
              | with_reducible rfl
              | omega
              | assumption
              | (rw [IntKind.wrap_i64]; omega)
              | (simp_all; done)
        try simp only [Act.put, List.setIfInBounds_toArray, List.set_cons_zero, List.set_cons_succ, List.getElem_toArray, List.getElem_cons_zero, List.getElem_cons_succ]
        refine AllS.next (v := cond ip (.int .i64 1) undef) rfl rfl rfl (by kernel_rfl) ?_ ?_
        · cases ip
          · exact .inr ⟨by rfl, rfl, fun _ _ h => h⟩
          · refine yieldsS_run (fun _ _ h => h) (by rfl) ?_
            intro L wx hS
            obtain ⟨t0, t1, t2, t3, t4, t5, t6⟩ := hT2 _ hS
            go_simp
            all_goals first
              | done
              | with_reducible rfl
              | omega
              | assumption
              | (rw [IntKind.wrap_i64]; omega)
              | (simp_all; done)
        try simp only [Act.put, List.setIfInBounds_toArray, List.set_cons_zero, List.set_cons_succ, List.getElem_toArray, List.getElem_cons_zero, List.getElem_cons_succ]
        refine AllS.next (v := cond ip (.int .i64 0) undef) rfl rfl rfl (by kernel_rfl) ?_ ?_
        · cases ip
          · exact .inr ⟨by rfl, rfl, fun _ _ h => h⟩
          · refine yieldsS_run (fun _ _ h => h) (by rfl) ?_
            intro L wx hS
            go_simp
            all_goals first
              | done
              | with_reducible rfl
              | omega
              | assumption
              | (rw [IntKind.wrap_i64]; omega)
              | (simp_all; done)
        try simp only [Act.put, List.setIfInBounds_toArray, List.set_cons_zero, List.set_cons_succ, List.getElem_toArray, List.getElem_cons_zero, List.getElem_cons_succ]
        refine AllS.next (v := cond ip (.pointer (some ⟨xb, 1, none⟩)) undef) rfl rfl rfl (by kernel_rfl) ?_ ?_
        · cases ip
          · exact .inr ⟨by rfl, rfl, fun _ _ h => h⟩
          · refine yieldsS_run (fun _ _ h => h) (by rfl) ?_
            intro L wx hS
            go_simp
            all_goals first
              | done
              | with_reducible rfl
              | omega
              | assumption
              | (rw [IntKind.wrap_i64]; omega)
              | (simp_all; done)
        try simp only [Act.put, List.setIfInBounds_toArray, List.set_cons_zero, List.set_cons_succ, List.getElem_toArray, List.getElem_cons_zero, List.getElem_cons_succ]
        refine AllS.next (v := cond ip (.int .i64 xp) undef) rfl rfl rfl (by kernel_rfl) ?_ ?_
        · cases ip
          · exact .inr ⟨by rfl, rfl, fun _ _ h => h⟩
          · refine yieldsS_run (fun _ _ h => h) (by rfl) ?_
            intro L wx hS
            obtain ⟨x0, x1, x2, x3⟩ := hX _ hS
            go_simp
            all_goals first
              | done
              | with_reducible rfl
              | omega
              | assumption
              | (rw [IntKind.wrap_i64]; omega)
              | (simp_all; done)
        try simp only [Act.put, List.setIfInBounds_toArray, List.set_cons_zero, List.set_cons_succ, List.getElem_toArray, List.getElem_cons_zero, List.getElem_cons_succ]
        refine AllS.next (v := cond ip (.pointer (some ⟨pb, 0, none⟩)) undef) rfl rfl rfl (by kernel_rfl) ?_ ?_
        · cases ip
          · exact .inr ⟨by rfl, rfl, fun _ _ h => h⟩
          · refine yieldsS_run (fun _ _ h => h) (by rfl) ?_
            intro L wx hS
            go_simp
            all_goals first
              | done
              | with_reducible rfl
              | omega
              | assumption
              | (rw [IntKind.wrap_i64]; omega)
              | (simp_all; done)
        try simp only [Act.put, List.setIfInBounds_toArray, List.set_cons_zero, List.set_cons_succ, List.getElem_toArray, List.getElem_cons_zero, List.getElem_cons_succ]
        refine AllS.next (v := cond ip (.slice (some ⟨c0, off, none⟩) n cap') undef) rfl rfl rfl (by kernel_rfl) ?_ ?_
        · cases ip
          · exact .inr ⟨by rfl, rfl, fun _ _ h => h⟩
          · refine yieldsS_run (fun _ _ h => h) (by rfl) ?_
            intro L wx hS
            obtain ⟨p0, p1, p2⟩ := hP2 _ hS
            go_simp
            all_goals first
              | done
              | with_reducible rfl
              | omega
              | assumption
              | (rw [IntKind.wrap_i64]; omega)
              | (simp_all; done)
        try simp only [Act.put, List.setIfInBounds_toArray, List.set_cons_zero, List.set_cons_succ, List.getElem_toArray, List.getElem_cons_zero, List.getElem_cons_succ]
        refine AllS.next (v := cond ip (.int .i64 (q : Int)) undef) rfl rfl rfl (by kernel_rfl) ?_ ?_
        · cases ip
          · exact .inr ⟨by rfl, rfl, fun _ _ h => h⟩
          · refine yieldsS_run (fun _ _ h => h) (by rfl) ?_
            intro L wx hS
            go_simp
            all_goals first
              | done
              | with_reducible rfl
              | omega
              | assumption
              | (rw [IntKind.wrap_i64]; omega)
              | (simp_all; done)
        try simp only [Act.put, List.setIfInBounds_toArray, List.set_cons_zero, List.set_cons_succ, List.getElem_toArray, List.getElem_cons_zero, List.getElem_cons_succ]
        refine AllS.next (v := cond ip (.int .i64 (jy : Int)) undef) rfl rfl rfl (by kernel_rfl) ?_ ?_
        · cases ip
          · exact .inr ⟨by rfl, rfl, fun _ _ h => h⟩
          · refine yieldsS_run (fun _ _ h => h) (by rfl) ?_
            intro L wx hS
            have e := (hjq.out rfl).1
            go_simp
            all_goals first
              | done
              | with_reducible rfl
              | omega
              | assumption
              | (rw [IntKind.wrap_i64]; omega)
              | (simp_all; done)
        try simp only [Act.put, List.setIfInBounds_toArray, List.set_cons_zero, List.set_cons_succ, List.getElem_toArray, List.getElem_cons_zero, List.getElem_cons_succ]
        refine AllS.next (v := cond ip (.pointer (some ⟨c0, off + jy * 4, none⟩)) undef) rfl rfl rfl (by kernel_rfl) ?_ ?_
        · cases ip
          · exact .inr ⟨by rfl, rfl, fun _ _ h => h⟩
          · refine yieldsS_run (fun _ _ h => h) (by rfl) ?_
            intro L wx hS
            have e := (hjq.out rfl).2
            go_simp
            all_goals first
              | done
              | with_reducible rfl
              | omega
              | assumption
              | (rw [IntKind.wrap_i64]; omega)
              | (simp_all; done)
        try simp only [Act.put, List.setIfInBounds_toArray, List.set_cons_zero, List.set_cons_succ, List.getElem_toArray, List.getElem_cons_zero, List.getElem_cons_succ]
        refine AllS.next (v := cond ip (.pointer (some ⟨c0, off + jy * 4 + 1, none⟩)) undef) rfl rfl rfl (by kernel_rfl) ?_ ?_
        · cases ip
          · exact .inr ⟨by rfl, rfl, fun _ _ h => h⟩
          · refine yieldsS_run (fun _ _ h => h) (by rfl) ?_
            intro L wx hS
            go_simp
            all_goals first
              | done
              | with_reducible rfl
              | omega
              | assumption
              | (rw [IntKind.wrap_i64]; omega)
              | (simp_all; done)
        try simp only [Act.put, List.setIfInBounds_toArray, List.set_cons_zero, List.set_cons_succ, List.getElem_toArray, List.getElem_cons_zero, List.getElem_cons_succ]
        refine AllS.next (v := cond ip (.int .i64 yp) undef) rfl rfl rfl (by kernel_rfl) ?_ ?_
        · cases ip
          · exact .inr ⟨by rfl, rfl, fun _ _ h => h⟩
          · refine yieldsS_run (fun _ _ h => h) (by rfl) ?_
            intro L wx hS
            have y1 := hY rfl _ hS
            go_simp
            all_goals first
              | done
              | with_reducible rfl
              | omega
              | assumption
              | (rw [IntKind.wrap_i64]; omega)
              | (simp_all; done)
        try simp only [Act.put, List.setIfInBounds_toArray, List.set_cons_zero, List.set_cons_succ, List.getElem_toArray, List.getElem_cons_zero, List.getElem_cons_succ]
        refine AllS.next (v := cond ip (.bool false) undef) rfl rfl rfl (by kernel_rfl) ?_ ?_
        · cases ip
          · exact .inr ⟨by rfl, rfl, fun _ _ h => h⟩
          · refine yieldsS_call (f := 13) (args := #[.int .i64 0, .int .i64 xp, .int .i64 yp]) (by rfl) ?_ ?_
            · intro wx
              go_simp
              try with_reducible rfl
            · intro L wx hS
              exact cB2 rfl wx hS
        try simp only [Act.put, List.setIfInBounds_toArray, List.set_cons_zero, List.set_cons_succ, List.getElem_toArray, List.getElem_cons_zero, List.getElem_cons_succ]
        refine AllS.next (v := (.bool false)) rfl rfl rfl (by kernel_rfl) ?_ ?_
        · cases ip
          all_goals
            refine yieldsS_run (fun _ _ h => h) (by rfl) ?_
            intro L wx hS
            go_simp
            try with_reducible rfl
        try simp only [Act.put, List.setIfInBounds_toArray, List.set_cons_zero, List.set_cons_succ, List.getElem_toArray, List.getElem_cons_zero, List.getElem_cons_succ]
        refine AllS.next (v := (.bool false)) rfl rfl rfl (by kernel_rfl) ?_ ?_
        · refine yieldsS_run (fun _ _ h => h) (by rfl) ?_
          intro L wx hS
          go_simp
          all_goals first
            | done
            | with_reducible rfl
            | omega
            | assumption
            | (rw [IntKind.wrap_i64]; omega)
            | (simp_all; done)
        try simp only [Act.put, List.setIfInBounds_toArray, List.set_cons_zero, List.set_cons_succ, List.getElem_toArray, List.getElem_cons_zero, List.getElem_cons_succ]
        refine AllS.next (v := ?_) rfl rfl rfl (by kernel_rfl) ?_ ?_
        rotate_left
        · refine yieldsS_run (fun _ _ h => h) (by rfl) ?_
          intro L wx hS
          go_simp
          try with_reducible rfl
        try simp only [Act.put, List.setIfInBounds_toArray, List.set_cons_zero, List.set_cons_succ, List.getElem_toArray, List.getElem_cons_zero, List.getElem_cons_succ]
        refine AllS.next (v := ?_) rfl rfl rfl (by kernel_rfl) ?_ ?_
        rotate_left
        · refine yieldsS_run (fun _ _ h => h) (by rfl) ?_
          intro L wx hS
          go_simp
          try with_reducible rfl
        try simp only [Act.put, List.setIfInBounds_toArray, List.set_cons_zero, List.set_cons_succ, List.getElem_toArray, List.getElem_cons_zero, List.getElem_cons_succ]
        refine AllS.next (v := (.int .i64 ((q : Int) + 1))) rfl rfl rfl (by kernel_rfl) ?_ ?_
        · refine yieldsS_run (fun _ _ h => h) (by rfl) ?_
          intro L wx hS
          have hqn2 := hqn2.out
          go_simp
          all_goals first
            | done
            | with_reducible rfl
            | omega
            | assumption
            | (rw [IntKind.wrap_i64]; omega)
            | (simp_all; done)
        try simp only [Act.put, List.setIfInBounds_toArray, List.set_cons_zero, List.set_cons_succ, List.getElem_toArray, List.getElem_cons_zero, List.getElem_cons_succ]
        refine AllS.next (v := ?_) rfl rfl rfl (by kernel_rfl) ?_ ?_
        rotate_left
        · refine yieldsS_run (fun _ _ h => h) (by rfl) ?_
          intro L wx hS
          go_simp
          try with_reducible rfl
        try simp only [Act.put, List.setIfInBounds_toArray, List.set_cons_zero, List.set_cons_succ, List.getElem_toArray, List.getElem_cons_zero, List.getElem_cons_succ]
        refine AllS.next (v := ?_) rfl rfl rfl (by kernel_rfl) ?_ ?_
        rotate_left
        · refine yieldsS_run (fun _ _ h => h) (by rfl) ?_
          intro L wx hS
          obtain ⟨p0, p1, p2⟩ := hP2 _ hS
          go_simp
          try with_reducible rfl
        try simp only [Act.put, List.setIfInBounds_toArray, List.set_cons_zero, List.set_cons_succ, List.getElem_toArray, List.getElem_cons_zero, List.getElem_cons_succ]
        refine AllS.next (v := ?_) rfl rfl rfl (by kernel_rfl) ?_ ?_
        rotate_left
        · refine yieldsS_run (fun _ _ h => h) (by rfl) ?_
          intro L wx hS
          go_simp
          try with_reducible rfl
        try simp only [Act.put, List.setIfInBounds_toArray, List.set_cons_zero, List.set_cons_succ, List.getElem_toArray, List.getElem_cons_zero, List.getElem_cons_succ]
        refine AllS.next (v := .bool la) rfl rfl rfl (by kernel_rfl) ?_ ?_
        · refine yieldsS_run (fun _ _ h => h) (by rfl) ?_
          intro L wx hS
          rw [← dla.out]
          go_simp
          try with_reducible rfl
        try simp only [Act.put, List.setIfInBounds_toArray, List.set_cons_zero, List.set_cons_succ, List.getElem_toArray, List.getElem_cons_zero, List.getElem_cons_succ]
        refine AllS.next (v := ?_) rfl rfl rfl (by kernel_rfl) ?_ ?_
        rotate_left
        · refine yieldsS_run (fun _ _ h => h) (by rfl) ?_
          intro L wx hS
          go_simp
          try with_reducible rfl
        try simp only [Act.put, List.setIfInBounds_toArray, List.set_cons_zero, List.set_cons_succ, List.getElem_toArray, List.getElem_cons_zero, List.getElem_cons_succ]
        refine AllS.next (v := cond la (.pointer (some ⟨xb, 2, none⟩)) undef) rfl rfl rfl (by kernel_rfl) ?_ ?_
        · cases la
          · exact .inr ⟨by rfl, rfl, fun _ _ h => h⟩
          · refine yieldsS_run (fun _ _ h => h) (by rfl) ?_
            intro L wx hS
            go_simp
            all_goals first
              | done
              | with_reducible rfl
              | omega
              | assumption
              | (rw [IntKind.wrap_i64]; omega)
              | (simp_all; done)
        try simp only [Act.put, List.setIfInBounds_toArray, List.set_cons_zero, List.set_cons_succ, List.getElem_toArray, List.getElem_cons_zero, List.getElem_cons_succ]
        refine AllS.next (v := cond la (.int .i64 xq) undef) rfl rfl rfl (by kernel_rfl) ?_ ?_
        · cases la
          · exact .inr ⟨by rfl, rfl, fun _ _ h => h⟩
          · refine yieldsS_run (fun _ _ h => h) (by rfl) ?_
            intro L wx hS
            obtain ⟨x0, x1, x2, x3⟩ := hX _ hS
            go_simp
            all_goals first
              | done
              | with_reducible rfl
              | omega
              | assumption
              | (rw [IntKind.wrap_i64]; omega)
              | (simp_all; done)
        try simp only [Act.put, List.setIfInBounds_toArray, List.set_cons_zero, List.set_cons_succ, List.getElem_toArray, List.getElem_cons_zero, List.getElem_cons_succ]
        refine AllS.next (v := cond la (.pointer (some ⟨ob, 4, none⟩)) undef) rfl rfl rfl (by kernel_rfl) ?_ ?_
        · cases la
          · exact .inr ⟨by rfl, rfl, fun _ _ h => h⟩
          · refine yieldsS_run (fun _ _ h => h) (by rfl) ?_
            intro L wx hS
            go_simp
            all_goals first
              | done
              | with_reducible rfl
              | omega
              | assumption
              | (rw [IntKind.wrap_i64]; omega)
              | (simp_all; done)
        try simp only [Act.put, List.setIfInBounds_toArray, List.set_cons_zero, List.set_cons_succ, List.getElem_toArray, List.getElem_cons_zero, List.getElem_cons_succ]
        refine AllS.next (v := cond la (.int .i64 oq) undef) rfl rfl rfl (by kernel_rfl) ?_ ?_
        · cases la
          · exact .inr ⟨by rfl, rfl, fun _ _ h => h⟩
          · refine yieldsS_run (fun _ _ h => h) (by rfl) ?_
            intro L wx hS
            obtain ⟨o0, o1, o2, o3, o4, o5, o6⟩ := hO _ hS
            go_simp
            all_goals first
              | done
              | with_reducible rfl
              | omega
              | assumption
              | (rw [IntKind.wrap_i64]; omega)
              | (simp_all; done)
        try simp only [Act.put, List.setIfInBounds_toArray, List.set_cons_zero, List.set_cons_succ, List.getElem_toArray, List.getElem_cons_zero, List.getElem_cons_succ]
        refine AllS.next (v := cond la (.bool false) undef) rfl rfl rfl (by kernel_rfl) ?_ ?_
        · cases la
          · exact .inr ⟨by rfl, rfl, fun _ _ h => h⟩
          · refine yieldsS_run (fun _ _ h => h) (by rfl) ?_
            intro L wx hS
            have dxo := hmore.out rfl
            go_simp
            all_goals first
              | done
              | with_reducible rfl
              | omega
              | assumption
              | (rw [IntKind.wrap_i64]; omega)
              | (simp_all; done)
        try simp only [Act.put, List.setIfInBounds_toArray, List.set_cons_zero, List.set_cons_succ, List.getElem_toArray, List.getElem_cons_zero, List.getElem_cons_succ]
        refine AllS.next (v := (.bool false)) rfl rfl rfl (by kernel_rfl) ?_ ?_
        · cases la
          all_goals
            refine yieldsS_run (fun _ _ h => h) (by rfl) ?_
            intro L wx hS
            go_simp
            try with_reducible rfl
        try simp only [Act.put, List.setIfInBounds_toArray, List.set_cons_zero, List.set_cons_succ, List.getElem_toArray, List.getElem_cons_zero, List.getElem_cons_succ]
        refine AllS.next (v := (.bool false)) rfl rfl rfl (by kernel_rfl) ?_ ?_
        · refine yieldsS_run (fun _ _ h => h) (by rfl) ?_
          intro L wx hS
          go_simp
          all_goals first
            | done
            | with_reducible rfl
            | omega
            | assumption
            | (rw [IntKind.wrap_i64]; omega)
            | (simp_all; done)
        try simp only [Act.put, List.setIfInBounds_toArray, List.set_cons_zero, List.set_cons_succ, List.getElem_toArray, List.getElem_cons_zero, List.getElem_cons_succ]
        refine AllS.done (by kernel_rfl) ?_
        intro w9 b9
        obtain ⟨x0, x1, x2, x3⟩ := hX _ b9
        obtain ⟨o0, o1, o2, o3, o4, o5, o6⟩ := hO _ b9
        obtain ⟨t0, t1, t2, t3, t4, t5, t6⟩ := hT2 _ b9
        have b69 : Below w6.heap.size w6 w9 := hb68.trans (b9.mono hb68.size)
        clear cB1 cB2 hY hjq dl dq0 dla hmore hqn2
        have hw := hown.out
        obtain ⟨e1, e2⟩ := Bool.and_eq_true_iff.1 hw.symm
        clear hw
        all_goals
          clear hown
          go_wp2_with fail
          go_roundg (n - (q + 1))
          case measure => have := hqj.out; omega
          case rel => exact ⟨q + 1, by have := hqj.out; omega, by go_num, b69⟩
    · have e : q = n := by omega
      subst e
      clear hat hFl hP hT hPB
      have hqn : ¬ (q : Int) < (q : Int) := by omega
      go_wp2_with (first
        | (go_at_call 14; refine (cAp _ br).mono ?_; rintro e w9 ⟨rfl, hb9⟩; clear cAp)
        | (go_at_call 5; refine (cA _ (hG.below hb9)).mono ?_; rintro e w10 ⟨rfl, hb10⟩; clear cA)
        | fail)
      go_ret
      exact ⟨rfl, hb9.trans (hb10.mono hb9.size)⟩
end Go.Proofs.YtdpibjnlpdgdeaaDoor
