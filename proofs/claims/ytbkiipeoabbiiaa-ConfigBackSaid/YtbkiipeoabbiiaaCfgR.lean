/-
  The contracts of package config's row and market.
-/
import Derived.Test.YtbkiipeoabbiiaaCfgP
namespace Go.Proofs.Ytbkiipeoabbiiaa
open Go.RowKit
theorem rowC1_any (r : Rowp) (E : Int) (b g : Nat) (w : World) (h : Blk w b 49 (cRowp r)) (hE : Blk w g 2 #[.int .i64 E]) :
    Calls Try.prog 58 #[.pointer (some ⟨g, 0, none⟩), .pointer (some ⟨b, 0, none⟩)] w fun e w' => e = .returned (.bool (allK E 1125899906842624 [r.tick])) ∧ Below w.heap.size w w' := by
  have hb0 := fun o => Below.alK (Below.refl w.heap.size w) o
  have c1 := within64_row E 1125899906842624 [r.tick] 1 (by simp) rfl w.heap.size
  obtain ⟨x0, x1⟩ := Rowp.cells h
  have e0 := hE.cell_eq 0 _ rfl
  clear h hE
  generalize allK E 1125899906842624 [r.tick] = q at c1 ⊢
  obtain ⟨tick, phase⟩ := r
  try simp only at *
  go_enter Try.func58, Try.ntmps58
  go_wp2_with (go_at_call 30; (refine (c1 _ _ rfl (Blk.new' rfl)).mono ?_); rintro e w1 ⟨rfl, rfl⟩)
  go_ret
  exact ⟨rfl, hb0 _⟩
theorem rowC2_any (r : Rowp) (b : Nat) (w : World) (h : Blk w b 49 (cRowp r)) :
    Calls Try.prog 59 #[.pointer (some ⟨b, 0, none⟩)] w fun e w' => e = .returned (.bool (allK 0 2 [r.phase])) ∧ Below w.heap.size w w' := by
  have hb0 := fun o => Below.alK (Below.refl w.heap.size w) o
  have c1 := withinI_row 0 2 [r.phase] 1 (by simp) rfl w.heap.size
  obtain ⟨x0, x1⟩ := Rowp.cells h
  clear h
  generalize allK 0 2 [r.phase] = q at c1 ⊢
  obtain ⟨tick, phase⟩ := r
  try simp only at *
  go_enter Try.func59, Try.ntmps59
  go_wp2_with (go_at_call 23; (refine (c1 _ _ rfl (Blk.new' rfl)).mono ?_); rintro e w1 ⟨rfl, rfl⟩)
  go_ret
  exact ⟨rfl, hb0 _⟩
/-- The fault of a row that may begin at a tick. -/
def rowE (E : Int) (r : Rowp) : Nat := if allK E 1125899906842624 [r.tick] = true then (if allK 0 2 [r.phase] = true then 0 else 10) else 9
set_option maxRecDepth 8000 in
set_option maxHeartbeats 1000000 in
theorem row_any (r : Rowp) (E : Int) (W : World) :
    Calls Try.prog 24 #[vRowp r, .int .i64 E] W fun e w' => e = .returned (.int .i64 (rowE E r)) ∧ Below W.heap.size W w' := by
  have m0 := ((Mem.start W).new 49 (cRowp r)).new' 2 #[.int .i64 E] (n := W.heap.size + 1) (by simp)
  have c1 : ∀ (b cap : Nat) (w : World), Mem W [(W.heap.size + 1, 2, #[.int .i64 E]), (W.heap.size, 49, cRowp r)] w → Blk w b 57 #[.int .i64 9, .func (.func 58) #[] #[.pointer (some ⟨W.heap.size + 1, 0, none⟩), .pointer (some ⟨W.heap.size, 0, none⟩)], .int .i64 10, .func (.func 59) #[] #[.pointer (some ⟨W.heap.size, 0, none⟩)]] → Calls Try.prog 28 #[.slice (some ⟨b, 0, none⟩) 2 cap] w fun e w' => e = .returned (.int .i64 (rowE E r)) ∧ Below w.heap.size w w' := by
    intro b cap w hw hb
    have h1 : ∀ w', Below w.heap.size w w' → Blk w' W.heap.size 49 (cRowp r) := fun w' h => (hw.keep h).blk _ _ _ (by simp)
    have h2 : ∀ w', Below w.heap.size w w' → Blk w' (W.heap.size + 1) 2 #[.int .i64 E] := fun w' h => (hw.keep h).blk _ _ _ (by simp)
    refine first_any [⟨9, 58, #[.pointer (some ⟨W.heap.size + 1, 0, none⟩), .pointer (some ⟨W.heap.size, 0, none⟩)], allK E 1125899906842624 [r.tick]⟩, ⟨10, 59, #[.pointer (some ⟨W.heap.size, 0, none⟩)], allK 0 2 [r.phase]⟩] b cap 2 (by simp) rfl w (fun i c hc => ?_) (fun c hc => ?_)
    · match i, hc with
      | 0, hc => cases hc; exact ⟨hb.cell_eq 0 _ rfl, hb.cell_eq 1 _ rfl⟩
      | 1, hc => cases hc; exact ⟨hb.cell_eq 2 _ rfl, hb.cell_eq 3 _ rfl⟩
      | i + 2, hc => simp at hc
    · simp only [List.mem_cons, List.not_mem_nil, or_false] at hc
      rcases hc with rfl | rfl
      · exact ⟨enters_of Try.func58 (by kernel_rfl) (by kernel_rfl), fun w hb => rowC1_any r E _ _ w (h1 w hb) (h2 w hb)⟩
      · exact ⟨enters_of Try.func59 (by kernel_rfl) (by kernel_rfl), fun w hb => rowC2_any r _ w (h1 w hb)⟩
  have hm := fun o => m0.keep ((Below.refl _ _).alloc (Nat.le_refl _) o)
  generalize rowE E r = f at c1 ⊢
  go_enter Try.func24, Try.ntmps24
  go_wp2_with (go_at_call 28; (refine (c1 (W.heap.size + 2) _ _ (hm _) (Blk.new' (by simp))).mono ?_); rintro e w1 ⟨rfl, hb1⟩)
  go_ret
  exact ⟨rfl, ((hm _).keep hb1).below⟩
theorem mktC1_any (sa : Option Addr) (sc : Nat) (ra : Option Addr) (rc : Nat) (c : Cfg) (b : Nat) (w : World) (h : Blk w b 27 (cCfg sa sc ra rc c)) :
    Calls Try.prog 60 #[.pointer (some ⟨b, 0, none⟩)] w fun e w' => e = .returned (.bool (allK 1 1099511627776 [c.index])) ∧ Below w.heap.size w w' := by
  have hb0 := fun o => Below.alK (Below.refl w.heap.size w) o
  have c1 := within64_row 1 1099511627776 [c.index] 1 (by simp) rfl w.heap.size
  obtain ⟨x0, x1, x2, x3, x4, x5, x6, x7⟩ := Cfg.cells h
  clear h
  generalize allK 1 1099511627776 [c.index] = r at c1 ⊢
  obtain ⟨syms, rows, index, f0, f1, f2, h0, h1⟩ := c
  simp only at *
  go_enter Try.func60, Try.ntmps60
  go_wp2_with (go_at_call 30; (refine (c1 _ _ rfl (Blk.new' rfl)).mono ?_); rintro e w1 ⟨rfl, rfl⟩)
  go_ret
  exact ⟨rfl, hb0 _⟩
theorem mktC2_any (sa : Option Addr) (sc : Nat) (ra : Option Addr) (rc : Nat) (c : Cfg) (b : Nat) (w : World) (h : Blk w b 27 (cCfg sa sc ra rc c)) :
    Calls Try.prog 61 #[.pointer (some ⟨b, 0, none⟩)] w fun e w' => e = .returned (.bool (allK 1 9999 [c.f0, c.f1, c.f2])) ∧ Below w.heap.size w w' := by
  have c1 := fun cap => withinI_any 1 9999 b 3 cap 3 [c.f0, c.f1, c.f2] (by simp) rfl w fun i z hz => by
    match i, hz with
    | 0, hz => cases hz; exact h.cell_eq 3 _ rfl
    | 1, hz => cases hz; exact h.cell_eq 4 _ rfl
    | 2, hz => cases hz; exact h.cell_eq 5 _ rfl
    | i + 3, hz => simp at hz
  obtain ⟨x0, x1, x2, x3, x4, x5, x6, x7⟩ := Cfg.cells h
  clear h
  generalize allK 1 9999 [c.f0, c.f1, c.f2] = r at c1 ⊢
  obtain ⟨syms, rows, index, f0, f1, f2, h0, h1⟩ := c
  simp only at *
  go_enter Try.func61, Try.ntmps61
  go_wp2_with (go_at_call 23; (refine (c1 _).mono ?_); rintro e w1 ⟨rfl, rfl⟩)
  go_ret
  exact ⟨rfl, Below.refl _ _⟩
theorem mktC3_any (sa : Option Addr) (sc : Nat) (ra : Option Addr) (rc : Nat) (c : Cfg) (b : Nat) (w : World) (h : Blk w b 27 (cCfg sa sc ra rc c)) :
    Calls Try.prog 62 #[.pointer (some ⟨b, 0, none⟩)] w fun e w' => e = .returned (.bool (decide (c.f0 < c.f1) && decide (c.f1 < c.f2))) ∧ Below w.heap.size w w' := by
  obtain ⟨x0, x1, x2, x3, x4, x5, x6, x7⟩ := Cfg.cells h
  clear h
  obtain ⟨syms, rows, index, f0, f1, f2, h0, h1⟩ := c
  simp only at *
  go_enter Try.func62, Try.ntmps62
  go_wp2
  all_goals go_ret
  all_goals refine ⟨?_, Below.refl _ _⟩
  all_goals (first | rfl | (refine congrArg (fun z => Ending.returned (Value.bool z)) ?_; simp; omega))
theorem mktC4_any (sa : Option Addr) (sc : Nat) (ra : Option Addr) (rc : Nat) (c : Cfg) (b : Nat) (w : World) (h : Blk w b 27 (cCfg sa sc ra rc c)) :
    Calls Try.prog 63 #[.pointer (some ⟨b, 0, none⟩)] w fun e w' => e = .returned (.bool (allK 1 1099511627776 [c.h0, c.h1])) ∧ Below w.heap.size w w' := by
  have c1 := fun cap => within64_any 1 1099511627776 b 6 cap 2 [c.h0, c.h1] (by simp) rfl w fun i z hz => by
    match i, hz with
    | 0, hz => cases hz; exact h.cell_eq 6 _ rfl
    | 1, hz => cases hz; exact h.cell_eq 7 _ rfl
    | i + 2, hz => simp at hz
  obtain ⟨x0, x1, x2, x3, x4, x5, x6, x7⟩ := Cfg.cells h
  clear h
  generalize allK 1 1099511627776 [c.h0, c.h1] = r at c1 ⊢
  obtain ⟨syms, rows, index, f0, f1, f2, h0, h1⟩ := c
  simp only at *
  go_enter Try.func63, Try.ntmps63
  go_wp2_with (go_at_call 30; (refine (c1 _).mono ?_); rintro e w1 ⟨rfl, rfl⟩)
  go_ret
  exact ⟨rfl, Below.refl _ _⟩
theorem tail_conds (c : Cfg) : firstF [⟨9, 0, #[], allK 1 1099511627776 [c.index]⟩, ⟨9, 0, #[], allK 1 9999 [c.f0, c.f1, c.f2]⟩, ⟨9, 0, #[], decide (c.f0 < c.f1) && decide (c.f1 < c.f2)⟩, ⟨9, 0, #[], allK 1 1099511627776 [c.h0, c.h1]⟩] = tailF c := by
  have a1 : allK 1 1099511627776 [c.index] = inK c.index 1 1099511627776 := by simp [allK]
  have a4 : allK 1 1099511627776 [c.h0, c.h1] = haltsB c := by simp [allK, haltsB]
  have a2 : (allK 1 9999 [c.f0, c.f1, c.f2] && (decide (c.f0 < c.f1) && decide (c.f1 < c.f2))) = fallsB c := by
    simp only [allK, fallsB, List.all_cons, List.all_nil, Bool.and_true]
    generalize inK c.f0 1 9999 = p0
    generalize inK c.f1 1 9999 = p1
    generalize inK c.f2 1 9999 = p2
    generalize decide (c.f0 < c.f1) = p3
    generalize decide (c.f1 < c.f2) = p4
    cases p0 <;> cases p1 <;> cases p2 <;> cases p3 <;> cases p4 <;> rfl
  unfold tailF
  rw [← a1, ← a4, ← a2]
  simp only [firstF]
  generalize allK 1 1099511627776 [c.index] = p0
  generalize allK 1 9999 [c.f0, c.f1, c.f2] = p1
  generalize (decide (c.f0 < c.f1) && decide (c.f1 < c.f2)) = p2
  generalize allK 1 1099511627776 [c.h0, c.h1] = p3
  cases p0 <;> cases p1 <;> cases p2 <;> cases p3 <;> rfl
set_option maxRecDepth 8000 in
set_option maxHeartbeats 1000000 in
theorem market_any (sa : Option Addr) (sc : Nat) (ra : Option Addr) (rc : Nat) (c : Cfg) (W : World) :
    Calls Try.prog 25 #[vCfg sa sc ra rc c] W fun e w' => e = .returned (.int .i64 (tailF c)) ∧ Below W.heap.size W w' := by
  have m0 := (Mem.start W).new 27 (cCfg sa sc ra rc c)
  have c1 : ∀ (b cap : Nat) (w : World), Mem W [(W.heap.size, 27, cCfg sa sc ra rc c)] w → Blk w b 57 #[.int .i64 9, .func (.func 60) #[] #[.pointer (some ⟨W.heap.size, 0, none⟩)], .int .i64 9, .func (.func 61) #[] #[.pointer (some ⟨W.heap.size, 0, none⟩)], .int .i64 9, .func (.func 62) #[] #[.pointer (some ⟨W.heap.size, 0, none⟩)], .int .i64 9, .func (.func 63) #[] #[.pointer (some ⟨W.heap.size, 0, none⟩)]] → Calls Try.prog 28 #[.slice (some ⟨b, 0, none⟩) 4 cap] w fun e w' => e = .returned (.int .i64 (tailF c)) ∧ Below w.heap.size w w' := by
    intro b cap w hw hb
    have h1 : ∀ w', Below w.heap.size w w' → Blk w' W.heap.size 27 (cCfg sa sc ra rc c) := fun w' h => (hw.keep h).blk _ _ _ (by simp)
    rw [← tail_conds c]
    refine first_any [⟨9, 60, #[.pointer (some ⟨W.heap.size, 0, none⟩)], allK 1 1099511627776 [c.index]⟩, ⟨9, 61, #[.pointer (some ⟨W.heap.size, 0, none⟩)], allK 1 9999 [c.f0, c.f1, c.f2]⟩, ⟨9, 62, #[.pointer (some ⟨W.heap.size, 0, none⟩)], decide (c.f0 < c.f1) && decide (c.f1 < c.f2)⟩, ⟨9, 63, #[.pointer (some ⟨W.heap.size, 0, none⟩)], allK 1 1099511627776 [c.h0, c.h1]⟩] b cap 4 (by simp) rfl w (fun i c hc => ?_) (fun c hc => ?_)
    · match i, hc with
      | 0, hc => cases hc; exact ⟨hb.cell_eq 0 _ rfl, hb.cell_eq 1 _ rfl⟩
      | 1, hc => cases hc; exact ⟨hb.cell_eq 2 _ rfl, hb.cell_eq 3 _ rfl⟩
      | 2, hc => cases hc; exact ⟨hb.cell_eq 4 _ rfl, hb.cell_eq 5 _ rfl⟩
      | 3, hc => cases hc; exact ⟨hb.cell_eq 6 _ rfl, hb.cell_eq 7 _ rfl⟩
      | i + 4, hc => simp at hc
    · simp only [List.mem_cons, List.not_mem_nil, or_false] at hc
      rcases hc with rfl | rfl | rfl | rfl
      · exact ⟨enters_of Try.func60 (by kernel_rfl) (by kernel_rfl), fun w hb => mktC1_any _ _ _ _ _ _ w (h1 w hb)⟩
      · exact ⟨enters_of Try.func61 (by kernel_rfl) (by kernel_rfl), fun w hb => mktC2_any _ _ _ _ _ _ w (h1 w hb)⟩
      · exact ⟨enters_of Try.func62 (by kernel_rfl) (by kernel_rfl), fun w hb => mktC3_any _ _ _ _ _ _ w (h1 w hb)⟩
      · exact ⟨enters_of Try.func63 (by kernel_rfl) (by kernel_rfl), fun w hb => mktC4_any _ _ _ _ _ _ w (h1 w hb)⟩
  have hm := fun o => m0.keep ((Below.refl _ _).alloc (Nat.le_refl _) o)
  generalize tailF c = f at c1 ⊢
  go_enter Try.func25, Try.ntmps25
  go_wp2_with (go_at_call 28; (refine (c1 (W.heap.size + 1) _ _ (hm _) (Blk.new' (by simp))).mono ?_); rintro e w1 ⟨rfl, hb1⟩)
  go_ret
  exact ⟨rfl, ((hm _).keep hb1).below⟩
end Go.Proofs.Ytbkiipeoabbiiaa
