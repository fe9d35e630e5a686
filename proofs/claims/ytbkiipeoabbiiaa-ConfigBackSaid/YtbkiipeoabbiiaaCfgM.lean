/-
  The contracts of the statements' Light and alive.
-/
import Derived.Test.YtbkiipeoabbiiaaCfgL
namespace Go.Proofs.Ytbkiipeoabbiiaa
open Go.RowKit
theorem field_syms (a b c d e f g h : Value) (w : World) : (Instr.field 27 (.agg #[a, b, c, d, e, f, g, h]) 0).run Try.prog w = .ok a w := by kernel_rfl
theorem light7_any (sa : Option Addr) (sc : Nat) (ra : Option Addr) (rc : Nat) (c : Cfg) (W : World) :
    Calls Try.prog 7 #[vCfg sa sc ra rc c] W fun e w' => e = .returned (.bool (decide (c.syms.length ≤ 20) && decide (c.rows.length ≤ 40))) ∧ Below W.heap.size W w' := by
  have hb0 := fun o => Below.alK (Below.refl W.heap.size W) o
  have hBox : Blk (W.alloc (.cells (cCfg sa sc ra rc c) 27)) W.heap.size 27 (cCfg sa sc ra rc c) := Blk.new _ _ _
  go_enter Try.func7, Try.ntmps7
  obtain ⟨x0, x1, x2, x3, x4, x5, x6, x7⟩ := Cfg.cells hBox
  go_wp2
  all_goals go_ret
  all_goals refine ⟨?_, hb0 _⟩
  all_goals refine congrArg (fun z => Ending.returned (Value.bool z)) ?_
  all_goals first
    | (have h : c.syms.length ≤ 20 := by omega
       simp [h] <;> omega)
    | (have h : ¬ c.syms.length ≤ 20 := by omega
       simp [h] <;> omega)
theorem sym_1003 : symF ⟨5, 1003, 2000, 500, 20, 100, 3, 10, 5, 2, 500, 500, 1, 40, 12, 1000⟩ = 8 := by decide
theorem check_plain : checkF (plainC 2) = (0, 0) := by decide
theorem bound_plain : boundS plainS = 25 := by decide
theorem fit_small {n : Int} (h0 : 0 ≤ n) (h1 : n ≤ 1000000) : In64 n := ⟨by omega, by omega⟩
theorem fit_plainS (r : Int) (h : In64 r) : Symb.Fit ⟨5, r, 2000, 500, 20, 100, 3, 10, 5, 2, 500, 500, 1, 40, 12, 1000⟩ := by
  constructor <;> first | exact h | (refine ⟨?_, ?_⟩ <;> simp)
theorem fit_plain (n : Nat) : (plainC n).Fit := by
  unfold plainC
  have z : ∀ n : Int, 0 ≤ n → n ≤ 1000000 → In64 n := fun n => fit_small
  refine ⟨fun s hs => ?_, fun r hr => ?_, z 10000 (by decide) (by decide), z 700 (by decide) (by decide), z 1300 (by decide) (by decide), z 2000 (by decide) (by decide), z 15 (by decide) (by decide), z 30 (by decide) (by decide)⟩
  · have := List.eq_of_mem_replicate hs; subst this; exact fit_plainS 1000 (fit_small (by decide) (by decide))
  · simp only [plainR, List.mem_cons, List.not_mem_nil, or_false] at hr
    rcases hr with rfl | rfl | rfl <;> exact ⟨fit_small (by decide) (by decide), fit_small (by decide) (by decide)⟩
set_option maxRecDepth 8000 in
set_option maxHeartbeats 2000000 in
theorem alive7_any (W : World) :
    Calls Try.prog 8 #[] W fun e w' => e = .returned (.bool true) ∧ Below W.heap.size W w' := by
  have cP1 : ∀ w, Calls Try.prog 22 #[.int .i64 1] w fun e w' => ∃ b off sc ra rc, e = .returned (vCfg (some ⟨b, off, none⟩) sc ra rc (plainC 1)) ∧ (w'.cell? ⟨b, off, none⟩ = some (.int .i64 5) ∧ w'.cell? ⟨b, off + 1, none⟩ = some (.int .i64 1000) ∧ w'.cell? ⟨b, off + 2, none⟩ = some (.int .i64 2000) ∧ w'.cell? ⟨b, off + 3, none⟩ = some (.int .i64 500) ∧ w'.cell? ⟨b, off + 4, none⟩ = some (.int .i64 20) ∧ w'.cell? ⟨b, off + 5, none⟩ = some (.int .i64 100) ∧ w'.cell? ⟨b, off + 6, none⟩ = some (.int .i64 3) ∧ w'.cell? ⟨b, off + 7, none⟩ = some (.int .i64 10) ∧ w'.cell? ⟨b, off + 8, none⟩ = some (.int .i64 5) ∧ w'.cell? ⟨b, off + 9, none⟩ = some (.int .i64 2) ∧ w'.cell? ⟨b, off + 10, none⟩ = some (.int .i64 500) ∧ w'.cell? ⟨b, off + 11, none⟩ = some (.int .i64 500) ∧ w'.cell? ⟨b, off + 12, none⟩ = some (.int .i64 1) ∧ w'.cell? ⟨b, off + 13, none⟩ = some (.int .i64 40) ∧ w'.cell? ⟨b, off + 14, none⟩ = some (.int .i64 12) ∧ w'.cell? ⟨b, off + 15, none⟩ = some (.int .i64 1000)) ∧ Below w.heap.size w w' := fun w => (plain_any 1 (by decide) w).mono fun e w' h => by
    obtain ⟨sa, sc, ra, rc, rfl, hH, hb⟩ := h
    obtain ⟨b, off, rfl, y0, y1, y2, y3, y4, y5, y6, y7, y8, y9, ya, yb, yc, yd, ye, yf⟩ := hH.syms.get (i := 0) (m := plainS) rfl
    exact ⟨b, off, sc, ra, rc, rfl, ⟨y0, y1, y2, y3, y4, y5, y6, y7, y8, y9, ya, yb, yc, yd, ye, yf⟩, hb⟩
  have cP2 : ∀ w, Calls Try.prog 22 #[.int .i64 2] w _ := fun w => plain_any 2 (by decide) w
  have cC := fun sa sc ra rc w (h : Holds w sa sc ra rc (plainC 2)) => check_any sa sc ra rc (plainC 2) (fit_plain 2) w h
  have cS := fun w => symbol_any _ (fit_plainS 1003 (fit_small (by decide) (by decide))) w
  have cB := fun w => cbound_any plainS (fit_plainS 1000 (fit_small (by decide) (by decide))) w
  rw [sym_1003] at cS
  rw [check_plain] at cC
  rw [bound_plain] at cB
  unfold Checked at cC
  have fS := field_syms
  go_enter Try.func8, Try.ntmps8
  go_wp2_with (first
    | (go_at_call 22; (with_reducible refine (cP1 _).mono ?_); rintro e w1 ⟨b, off, sc, ra, rc, rfl, ⟨y0, y1, y2, y3, y4, y5, y6, y7, y8, y9, ya, yb, yc, yd, ye, yf⟩, hb1⟩)
    | (go_at_call 22; (with_reducible refine (cP2 _).mono ?_); rintro e w2 ⟨sa, sc, ra, rc, rfl, hH, hb2⟩; have hs2 := (Blk.new w1 35 (cSymb ⟨5, 1003, 2000, 500, 20, 100, 3, 10, 5, 2, 500, 500, 1, 40, 12, 1000⟩)).below hb2 (by simp); have hB2 := (hb1.alloc hb1.size _).trans (hb2.mono (by have := hb1.size; simp; omega)))
    | (go_at_call 9; (with_reducible refine (cC _ _ _ _ _ hH).mono ?_); rintro e w3 ⟨rfl, hb3⟩; have hs3 := hs2.below hb3 hs2.lt; have hB3 := hB2.trans (hb3.mono hB2.size); obtain ⟨z0, z1, z2, z3, z4, z5, z6, z7, z8, z9, za, zb, zc, zd, ze, zf⟩ := Symb.cells hs3)
    | (go_at_call 11; (with_reducible refine (cS _).mono ?_); rintro e w4 ⟨rfl, hb4⟩; have hB4 := hB3.trans (hb4.mono hB3.size))
    | (go_at_call 13; (with_reducible refine (cB _).mono ?_); rintro e w5 ⟨rfl, hb5⟩))
  go_ret
  have hB5 := hB4.trans (hb1.mono hB4.size)
  exact ⟨rfl, hB5.trans (hb5.mono hB5.size)⟩
end Go.Proofs.Ytbkiipeoabbiiaa
