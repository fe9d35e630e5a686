/-
  The contracts of package config's Same and of the document's.
-/
import Derived.Test.YtbkiipeoabbiiaaCfgE
import Derived.ChangeKeysEq
import Derived.Laws.StructEq
namespace Go.Proofs.Ytbkiipeoabbiiaa
open Go.RowKit
theorem infoInt : (Try.prog.info? 3).map (fun i => i.size) = some 1 := by kernel_rfl
theorem infoInt64 : (Try.prog.info? 2).map (fun i => i.size) = some 1 := by kernel_rfl
theorem cut2 (p q : Bool) : (if p = true then q else false) = (p && q) := by cases p <;> rfl
def eqF (c d : Cfg) : Bool := c.f0 == d.f0 && (c.f1 == d.f1 && c.f2 == d.f2)
def eqH (c d : Cfg) : Bool := c.h0 == d.h0 && c.h1 == d.h1
theorem eqIn_Falls (a b c d e f : Int) (w : World) : (Op.equalIn 10000 24 (.agg #[.int .i64 a, .int .i64 b, .int .i64 c]) (.agg #[.int .i64 d, .int .i64 e, .int .i64 f])).run Try.prog w = .ok (a == d && (b == e && c == f)) w := by
  have uint := Try.underlying3
  obtain ⟨i, hi⟩ : ∃ i, Try.prog.info? 3 = some i := by
    have h := infoInt
    rw [Option.map_eq_some_iff] at h
    obtain ⟨i, hi, -⟩ := h
    exact ⟨i, hi⟩
  rw [show (10000 : Nat) = 9998 + 1 + 1 from rfl, Go.run_equalIn_array w (9998 + 1) _ _ Try.underlying24 hi, cells_Symb_int]
  show (Op.eqItems _ _ _ _ _ [0, 1, 2]).run Try.prog w = _
  simp only [Op.eqItems]
  simp [go_sem, part]
  by_cases h1 : a = d <;> by_cases h2 : b = e <;> by_cases h3 : c = f <;> simp [h1, h2, h3]
theorem eqIn_Halts (a b c d : Int) (w : World) : (Op.equalIn 10000 25 (.agg #[.int .i64 a, .int .i64 b]) (.agg #[.int .i64 c, .int .i64 d])).run Try.prog w = .ok (a == c && b == d) w := by
  have uint := Try.underlying2
  obtain ⟨i, hi⟩ : ∃ i, Try.prog.info? 2 = some i := by
    have h := infoInt64
    rw [Option.map_eq_some_iff] at h
    obtain ⟨i, hi, -⟩ := h
    exact ⟨i, hi⟩
  rw [show (10000 : Nat) = 9998 + 1 + 1 from rfl, Go.run_equalIn_array w (9998 + 1) _ _ Try.underlying25 hi, cells_Symb_int64]
  show (Op.eqItems _ _ _ _ _ [0, 1]).run Try.prog w = _
  simp only [Op.eqItems]
  simp [go_sem, part]
  by_cases h1 : a = c <;> by_cases h2 : b = d <;> simp [h1, h2]
theorem eql_Falls (a b c d e f : Int) (w : World) : (binOp .eql 24 (.agg #[.int .i64 a, .int .i64 b, .int .i64 c]) (.agg #[.int .i64 d, .int .i64 e, .int .i64 f])).run Try.prog w = .ok (.bool (a == d && (b == e && c == f))) w := by
  rw [run_eql_struct, eqIn_Falls]; rfl
theorem neq_Falls (a b c d e f : Int) (w : World) : (binOp .neq 24 (.agg #[.int .i64 a, .int .i64 b, .int .i64 c]) (.agg #[.int .i64 d, .int .i64 e, .int .i64 f])).run Try.prog w = .ok (.bool (!(a == d && (b == e && c == f)))) w := by
  rw [run_neq_struct, eqIn_Falls]; rfl
theorem eql_Halts (a b c d : Int) (w : World) : (binOp .eql 25 (.agg #[.int .i64 a, .int .i64 b]) (.agg #[.int .i64 c, .int .i64 d])).run Try.prog w = .ok (.bool (a == c && b == d)) w := by
  rw [run_eql_struct, eqIn_Halts]; rfl
theorem neq_Halts (a b c d : Int) (w : World) : (binOp .neq 25 (.agg #[.int .i64 a, .int .i64 b]) (.agg #[.int .i64 c, .int .i64 d])).run Try.prog w = .ok (.bool (!(a == c && b == d))) w := by
  rw [run_neq_struct, eqIn_Halts]; rfl
def sameC (c d : Cfg) : Bool := decide (c.syms = d.syms) && (decide (c.rows = d.rows) && (c.index == d.index && (eqF c d && eqH c d)))
theorem sameC_true {c d : Cfg} : sameC c d = true ↔ c = d := by
  cases c; cases d
  simp [sameC, eqF, eqH, and_assoc]
theorem sameC_self (c : Cfg) : sameC c c = true := sameC_true.2 rfl
set_option maxRecDepth 8000 in
set_option maxHeartbeats 2000000 in
theorem csame_any (sa : Option Addr) (sc : Nat) (ra : Option Addr) (rc : Nat) (c : Cfg) (ta : Option Addr) (tc : Nat) (ua : Option Addr) (uc : Nat) (d : Cfg) (W : World) (hH : Holds W sa sc ra rc c) (hG : Holds W ta tc ua uc d) :
    Calls Try.prog 18 #[vCfg sa sc ra rc c, vCfg ta tc ua uc d] W fun e w' => e = .returned (.bool (sameC c d)) ∧ Below W.heap.size W w' := by
  have m0 := ((Mem.start W).new 27 (cCfg sa sc ra rc c)).new' 27 (cCfg ta tc ua uc d) (n := W.heap.size + 1) (by simp)
  have cS : ∀ w, Below W.heap.size W w → Calls Try.prog 47 #[.slice sa c.syms.length sc, .slice ta d.syms.length tc] w fun e w' => e = .returned (.bool (decide (c.syms = d.syms))) ∧ ∃ m, w' = w.drewN m := fun w hb => equalSymb_any _ _ _ _ _ _ w (hH.syms.below hb) (hG.syms.below hb)
  have cR : ∀ w, Below W.heap.size W w → Calls Try.prog 48 #[.slice ra c.rows.length rc, .slice ua d.rows.length uc] w fun e w' => e = .returned (.bool (decide (c.rows = d.rows))) ∧ ∃ m, w' = w.drewN m := fun w hb => equalRowp_any _ _ _ _ _ _ w (hH.rows.below hb) (hG.rows.below hb)
  have hF := fun w => eql_Falls c.f0 c.f1 c.f2 d.f0 d.f1 d.f2 w
  have hH2 := fun w => eql_Halts c.h0 c.h1 d.h0 d.h1 w
  unfold sameC eqF eqH
  generalize decide (c.syms = d.syms) = k1 at cS ⊢
  generalize decide (c.rows = d.rows) = k2 at cR ⊢
  generalize (c.f0 == d.f0 && (c.f1 == d.f1 && c.f2 == d.f2)) = k4 at hF ⊢
  generalize (c.h0 == d.h0 && c.h1 == d.h1) = k5 at hH2 ⊢
  have b0 := m0.below
  have hx := (m0.blk W.heap.size _ _ (by simp : (W.heap.size, 27, cCfg sa sc ra rc c) ∈ _))
  have hy := (m0.blk (W.heap.size + 1) _ _ (by simp : (W.heap.size + 1, 27, cCfg ta tc ua uc d) ∈ _))
  obtain ⟨x0, x1, x2, x3, x4, x5, x6, x7⟩ := Cfg.cells hx
  obtain ⟨y0, y1, y2, y3, y4, y5, y6, y7⟩ := Cfg.cells hy
  obtain ⟨k3, hk3⟩ : ∃ k, (c.index == d.index) = k := ⟨_, rfl⟩
  rw [hk3]
  obtain ⟨syms, rows, index, f0, f1, f2, h0, h1⟩ := c
  obtain ⟨syms', rows', index', f0', f1', f2', h0', h1'⟩ := d
  simp only at *
  clear hH hG m0 hx hy
  have b1 := fun m => Below.drewN b0 m
  have e2 := fun m k => Below.drewN (b1 m) k
  cases k1 with
  | false =>
    go_enter Try.func18, Try.ntmps18
    go_wp2_with (first
      | (go_at_call 47; refine (cS _ b0).mono ?_; rintro e w1 ⟨rfl, m1, rfl⟩)
      | (go_at_call 48; refine (cR _ (b1 _)).mono ?_; rintro e w1 ⟨rfl, m2, rfl⟩))
    go_ret
    exact ⟨rfl, b1 _⟩
  | true =>
    cases k2 with
    | false =>
      go_enter Try.func18, Try.ntmps18
      go_wp2_with (first
      | (go_at_call 47; refine (cS _ b0).mono ?_; rintro e w1 ⟨rfl, m1, rfl⟩)
      | (go_at_call 48; refine (cR _ (b1 _)).mono ?_; rintro e w1 ⟨rfl, m2, rfl⟩))
      go_ret
      first | exact ⟨rfl, b1 _⟩ | exact ⟨rfl, e2 _ _⟩
    | true =>
      cases k3 with
      | false =>
        have hne : ¬ index = index' := by simpa using hk3
        go_enter Try.func18, Try.ntmps18
        go_wp2_with (first
      | (go_at_call 47; refine (cS _ b0).mono ?_; rintro e w1 ⟨rfl, m1, rfl⟩)
      | (go_at_call 48; refine (cR _ (b1 _)).mono ?_; rintro e w1 ⟨rfl, m2, rfl⟩))
        all_goals first
          | (exfalso; omega)
          | (go_ret; first | exact ⟨rfl, b1 _⟩ | exact ⟨rfl, e2 _ _⟩)
      | true =>
        obtain rfl : index = index' := by simpa using hk3
        clear hk3
        cases k4 with
        | false =>
          go_enter Try.func18, Try.ntmps18
          go_wp2_with (first
      | (go_at_call 47; refine (cS _ b0).mono ?_; rintro e w1 ⟨rfl, m1, rfl⟩)
      | (go_at_call 48; refine (cR _ (b1 _)).mono ?_; rintro e w1 ⟨rfl, m2, rfl⟩))
          all_goals first
            | (exfalso; omega)
            | (go_ret; first | exact ⟨rfl, b1 _⟩ | exact ⟨rfl, e2 _ _⟩)
        | true =>
          go_enter Try.func18, Try.ntmps18
          go_wp2_with (first
      | (go_at_call 47; refine (cS _ b0).mono ?_; rintro e w1 ⟨rfl, m1, rfl⟩)
      | (go_at_call 48; refine (cR _ (b1 _)).mono ?_; rintro e w1 ⟨rfl, m2, rfl⟩))
          all_goals first
            | (exfalso; omega)
            | (go_ret; first | exact ⟨rfl, b1 _⟩ | exact ⟨rfl, e2 _ _⟩)
end Go.Proofs.Ytbkiipeoabbiiaa
