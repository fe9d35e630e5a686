/-
  The contract of package command's read, for each kind.
-/
import Derived.Test.YtjleebfdbkfgmaaCmdR
namespace Go.Proofs.Ytjleebfdbkfgmaa
open Go.RowKit
set_option maxRecDepth 4000 in
set_option maxHeartbeats 1000000 in
theorem read_new (g : Nat) (t : List Nat) (W : World) (hR : Rr W g (1 :: t) 0) :
    Calls Try.prog 24 #[.pointer (some ⟨g, 0, none⟩)] W fun e w' => e = .returned (cv (ofR (rdL (fmtC 1) (1 :: t) 0).1)) ∧ Rr w' g (rdL (fmtC 1) (1 :: t) 0).2.1 (rdL (fmtC 1) (1 :: t) 0).2.2 ∧ Frm (fun b => b = g) W w' := by
  have hC0 := Rc.start hR
  obtain ⟨b, hb⟩ : ∃ b, Hid (b = W.heap.size) := ⟨_, Lib.hid rfl⟩
  have h0 := step_first 1 t
  have cK := fun w (h : Rr w g (1 :: t) 0) => ruint_any g 0 (1 :: t) 1 w h
  rw [h0] at cK
  replace cK : ∀ w (_ : Rr w g (1 :: t) 0), Calls Try.prog 35 #[.pointer (some ⟨g, 0, none⟩), .int .i64 1] w fun e w' => e = .returned (.int .u64 1) ∧ Rr w' g t 0 ∧ Frm (fun b => b = g) w w' := cK
  replace h0 := Lib.hid h0
  go_enter Try.func24, Try.ntmps24
  go_wp2_with (first
    | (go_at_call 35; (with_reducible refine (cK _ hC0.rr).mono ?_); rintro e w0 ⟨rfl, hR0, hf0⟩; have hC := hC0.call hR0 hf0; clear hC0; obtain ⟨x0, x1, x2, x3, x4, x5, x6, x7, x8⟩ := cells9 hC.cmd; have xf := hC.cmd.free; clear cK)
    | (go_at_call 35; (with_reducible refine (rbyte_any _ _ _ _ (hC.set 0 (1) (c' := ⟨1, 0, 0, 0, 0, 0, 0, 0, 0⟩) rfl).rr).mono ?_); rintro e w1 ⟨r1, hs1, rfl, hl1, hR1, hf1⟩; replace hC := (hC.set 0 (1) (c' := ⟨1, 0, 0, 0, 0, 0, 0, 0, 0⟩) rfl).call hR1 hf1; clear x0 x1 x2 x3 x4 x5 x6 x7 x8 xf; obtain ⟨x0, x1, x2, x3, x4, x5, x6, x7, x8⟩ := cells9 hC.cmd; have xf := hC.cmd.free)
    | (go_at_call 36; (with_reducible refine (rgroups_any 4611686018427387905 2 Try.underlying2 (by decide) (by decide) _ _ _ _ (hC.set 1 ((r1.n : Int)) (c' := ⟨1, (r1.n : Int), 0, 0, 0, 0, 0, 0, 0⟩) rfl).rr).mono ?_); rintro e w2 ⟨r2, m2, hs2, rfl, ⟨hl2, hv2, hm2⟩, hR2, hf2⟩; replace hC := (hC.set 1 ((r1.n : Int)) (c' := ⟨1, (r1.n : Int), 0, 0, 0, 0, 0, 0, 0⟩) rfl).call hR2 hf2; clear x0 x1 x2 x3 x4 x5 x6 x7 x8 xf; obtain ⟨x0, x1, x2, x3, x4, x5, x6, x7, x8⟩ := cells9 hC.cmd; have xf := hC.cmd.free)
    | (go_at_call 36; (with_reducible refine (rgroups_any 1073741825 3 Try.underlying3 (by decide) (by decide) _ _ _ _ (hC.set 2 ((m2 : Int)) (c' := ⟨1, (r1.n : Int), (m2 : Int), 0, 0, 0, 0, 0, 0⟩) rfl).rr).mono ?_); rintro e w3 ⟨r3, m3, hs3, rfl, ⟨hl3, hv3, hm3⟩, hR3, hf3⟩; replace hC := (hC.set 2 ((m2 : Int)) (c' := ⟨1, (r1.n : Int), (m2 : Int), 0, 0, 0, 0, 0, 0⟩) rfl).call hR3 hf3; clear x0 x1 x2 x3 x4 x5 x6 x7 x8 xf; obtain ⟨x0, x1, x2, x3, x4, x5, x6, x7, x8⟩ := cells9 hC.cmd; have xf := hC.cmd.free)
    | (go_at_call 35; (with_reducible refine (rbyte_any _ _ _ _ (hC.set 3 ((m3 : Int)) (c' := ⟨1, (r1.n : Int), (m2 : Int), (m3 : Int), 0, 0, 0, 0, 0⟩) rfl).rr).mono ?_); rintro e w4 ⟨r4, hs4, rfl, hl4, hR4, hf4⟩; replace hC := (hC.set 3 ((m3 : Int)) (c' := ⟨1, (r1.n : Int), (m2 : Int), (m3 : Int), 0, 0, 0, 0, 0⟩) rfl).call hR4 hf4; clear x0 x1 x2 x3 x4 x5 x6 x7 x8 xf; obtain ⟨x0, x1, x2, x3, x4, x5, x6, x7, x8⟩ := cells9 hC.cmd; have xf := hC.cmd.free)
    | (go_at_call 35; (with_reducible refine (rbyte_any _ _ _ _ (hC.set 4 ((r4.n : Int)) (c' := ⟨1, (r1.n : Int), (m2 : Int), (m3 : Int), (r4.n : Int), 0, 0, 0, 0⟩) rfl).rr).mono ?_); rintro e w5 ⟨r5, hs5, rfl, hl5, hR5, hf5⟩; replace hC := (hC.set 4 ((r4.n : Int)) (c' := ⟨1, (r1.n : Int), (m2 : Int), (m3 : Int), (r4.n : Int), 0, 0, 0, 0⟩) rfl).call hR5 hf5; clear x0 x1 x2 x3 x4 x5 x6 x7 x8 xf; obtain ⟨x0, x1, x2, x3, x4, x5, x6, x7, x8⟩ := cells9 hC.cmd; have xf := hC.cmd.free)
    | (go_at_call 35; (with_reducible refine (rbyte_any _ _ _ _ (hC.set 5 ((r5.n : Int)) (c' := ⟨1, (r1.n : Int), (m2 : Int), (m3 : Int), (r4.n : Int), (r5.n : Int), 0, 0, 0⟩) rfl).rr).mono ?_); rintro e w6 ⟨r6, hs6, rfl, hl6, hR6, hf6⟩; replace hC := (hC.set 5 ((r5.n : Int)) (c' := ⟨1, (r1.n : Int), (m2 : Int), (m3 : Int), (r4.n : Int), (r5.n : Int), 0, 0, 0⟩) rfl).call hR6 hf6; clear x0 x1 x2 x3 x4 x5 x6 x7 x8 xf; obtain ⟨x0, x1, x2, x3, x4, x5, x6, x7, x8⟩ := cells9 hC.cmd; have xf := hC.cmd.free)
    | (go_at_call 37; (with_reducible refine (rsigned_any _ _ _ _ (hC.set 8 ((r6.n : Int)) (c' := ⟨1, (r1.n : Int), (m2 : Int), (m3 : Int), (r4.n : Int), (r5.n : Int), 0, 0, (r6.n : Int)⟩) rfl).rr).mono ?_); rintro e w7 ⟨r7, hs7, rfl, hR7, hf7⟩; replace hC := (hC.set 8 ((r6.n : Int)) (c' := ⟨1, (r1.n : Int), (m2 : Int), (m3 : Int), (r4.n : Int), (r5.n : Int), 0, 0, (r6.n : Int)⟩) rfl).call hR7 hf7; clear x0 x1 x2 x3 x4 x5 x6 x7 x8 xf; obtain ⟨x0, x1, x2, x3, x4, x5, x6, x7, x8⟩ := cells9 hC.cmd; have xf := hC.cmd.free)
    | (go_at_call 37; (with_reducible refine (rsigned_any _ _ _ _ (hC.set 6 (r7.s) (c' := ⟨1, (r1.n : Int), (m2 : Int), (m3 : Int), (r4.n : Int), (r5.n : Int), r7.s, 0, (r6.n : Int)⟩) rfl).rr).mono ?_); rintro e w8 ⟨r8, hs8, rfl, hR8, hf8⟩; replace hC := (hC.set 6 (r7.s) (c' := ⟨1, (r1.n : Int), (m2 : Int), (m3 : Int), (r4.n : Int), (r5.n : Int), r7.s, 0, (r6.n : Int)⟩) rfl).call hR8 hf8; clear x0 x1 x2 x3 x4 x5 x6 x7 x8 xf; obtain ⟨x0, x1, x2, x3, x4, x5, x6, x7, x8⟩ := cells9 hC.cmd; have xf := hC.cmd.free; obtain ⟨y0, y1, y2, y3, y4, y5, y6, y7, y8⟩ := cells9 hC.res; have yf := hC.res.free))
  have eL : rdL (fmtC 1) (1 :: t) 0 = ([⟨1, 0, [], 1, 0⟩, r1, r2, r3, r4, r5, r6, r7, r8], ((((((((t.drop r1.size).drop r2.size).drop r3.size).drop r4.size).drop r5.size).drop r6.size).drop r7.size).drop r8.size), r8.f) := by
    rw [fmt1]
    refine (rdL_cons h0.out).trans ?_
    show (Res.mk 1 0 [] 1 0 :: (rdL [(1, 1), (3, 0), (3, 0), (1, 1), (1, 1), (1, 1), (2, 0), (2, 0)] t 0).1, (rdL [(1, 1), (3, 0), (3, 0), (1, 1), (1, 1), (1, 1), (2, 0), (2, 0)] t 0).2) = _
    rw [rdL_cons hs1.out, rdL_cons hs2.out, rdL_cons hs3.out, rdL_cons hs4.out, rdL_cons hs5.out, rdL_cons hs6.out, rdL_cons hs7.out, rdL_cons hs8.out]
    rfl
  have ev : cv (ofR [⟨1, 0, [], 1, 0⟩, r1, r2, r3, r4, r5, r6, r7, r8]) = cv ⟨1, (r1.n : Int), (m2 : Int), (m3 : Int), (r4.n : Int), (r5.n : Int), r7.s, r8.s, (r6.n : Int)⟩ := by
    show cv ⟨1, (r1.n : Int), min (r2.n : Int) 4611686018427387905, min (r3.n : Int) 1073741825, (r4.n : Int), (r5.n : Int), r7.s, r8.s, (r6.n : Int)⟩ = _
    rw [hm2.out, hm3.out]
  refine bodyPost_ret (v := cv (ofR [⟨1, 0, [], 1, 0⟩, r1, r2, r3, r4, r5, r6, r7, r8])) ?_ rfl ⟨by rw [eL], ?_⟩
  · rw [ev]
    simp [results, Try.results24, go_sem, y0, y1, y2, y3, y4, y5, y6, y7, y8]
  · rw [eL]
    exact ((hC.set 7 (r8.s) (c' := ⟨1, (r1.n : Int), (m2 : Int), (m3 : Int), (r4.n : Int), (r5.n : Int), r7.s, r8.s, (r6.n : Int)⟩) rfl)).done _ _ _ _ _ _ _ _ _
set_option maxRecDepth 4000 in
set_option maxHeartbeats 1000000 in
theorem read_cancel (g : Nat) (t : List Nat) (W : World) (hR : Rr W g (2 :: t) 0) :
    Calls Try.prog 24 #[.pointer (some ⟨g, 0, none⟩)] W fun e w' => e = .returned (cv (ofR (rdL (fmtC 2) (2 :: t) 0).1)) ∧ Rr w' g (rdL (fmtC 2) (2 :: t) 0).2.1 (rdL (fmtC 2) (2 :: t) 0).2.2 ∧ Frm (fun b => b = g) W w' := by
  have hC0 := Rc.start hR
  obtain ⟨b, hb⟩ : ∃ b, Hid (b = W.heap.size) := ⟨_, Lib.hid rfl⟩
  have h0 := step_first 2 t
  have cK := fun w (h : Rr w g (2 :: t) 0) => ruint_any g 0 (2 :: t) 1 w h
  rw [h0] at cK
  replace cK : ∀ w (_ : Rr w g (2 :: t) 0), Calls Try.prog 35 #[.pointer (some ⟨g, 0, none⟩), .int .i64 1] w fun e w' => e = .returned (.int .u64 2) ∧ Rr w' g t 0 ∧ Frm (fun b => b = g) w w' := cK
  replace h0 := Lib.hid h0
  go_enter Try.func24, Try.ntmps24
  go_wp2_with (first
    | (go_at_call 35; (with_reducible refine (cK _ hC0.rr).mono ?_); rintro e w0 ⟨rfl, hR0, hf0⟩; have hC := hC0.call hR0 hf0; clear hC0; obtain ⟨x0, x1, x2, x3, x4, x5, x6, x7, x8⟩ := cells9 hC.cmd; have xf := hC.cmd.free; clear cK)
    | (go_at_call 35; (with_reducible refine (rbyte_any _ _ _ _ (hC.set 0 (2) (c' := ⟨2, 0, 0, 0, 0, 0, 0, 0, 0⟩) rfl).rr).mono ?_); rintro e w1 ⟨r1, hs1, rfl, hl1, hR1, hf1⟩; replace hC := (hC.set 0 (2) (c' := ⟨2, 0, 0, 0, 0, 0, 0, 0, 0⟩) rfl).call hR1 hf1; clear x0 x1 x2 x3 x4 x5 x6 x7 x8 xf; obtain ⟨x0, x1, x2, x3, x4, x5, x6, x7, x8⟩ := cells9 hC.cmd; have xf := hC.cmd.free)
    | (go_at_call 36; (with_reducible refine (rgroups_any 4611686018427387905 2 Try.underlying2 (by decide) (by decide) _ _ _ _ (hC.set 1 ((r1.n : Int)) (c' := ⟨2, (r1.n : Int), 0, 0, 0, 0, 0, 0, 0⟩) rfl).rr).mono ?_); rintro e w2 ⟨r2, m2, hs2, rfl, ⟨hl2, hv2, hm2⟩, hR2, hf2⟩; replace hC := (hC.set 1 ((r1.n : Int)) (c' := ⟨2, (r1.n : Int), 0, 0, 0, 0, 0, 0, 0⟩) rfl).call hR2 hf2; clear x0 x1 x2 x3 x4 x5 x6 x7 x8 xf; obtain ⟨x0, x1, x2, x3, x4, x5, x6, x7, x8⟩ := cells9 hC.cmd; have xf := hC.cmd.free; obtain ⟨y0, y1, y2, y3, y4, y5, y6, y7, y8⟩ := cells9 hC.res; have yf := hC.res.free))
  have eL : rdL (fmtC 2) (2 :: t) 0 = ([⟨2, 0, [], 1, 0⟩, r1, r2], ((t.drop r1.size).drop r2.size), r2.f) := by
    rw [fmt2]
    refine (rdL_cons h0.out).trans ?_
    show (Res.mk 2 0 [] 1 0 :: (rdL [(1, 1), (3, 0)] t 0).1, (rdL [(1, 1), (3, 0)] t 0).2) = _
    rw [rdL_cons hs1.out, rdL_cons hs2.out]
    rfl
  have ev : cv (ofR [⟨2, 0, [], 1, 0⟩, r1, r2]) = cv ⟨2, (r1.n : Int), (m2 : Int), 0, 0, 0, 0, 0, 0⟩ := by
    show cv ⟨2, (r1.n : Int), min (r2.n : Int) 4611686018427387905, 0, 0, 0, 0, 0, 0⟩ = _
    rw [hm2.out]
  refine bodyPost_ret (v := cv (ofR [⟨2, 0, [], 1, 0⟩, r1, r2])) ?_ rfl ⟨by rw [eL], ?_⟩
  · rw [ev]
    simp [results, Try.results24, go_sem, y0, y1, y2, y3, y4, y5, y6, y7, y8]
  · rw [eL]
    exact ((hC.set 2 ((m2 : Int)) (c' := ⟨2, (r1.n : Int), (m2 : Int), 0, 0, 0, 0, 0, 0⟩) rfl)).done _ _ _ _ _ _ _ _ _
set_option maxRecDepth 4000 in
set_option maxHeartbeats 1000000 in
theorem read_replace (g : Nat) (t : List Nat) (W : World) (hR : Rr W g (3 :: t) 0) :
    Calls Try.prog 24 #[.pointer (some ⟨g, 0, none⟩)] W fun e w' => e = .returned (cv (ofR (rdL (fmtC 3) (3 :: t) 0).1)) ∧ Rr w' g (rdL (fmtC 3) (3 :: t) 0).2.1 (rdL (fmtC 3) (3 :: t) 0).2.2 ∧ Frm (fun b => b = g) W w' := by
  have hC0 := Rc.start hR
  obtain ⟨b, hb⟩ : ∃ b, Hid (b = W.heap.size) := ⟨_, Lib.hid rfl⟩
  have h0 := step_first 3 t
  have cK := fun w (h : Rr w g (3 :: t) 0) => ruint_any g 0 (3 :: t) 1 w h
  rw [h0] at cK
  replace cK : ∀ w (_ : Rr w g (3 :: t) 0), Calls Try.prog 35 #[.pointer (some ⟨g, 0, none⟩), .int .i64 1] w fun e w' => e = .returned (.int .u64 3) ∧ Rr w' g t 0 ∧ Frm (fun b => b = g) w w' := cK
  replace h0 := Lib.hid h0
  go_enter Try.func24, Try.ntmps24
  go_wp2_with (first
    | (go_at_call 35; (with_reducible refine (cK _ hC0.rr).mono ?_); rintro e w0 ⟨rfl, hR0, hf0⟩; have hC := hC0.call hR0 hf0; clear hC0; obtain ⟨x0, x1, x2, x3, x4, x5, x6, x7, x8⟩ := cells9 hC.cmd; have xf := hC.cmd.free; clear cK)
    | (go_at_call 35; (with_reducible refine (rbyte_any _ _ _ _ (hC.set 0 (3) (c' := ⟨3, 0, 0, 0, 0, 0, 0, 0, 0⟩) rfl).rr).mono ?_); rintro e w1 ⟨r1, hs1, rfl, hl1, hR1, hf1⟩; replace hC := (hC.set 0 (3) (c' := ⟨3, 0, 0, 0, 0, 0, 0, 0, 0⟩) rfl).call hR1 hf1; clear x0 x1 x2 x3 x4 x5 x6 x7 x8 xf; obtain ⟨x0, x1, x2, x3, x4, x5, x6, x7, x8⟩ := cells9 hC.cmd; have xf := hC.cmd.free)
    | (go_at_call 36; (with_reducible refine (rgroups_any 4611686018427387905 2 Try.underlying2 (by decide) (by decide) _ _ _ _ (hC.set 1 ((r1.n : Int)) (c' := ⟨3, (r1.n : Int), 0, 0, 0, 0, 0, 0, 0⟩) rfl).rr).mono ?_); rintro e w2 ⟨r2, m2, hs2, rfl, ⟨hl2, hv2, hm2⟩, hR2, hf2⟩; replace hC := (hC.set 1 ((r1.n : Int)) (c' := ⟨3, (r1.n : Int), 0, 0, 0, 0, 0, 0, 0⟩) rfl).call hR2 hf2; clear x0 x1 x2 x3 x4 x5 x6 x7 x8 xf; obtain ⟨x0, x1, x2, x3, x4, x5, x6, x7, x8⟩ := cells9 hC.cmd; have xf := hC.cmd.free)
    | (go_at_call 37; (with_reducible refine (rsigned_any _ _ _ _ (hC.set 2 ((m2 : Int)) (c' := ⟨3, (r1.n : Int), (m2 : Int), 0, 0, 0, 0, 0, 0⟩) rfl).rr).mono ?_); rintro e w3 ⟨r3, hs3, rfl, hR3, hf3⟩; replace hC := (hC.set 2 ((m2 : Int)) (c' := ⟨3, (r1.n : Int), (m2 : Int), 0, 0, 0, 0, 0, 0⟩) rfl).call hR3 hf3; clear x0 x1 x2 x3 x4 x5 x6 x7 x8 xf; obtain ⟨x0, x1, x2, x3, x4, x5, x6, x7, x8⟩ := cells9 hC.cmd; have xf := hC.cmd.free)
    | (go_at_call 37; (with_reducible refine (rsigned_any _ _ _ _ (hC.set 6 (r3.s) (c' := ⟨3, (r1.n : Int), (m2 : Int), 0, 0, 0, r3.s, 0, 0⟩) rfl).rr).mono ?_); rintro e w4 ⟨r4, hs4, rfl, hR4, hf4⟩; replace hC := (hC.set 6 (r3.s) (c' := ⟨3, (r1.n : Int), (m2 : Int), 0, 0, 0, r3.s, 0, 0⟩) rfl).call hR4 hf4; clear x0 x1 x2 x3 x4 x5 x6 x7 x8 xf; obtain ⟨x0, x1, x2, x3, x4, x5, x6, x7, x8⟩ := cells9 hC.cmd; have xf := hC.cmd.free; obtain ⟨y0, y1, y2, y3, y4, y5, y6, y7, y8⟩ := cells9 hC.res; have yf := hC.res.free))
  have eL : rdL (fmtC 3) (3 :: t) 0 = ([⟨3, 0, [], 1, 0⟩, r1, r2, r3, r4], ((((t.drop r1.size).drop r2.size).drop r3.size).drop r4.size), r4.f) := by
    rw [fmt3]
    refine (rdL_cons h0.out).trans ?_
    show (Res.mk 3 0 [] 1 0 :: (rdL [(1, 1), (3, 0), (2, 0), (2, 0)] t 0).1, (rdL [(1, 1), (3, 0), (2, 0), (2, 0)] t 0).2) = _
    rw [rdL_cons hs1.out, rdL_cons hs2.out, rdL_cons hs3.out, rdL_cons hs4.out]
    rfl
  have ev : cv (ofR [⟨3, 0, [], 1, 0⟩, r1, r2, r3, r4]) = cv ⟨3, (r1.n : Int), (m2 : Int), 0, 0, 0, r3.s, r4.s, 0⟩ := by
    show cv ⟨3, (r1.n : Int), min (r2.n : Int) 4611686018427387905, 0, 0, 0, r3.s, r4.s, 0⟩ = _
    rw [hm2.out]
  refine bodyPost_ret (v := cv (ofR [⟨3, 0, [], 1, 0⟩, r1, r2, r3, r4])) ?_ rfl ⟨by rw [eL], ?_⟩
  · rw [ev]
    simp [results, Try.results24, go_sem, y0, y1, y2, y3, y4, y5, y6, y7, y8]
  · rw [eL]
    exact ((hC.set 7 (r4.s) (c' := ⟨3, (r1.n : Int), (m2 : Int), 0, 0, 0, r3.s, r4.s, 0⟩) rfl)).done _ _ _ _ _ _ _ _ _
end Go.Proofs.Ytjleebfdbkfgmaa
