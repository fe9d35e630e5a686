/-
  The contract of the document's Decode, for each kind.
-/
import Derived.Test.YtjleebfdbkfgmaaCmdP
namespace Go.Proofs.Ytjleebfdbkfgmaa
open Go.RowKit
theorem Rq.cells {w : World} {g f : Nat} {xs : List Nat} (h : Rq w g xs f) : ∃ ao cap, w.cell? ⟨g, 0, none⟩ = some (.slice ao xs.length cap) ∧ w.cell? ⟨g, 1, none⟩ = some (.int .i64 (f : Int)) := by
  obtain ⟨k, ao, cap, hb, _, _⟩ := h
  exact ⟨ao, cap, hb.cell_eq 0 _ rfl, hb.cell_eq 1 _ rfl⟩
/-- What bytes come to, where all that was read is known. -/
theorem dec_ways {K : Nat} {b : List Nat} {rs : List Res} {ys : List Nat} {f : Nat} {c : Cmd} {kF kB kR : Bool} (eL : rdL (fmtC K) b 0 = (rs, ys, f)) (hF : ((f : Int) != 0) = kF) (hB : kB = false → ofR rs = c) (hB2 : kB = true → rightB (ofR rs) = false)
    (hR : rightB c = kR) :
    (kF = true → decK K b = (Cmd.zero, f)) ∧ (kF = false → (kB = true ∨ 0 < ys.length ∨ kR = false) → decK K b = (Cmd.zero, 4)) ∧ (kF = false → kB = false → ¬ 0 < ys.length → kR = true → decK K b = (c, 0)) := by
  unfold decK
  rw [eL]
  simp only
  refine ⟨fun h => ?_, fun h hw => ?_, fun h h1 h2 h3 => ?_⟩
  · rw [if_pos (by rw [h] at hF; simpa using hF)]
  · rw [if_neg (by rw [h] at hF; simpa using hF), if_neg]
    rintro ⟨r1, r2⟩
    rcases hw with hw | hw | hw
    · rw [hB2 hw] at r1; cases r1
    · rw [r2] at hw; simp at hw
    · cases kB with
      | true => rw [hB2 rfl] at r1; cases r1
      | false => rw [hB rfl, hR, hw] at r1; cases r1
  · rw [if_neg (by rw [h] at hF; simpa using hF), if_pos, hB h1]
    refine ⟨by rw [hB h1, hR, h3], ?_⟩
    cases ys with
    | nil => rfl
    | cons y ys => exact absurd (by simp) h2
set_option maxRecDepth 8000 in
set_option maxHeartbeats 2000000 in
theorem rdecode_new (k cap : Nat) (ao : Option Addr) (t : List Nat) (W : World) (hB : Bt W k ao cap (1 :: t)) :
    Calls Try.prog 14 #[.slice ao (1 :: t).length cap] W fun e w' => e = .returned (.tuple #[cv (decK 1 (1 :: t)).1, .int .i64 ((decK 1 (1 :: t)).2 : Int)]) ∧ Below W.heap.size W w' := by
  obtain ⟨R1, s1⟩ : ∃ r, Hid (stepR 1 1 t 0 = r) := ⟨_, Lib.hid rfl⟩
  obtain ⟨X2, x2⟩ : ∃ X, Hid (t.drop R1.size = X) := ⟨_, Lib.hid rfl⟩
  obtain ⟨R2, s2⟩ : ∃ r, Hid (stepR 3 0 X2 R1.f = r) := ⟨_, Lib.hid rfl⟩
  obtain ⟨X3, x3⟩ : ∃ X, Hid (X2.drop R2.size = X) := ⟨_, Lib.hid rfl⟩
  obtain ⟨R3, s3⟩ : ∃ r, Hid (stepR 3 0 X3 R2.f = r) := ⟨_, Lib.hid rfl⟩
  obtain ⟨X4, x4⟩ : ∃ X, Hid (X3.drop R3.size = X) := ⟨_, Lib.hid rfl⟩
  obtain ⟨R4, s4⟩ : ∃ r, Hid (stepR 1 1 X4 R3.f = r) := ⟨_, Lib.hid rfl⟩
  obtain ⟨X5, x5⟩ : ∃ X, Hid (X4.drop R4.size = X) := ⟨_, Lib.hid rfl⟩
  obtain ⟨R5, s5⟩ : ∃ r, Hid (stepR 1 1 X5 R4.f = r) := ⟨_, Lib.hid rfl⟩
  obtain ⟨X6, x6⟩ : ∃ X, Hid (X5.drop R5.size = X) := ⟨_, Lib.hid rfl⟩
  obtain ⟨R6, s6⟩ : ∃ r, Hid (stepR 1 1 X6 R5.f = r) := ⟨_, Lib.hid rfl⟩
  obtain ⟨X7, x7⟩ : ∃ X, Hid (X6.drop R6.size = X) := ⟨_, Lib.hid rfl⟩
  obtain ⟨R7, s7⟩ : ∃ r, Hid (stepR 2 0 X7 R6.f = r) := ⟨_, Lib.hid rfl⟩
  obtain ⟨X8, x8⟩ : ∃ X, Hid (X7.drop R7.size = X) := ⟨_, Lib.hid rfl⟩
  obtain ⟨R8, s8⟩ : ∃ r, Hid (stepR 2 0 X8 R7.f = r) := ⟨_, Lib.hid rfl⟩
  obtain ⟨X9, x9⟩ : ∃ X, Hid (X8.drop R8.size = X) := ⟨_, Lib.hid rfl⟩
  have h0 := step_first 1 t
  have eL : rdL (fmtC (1 : Nat)) (1 :: t) 0 = ([⟨1, 0, [], 1, 0⟩, R1, R2, R3, R4, R5, R6, R7, R8], X9, R8.f) := by
    show rdL (fmtC 1) (1 :: t) 0 = _
    rw [fmt1]
    refine (rdL_cons h0).trans ?_
    show (Res.mk 1 0 [] 1 0 :: (rdL [(1, 1), (3, 0), (3, 0), (1, 1), (1, 1), (1, 1), (2, 0), (2, 0)] t 0).1, (rdL [(1, 1), (3, 0), (3, 0), (1, 1), (1, 1), (1, 1), (2, 0), (2, 0)] t 0).2) = _
    rw [rdL_cons s1.out, x2.out, rdL_cons s2.out, x3.out, rdL_cons s3.out, x4.out, rdL_cons s4.out, x5.out, rdL_cons s5.out, x6.out, rdL_cons s6.out, x7.out, rdL_cons s7.out, x8.out, rdL_cons s8.out, x9.out]
    rfl
  obtain ⟨k2, hk2, v2⟩ := atmost_of R2.n 4611686018427387904 2 Try.underlying2 (by decide)
  obtain ⟨k3, hk3, v3⟩ := atmost_of R3.n 1073741824 3 Try.underlying3 (by decide)
  obtain ⟨kF, hF⟩ : ∃ k, ((R8.f : Int) != 0) = k := ⟨_, rfl⟩
  obtain ⟨kR, hR⟩ : ∃ k, rightB ⟨1, (R1.n : Int), (R2.n : Int), (R3.n : Int), (R4.n : Int), (R5.n : Int), R7.s, R8.s, (R6.n : Int)⟩ = k := ⟨_, rfl⟩
  have hw := dec_ways (c := ⟨1, (R1.n : Int), (R2.n : Int), (R3.n : Int), (R4.n : Int), (R5.n : Int), R7.s, R8.s, (R6.n : Int)⟩) (kB := (k2 || k3)) (kR := kR) eL hF (fun h => by
      simp only [Bool.or_eq_false_iff] at h
      rw [h.1] at hk2
      rw [h.2] at hk3
      have a2 : (R2.n : Int) ≤ 4611686018427387904 := by simpa using hk2
      have a3 : (R3.n : Int) ≤ 1073741824 := by simpa using hk3
      show (⟨1, (R1.n : Int), min (R2.n : Int) 4611686018427387905, min (R3.n : Int) 1073741825, (R4.n : Int), (R5.n : Int), R7.s, R8.s, (R6.n : Int)⟩ : Cmd) = _
      rw [Int.min_eq_left (by omega), Int.min_eq_left (by omega)])
    (fun h => by
      show rightB ⟨1, (R1.n : Int), min (R2.n : Int) 4611686018427387905, min (R3.n : Int) 1073741825, (R4.n : Int), (R5.n : Int), R7.s, R8.s, (R6.n : Int)⟩ = false
      apply Bool.eq_false_iff.2
      intro hr
      have hr := (right_iff _).1 hr
      have b2 := hr.id.2
      have b3 := (hr.new rfl).1.2
      simp only at b2 b3
      simp only [Bool.or_eq_true] at h
      rcases h with h | h
      · rw [h] at hk2
        have : 4611686018427387904 < (R2.n : Int) := by simpa using hk2
        omega
      · rw [h] at hk3
        have : 1073741824 < (R3.n : Int) := by simpa using hk3
        omega) hR
  have hF2 : ((R8.f : Int) == 0) = !kF := by rw [← hF]; simp [bne]
  have cG : ∀ w, Calls Try.prog 11 #[cv ⟨1, (R1.n : Int), (R2.n : Int), (R3.n : Int), (R4.n : Int), (R5.n : Int), R7.s, R8.s, (R6.n : Int)⟩] w fun e w' => e = .returned (.bool kR) ∧ Below w.heap.size w w' := fun w => (refRight_any _ w).mono fun e w' h => ⟨h.1.trans (by rw [hR]), h.2⟩
  generalize decK 1 (1 :: t) = D at hw ⊢
  obtain ⟨D1, D2, D3⟩ := hw
  have Ea : Hid (kF = false → k2 = true → D = (Cmd.zero, 4)) := Lib.hid fun h h2 => D2 h (.inl (by rw [h2]; rfl))
  have Eb : Hid (kF = false → k3 = true → D = (Cmd.zero, 4)) := Lib.hid fun h h2 => D2 h (.inl (by rw [h2]; simp))
  have Ec : Hid (kF = false → 0 < X9.length → D = (Cmd.zero, 4)) := Lib.hid fun h h2 => D2 h (.inr (.inl h2))
  have Ed : Hid (kF = false → (!kR) = true → D = (Cmd.zero, 4)) := Lib.hid fun h h2 => D2 h (.inr (.inr (by simpa using h2)))
  have Ee : Hid (kF = false → ¬ k2 = true → ¬ k3 = true → ¬ 0 < X9.length → (!kR) = false → D = (⟨1, (R1.n : Int), (R2.n : Int), (R3.n : Int), (R4.n : Int), (R5.n : Int), R7.s, R8.s, (R6.n : Int)⟩, 0)) := Lib.hid fun h h2 h3 h4 h5 => D3 h (by rw [Bool.eq_false_iff.2 h2, Bool.eq_false_iff.2 h3]; rfl) h4 (by simpa using h5)
  replace D1 := Lib.hid D1
  clear D2 D3 eL hR
  have cK : ∀ w g, Rq w g (1 :: t) 0 → Calls Try.prog 27 #[.pointer (some ⟨g, 0, none⟩)] w fun e w' => e = .returned (.int .i64 1) ∧ Rq w' g t 0 ∧ Frm (fun b => b = g) w w' := fun w g h => (one_any g 0 _ w h).mono fun e w' h' => by
    obtain ⟨r, hr, he, _, hq, hf⟩ := h'
    obtain rfl : Res.mk 1 0 [] 1 0 = r := h0.symm.trans hr.out
    exact ⟨he, hq, hf⟩
  clear h0
  have c1 : ∀ w g, Rq w g t 0 → Calls Try.prog 27 #[.pointer (some ⟨g, 0, none⟩)] w fun e w' => e = .returned (.int .i64 (R1.n : Int)) ∧ Rq w' g X2 R1.f ∧ Frm (fun b => b = g) w w' := fun w g h => (one_any g _ _ w h).mono fun e w' h' => by
    obtain ⟨r, hr, he, _, hq, hf⟩ := h'
    obtain rfl : R1 = r := s1.out.symm.trans hr.out
    exact ⟨he, by rw [← x2.out]; exact hq, hf⟩
  have c2 : ∀ w g, Rq w g X2 R1.f → Calls Try.prog 28 #[.pointer (some ⟨g, 0, none⟩)] w fun e w' => e = .returned (.int .u64 (R2.n : Int)) ∧ Rq w' g X3 R2.f ∧ Frm (fun b => b = g) w w' := fun w g h => (num_any5 g _ _ w h).mono fun e w' h' => by
    obtain ⟨r, hr, he, hq, hf⟩ := h'
    obtain rfl : R2 = r := s2.out.symm.trans hr.out
    exact ⟨he, by rw [← x3.out]; exact hq, hf⟩
  have c3 : ∀ w g, Rq w g X3 R2.f → Calls Try.prog 28 #[.pointer (some ⟨g, 0, none⟩)] w fun e w' => e = .returned (.int .u64 (R3.n : Int)) ∧ Rq w' g X4 R3.f ∧ Frm (fun b => b = g) w w' := fun w g h => (num_any5 g _ _ w h).mono fun e w' h' => by
    obtain ⟨r, hr, he, hq, hf⟩ := h'
    obtain rfl : R3 = r := s3.out.symm.trans hr.out
    exact ⟨he, by rw [← x4.out]; exact hq, hf⟩
  have c4 : ∀ w g, Rq w g X4 R3.f → Calls Try.prog 27 #[.pointer (some ⟨g, 0, none⟩)] w fun e w' => e = .returned (.int .i64 (R4.n : Int)) ∧ Rq w' g X5 R4.f ∧ Frm (fun b => b = g) w w' := fun w g h => (one_any g _ _ w h).mono fun e w' h' => by
    obtain ⟨r, hr, he, _, hq, hf⟩ := h'
    obtain rfl : R4 = r := s4.out.symm.trans hr.out
    exact ⟨he, by rw [← x5.out]; exact hq, hf⟩
  have c5 : ∀ w g, Rq w g X5 R4.f → Calls Try.prog 27 #[.pointer (some ⟨g, 0, none⟩)] w fun e w' => e = .returned (.int .i64 (R5.n : Int)) ∧ Rq w' g X6 R5.f ∧ Frm (fun b => b = g) w w' := fun w g h => (one_any g _ _ w h).mono fun e w' h' => by
    obtain ⟨r, hr, he, _, hq, hf⟩ := h'
    obtain rfl : R5 = r := s5.out.symm.trans hr.out
    exact ⟨he, by rw [← x6.out]; exact hq, hf⟩
  have c6 : ∀ w g, Rq w g X6 R5.f → Calls Try.prog 27 #[.pointer (some ⟨g, 0, none⟩)] w fun e w' => e = .returned (.int .i64 (R6.n : Int)) ∧ Rq w' g X7 R6.f ∧ Frm (fun b => b = g) w w' := fun w g h => (one_any g _ _ w h).mono fun e w' h' => by
    obtain ⟨r, hr, he, _, hq, hf⟩ := h'
    obtain rfl : R6 = r := s6.out.symm.trans hr.out
    exact ⟨he, by rw [← x7.out]; exact hq, hf⟩
  have c7 : ∀ w g, Rq w g X7 R6.f → Calls Try.prog 29 #[.pointer (some ⟨g, 0, none⟩)] w fun e w' => e = .returned (.int .i64 R7.s) ∧ Rq w' g X8 R7.f ∧ Frm (fun b => b = g) w w' := fun w g h => (signed_any g _ _ w h).mono fun e w' h' => by
    obtain ⟨r, hr, he, hq, hf⟩ := h'
    obtain rfl : R7 = r := s7.out.symm.trans hr.out
    exact ⟨he, by rw [← x8.out]; exact hq, hf⟩
  have c8 : ∀ w g, Rq w g X8 R7.f → Calls Try.prog 29 #[.pointer (some ⟨g, 0, none⟩)] w fun e w' => e = .returned (.int .i64 R8.s) ∧ Rq w' g X9 R8.f ∧ Frm (fun b => b = g) w w' := fun w g h => (signed_any g _ _ w h).mono fun e w' h' => by
    obtain ⟨r, hr, he, hq, hf⟩ := h'
    obtain rfl : R8 = r := s8.out.symm.trans hr.out
    exact ⟨he, by rw [← x9.out]; exact hq, hf⟩
  clear s1 x2 s2 x3 s3 x4 s4 x5 s5 x6 s6 x7 s7 x8 s8 x9
  have hB0 := hB.alloc (.cells #[.int .i64 0, .int .i64 0, .int .i64 0, .int .i64 0, .int .i64 0, .int .i64 0, .int .i64 0, .int .i64 0, .int .i64 0] 23)
  obtain ⟨off, rfl, hc⟩ := hB0.open (by simp)
  have z0 : (W.alloc (.cells #[.int .i64 0, .int .i64 0, .int .i64 0, .int .i64 0, .int .i64 0, .int .i64 0, .int .i64 0, .int .i64 0, .int .i64 0] 23)).cell? ⟨k, off, none⟩ = some (.int .u8 1) := hc 0 1 rfl
  have hP : ∀ l, l = (1 :: t).length → Rp0 W (W.heap.size + 1) W.heap.size ((W.alloc (.cells #[.int .i64 0, .int .i64 0, .int .i64 0, .int .i64 0, .int .i64 0, .int .i64 0, .int .i64 0, .int .i64 0, .int .i64 0] 23)).alloc (.cells #[.slice (some ⟨k, off, none⟩) l cap, .int .i64 0] 56)) (1 :: t) 0 := by
    rintro l rfl
    refine ⟨?_, (Blk.new _ _ _).alloc _, ((Below.refl _ _).alloc (Nat.le_refl _) _).alloc (by simp) _, by omega⟩
    obtain ⟨kk, h1, h2⟩ := (hB0.alloc (.cells #[.slice (some ⟨k, off, none⟩) (1 :: t).length cap, .int .i64 0] 56)).apart' (g := W.heap.size + 1) (fun i x e => by match i, e with | 0, e => simp at e | 1, e => simp at e | i + 2, e => simp at e) (Blk.new' (by simp))
    exact ⟨kk, _, _, Blk.new' (by simp), h1, h2⟩
  obtain ⟨m, hm⟩ : ∃ m, m = (1 :: t).length := ⟨_, rfl⟩
  have m0 : 0 < m := by rw [hm]; simp
  have mq : ((m : Int) == 0) = false := by simp; omega
  replace hP := hP m hm
  rw [← hm]
  clear hm hc hB hB0
  go_enter Try.func14, Try.ntmps14
  go_wp2_with (first
    | (go_at_call 27; (with_reducible refine (cK _ _ hP.rr).mono ?_); rintro e w0 ⟨rfl, hr0, hf0⟩; replace hP := hP.call hr0 hf0; clear cK hr0 hf0 z0)
    | (go_at_call 27; (with_reducible refine (c1 _ _ hP.rr).mono ?_); rintro e w1 ⟨rfl, hr1, hf1⟩; replace hP := hP.call hr1 hf1; have hlt : W.heap.size + 1 < w1.heap.size := hP.rr.lt; clear c1 hr1 hf1)
    | (go_at_call 28; (with_reducible refine (c2 _ _ (hP.lay ⟨1, (R1.n : Int), 0, 0, 0, 0, 0, 0, 0⟩).rr).mono ?_); rintro e w2 ⟨rfl, hr2, hf2⟩; have hQ := (hP.lay ⟨1, (R1.n : Int), 0, 0, 0, 0, 0, 0, 0⟩).call hr2 hf2; clear hP c2 hr2 hf2; obtain ⟨x0, x1, x2, x3, x4, x5, x6, x7, x8⟩ := cells9 hQ.cmd; have xf := hQ.cmd.free)
    | (go_at_call 28; (with_reducible refine (c3 _ _ hQ.rr).mono ?_); rintro e w3 ⟨rfl, hr3, hf3⟩; replace hQ := hQ.call hr3 hf3; clear c3 hr3 hf3; clear x0 x1 x2 x3 x4 x5 x6 x7 x8 xf; obtain ⟨x0, x1, x2, x3, x4, x5, x6, x7, x8⟩ := cells9 hQ.cmd; have xf := hQ.cmd.free)
    | (go_at_call 27; (with_reducible refine (c4 _ _ hQ.rr).mono ?_); rintro e w4 ⟨rfl, hr4, hf4⟩; replace hQ := hQ.call hr4 hf4; clear c4 hr4 hf4; clear x0 x1 x2 x3 x4 x5 x6 x7 x8 xf; obtain ⟨x0, x1, x2, x3, x4, x5, x6, x7, x8⟩ := cells9 hQ.cmd; have xf := hQ.cmd.free)
    | (go_at_call 27; (with_reducible refine (c5 _ _ (hQ.set 4 ((R4.n : Int)) (c' := ⟨1, (R1.n : Int), 0, 0, (R4.n : Int), 0, 0, 0, 0⟩) rfl).rr).mono ?_); rintro e w5 ⟨rfl, hr5, hf5⟩; replace hQ := (hQ.set 4 ((R4.n : Int)) (c' := ⟨1, (R1.n : Int), 0, 0, (R4.n : Int), 0, 0, 0, 0⟩) rfl).call hr5 hf5; clear c5 hr5 hf5; clear x0 x1 x2 x3 x4 x5 x6 x7 x8 xf; obtain ⟨x0, x1, x2, x3, x4, x5, x6, x7, x8⟩ := cells9 hQ.cmd; have xf := hQ.cmd.free)
    | (go_at_call 27; (with_reducible refine (c6 _ _ (hQ.set 5 ((R5.n : Int)) (c' := ⟨1, (R1.n : Int), 0, 0, (R4.n : Int), (R5.n : Int), 0, 0, 0⟩) rfl).rr).mono ?_); rintro e w6 ⟨rfl, hr6, hf6⟩; replace hQ := (hQ.set 5 ((R5.n : Int)) (c' := ⟨1, (R1.n : Int), 0, 0, (R4.n : Int), (R5.n : Int), 0, 0, 0⟩) rfl).call hr6 hf6; clear c6 hr6 hf6; clear x0 x1 x2 x3 x4 x5 x6 x7 x8 xf; obtain ⟨x0, x1, x2, x3, x4, x5, x6, x7, x8⟩ := cells9 hQ.cmd; have xf := hQ.cmd.free)
    | (go_at_call 29; (with_reducible refine (c7 _ _ (hQ.set 8 ((R6.n : Int)) (c' := ⟨1, (R1.n : Int), 0, 0, (R4.n : Int), (R5.n : Int), 0, 0, (R6.n : Int)⟩) rfl).rr).mono ?_); rintro e w7 ⟨rfl, hr7, hf7⟩; replace hQ := (hQ.set 8 ((R6.n : Int)) (c' := ⟨1, (R1.n : Int), 0, 0, (R4.n : Int), (R5.n : Int), 0, 0, (R6.n : Int)⟩) rfl).call hr7 hf7; clear c7 hr7 hf7; clear x0 x1 x2 x3 x4 x5 x6 x7 x8 xf; obtain ⟨x0, x1, x2, x3, x4, x5, x6, x7, x8⟩ := cells9 hQ.cmd; have xf := hQ.cmd.free)
    | (go_at_call 29; (with_reducible refine (c8 _ _ (hQ.set 6 (R7.s) (c' := ⟨1, (R1.n : Int), 0, 0, (R4.n : Int), (R5.n : Int), R7.s, 0, (R6.n : Int)⟩) rfl).rr).mono ?_); rintro e w8 ⟨rfl, hr8, hf8⟩; replace hQ := (hQ.set 6 (R7.s) (c' := ⟨1, (R1.n : Int), 0, 0, (R4.n : Int), (R5.n : Int), R7.s, 0, (R6.n : Int)⟩) rfl).call hr8 hf8; clear c8 hr8 hf8; clear x0 x1 x2 x3 x4 x5 x6 x7 x8 xf; obtain ⟨x0, x1, x2, x3, x4, x5, x6, x7, x8⟩ := cells9 hQ.cmd; have xf := hQ.cmd.free; obtain ⟨y0, y1, y2, y3, y4, y5, y6, y7, y8⟩ := cells9 hQ.res; have yf := hQ.res.free; obtain ⟨ga, gc, g0, g1⟩ := hQ.rr.cells)
    | (go_at_call 11; (with_reducible refine (cG _).mono ?_); rintro e w10 ⟨rfl, hb10⟩; have hZ := (((hQ.set 7 (R8.s) (c' := ⟨1, (R1.n : Int), 0, 0, (R4.n : Int), (R5.n : Int), R7.s, R8.s, (R6.n : Int)⟩) rfl).set 2 (R2.n : Int) (c' := ⟨1, (R1.n : Int), (R2.n : Int), 0, (R4.n : Int), (R5.n : Int), R7.s, R8.s, (R6.n : Int)⟩) rfl).set 3 ((R3.n : Int)) (c' := ⟨1, (R1.n : Int), (R2.n : Int), (R3.n : Int), (R4.n : Int), (R5.n : Int), R7.s, R8.s, (R6.n : Int)⟩) rfl).below hb10; clear hQ hb10 cG; clear x0 x1 x2 x3 x4 x5 x6 x7 x8 xf; clear y0 y1 y2 y3 y4 y5 y6 y7 y8 yf; clear g0 g1; have hQ := hZ; clear hZ; obtain ⟨x0, x1, x2, x3, x4, x5, x6, x7, x8⟩ := cells9 hQ.cmd; have xf := hQ.cmd.free; obtain ⟨y0, y1, y2, y3, y4, y5, y6, y7, y8⟩ := cells9 hQ.res; have yf := hQ.res.free))
  all_goals first
    | (have hD := Ea.out (by assumption) (by assumption)
       subst hD
       refine bodyPost_ret (v := .tuple #[cv Cmd.zero, .int .i64 4]) ?_ rfl ⟨rfl, ?_⟩
       · obtain ⟨z0, z1, z2, z3, z4, z5, z6, z7, z8⟩ := cells9 (nine_blk ((hQ.set 7 (R8.s) (c' := ⟨1, (R1.n : Int), 0, 0, (R4.n : Int), (R5.n : Int), R7.s, R8.s, (R6.n : Int)⟩) rfl)).res 0 0 0 0 0 0 0 0 0)
         simp [results, Try.results14, go_sem, z0, z1, z2, z3, z4, z5, z6, z7, z8, Cmd.zero]
       · exact nine_below ((hQ.set 7 (R8.s) (c' := ⟨1, (R1.n : Int), 0, 0, (R4.n : Int), (R5.n : Int), R7.s, R8.s, (R6.n : Int)⟩) rfl)).bel (Nat.le_refl _) (.int .i64 0) (.int .i64 0) (.int .i64 0) (.int .i64 0) (.int .i64 0) (.int .i64 0) (.int .i64 0) (.int .i64 0) (.int .i64 0))
    | (have hD := Eb.out (by assumption) (by assumption)
       subst hD
       refine bodyPost_ret (v := .tuple #[cv Cmd.zero, .int .i64 4]) ?_ rfl ⟨rfl, ?_⟩
       · obtain ⟨z0, z1, z2, z3, z4, z5, z6, z7, z8⟩ := cells9 (nine_blk ((hQ.set 7 (R8.s) (c' := ⟨1, (R1.n : Int), 0, 0, (R4.n : Int), (R5.n : Int), R7.s, R8.s, (R6.n : Int)⟩) rfl)).res 0 0 0 0 0 0 0 0 0)
         simp [results, Try.results14, go_sem, z0, z1, z2, z3, z4, z5, z6, z7, z8, Cmd.zero]
       · exact nine_below ((hQ.set 7 (R8.s) (c' := ⟨1, (R1.n : Int), 0, 0, (R4.n : Int), (R5.n : Int), R7.s, R8.s, (R6.n : Int)⟩) rfl)).bel (Nat.le_refl _) (.int .i64 0) (.int .i64 0) (.int .i64 0) (.int .i64 0) (.int .i64 0) (.int .i64 0) (.int .i64 0) (.int .i64 0) (.int .i64 0))
    | (have hD := Ec.out (by assumption) (by assumption)
       subst hD
       refine bodyPost_ret (v := .tuple #[cv Cmd.zero, .int .i64 4]) ?_ rfl ⟨rfl, ?_⟩
       · obtain ⟨z0, z1, z2, z3, z4, z5, z6, z7, z8⟩ := cells9 (nine_blk ((hQ.set 7 (R8.s) (c' := ⟨1, (R1.n : Int), 0, 0, (R4.n : Int), (R5.n : Int), R7.s, R8.s, (R6.n : Int)⟩) rfl)).res 0 0 0 0 0 0 0 0 0)
         simp [results, Try.results14, go_sem, z0, z1, z2, z3, z4, z5, z6, z7, z8, Cmd.zero]
       · exact nine_below ((hQ.set 7 (R8.s) (c' := ⟨1, (R1.n : Int), 0, 0, (R4.n : Int), (R5.n : Int), R7.s, R8.s, (R6.n : Int)⟩) rfl)).bel (Nat.le_refl _) (.int .i64 0) (.int .i64 0) (.int .i64 0) (.int .i64 0) (.int .i64 0) (.int .i64 0) (.int .i64 0) (.int .i64 0) (.int .i64 0))
    | (have hD := Ed.out (by assumption) (by assumption)
       subst hD
       refine bodyPost_ret (v := .tuple #[cv Cmd.zero, .int .i64 4]) ?_ rfl ⟨rfl, ?_⟩
       · obtain ⟨z0, z1, z2, z3, z4, z5, z6, z7, z8⟩ := cells9 (nine_blk hQ.res 0 0 0 0 0 0 0 0 0)
         simp [results, Try.results14, go_sem, z0, z1, z2, z3, z4, z5, z6, z7, z8, Cmd.zero]
       · exact nine_below hQ.bel (Nat.le_refl _) (.int .i64 0) (.int .i64 0) (.int .i64 0) (.int .i64 0) (.int .i64 0) (.int .i64 0) (.int .i64 0) (.int .i64 0) (.int .i64 0))
    | (have hD := Ee.out (by assumption) (by assumption) (by assumption) (by assumption) (by assumption)
       subst hD
       refine bodyPost_ret (v := .tuple #[cv ⟨1, (R1.n : Int), (R2.n : Int), (R3.n : Int), (R4.n : Int), (R5.n : Int), R7.s, R8.s, (R6.n : Int)⟩, .int .i64 0]) ?_ rfl ⟨rfl, ?_⟩
       · simp [results, Try.results14, go_sem, y0, y1, y2, y3, y4, y5, y6, y7, y8]
       · exact nine_below hQ.bel (Nat.le_refl _) _ _ _ _ _ _ _ _ _)
    | (have hD := D1.out (by assumption)
       subst hD
       go_region
       all_goals
         go_wp2
         refine bodyPost_ret (v := .tuple #[cv Cmd.zero, .int .i64 (R8.f : Int)]) ?_ rfl ⟨rfl, ?_⟩
         · obtain ⟨z0, z1, z2, z3, z4, z5, z6, z7, z8⟩ := cells9 (nine_blk ((hQ.set 7 (R8.s) (c' := ⟨1, (R1.n : Int), 0, 0, (R4.n : Int), (R5.n : Int), R7.s, R8.s, (R6.n : Int)⟩) rfl)).res 0 0 0 0 0 0 0 0 0).drew
           simp [results, Try.results14, go_sem, z0, z1, z2, z3, z4, z5, z6, z7, z8, Cmd.zero]
         · exact (nine_below ((hQ.set 7 (R8.s) (c' := ⟨1, (R1.n : Int), 0, 0, (R4.n : Int), (R5.n : Int), R7.s, R8.s, (R6.n : Int)⟩) rfl)).bel (Nat.le_refl _) (.int .i64 0) (.int .i64 0) (.int .i64 0) (.int .i64 0) (.int .i64 0) (.int .i64 0) (.int .i64 0) (.int .i64 0) (.int .i64 0)).drew)
set_option maxRecDepth 8000 in
set_option maxHeartbeats 2000000 in
theorem rdecode_cancel (k cap : Nat) (ao : Option Addr) (t : List Nat) (W : World) (hB : Bt W k ao cap (2 :: t)) :
    Calls Try.prog 14 #[.slice ao (2 :: t).length cap] W fun e w' => e = .returned (.tuple #[cv (decK 2 (2 :: t)).1, .int .i64 ((decK 2 (2 :: t)).2 : Int)]) ∧ Below W.heap.size W w' := by
  obtain ⟨R1, s1⟩ : ∃ r, Hid (stepR 1 1 t 0 = r) := ⟨_, Lib.hid rfl⟩
  obtain ⟨X2, x2⟩ : ∃ X, Hid (t.drop R1.size = X) := ⟨_, Lib.hid rfl⟩
  obtain ⟨R2, s2⟩ : ∃ r, Hid (stepR 3 0 X2 R1.f = r) := ⟨_, Lib.hid rfl⟩
  obtain ⟨X3, x3⟩ : ∃ X, Hid (X2.drop R2.size = X) := ⟨_, Lib.hid rfl⟩
  have h0 := step_first 2 t
  have eL : rdL (fmtC (2 : Nat)) (2 :: t) 0 = ([⟨2, 0, [], 1, 0⟩, R1, R2], X3, R2.f) := by
    show rdL (fmtC 2) (2 :: t) 0 = _
    rw [fmt2]
    refine (rdL_cons h0).trans ?_
    show (Res.mk 2 0 [] 1 0 :: (rdL [(1, 1), (3, 0)] t 0).1, (rdL [(1, 1), (3, 0)] t 0).2) = _
    rw [rdL_cons s1.out, x2.out, rdL_cons s2.out, x3.out]
    rfl
  obtain ⟨k2, hk2, v2⟩ := atmost_of R2.n 4611686018427387904 2 Try.underlying2 (by decide)
  obtain ⟨kF, hF⟩ : ∃ k, ((R2.f : Int) != 0) = k := ⟨_, rfl⟩
  obtain ⟨kR, hR⟩ : ∃ k, rightB ⟨2, (R1.n : Int), (R2.n : Int), 0, 0, 0, 0, 0, 0⟩ = k := ⟨_, rfl⟩
  have hw := dec_ways (c := ⟨2, (R1.n : Int), (R2.n : Int), 0, 0, 0, 0, 0, 0⟩) (kB := k2) (kR := kR) eL hF (fun h => by
      rw [h] at hk2
      have a2 : (R2.n : Int) ≤ 4611686018427387904 := by simpa using hk2
      show (⟨2, (R1.n : Int), min (R2.n : Int) 4611686018427387905, 0, 0, 0, 0, 0, 0⟩ : Cmd) = _
      rw [Int.min_eq_left (by omega)])
    (fun h => by
      show rightB ⟨2, (R1.n : Int), min (R2.n : Int) 4611686018427387905, 0, 0, 0, 0, 0, 0⟩ = false
      apply Bool.eq_false_iff.2
      intro hr
      have hr := (right_iff _).1 hr
      have b2 := hr.id.2
      simp only at b2
      rw [h] at hk2
      have : 4611686018427387904 < (R2.n : Int) := by simpa using hk2
      omega) hR
  have hF2 : ((R2.f : Int) == 0) = !kF := by rw [← hF]; simp [bne]
  have cG : ∀ w, Calls Try.prog 11 #[cv ⟨2, (R1.n : Int), (R2.n : Int), 0, 0, 0, 0, 0, 0⟩] w fun e w' => e = .returned (.bool kR) ∧ Below w.heap.size w w' := fun w => (refRight_any _ w).mono fun e w' h => ⟨h.1.trans (by rw [hR]), h.2⟩
  generalize decK 2 (2 :: t) = D at hw ⊢
  obtain ⟨D1, D2, D3⟩ := hw
  have Ea : Hid (kF = false → k2 = true → D = (Cmd.zero, 4)) := Lib.hid fun h h2 => D2 h (.inl h2)
  have Ec : Hid (kF = false → 0 < X3.length → D = (Cmd.zero, 4)) := Lib.hid fun h h2 => D2 h (.inr (.inl h2))
  have Ed : Hid (kF = false → (!kR) = true → D = (Cmd.zero, 4)) := Lib.hid fun h h2 => D2 h (.inr (.inr (by simpa using h2)))
  have Ee : Hid (kF = false → ¬ k2 = true → ¬ 0 < X3.length → (!kR) = false → D = (⟨2, (R1.n : Int), (R2.n : Int), 0, 0, 0, 0, 0, 0⟩, 0)) := Lib.hid fun h h2 h4 h5 => D3 h (Bool.eq_false_iff.2 h2) h4 (by simpa using h5)
  replace D1 := Lib.hid D1
  clear D2 D3 eL hR
  have cK : ∀ w g, Rq w g (2 :: t) 0 → Calls Try.prog 27 #[.pointer (some ⟨g, 0, none⟩)] w fun e w' => e = .returned (.int .i64 2) ∧ Rq w' g t 0 ∧ Frm (fun b => b = g) w w' := fun w g h => (one_any g 0 _ w h).mono fun e w' h' => by
    obtain ⟨r, hr, he, _, hq, hf⟩ := h'
    obtain rfl : Res.mk 2 0 [] 1 0 = r := h0.symm.trans hr.out
    exact ⟨he, hq, hf⟩
  clear h0
  have c1 : ∀ w g, Rq w g t 0 → Calls Try.prog 27 #[.pointer (some ⟨g, 0, none⟩)] w fun e w' => e = .returned (.int .i64 (R1.n : Int)) ∧ Rq w' g X2 R1.f ∧ Frm (fun b => b = g) w w' := fun w g h => (one_any g _ _ w h).mono fun e w' h' => by
    obtain ⟨r, hr, he, _, hq, hf⟩ := h'
    obtain rfl : R1 = r := s1.out.symm.trans hr.out
    exact ⟨he, by rw [← x2.out]; exact hq, hf⟩
  have c2 : ∀ w g, Rq w g X2 R1.f → Calls Try.prog 28 #[.pointer (some ⟨g, 0, none⟩)] w fun e w' => e = .returned (.int .u64 (R2.n : Int)) ∧ Rq w' g X3 R2.f ∧ Frm (fun b => b = g) w w' := fun w g h => (num_any5 g _ _ w h).mono fun e w' h' => by
    obtain ⟨r, hr, he, hq, hf⟩ := h'
    obtain rfl : R2 = r := s2.out.symm.trans hr.out
    exact ⟨he, by rw [← x3.out]; exact hq, hf⟩
  clear s1 x2 s2 x3
  have hB0 := hB.alloc (.cells #[.int .i64 0, .int .i64 0, .int .i64 0, .int .i64 0, .int .i64 0, .int .i64 0, .int .i64 0, .int .i64 0, .int .i64 0] 23)
  obtain ⟨off, rfl, hc⟩ := hB0.open (by simp)
  have z0 : (W.alloc (.cells #[.int .i64 0, .int .i64 0, .int .i64 0, .int .i64 0, .int .i64 0, .int .i64 0, .int .i64 0, .int .i64 0, .int .i64 0] 23)).cell? ⟨k, off, none⟩ = some (.int .u8 2) := hc 0 2 rfl
  have hP : ∀ l, l = (2 :: t).length → Rp0 W (W.heap.size + 1) W.heap.size ((W.alloc (.cells #[.int .i64 0, .int .i64 0, .int .i64 0, .int .i64 0, .int .i64 0, .int .i64 0, .int .i64 0, .int .i64 0, .int .i64 0] 23)).alloc (.cells #[.slice (some ⟨k, off, none⟩) l cap, .int .i64 0] 56)) (2 :: t) 0 := by
    rintro l rfl
    refine ⟨?_, (Blk.new _ _ _).alloc _, ((Below.refl _ _).alloc (Nat.le_refl _) _).alloc (by simp) _, by omega⟩
    obtain ⟨kk, h1, h2⟩ := (hB0.alloc (.cells #[.slice (some ⟨k, off, none⟩) (2 :: t).length cap, .int .i64 0] 56)).apart' (g := W.heap.size + 1) (fun i x e => by match i, e with | 0, e => simp at e | 1, e => simp at e | i + 2, e => simp at e) (Blk.new' (by simp))
    exact ⟨kk, _, _, Blk.new' (by simp), h1, h2⟩
  obtain ⟨m, hm⟩ : ∃ m, m = (2 :: t).length := ⟨_, rfl⟩
  have m0 : 0 < m := by rw [hm]; simp
  have mq : ((m : Int) == 0) = false := by simp; omega
  replace hP := hP m hm
  rw [← hm]
  clear hm hc hB hB0
  go_enter Try.func14, Try.ntmps14
  go_wp2_with (first
    | (go_at_call 27; (with_reducible refine (cK _ _ hP.rr).mono ?_); rintro e w0 ⟨rfl, hr0, hf0⟩; replace hP := hP.call hr0 hf0; clear cK hr0 hf0 z0)
    | (go_at_call 27; (with_reducible refine (c1 _ _ hP.rr).mono ?_); rintro e w1 ⟨rfl, hr1, hf1⟩; replace hP := hP.call hr1 hf1; have hlt : W.heap.size + 1 < w1.heap.size := hP.rr.lt; clear c1 hr1 hf1)
    | (go_at_call 28; (with_reducible refine (c2 _ _ (hP.lay ⟨2, (R1.n : Int), 0, 0, 0, 0, 0, 0, 0⟩).rr).mono ?_); rintro e w2 ⟨rfl, hr2, hf2⟩; have hQ := (hP.lay ⟨2, (R1.n : Int), 0, 0, 0, 0, 0, 0, 0⟩).call hr2 hf2; clear hP c2 hr2 hf2; obtain ⟨x0, x1, x2, x3, x4, x5, x6, x7, x8⟩ := cells9 hQ.cmd; have xf := hQ.cmd.free; obtain ⟨y0, y1, y2, y3, y4, y5, y6, y7, y8⟩ := cells9 hQ.res; have yf := hQ.res.free; obtain ⟨ga, gc, g0, g1⟩ := hQ.rr.cells)
    | (go_at_call 11; (with_reducible refine (cG _).mono ?_); rintro e w10 ⟨rfl, hb10⟩; have hZ := ((hQ.set 2 (R2.n : Int) (c' := ⟨2, (R1.n : Int), (R2.n : Int), 0, 0, 0, 0, 0, 0⟩) rfl).set 3 (0) (c' := ⟨2, (R1.n : Int), (R2.n : Int), 0, 0, 0, 0, 0, 0⟩) rfl).below hb10; clear hQ hb10 cG; clear x0 x1 x2 x3 x4 x5 x6 x7 x8 xf; clear y0 y1 y2 y3 y4 y5 y6 y7 y8 yf; clear g0 g1; have hQ := hZ; clear hZ; obtain ⟨x0, x1, x2, x3, x4, x5, x6, x7, x8⟩ := cells9 hQ.cmd; have xf := hQ.cmd.free; obtain ⟨y0, y1, y2, y3, y4, y5, y6, y7, y8⟩ := cells9 hQ.res; have yf := hQ.res.free))
  all_goals first
    | (have hD := Ea.out (by assumption) (by assumption)
       subst hD
       refine bodyPost_ret (v := .tuple #[cv Cmd.zero, .int .i64 4]) ?_ rfl ⟨rfl, ?_⟩
       · obtain ⟨z0, z1, z2, z3, z4, z5, z6, z7, z8⟩ := cells9 (nine_blk (hQ).res 0 0 0 0 0 0 0 0 0)
         simp [results, Try.results14, go_sem, z0, z1, z2, z3, z4, z5, z6, z7, z8, Cmd.zero]
       · exact nine_below (hQ).bel (Nat.le_refl _) (.int .i64 0) (.int .i64 0) (.int .i64 0) (.int .i64 0) (.int .i64 0) (.int .i64 0) (.int .i64 0) (.int .i64 0) (.int .i64 0))
    | (have hD := Ec.out (by assumption) (by assumption)
       subst hD
       refine bodyPost_ret (v := .tuple #[cv Cmd.zero, .int .i64 4]) ?_ rfl ⟨rfl, ?_⟩
       · obtain ⟨z0, z1, z2, z3, z4, z5, z6, z7, z8⟩ := cells9 (nine_blk (hQ).res 0 0 0 0 0 0 0 0 0)
         simp [results, Try.results14, go_sem, z0, z1, z2, z3, z4, z5, z6, z7, z8, Cmd.zero]
       · exact nine_below (hQ).bel (Nat.le_refl _) (.int .i64 0) (.int .i64 0) (.int .i64 0) (.int .i64 0) (.int .i64 0) (.int .i64 0) (.int .i64 0) (.int .i64 0) (.int .i64 0))
    | (have hD := Ed.out (by assumption) (by assumption)
       subst hD
       refine bodyPost_ret (v := .tuple #[cv Cmd.zero, .int .i64 4]) ?_ rfl ⟨rfl, ?_⟩
       · obtain ⟨z0, z1, z2, z3, z4, z5, z6, z7, z8⟩ := cells9 (nine_blk hQ.res 0 0 0 0 0 0 0 0 0)
         simp [results, Try.results14, go_sem, z0, z1, z2, z3, z4, z5, z6, z7, z8, Cmd.zero]
       · exact nine_below hQ.bel (Nat.le_refl _) (.int .i64 0) (.int .i64 0) (.int .i64 0) (.int .i64 0) (.int .i64 0) (.int .i64 0) (.int .i64 0) (.int .i64 0) (.int .i64 0))
    | (have hD := Ee.out (by assumption) (by assumption) (by assumption) (by assumption)
       subst hD
       refine bodyPost_ret (v := .tuple #[cv ⟨2, (R1.n : Int), (R2.n : Int), 0, 0, 0, 0, 0, 0⟩, .int .i64 0]) ?_ rfl ⟨rfl, ?_⟩
       · simp [results, Try.results14, go_sem, y0, y1, y2, y3, y4, y5, y6, y7, y8]
       · exact nine_below hQ.bel (Nat.le_refl _) _ _ _ _ _ _ _ _ _)
    | (have hD := D1.out (by assumption)
       subst hD
       go_region
       all_goals
         go_wp2
         refine bodyPost_ret (v := .tuple #[cv Cmd.zero, .int .i64 (R2.f : Int)]) ?_ rfl ⟨rfl, ?_⟩
         · obtain ⟨z0, z1, z2, z3, z4, z5, z6, z7, z8⟩ := cells9 (nine_blk (hQ).res 0 0 0 0 0 0 0 0 0).drew
           simp [results, Try.results14, go_sem, z0, z1, z2, z3, z4, z5, z6, z7, z8, Cmd.zero]
         · exact (nine_below (hQ).bel (Nat.le_refl _) (.int .i64 0) (.int .i64 0) (.int .i64 0) (.int .i64 0) (.int .i64 0) (.int .i64 0) (.int .i64 0) (.int .i64 0) (.int .i64 0)).drew)
set_option maxRecDepth 8000 in
set_option maxHeartbeats 2000000 in
theorem rdecode_replace (k cap : Nat) (ao : Option Addr) (t : List Nat) (W : World) (hB : Bt W k ao cap (3 :: t)) :
    Calls Try.prog 14 #[.slice ao (3 :: t).length cap] W fun e w' => e = .returned (.tuple #[cv (decK 3 (3 :: t)).1, .int .i64 ((decK 3 (3 :: t)).2 : Int)]) ∧ Below W.heap.size W w' := by
  obtain ⟨R1, s1⟩ : ∃ r, Hid (stepR 1 1 t 0 = r) := ⟨_, Lib.hid rfl⟩
  obtain ⟨X2, x2⟩ : ∃ X, Hid (t.drop R1.size = X) := ⟨_, Lib.hid rfl⟩
  obtain ⟨R2, s2⟩ : ∃ r, Hid (stepR 3 0 X2 R1.f = r) := ⟨_, Lib.hid rfl⟩
  obtain ⟨X3, x3⟩ : ∃ X, Hid (X2.drop R2.size = X) := ⟨_, Lib.hid rfl⟩
  obtain ⟨R3, s3⟩ : ∃ r, Hid (stepR 2 0 X3 R2.f = r) := ⟨_, Lib.hid rfl⟩
  obtain ⟨X4, x4⟩ : ∃ X, Hid (X3.drop R3.size = X) := ⟨_, Lib.hid rfl⟩
  obtain ⟨R4, s4⟩ : ∃ r, Hid (stepR 2 0 X4 R3.f = r) := ⟨_, Lib.hid rfl⟩
  obtain ⟨X5, x5⟩ : ∃ X, Hid (X4.drop R4.size = X) := ⟨_, Lib.hid rfl⟩
  have h0 := step_first 3 t
  have eL : rdL (fmtC (3 : Nat)) (3 :: t) 0 = ([⟨3, 0, [], 1, 0⟩, R1, R2, R3, R4], X5, R4.f) := by
    show rdL (fmtC 3) (3 :: t) 0 = _
    rw [fmt3]
    refine (rdL_cons h0).trans ?_
    show (Res.mk 3 0 [] 1 0 :: (rdL [(1, 1), (3, 0), (2, 0), (2, 0)] t 0).1, (rdL [(1, 1), (3, 0), (2, 0), (2, 0)] t 0).2) = _
    rw [rdL_cons s1.out, x2.out, rdL_cons s2.out, x3.out, rdL_cons s3.out, x4.out, rdL_cons s4.out, x5.out]
    rfl
  obtain ⟨k2, hk2, v2⟩ := atmost_of R2.n 4611686018427387904 2 Try.underlying2 (by decide)
  obtain ⟨kF, hF⟩ : ∃ k, ((R4.f : Int) != 0) = k := ⟨_, rfl⟩
  obtain ⟨kR, hR⟩ : ∃ k, rightB ⟨3, (R1.n : Int), (R2.n : Int), 0, 0, 0, R3.s, R4.s, 0⟩ = k := ⟨_, rfl⟩
  have hw := dec_ways (c := ⟨3, (R1.n : Int), (R2.n : Int), 0, 0, 0, R3.s, R4.s, 0⟩) (kB := k2) (kR := kR) eL hF (fun h => by
      rw [h] at hk2
      have a2 : (R2.n : Int) ≤ 4611686018427387904 := by simpa using hk2
      show (⟨3, (R1.n : Int), min (R2.n : Int) 4611686018427387905, 0, 0, 0, R3.s, R4.s, 0⟩ : Cmd) = _
      rw [Int.min_eq_left (by omega)])
    (fun h => by
      show rightB ⟨3, (R1.n : Int), min (R2.n : Int) 4611686018427387905, 0, 0, 0, R3.s, R4.s, 0⟩ = false
      apply Bool.eq_false_iff.2
      intro hr
      have hr := (right_iff _).1 hr
      have b2 := hr.id.2
      simp only at b2
      rw [h] at hk2
      have : 4611686018427387904 < (R2.n : Int) := by simpa using hk2
      omega) hR
  have hF2 : ((R4.f : Int) == 0) = !kF := by rw [← hF]; simp [bne]
  have cG : ∀ w, Calls Try.prog 11 #[cv ⟨3, (R1.n : Int), (R2.n : Int), 0, 0, 0, R3.s, R4.s, 0⟩] w fun e w' => e = .returned (.bool kR) ∧ Below w.heap.size w w' := fun w => (refRight_any _ w).mono fun e w' h => ⟨h.1.trans (by rw [hR]), h.2⟩
  generalize decK 3 (3 :: t) = D at hw ⊢
  obtain ⟨D1, D2, D3⟩ := hw
  have Ea : Hid (kF = false → k2 = true → D = (Cmd.zero, 4)) := Lib.hid fun h h2 => D2 h (.inl h2)
  have Ec : Hid (kF = false → 0 < X5.length → D = (Cmd.zero, 4)) := Lib.hid fun h h2 => D2 h (.inr (.inl h2))
  have Ed : Hid (kF = false → (!kR) = true → D = (Cmd.zero, 4)) := Lib.hid fun h h2 => D2 h (.inr (.inr (by simpa using h2)))
  have Ee : Hid (kF = false → ¬ k2 = true → ¬ 0 < X5.length → (!kR) = false → D = (⟨3, (R1.n : Int), (R2.n : Int), 0, 0, 0, R3.s, R4.s, 0⟩, 0)) := Lib.hid fun h h2 h4 h5 => D3 h (Bool.eq_false_iff.2 h2) h4 (by simpa using h5)
  replace D1 := Lib.hid D1
  clear D2 D3 eL hR
  have cK : ∀ w g, Rq w g (3 :: t) 0 → Calls Try.prog 27 #[.pointer (some ⟨g, 0, none⟩)] w fun e w' => e = .returned (.int .i64 3) ∧ Rq w' g t 0 ∧ Frm (fun b => b = g) w w' := fun w g h => (one_any g 0 _ w h).mono fun e w' h' => by
    obtain ⟨r, hr, he, _, hq, hf⟩ := h'
    obtain rfl : Res.mk 3 0 [] 1 0 = r := h0.symm.trans hr.out
    exact ⟨he, hq, hf⟩
  clear h0
  have c1 : ∀ w g, Rq w g t 0 → Calls Try.prog 27 #[.pointer (some ⟨g, 0, none⟩)] w fun e w' => e = .returned (.int .i64 (R1.n : Int)) ∧ Rq w' g X2 R1.f ∧ Frm (fun b => b = g) w w' := fun w g h => (one_any g _ _ w h).mono fun e w' h' => by
    obtain ⟨r, hr, he, _, hq, hf⟩ := h'
    obtain rfl : R1 = r := s1.out.symm.trans hr.out
    exact ⟨he, by rw [← x2.out]; exact hq, hf⟩
  have c2 : ∀ w g, Rq w g X2 R1.f → Calls Try.prog 28 #[.pointer (some ⟨g, 0, none⟩)] w fun e w' => e = .returned (.int .u64 (R2.n : Int)) ∧ Rq w' g X3 R2.f ∧ Frm (fun b => b = g) w w' := fun w g h => (num_any5 g _ _ w h).mono fun e w' h' => by
    obtain ⟨r, hr, he, hq, hf⟩ := h'
    obtain rfl : R2 = r := s2.out.symm.trans hr.out
    exact ⟨he, by rw [← x3.out]; exact hq, hf⟩
  have c3 : ∀ w g, Rq w g X3 R2.f → Calls Try.prog 29 #[.pointer (some ⟨g, 0, none⟩)] w fun e w' => e = .returned (.int .i64 R3.s) ∧ Rq w' g X4 R3.f ∧ Frm (fun b => b = g) w w' := fun w g h => (signed_any g _ _ w h).mono fun e w' h' => by
    obtain ⟨r, hr, he, hq, hf⟩ := h'
    obtain rfl : R3 = r := s3.out.symm.trans hr.out
    exact ⟨he, by rw [← x4.out]; exact hq, hf⟩
  have c4 : ∀ w g, Rq w g X4 R3.f → Calls Try.prog 29 #[.pointer (some ⟨g, 0, none⟩)] w fun e w' => e = .returned (.int .i64 R4.s) ∧ Rq w' g X5 R4.f ∧ Frm (fun b => b = g) w w' := fun w g h => (signed_any g _ _ w h).mono fun e w' h' => by
    obtain ⟨r, hr, he, hq, hf⟩ := h'
    obtain rfl : R4 = r := s4.out.symm.trans hr.out
    exact ⟨he, by rw [← x5.out]; exact hq, hf⟩
  clear s1 x2 s2 x3 s3 x4 s4 x5
  have hB0 := hB.alloc (.cells #[.int .i64 0, .int .i64 0, .int .i64 0, .int .i64 0, .int .i64 0, .int .i64 0, .int .i64 0, .int .i64 0, .int .i64 0] 23)
  obtain ⟨off, rfl, hc⟩ := hB0.open (by simp)
  have z0 : (W.alloc (.cells #[.int .i64 0, .int .i64 0, .int .i64 0, .int .i64 0, .int .i64 0, .int .i64 0, .int .i64 0, .int .i64 0, .int .i64 0] 23)).cell? ⟨k, off, none⟩ = some (.int .u8 3) := hc 0 3 rfl
  have hP : ∀ l, l = (3 :: t).length → Rp0 W (W.heap.size + 1) W.heap.size ((W.alloc (.cells #[.int .i64 0, .int .i64 0, .int .i64 0, .int .i64 0, .int .i64 0, .int .i64 0, .int .i64 0, .int .i64 0, .int .i64 0] 23)).alloc (.cells #[.slice (some ⟨k, off, none⟩) l cap, .int .i64 0] 56)) (3 :: t) 0 := by
    rintro l rfl
    refine ⟨?_, (Blk.new _ _ _).alloc _, ((Below.refl _ _).alloc (Nat.le_refl _) _).alloc (by simp) _, by omega⟩
    obtain ⟨kk, h1, h2⟩ := (hB0.alloc (.cells #[.slice (some ⟨k, off, none⟩) (3 :: t).length cap, .int .i64 0] 56)).apart' (g := W.heap.size + 1) (fun i x e => by match i, e with | 0, e => simp at e | 1, e => simp at e | i + 2, e => simp at e) (Blk.new' (by simp))
    exact ⟨kk, _, _, Blk.new' (by simp), h1, h2⟩
  obtain ⟨m, hm⟩ : ∃ m, m = (3 :: t).length := ⟨_, rfl⟩
  have m0 : 0 < m := by rw [hm]; simp
  have mq : ((m : Int) == 0) = false := by simp; omega
  replace hP := hP m hm
  rw [← hm]
  clear hm hc hB hB0
  go_enter Try.func14, Try.ntmps14
  go_wp2_with (first
    | (go_at_call 27; (with_reducible refine (cK _ _ hP.rr).mono ?_); rintro e w0 ⟨rfl, hr0, hf0⟩; replace hP := hP.call hr0 hf0; clear cK hr0 hf0 z0)
    | (go_at_call 27; (with_reducible refine (c1 _ _ hP.rr).mono ?_); rintro e w1 ⟨rfl, hr1, hf1⟩; replace hP := hP.call hr1 hf1; have hlt : W.heap.size + 1 < w1.heap.size := hP.rr.lt; clear c1 hr1 hf1)
    | (go_at_call 28; (with_reducible refine (c2 _ _ (hP.lay ⟨3, (R1.n : Int), 0, 0, 0, 0, 0, 0, 0⟩).rr).mono ?_); rintro e w2 ⟨rfl, hr2, hf2⟩; have hQ := (hP.lay ⟨3, (R1.n : Int), 0, 0, 0, 0, 0, 0, 0⟩).call hr2 hf2; clear hP c2 hr2 hf2; obtain ⟨x0, x1, x2, x3, x4, x5, x6, x7, x8⟩ := cells9 hQ.cmd; have xf := hQ.cmd.free)
    | (go_at_call 29; (with_reducible refine (c3 _ _ hQ.rr).mono ?_); rintro e w3 ⟨rfl, hr3, hf3⟩; replace hQ := hQ.call hr3 hf3; clear c3 hr3 hf3; clear x0 x1 x2 x3 x4 x5 x6 x7 x8 xf; obtain ⟨x0, x1, x2, x3, x4, x5, x6, x7, x8⟩ := cells9 hQ.cmd; have xf := hQ.cmd.free)
    | (go_at_call 29; (with_reducible refine (c4 _ _ (hQ.set 6 (R3.s) (c' := ⟨3, (R1.n : Int), 0, 0, 0, 0, R3.s, 0, 0⟩) rfl).rr).mono ?_); rintro e w4 ⟨rfl, hr4, hf4⟩; replace hQ := (hQ.set 6 (R3.s) (c' := ⟨3, (R1.n : Int), 0, 0, 0, 0, R3.s, 0, 0⟩) rfl).call hr4 hf4; clear c4 hr4 hf4; clear x0 x1 x2 x3 x4 x5 x6 x7 x8 xf; obtain ⟨x0, x1, x2, x3, x4, x5, x6, x7, x8⟩ := cells9 hQ.cmd; have xf := hQ.cmd.free; obtain ⟨y0, y1, y2, y3, y4, y5, y6, y7, y8⟩ := cells9 hQ.res; have yf := hQ.res.free; obtain ⟨ga, gc, g0, g1⟩ := hQ.rr.cells)
    | (go_at_call 11; (with_reducible refine (cG _).mono ?_); rintro e w10 ⟨rfl, hb10⟩; have hZ := (((hQ.set 7 (R4.s) (c' := ⟨3, (R1.n : Int), 0, 0, 0, 0, R3.s, R4.s, 0⟩) rfl).set 2 (R2.n : Int) (c' := ⟨3, (R1.n : Int), (R2.n : Int), 0, 0, 0, R3.s, R4.s, 0⟩) rfl).set 3 (0) (c' := ⟨3, (R1.n : Int), (R2.n : Int), 0, 0, 0, R3.s, R4.s, 0⟩) rfl).below hb10; clear hQ hb10 cG; clear x0 x1 x2 x3 x4 x5 x6 x7 x8 xf; clear y0 y1 y2 y3 y4 y5 y6 y7 y8 yf; clear g0 g1; have hQ := hZ; clear hZ; obtain ⟨x0, x1, x2, x3, x4, x5, x6, x7, x8⟩ := cells9 hQ.cmd; have xf := hQ.cmd.free; obtain ⟨y0, y1, y2, y3, y4, y5, y6, y7, y8⟩ := cells9 hQ.res; have yf := hQ.res.free))
  all_goals first
    | (have hD := Ea.out (by assumption) (by assumption)
       subst hD
       refine bodyPost_ret (v := .tuple #[cv Cmd.zero, .int .i64 4]) ?_ rfl ⟨rfl, ?_⟩
       · obtain ⟨z0, z1, z2, z3, z4, z5, z6, z7, z8⟩ := cells9 (nine_blk ((hQ.set 7 (R4.s) (c' := ⟨3, (R1.n : Int), 0, 0, 0, 0, R3.s, R4.s, 0⟩) rfl)).res 0 0 0 0 0 0 0 0 0)
         simp [results, Try.results14, go_sem, z0, z1, z2, z3, z4, z5, z6, z7, z8, Cmd.zero]
       · exact nine_below ((hQ.set 7 (R4.s) (c' := ⟨3, (R1.n : Int), 0, 0, 0, 0, R3.s, R4.s, 0⟩) rfl)).bel (Nat.le_refl _) (.int .i64 0) (.int .i64 0) (.int .i64 0) (.int .i64 0) (.int .i64 0) (.int .i64 0) (.int .i64 0) (.int .i64 0) (.int .i64 0))
    | (have hD := Ec.out (by assumption) (by assumption)
       subst hD
       refine bodyPost_ret (v := .tuple #[cv Cmd.zero, .int .i64 4]) ?_ rfl ⟨rfl, ?_⟩
       · obtain ⟨z0, z1, z2, z3, z4, z5, z6, z7, z8⟩ := cells9 (nine_blk ((hQ.set 7 (R4.s) (c' := ⟨3, (R1.n : Int), 0, 0, 0, 0, R3.s, R4.s, 0⟩) rfl)).res 0 0 0 0 0 0 0 0 0)
         simp [results, Try.results14, go_sem, z0, z1, z2, z3, z4, z5, z6, z7, z8, Cmd.zero]
       · exact nine_below ((hQ.set 7 (R4.s) (c' := ⟨3, (R1.n : Int), 0, 0, 0, 0, R3.s, R4.s, 0⟩) rfl)).bel (Nat.le_refl _) (.int .i64 0) (.int .i64 0) (.int .i64 0) (.int .i64 0) (.int .i64 0) (.int .i64 0) (.int .i64 0) (.int .i64 0) (.int .i64 0))
    | (have hD := Ed.out (by assumption) (by assumption)
       subst hD
       refine bodyPost_ret (v := .tuple #[cv Cmd.zero, .int .i64 4]) ?_ rfl ⟨rfl, ?_⟩
       · obtain ⟨z0, z1, z2, z3, z4, z5, z6, z7, z8⟩ := cells9 (nine_blk hQ.res 0 0 0 0 0 0 0 0 0)
         simp [results, Try.results14, go_sem, z0, z1, z2, z3, z4, z5, z6, z7, z8, Cmd.zero]
       · exact nine_below hQ.bel (Nat.le_refl _) (.int .i64 0) (.int .i64 0) (.int .i64 0) (.int .i64 0) (.int .i64 0) (.int .i64 0) (.int .i64 0) (.int .i64 0) (.int .i64 0))
    | (have hD := Ee.out (by assumption) (by assumption) (by assumption) (by assumption)
       subst hD
       refine bodyPost_ret (v := .tuple #[cv ⟨3, (R1.n : Int), (R2.n : Int), 0, 0, 0, R3.s, R4.s, 0⟩, .int .i64 0]) ?_ rfl ⟨rfl, ?_⟩
       · simp [results, Try.results14, go_sem, y0, y1, y2, y3, y4, y5, y6, y7, y8]
       · exact nine_below hQ.bel (Nat.le_refl _) _ _ _ _ _ _ _ _ _)
    | (have hD := D1.out (by assumption)
       subst hD
       go_region
       all_goals
         go_wp2
         refine bodyPost_ret (v := .tuple #[cv Cmd.zero, .int .i64 (R4.f : Int)]) ?_ rfl ⟨rfl, ?_⟩
         · obtain ⟨z0, z1, z2, z3, z4, z5, z6, z7, z8⟩ := cells9 (nine_blk ((hQ.set 7 (R4.s) (c' := ⟨3, (R1.n : Int), 0, 0, 0, 0, R3.s, R4.s, 0⟩) rfl)).res 0 0 0 0 0 0 0 0 0).drew
           simp [results, Try.results14, go_sem, z0, z1, z2, z3, z4, z5, z6, z7, z8, Cmd.zero]
         · exact (nine_below ((hQ.set 7 (R4.s) (c' := ⟨3, (R1.n : Int), 0, 0, 0, 0, R3.s, R4.s, 0⟩) rfl)).bel (Nat.le_refl _) (.int .i64 0) (.int .i64 0) (.int .i64 0) (.int .i64 0) (.int .i64 0) (.int .i64 0) (.int .i64 0) (.int .i64 0) (.int .i64 0)).drew)
end Go.Proofs.Ytjleebfdbkfgmaa
