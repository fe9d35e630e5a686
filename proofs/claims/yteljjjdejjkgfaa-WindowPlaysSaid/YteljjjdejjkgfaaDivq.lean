/-
  The contract of wide's Div: the quotient and what is left, for every number and every divisor; zeros and false for 0.
-/
import Derived.Test.YteljjjdejjkgfaaWideq
import Derived.BigGuardPart
import Derived.WalkMore
import Derived.Test.YteljjjdejjkgfaaMemq
namespace Go.Proofs.Yteljjjdejjkgfaa
open Go.RowKit Go.Shelf




/-- What the loop of Div keeps: 'b' is the number of the first block that the call makes. -/
structure DivMem (b : Nat) (r q : Int) (w wr : World) : Prop where
  r0 : wr.cell? ⟨b, 0, none⟩ = some (.int .u64 (hi r))
  r1 : wr.cell? ⟨b, 1, none⟩ = some (.int .u64 (lo r))
  s0 : ∃ v, wr.cell? ⟨b + 1, 0, none⟩ = some v
  s1 : ∃ v, wr.cell? ⟨b + 1, 1, none⟩ = some v
  s2 : wr.frozen? ⟨b + 1, 0, none⟩ = false
  s3 : wr.frozen? ⟨b + 1, 1, none⟩ = false
  q0 : wr.cell? ⟨b + 1 + 1, 0, none⟩ = some (.int .u64 (hi q))
  q1 : wr.cell? ⟨b + 1 + 1, 1, none⟩ = some (.int .u64 (lo q))
  q2 : wr.frozen? ⟨b + 1 + 1, 0, none⟩ = false
  q3 : wr.frozen? ⟨b + 1 + 1, 1, none⟩ = false
  size : b + 1 + 1 < wr.heap.size
  below : Below b w wr

theorem DivMem.step {b : Nat} {r q : Int} {w wr w2 : World} (h : DivMem b r q w wr) (hb : Below wr.heap.size wr w2) : DivMem b r q w w2 := by
  obtain ⟨c, f⟩ := bcell hb
  have hz := h.size
  exact ⟨(c _ _ (by omega)).trans h.r0, (c _ _ (by omega)).trans h.r1, by rw [c _ _ (by omega)]; exact h.s0, by rw [c _ _ (by omega)]; exact h.s1, (f _ _ (by omega)).trans h.s2, (f _ _ (by omega)).trans h.s3,
    (c _ _ (by omega)).trans h.q0, (c _ _ (by omega)).trans h.q1, (f _ _ (by omega)).trans h.q2, (f _ _ (by omega)).trans h.q3, by have := hb.size; omega, h.below.trans (hb.mono (by omega))⟩

theorem DivMem.q {b : Nat} {r q q' : Int} {w wr : World} (h : DivMem b r q w wr) (e : q = q') : DivMem b r q' w wr := e ▸ h
theorem field_lo (a b : Int) (w : World) : (Instr.field 53 (.agg #[.int .u64 a, .int .u64 b]) 1).run Try.prog w = .ok (.int .u64 b) w := by kernel_rfl

theorem ne_block {a b o p : Nat} (h : a ≠ b) : (⟨a, o, none⟩ : Addr) ≠ ⟨b, p, none⟩ := fun e => h (by injection e)
theorem ne_off {a o p : Nat} (h : o ≠ p) : (⟨a, o, none⟩ : Addr) ≠ ⟨a, p, none⟩ := fun e => h (by injection e)
/-- One word of the quotient is stored. -/
theorem DivMem.set {b : Nat} {r q : Int} {w wr : World} (h : DivMem b r q w wr) (x : Int) (i : Nat) (hx : (i = 0 ∧ lo x = lo q) ∨ (i = 1 ∧ hi x = hi q)) :
    DivMem b r x w (wr.setCell ⟨b + 1 + 1, i, none⟩ (.int .u64 (if i = 0 then hi x else lo x))) := by
  have oth : ∀ k o v, k ≠ b + 1 + 1 → wr.cell? ⟨k, o, none⟩ = some v → (wr.setCell ⟨b + 1 + 1, i, none⟩ (.int .u64 (if i = 0 then hi x else lo x))).cell? ⟨k, o, none⟩ = some v := fun k o v hk hv =>
    (World.cell?_setCell_other _ _ _ _ (ne_block (fun e => hk e.symm))).trans hv
  obtain ⟨r0, r1, ⟨v0, s0⟩, ⟨v1, s1⟩, s2, s3, q0, q1, q2, q3, hz, hbl⟩ := h
  refine ⟨oth _ _ _ (by omega) r0, oth _ _ _ (by omega) r1, ⟨v0, oth _ _ _ (by omega) s0⟩, ⟨v1, oth _ _ _ (by omega) s1⟩, by rw [World.frozen?_setCell]; exact s2, by rw [World.frozen?_setCell]; exact s3, ?_, ?_,
    by rw [World.frozen?_setCell]; exact q2, by rw [World.frozen?_setCell]; exact q3, by simpa [World.setCell] using hz, hbl.setCell (by show b ≤ b + 1 + 1; omega) _⟩
  · rcases hx with ⟨rfl, -⟩ | ⟨rfl, hh⟩
    · exact World.cell?_setCell_same _ _ _ q0
    · rw [World.cell?_setCell_other _ _ _ _ (ne_off (by decide)), hh]; exact q0
  · rcases hx with ⟨rfl, hh⟩ | ⟨rfl, -⟩
    · rw [World.cell?_setCell_other _ _ _ _ (ne_off (by decide)), hh]; exact q1
    · exact World.cell?_setCell_same _ _ _ q1
theorem DivMem.store {b : Nat} {r q x : Int} {w wr : World} (h : DivMem b r q w wr) (_hx : Two x) : DivMem b r x w ((wr.setCell ⟨b + 1 + 1, 0, none⟩ (.int .u64 (hi x))).setCell ⟨b + 1 + 1, 1, none⟩ (.int .u64 (lo x))) := by
  have e1 : hi (hi x * 18446744073709551616 + lo q) = hi x := by unfold hi lo; omega
  have e2 : lo (hi x * 18446744073709551616 + lo q) = lo q := by unfold hi lo; omega
  have h1 := h.set (hi x * 18446744073709551616 + lo q) 0 (Or.inl ⟨rfl, e2⟩)
  rw [if_pos rfl, e1] at h1
  exact h1.set x 1 (Or.inr ⟨rfl, e1.symm⟩)
theorem DivMem.odd {b : Nat} {r q : Int} {w wr : World} (h : DivMem b r (2 * q) w wr) : DivMem b r (2 * q + 1) w (wr.setCell ⟨b + 1 + 1, 1, none⟩ (.int .u64 (lo (2 * q + 1)))) :=
  h.set (2 * q + 1) 1 (Or.inr ⟨rfl, (hi_odd q).1⟩)

theorem DivMem.start {r q : Int} {w w1 : World} (t : TypeId) (hq : q = 0)
    (hb : Below (((w.alloc (.cells #[.int .u64 (hi r), .int .u64 (lo r)] t)).alloc (.cells #[.int .u64 0, .int .u64 0] t)).alloc (.cells #[.int .u64 0, .int .u64 0] t)).heap.size
      (((w.alloc (.cells #[.int .u64 (hi r), .int .u64 (lo r)] t)).alloc (.cells #[.int .u64 0, .int .u64 0] t)).alloc (.cells #[.int .u64 0, .int .u64 0] t)) w1) : DivMem w.heap.size r q w w1 := by
  subst hq
  have hs := hb.size
  have hb' := (((Below.refl w.heap.size w).alloc (Nat.le_refl _) (.cells #[.int .u64 (hi r), .int .u64 (lo r)] t)).alloc (by simp) (.cells #[.int .u64 0, .int .u64 0] t)).alloc (by simp; omega) (.cells #[.int .u64 0, .int .u64 0] t)
  obtain ⟨c, f⟩ := bcell hb
  simp only [World.size_alloc] at c f hs
  refine ⟨?_, ?_, ⟨.int .u64 0, ?_⟩, ⟨.int .u64 0, ?_⟩, ?_, ?_, ?_, ?_, ?_, ?_, by omega, hb'.trans (hb.mono (by simp; omega))⟩
  all_goals first
    | (rw [c _ _ (by omega)]; simp [go_sem, hi, lo])
    | (rw [f _ _ (by omega)]; simp [go_sem])

set_option maxRecDepth 100000 in
set_option maxHeartbeats 1000000 in
theorem div_pos (r d : Int) (h : Two r) (hd : 0 < d) (hd2 : d < 18446744073709551616) (w : World) :
    Calls Try.prog 33 #[.agg #[.int .u64 (hi r), .int .u64 (lo r)], .int .u64 d] w fun e w' =>
      e = .returned (.tuple #[.agg #[.int .u64 (hi (r / d)), .int .u64 (lo (r / d))], .int .u64 (r % d), .bool true]) ∧ Below w.heap.size w w' := by
  have e0 : (d == 0) = false := by simp; omega
  obtain ⟨L, hL1, hL2, hL3, -, -⟩ := len2_spec r h
  have H3 := Lib.hid hL3
  clear hL3
  go_enter Try.func33, Try.ntmps33
  go_wp2
  go_step3
  go_wp2
  go_step3
  go_wp2_with (go_at_call 46; refine (len_any r h _).mono ?_; rw [hL1]; rintro e w1 ⟨rfl, hb⟩)
  go_loopw [8, 9] (fun s8 s9 wr => ∃ k : Nat, s8 = .int .u64 (r / 2 ^ k % d) ∧ s9 = .int .i64 ((k : Int) - 1) ∧ k ≤ 128 ∧ DivMem w.heap.size r (r / 2 ^ k / d) w wr) (fun _ s9 _ => (intOf s9 + 1).toNat)
  case atStart =>
    exact ⟨L, by rw [H3.out]; simp, rfl, hL2, DivMem.start _ (by rw [H3.out]; simp) hb⟩
  case round =>
    obtain ⟨k, rfl, rfl, hk, hm⟩ := hrel
    by_cases hk0 : k = 0
    · subst hk0
      obtain ⟨r0, r1, s0, s1, s2, s3, q0, q1, q2, q3, hz, hbl⟩ := hm
      obtain ⟨v0, s0⟩ := s0
      obtain ⟨v1, s1⟩ := s1
      have e1 : r / 2 ^ 0 = r := by simp
      rw [e1] at q0 q1 ⊢
      clear e1
      go_wp2
      rw [Exit.noGoto_ret]
      refine bodyPost_ret (v := .tuple #[.agg #[.int .u64 (hi (r / d)), .int .u64 (lo (r / d))], .int .u64 (r % d), .bool true]) ?_ rfl ⟨rfl, ?_⟩
      · have k0 := World.cell?_setCell_same wr ⟨w.heap.size + 1, 0, none⟩ (.int .u64 (hi (r / d))) s0
        have k1 := World.cell?_setCell_same (wr.setCell ⟨w.heap.size + 1, 0, none⟩ (.int .u64 (hi (r / d)))) ⟨w.heap.size + 1, 1, none⟩ (.int .u64 (lo (r / d))) ((World.cell?_setCell_other _ _ _ _ (ne_off (by decide))).trans s1)
        simp [results, Try.results33, go_sem, k0, k1]
      · exact (hbl.setCell (by simp) _).setCell (by simp) _
    · obtain ⟨j, rfl⟩ : ∃ j, k = j + 1 := ⟨k - 1, by omega⟩
      have hT := step_bit r h j
      have hT1 := div_nn r h (j + 1)
      have hT2 := div_nn r h j
      have hb0 : 0 ≤ lo (shr r (j : Int)) % 2 := by omega
      have hb1 : lo (shr r (j : Int)) % 2 ≤ 1 := by omega
      have hst := step_div _ _ d _ hd hT hb0 hb1
      have hR0 := Int.emod_nonneg (r / 2 ^ (j + 1)) (show d ≠ 0 by omega)
      have hR1 := Int.emod_lt_of_pos (r / 2 ^ (j + 1)) hd
      have hQ0 : 0 ≤ r / 2 ^ (j + 1) / d := Int.ediv_nonneg hT1.1 (by omega)
      have hQ1 : r / 2 ^ (j + 1) / d ≤ r / 2 ^ (j + 1) := Int.ediv_le_self _ hT1.1
      have hand := and_one (lo (shr r (j : Int))) (word_lo (two_shr h _))
      generalize hR : r / 2 ^ (j + 1) % d = R at *
      generalize hQ : r / 2 ^ (j + 1) / d = Q at *
      generalize hB : lo (shr r (j : Int)) % 2 = b at *
      have hR' := Lib.hid hR
      have hQ' := Lib.hid hQ
      have hB' := Lib.hid hB
      have hQt : Two Q := by obtain ⟨h0, h1⟩ := h; exact ⟨by omega, by omega⟩
      have hor := or_bit R b ⟨hR0, by omega⟩ hb0 hb1
      have hj0 : (0 : Int) ≤ ((j + 1 : Nat) : Int) - 1 := by omega
      have hfd := field_lo (hi (shr r (j : Int))) (lo (shr r (j : Int)))
      have hsh : shl Q 1 = 2 * Q := shl_one Q hQ0 (by have := h.2; omega)
      have hm1 := hm
      obtain ⟨r0, r1, s0, s1, s2, s3, q0, q1, q2, q3, hz, hbl⟩ := hm
      by_cases hlt : 2 * R + b < d
      · have hst1 := Lib.hid (hst.1 hlt)
        have ha : (R / 9223372036854775808 == 0) = true := by simp; omega
        have hR2 : (R * 2 + b) % 18446744073709551616 = 2 * R + b := by omega
        rw [hR2] at hor
        have H := Lib.hid hT
        have hQ2 := Lib.hid (show Two (2 * Q) by obtain ⟨h0, h1⟩ := h; exact ⟨by omega, by omega⟩)
        have hw : IntKind.u64.wrap (R * 2) = R * 2 := by rw [IntKind.wrap_u64]; omega
        rw [hw] at hor
        clear hst hR hQ hB hT1 hT2 hT hR2 hQ1 hR1 hw
        go_wp2_with (first
        | (go_at_call 47; refine (right_any r (j : Int) h (by omega) _).mono ?_; rintro e w2 ⟨rfl, hb2⟩; have hm2 := hm1.step hb2; clear hm1 hb2 r0 r1 s0 s1 s2 s3 q0 q1 q2 q3 hz hbl; have hm1 := hm2; obtain ⟨r0, r1, s0, s1, s2, s3, q0, q1, q2, q3, hz, hbl⟩ := hm2)
        | (go_at_call 48; refine (left_any Q 1 hQt (by decide) _).mono ?_; rw [hsh]; rintro e w2 ⟨rfl, hb2⟩; have hm2 := hm1.step hb2; clear hm1 hb2 r0 r1 s0 s1 s2 s3 q0 q1 q2 q3 hz hbl; have hm1 := hm2; obtain ⟨r0, r1, s0, s1, s2, s3, q0, q1, q2, q3, hz, hbl⟩ := hm2))
        go_roundw
        case rel => exact ⟨j, by rw [hst1.out.1], by go_num, by omega, (hm1.store hQ2.out).q hst1.out.2.symm⟩
        case measure => (simp [intOf]; try omega)
      · have hst1 := Lib.hid (hst.2 (by omega))
        have hodd := hi_odd Q
        have hone := or_one (lo (2 * Q)) (word_lo (by obtain ⟨h0, h1⟩ := h; exact ⟨by omega, by omega⟩)) hodd.2.2
        rw [← hodd.2.1] at hone
        have hodd1 := Lib.hid hodd.1
        have hR2 : IntKind.u64.wrap ((R * 2 + b) % 18446744073709551616 - d) = 2 * R + b - d := by rw [IntKind.wrap_u64]; omega
        generalize hX : (R * 2 + b) % 18446744073709551616 = X at *
        have H := Lib.hid hT
        have hQ2 := Lib.hid (show Two (2 * Q) by obtain ⟨h0, h1⟩ := h; exact ⟨by omega, by omega⟩)
        by_cases hc : R < 9223372036854775808
        · have ha : (R / 9223372036854775808 == 0) = true := by simp; omega
          have hXd : decide (X < d) = false := by simp; omega
          clear hst hR hQ hB hT1 hT2 hT hX hQ1 hR1 hodd hlt hc
          go_wp2_with (first
        | (go_at_call 47; refine (right_any r (j : Int) h (by omega) _).mono ?_; rintro e w2 ⟨rfl, hb2⟩; have hm2 := hm1.step hb2; clear hm1 hb2 r0 r1 s0 s1 s2 s3 q0 q1 q2 q3 hz hbl; have hm1 := hm2; obtain ⟨r0, r1, s0, s1, s2, s3, q0, q1, q2, q3, hz, hbl⟩ := hm2)
        | (go_at_call 48; refine (left_any Q 1 hQt (by decide) _).mono ?_; rw [hsh]; rintro e w2 ⟨rfl, hb2⟩; have hm2 := hm1.step hb2; clear hm1 hb2 r0 r1 s0 s1 s2 s3 q0 q1 q2 q3 hz hbl; have hm1 := hm2; obtain ⟨r0, r1, s0, s1, s2, s3, q0, q1, q2, q3, hz, hbl⟩ := hm2))
          go_roundw
          case rel => exact ⟨j, by rw [hst1.out.1], by go_num, by omega, ((hm1.store hQ2.out).odd).q hst1.out.2.symm⟩
          case measure => (simp [intOf]; try omega)
        · have ha : (R / 9223372036854775808 == 0) = false := by simp; omega
          clear hst hR hQ hB hT1 hT2 hT hX hQ1 hR1 hodd hlt hc
          go_wp2_with (first
        | (go_at_call 47; refine (right_any r (j : Int) h (by omega) _).mono ?_; rintro e w2 ⟨rfl, hb2⟩; have hm2 := hm1.step hb2; clear hm1 hb2 r0 r1 s0 s1 s2 s3 q0 q1 q2 q3 hz hbl; have hm1 := hm2; obtain ⟨r0, r1, s0, s1, s2, s3, q0, q1, q2, q3, hz, hbl⟩ := hm2)
        | (go_at_call 48; refine (left_any Q 1 hQt (by decide) _).mono ?_; rw [hsh]; rintro e w2 ⟨rfl, hb2⟩; have hm2 := hm1.step hb2; clear hm1 hb2 r0 r1 s0 s1 s2 s3 q0 q1 q2 q3 hz hbl; have hm1 := hm2; obtain ⟨r0, r1, s0, s1, s2, s3, q0, q1, q2, q3, hz, hbl⟩ := hm2))
          go_roundw
          case rel => exact ⟨j, by rw [hst1.out.1], by go_num, by omega, ((hm1.store hQ2.out).odd).q hst1.out.2.symm⟩
          case measure => (simp [intOf]; try omega)

theorem div_zero (r : Int) (_h : Two r) (w : World) :
    Calls Try.prog 33 #[.agg #[.int .u64 (hi r), .int .u64 (lo r)], .int .u64 0] w fun e w' =>
      e = .returned (.tuple #[.agg #[.int .u64 0, .int .u64 0], .int .u64 0, .bool false]) ∧ Below w.heap.size w w' := by
  go_enter Try.func33, Try.ntmps33
  go_wp2
  go_step3
  go_wp2
  rw [Exit.noGoto_ret]
  refine bodyPost_ret (v := .tuple #[.agg #[.int .u64 0, .int .u64 0], .int .u64 0, .bool false]) ?_ rfl ⟨rfl, ?_⟩
  · simp [results, Try.results33, go_sem]
  · exact two_blocks _ _ _ _ _
end Go.Proofs.Yteljjjdejjkgfaa
