/-
  The contracts of package fix's small helpers, of its Add and Sub, and of the document's answers size and signed: each for every input.
-/
import Derived.Test.YtnahocdeaopflaaDiv
import Derived.Laws.BitsAllLaws
namespace Go.Proofs.Ytnahocdeaopflaa
open Go.RowKit Go.Shelf
/-- A number that an int64 holds. -/
def In64 (x : Int) : Prop := -9223372036854775808 ≤ x ∧ x < 9223372036854775808
instance (x : Int) : Decidable (In64 x) := by unfold In64; exact inferInstance
/-- A number and whether it is an int64; 0 if it is none. -/
def fitT (v : Int) : Value := if In64 v then .tuple #[.int .i64 v, .bool true] else .tuple #[.int .i64 0, .bool false]
theorem fit_yes {v : Int} (h : In64 v) : fitT v = .tuple #[.int .i64 v, .bool true] := if_pos h
theorem fit_no {v : Int} (h : ¬ In64 v) : fitT v = .tuple #[.int .i64 0, .bool false] := if_neg h
theorem fit_is (v : Int) : ∃ (x : Int) (p : Bool), fitT v = .tuple #[.int .i64 x, .bool p] ∧ In64 x ∧ ((p = true ∧ x = v) ∨ (p = false ∧ x = 0 ∧ ¬ In64 v)) := by
  by_cases h : In64 v
  · exact ⟨v, true, fit_yes h, h, .inl ⟨rfl, rfl⟩⟩
  · exact ⟨0, false, fit_no h, ⟨by decide, by decide⟩, .inr ⟨rfl, rfl, h⟩⟩
theorem in64_of_wf {x : Int} (h : (Lit.int .i64 x).wf = true) : In64 x := by
  simp [Lit.wf, IntKind.min, IntKind.max, IntKind.signed, IntKind.bits] at h
  exact ⟨by omega, by omega⟩
theorem not64 (n : Int) (h : In64 n) : bits .xor .i64 (-1) n = -1 - n := by
  obtain ⟨h0, h1⟩ := h
  show IntKind.i64.wrap ((BitVec.ofInt 64 (-1) ^^^ BitVec.ofInt 64 n).toNat : Int) = _
  have e1 : BitVec.ofInt 64 (-1) = BitVec.allOnes 64 := by decide
  rw [e1, BitVec.allOnes_xor, BitVec.toNat_not, BitVec.toNat_ofInt, IntKind.wrap_i64]
  omega
/-- What has no sign. -/
def mag (n : Int) : Int := if n < 0 then -n else n
theorem mag_pos {n : Int} (h : 0 ≤ n) : mag n = n := if_neg (by omega)
theorem mag_neg {n : Int} (h : n < 0) : mag n = -n := if_pos h
theorem mag_word {n : Int} (h : In64 n) : Word (mag n) := by obtain ⟨h0, h1⟩ := h; unfold mag; split <;> exact ⟨by omega, by omega⟩
theorem sign_any (n : Int) (h : In64 n) (w : World) :
    Calls Try.prog 34 #[.int .i64 n] w fun e w' => e = .returned (.int .u64 (if n < 0 then 1 else 0)) ∧ Below w.heap.size w w' := by
  obtain ⟨h0, h1⟩ := h
  have e : IntKind.u64.wrap n / 9223372036854775808 = if n < 0 then 1 else 0 := by
    rw [IntKind.wrap_u64]
    split <;> omega
  go_enter Try.func34, Try.ntmps34
  go_wp2
  all_goals go_ret
  all_goals first
    | exact ⟨rfl, Below.refl _ _⟩
    | (exfalso; omega)
theorem size_any (n : Int) (h : In64 n) (w : World) :
    Calls Try.prog 33 #[.int .i64 n] w fun e w' => e = .returned (.int .u64 (mag n)) ∧ Below w.heap.size w w' := by
  have cS := sign_any n h
  have eN := not64 n h
  obtain ⟨h0, h1⟩ := h
  by_cases hn : n < 0
  · rw [if_pos hn] at cS
    rw [mag_neg hn]
    go_enter Try.func33, Try.ntmps33
    go_wp2_with (go_at_call 34; (with_reducible refine (cS _).mono ?_); rintro e w2 ⟨rfl, hb⟩)
    all_goals go_ret
    all_goals exact ⟨by rw [IntKind.wrap_u64, IntKind.wrap_u64]; refine congrArg (fun z => Ending.returned (Value.int .u64 z)) ?_; omega, hb⟩
  · rw [if_neg hn] at cS
    rw [mag_pos (by omega)]
    go_enter Try.func33, Try.ntmps33
    go_wp2_with (go_at_call 34; (with_reducible refine (cS _).mono ?_); rintro e w2 ⟨rfl, hb⟩)
    all_goals go_ret
    all_goals exact ⟨by first | rfl | (rw [IntKind.wrap_u64]; refine congrArg (fun z => Ending.returned (Value.int .u64 z)) ?_; omega), hb⟩
theorem fadd_any (a b : Int) (ha : In64 a) (hb : In64 b) (w : World) :
    Calls Try.prog 9 #[.int .i64 a, .int .i64 b] w fun e w' => e = .returned (fitT (a + b)) ∧ Below w.heap.size w w' := by
  obtain ⟨a0, a1⟩ := ha
  obtain ⟨b0, b1⟩ := hb
  by_cases hs : In64 (a + b)
  · rw [fit_yes hs]
    obtain ⟨s0, s1⟩ := hs
    go_enter Try.func9, Try.ntmps9
    go_wp2
    all_goals first | (exfalso; omega) | go_ret2
    all_goals exact ⟨rfl, Below.refl _ _⟩
  · rw [fit_no hs]
    unfold In64 at hs
    go_enter Try.func9, Try.ntmps9
    go_wp2
    all_goals first | (exfalso; omega) | go_ret2
    all_goals exact ⟨rfl, Below.refl _ _⟩
theorem fsub_any (a b : Int) (ha : In64 a) (hb : In64 b) (w : World) :
    Calls Try.prog 10 #[.int .i64 a, .int .i64 b] w fun e w' => e = .returned (fitT (a - b)) ∧ Below w.heap.size w w' := by
  obtain ⟨a0, a1⟩ := ha
  obtain ⟨b0, b1⟩ := hb
  by_cases hs : In64 (a - b)
  · rw [fit_yes hs]
    obtain ⟨s0, s1⟩ := hs
    go_enter Try.func10, Try.ntmps10
    go_wp2
    all_goals first | (exfalso; omega) | go_ret2
    all_goals exact ⟨rfl, Below.refl _ _⟩
  · rw [fit_no hs]
    unfold In64 at hs
    go_enter Try.func10, Try.ntmps10
    go_wp2
    all_goals first | (exfalso; omega) | go_ret2
    all_goals exact ⟨rfl, Below.refl _ _⟩
theorem len63 (r : Int) (h : Two r) : (r < 9223372036854775808 → len2 r ≤ 63) ∧ (9223372036854775808 ≤ r → 63 < len2 r) := by
  obtain ⟨L, hL, hL1, hL2, hL3, hL4⟩ := len2_spec r h
  rw [hL]
  have h0 := h.1
  constructor
  · intro hr
    by_cases hr0 : r = 0
    · rw [hL4 hr0]; decide
    · obtain ⟨k1, k2⟩ := hL3 hr0
      rcases Nat.lt_or_ge 63 L with hb | hb
      · exfalso
        have k3 : (2 : Int) ^ 63 ≤ 2 ^ (L - 1) := by exact_mod_cast Nat.pow_le_pow_right (by decide) (by omega)
        have k4 : r / 2 ^ (L - 1) = 0 := Int.ediv_eq_zero_of_lt h0 (by have : (2 : Int) ^ 63 = 9223372036854775808 := by decide
                                                                       omega)
        omega
      · omega
  · intro hr
    rcases Nat.lt_or_ge 63 L with hb | hb
    · omega
    · exfalso
      have k3 : (2 : Int) ^ L ≤ 2 ^ 63 := by exact_mod_cast Nat.pow_le_pow_right (by decide) hb
      have k5 : (2 : Int) ^ 63 = 9223372036854775808 := by decide
      have k4 := Int.mul_ediv_add_emod r (2 ^ L)
      rw [hL2] at k4
      have k6 := Int.emod_lt_of_pos r (pow_pos' L)
      omega
/-- A number as an int64. -/
theorem narrow_any (r : Int) (h : Two r) (w : World) :
    Calls Try.prog 35 #[.agg #[.int .u64 (hi r), .int .u64 (lo r)]] w fun e w' => e = .returned (fitT r) ∧ Below w.heap.size w w' := by
  have cL := len_any r h
  obtain ⟨l1, l2⟩ := len63 r h
  have h0 := h.1
  have m0 := (Mem.start w).new 38 #[.int .u64 (hi r), .int .u64 (lo r)]
  by_cases hr : r < 9223372036854775808
  · have eT : fitT r = .tuple #[.int .i64 (lo r), .bool true] := by
      rw [fit_yes ⟨by omega, hr⟩]
      have : lo r = r := by unfold lo; omega
      rw [this]
    have hlo : lo r ≤ 9223372036854775807 ∧ 0 ≤ lo r := by unfold lo; omega
    rw [eT]
    have hl := l1 hr
    clear l1 l2 eT hr h h0
    generalize len2 r = L at *
    generalize hi r = a at *
    generalize lo r = b at *
    obtain ⟨hlo1, hlo2⟩ := hlo
    go_enter Try.func35, Try.ntmps35
    go_wp2_with (go_at_call 50; (with_reducible refine (cL _).mono ?_); rintro e w2 ⟨rfl, hb1⟩; have m1 := m0.keep hb1; have k := m1.blk w.heap.size 38 #[.int .u64 a, .int .u64 b] (by simp); have c1 := k.cell_eq 1 (.int .u64 b) rfl; clear k)
    go_ret2
    exact ⟨rfl, m1.below⟩
  · have hl := l2 (by omega)
    rw [fit_no (fun e => hr e.2)]
    clear l1 l2 hr h h0
    generalize len2 r = L at *
    generalize hi r = a at *
    generalize lo r = b at *
    go_enter Try.func35, Try.ntmps35
    go_wp2_with (go_at_call 50; (with_reducible refine (cL _).mono ?_); rintro e w2 ⟨rfl, hb1⟩; have m1 := m0.keep hb1; have k := m1.blk w.heap.size 38 #[.int .u64 a, .int .u64 b] (by simp); have c1 := k.cell_eq 1 (.int .u64 b) rfl; clear k)
    go_ret2
    exact ⟨rfl, m1.below⟩
/-! ### The document's answers -/
theorem rsize_any (n : Int) (h : In64 n) (w : World) :
    Calls Try.prog 38 #[.int .i64 n] w fun e w' => e = .returned (.int .u64 (mag n)) ∧ Below w.heap.size w w' := by
  obtain ⟨h0, h1⟩ := h
  by_cases hn : n < 0
  · rw [mag_neg hn]
    go_enter Try.func38, Try.ntmps38
    go_wp2
    all_goals first | (exfalso; omega) | go_ret
    all_goals exact ⟨by first | rfl | (refine congrArg (fun z => Ending.returned (Value.int .u64 z)) ?_; omega), Below.refl _ _⟩
  · rw [mag_pos (by omega)]
    go_enter Try.func38, Try.ntmps38
    go_wp2
    all_goals first | (exfalso; omega) | go_ret
    all_goals exact ⟨by first | rfl | (refine congrArg (fun z => Ending.returned (Value.int .u64 z)) ?_; omega), Below.refl _ _⟩
theorem signed_any (n : Int) (m : Bool) (h : Word n) (w : World) :
    Calls Try.prog 39 #[.int .u64 n, .bool m] w fun e w' => e = .returned (fitT (if m = true then -n else n)) ∧ Below w.heap.size w w' := by
  obtain ⟨h0, h1⟩ := h
  cases m
  · rw [if_neg (by decide)]
    by_cases hs : In64 n
    · rw [fit_yes hs]
      obtain ⟨s0, s1⟩ := hs
      go_enter Try.func39, Try.ntmps39
      go_wp2
      all_goals first | (exfalso; omega) | go_ret2
      all_goals exact ⟨rfl, Below.refl _ _⟩
    · rw [fit_no hs]
      unfold In64 at hs
      go_enter Try.func39, Try.ntmps39
      go_wp2
      all_goals first | (exfalso; omega) | go_ret2
      all_goals exact ⟨rfl, Below.refl _ _⟩
  · rw [if_pos rfl]
    by_cases hs : In64 (-n)
    · rw [fit_yes hs]
      obtain ⟨s0, s1⟩ := hs
      by_cases hx : n = 9223372036854775808
      · subst hx
        go_enter Try.func39, Try.ntmps39
        go_wp2
        all_goals first | (exfalso; omega) | go_ret2
        all_goals exact ⟨rfl, Below.refl _ _⟩
      · have e0 : (n == 9223372036854775808) = false := by simpa using hx
        go_enter Try.func39, Try.ntmps39
        go_wp2
        all_goals first | (exfalso; omega) | go_ret2
        all_goals exact ⟨rfl, Below.refl _ _⟩
    · rw [fit_no hs]
      unfold In64 at hs
      have e0 : (n == 9223372036854775808) = false := by simp; omega
      go_enter Try.func39, Try.ntmps39
      go_wp2
      all_goals first | (exfalso; omega) | go_ret2
      all_goals exact ⟨rfl, Below.refl _ _⟩
end Go.Proofs.Ytnahocdeaopflaa
