/-
  The contract of unused: the least queue whose bit is set.
-/
import Derived.Test.YthlpnlmjpdcbiaaLap
namespace Go.Proofs.Ythlpnlmjpdcbiaa
open Go.RowKit
section
variable {w w' W : World} {g : Nat} {S T : Nat → Prop} {ko : Option Nat} {ao : Option Addr} {cap : Nat} {buy : Bool} {P : List Lvl} {F : List Nat}
theorem bit_low {x k : Nat} (h : x < 18446744073709551616) (i : Nat) (hi : x.testBit i = decide (i = k)) : bits .and .u64 ((x >>> i : Nat) : Int) 1 = if i = k then 1 else 0 := by
  have h1 : x >>> i < 18446744073709551616 := Nat.lt_of_le_of_lt (by rw [Nat.shiftRight_eq_div_pow]; exact Nat.div_le_self _ _) h
  have e := bits_and_u64_nat (x >>> i) 1 h1 (by omega)
  rw [bit_and, hi] at e
  by_cases g : i = k
  · simp [g] at e ⊢; exact e
  · simp [g] at e ⊢; exact e
theorem shr_step (x i : Nat) : (((x >>> i : Nat) : Int)) / 2 = ((x >>> (i + 1) : Nat) : Int) := by
  rw [Nat.shiftRight_succ]; omega
theorem idx4 {a b c d n x : Nat} (h : [a, b, c, d][n]? = some x) : ∀ w, (Instr.index 64 (.agg #[.int .u64 (a : Int), .int .u64 (b : Int), .int .u64 (c : Int), .int .u64 (d : Int)]) (.int .i64 (n : Int))).run Try.prog w = .ok (.int .u64 (x : Int)) w := by
  intro w
  have hl := (List.getElem?_eq_some_iff.1 h).1
  have u := Try.underlying64
  simp only [List.length_cons, List.length_nil] at hl
  rcases (show n = 0 ∨ n = 1 ∨ n = 2 ∨ n = 3 by omega) with rfl | rfl | rfl | rfl
  all_goals
    cases h
    simp [Instr.index, go_sem, part]
set_option maxRecDepth 8000 in
set_option maxHeartbeats 2000000 in
theorem punused_some {f : Nat → Bool} (h : PmB W g S ko ao cap buy P F) (hB : Bits F f) {q : Nat} (hq : q < 256) (ht : f q = true) (hlow : ∀ p, p < q → f p = false) :
    Calls Try.prog 34 #[.pointer (some ⟨g, 0, none⟩)] W fun e w' => e = .returned (.tuple #[.int .i64 (q : Int), .bool true]) ∧ w' = W := by
  have hz : ∀ n x, n < q / 64 → F[n]? = some x → x = 0 := by
    intro n x hn hx
    obtain ⟨y, hy, hy2, hy3⟩ := hB.get (n := n) (by omega)
    rw [hx] at hy
    cases hy
    exact zero_of_bits hy2 fun k hk => (hy3 k hk).trans (hlow _ (by omega))
  obtain ⟨x, hx, hx2, hx3⟩ := hB.get (n := q / 64) (by omega)
  have hxk : ∀ i, i ≤ q % 64 → x.testBit i = decide (i = q % 64) := by
    intro i hi
    rw [hx3 i (by omega)]
    by_cases e : i = q % 64
    · rw [e, show q / 64 * 64 + q % 64 = q by omega, ht]; simp
    · rw [hlow _ (by omega)]; simp [e]
  have hx0 : x ≠ 0 := by
    rintro rfl
    have := hxk (q % 64) (Nat.le_refl _)
    simp at this
  have hand := fun i hi => bit_low (k := q % 64) hx2 i (hxk i hi)
  have hlt : ∀ i, ((x >>> i : Nat) : Int) < 18446744073709551616 := fun i => by
    have h1 : x >>> i < 18446744073709551616 := Nat.lt_of_le_of_lt (by rw [Nat.shiftRight_eq_div_pow]; exact Nat.div_le_self _ _) hx2
    omega
  have hq4 : q / 64 < 4 := by omega
  have hqe : (q : Int) = ((q / 64 : Nat) : Int) * 64 + ((q % 64 : Nat) : Int) := by omega
  have hm64 : q % 64 < 64 := by omega
  generalize q / 64 = d at *
  generalize q % 64 = m at *
  obtain ⟨a0, a1, a2, a3, rfl⟩ : ∃ a b c d, F = [a, b, c, d] := by
    have := h.fl
    match F, this with
    | [a, b, c, d], _ => exact ⟨a, b, c, d, rfl⟩
  have c2 : W.cell? ⟨g, 2, none⟩ = some (.int .u64 (a0 : Int)) := h.cw (i := 0) rfl
  have c3 : W.cell? ⟨g, 3, none⟩ = some (.int .u64 (a1 : Int)) := h.cw (i := 1) rfl
  have c4 : W.cell? ⟨g, 4, none⟩ = some (.int .u64 (a2 : Int)) := h.cw (i := 2) rfl
  have c5 : W.cell? ⟨g, 5, none⟩ = some (.int .u64 (a3 : Int)) := h.cw (i := 3) rfl
  replace hz := Lib.hid hz
  replace hx := Lib.hid hx
  replace hqe := Lib.hid hqe
  replace hand := Lib.hid hand
  replace hlt := Lib.hid hlt
  have hx0' : ((x : Int) == 0) = false := by simp; exact hx0
  replace hx0 := Lib.hid hx0
  clear h hB hxk hx3 hx2 hlow ht hq
  go_enter Try.func34, Try.ntmps34
  go_wp2_with fail
  go_loopg [11] d (fun j p11 wr => ∃ n : Nat, n + j = d ∧ p11 = .int .i64 (n : Int) ∧ wr = W)
  case atStart => exact ⟨0, by omega, rfl, rfl⟩
  case round =>
    obtain ⟨n, hn, rfl, rfl⟩ := hrel
    have hn4 : n < 4 := by omega
    have hn4' : (n : Int) < 4 := by omega
    obtain ⟨y, hy⟩ : ∃ y, [a0, a1, a2, a3][n]? = some y := ⟨_, List.getElem?_eq_getElem (by simp; omega)⟩
    have hix := idx4 hy
    by_cases hnd : n < d
    · obtain rfl := hz.out n y hnd hy
      clear hz hx hqe hand hlt hx0' hx0 hy
      go_wp2_with fail
      go_roundg (d - (n + 1))
      case measure => omega
      case rel => exact ⟨n + 1, by omega, by go_num, rfl⟩
    · obtain rfl : n = d := by omega
      obtain rfl : x = y := by
        have := hx.out
        rw [hy] at this
        exact (Option.some.inj this).symm
      have hx00 : ¬ ((x : Int) = 0) := by have := hx0.out; omega
      clear hz hx hx0 hx0' hy
      go_wp2_with fail
      go_loopg [5, 6] m (fun j p5 p6 wr' => ∃ i : Nat, i + j = m ∧ p5 = .int .u64 ((x >>> i : Nat) : Int) ∧ p6 = .int .i64 ((n : Int) * 64 + (i : Int)) ∧ wr' = wr)
      case atStart => exact ⟨0, by omega, by simp, by simp, rfl⟩
      case round =>
        obtain ⟨i, hi, rfl, rfl, rfl⟩ := hrel
        have hA := hand.out i (by omega)
        have hL := hlt.out i
        have hS := shr_step x i
        have hS2 : IntKind.u64.wrap ((x >>> (i + 1) : Nat) : Int) = ((x >>> (i + 1) : Nat) : Int) := by
          have h1 := hlt.out (i + 1)
          rw [IntKind.wrap_u64]
          exact Int.emod_eq_of_lt (Int.natCast_nonneg _) h1
        replace hL := Lib.hid hL
        by_cases him : i = m
        · subst him
          rw [if_pos rfl] at hA
          have hq := hqe.out
          generalize x >>> i = y at *
          clear hand hlt hqe
          replace hq := Lib.hid hq
          go_wp2_with fail
          go_ret2
          exact ⟨by rw [hq.out]; rfl, rfl⟩
        · rw [if_neg him] at hA
          generalize x >>> i = y at *
          generalize hy' : x >>> (i + 1) = y' at *
          replace hy' := Lib.hid hy'
          clear hand hlt hqe
          go_wp2_with fail
          go_roundg (m - (i + 1))
          case measure => omega
          case rel => exact ⟨i + 1, by omega, by rw [hy'.out], by go_num, rfl⟩
set_option maxRecDepth 8000 in
set_option maxHeartbeats 2000000 in
theorem punused_none {f : Nat → Bool} (h : PmB W g S ko ao cap buy P F) (hB : Bits F f) (hf : ∀ q, q < 256 → f q = false) :
    Calls Try.prog 34 #[.pointer (some ⟨g, 0, none⟩)] W fun e w' => e = .returned (.tuple #[.int .i64 0, .bool false]) ∧ w' = W := by
  have hz : ∀ n x, n < 4 → F[n]? = some x → x = 0 := by
    intro n x hn hx
    obtain ⟨y, hy, hy2, hy3⟩ := hB.get (n := n) (by omega)
    rw [hx] at hy
    cases hy
    exact zero_of_bits hy2 fun k hk => (hy3 k hk).trans (hf _ (by omega))
  obtain ⟨a0, a1, a2, a3, rfl⟩ : ∃ a b c d, F = [a, b, c, d] := by
    have := h.fl
    match F, this with
    | [a, b, c, d], _ => exact ⟨a, b, c, d, rfl⟩
  have c2 : W.cell? ⟨g, 2, none⟩ = some (.int .u64 (a0 : Int)) := h.cw (i := 0) rfl
  have c3 : W.cell? ⟨g, 3, none⟩ = some (.int .u64 (a1 : Int)) := h.cw (i := 1) rfl
  have c4 : W.cell? ⟨g, 4, none⟩ = some (.int .u64 (a2 : Int)) := h.cw (i := 2) rfl
  have c5 : W.cell? ⟨g, 5, none⟩ = some (.int .u64 (a3 : Int)) := h.cw (i := 3) rfl
  obtain rfl := hz 0 a0 (by omega) rfl
  obtain rfl := hz 1 a1 (by omega) rfl
  obtain rfl := hz 2 a2 (by omega) rfl
  obtain rfl := hz 3 a3 (by omega) rfl
  clear h hB hz hf
  go_enter Try.func34, Try.ntmps34
  go_wp2_with fail
  go_loopg [11] 4 (fun j p11 wr => ∃ n : Nat, n + j = 4 ∧ p11 = .int .i64 (n : Int) ∧ wr = W)
  case atStart => exact ⟨0, by omega, rfl, rfl⟩
  case round =>
    obtain ⟨n, hn, rfl, rfl⟩ := hrel
    by_cases hn4 : n < 4
    · have hn4' : (n : Int) < 4 := by omega
      have hix : ∀ w, (Instr.index 64 (.agg #[.int .u64 0, .int .u64 0, .int .u64 0, .int .u64 0]) (.int .i64 (n : Int))).run Try.prog w = .ok (.int .u64 0) w := idx4 (a := 0) (b := 0) (c := 0) (d := 0) (n := n) (x := 0) (by
        rcases (show n = 0 ∨ n = 1 ∨ n = 2 ∨ n = 3 by omega) with rfl | rfl | rfl | rfl <;> rfl)
      go_wp2_with fail
      go_roundg (4 - (n + 1))
      case measure => omega
      case rel => exact ⟨n + 1, by omega, by go_num, rfl⟩
    · obtain rfl : n = 4 := by omega
      go_wp2_with fail
      all_goals go_ret2
      all_goals exact ⟨rfl, rfl⟩
end
end Go.Proofs.Ythlpnlmjpdcbiaa
