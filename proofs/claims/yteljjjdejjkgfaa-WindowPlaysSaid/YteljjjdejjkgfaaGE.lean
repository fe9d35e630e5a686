/-
  The contracts of the document's answers Add, Sub and Mul of layer 2, for every two numbers.
  The contracts of the document's answers Mul and MulDiv of layer 2, for every input.
  The contracts of package fix's Lower and Upper, and of the document's answers, for every input.
  What any price and quantity come to, and which may be: the statement's function, for every input.
-/
import Derived.Test.YteljjjdejjkgfaaGJ
import Derived.Test.YteljjjdejjkgfaaRefNq
namespace Go.Proofs.Yteljjjdejjkgfaa
open Go.RowKit Go.Shelf
end Go.Proofs.Yteljjjdejjkgfaa
namespace Go.Proofs.Yteljjjdejjkgfaa
open Go.RowKit Go.Shelf
/-- A whole array is read, in an operation with a guard. -/
theorem ld28g {ops : Array Oper} {rest : List Oper} {o : Oper} {a : Act} {w : World} {Q : Exit → Act → World → Prop} (hgd : Region.wanted o (yielded ops a.tmps) = true) (x : Operand) (ho : o.op = .load 70 x)
    (g : Nat) (hx : a.eval x = .pointer (some ⟨g, 0, none⟩)) (f : Nat → Bool) (hg : Blk w g 70 (arr f))
    (h : wpList Try.prog ops Q rest (a.put o.dst (.agg (arr f))) w) : wpList Try.prog ops Q (o :: rest) a w := by
  unfold wpList
  rw [if_pos hgd]
  exact .inl (wp_load_row _ x ho g hx _ _ _ _ hg under28 rfl (by rw [arr_size]; exact size28) h)
theorem Mem.setSnd {w0 w : World} {g h : Nat} {t : TypeId} {c1 c2 : Array Value} (m : Mem w0 [(g, t, c1), (h, t, c2)] w) (c : Array Value) (hg : h ≠ g) (hh : w0.heap.size ≤ h) :
    Mem w0 [(g, t, c1), (h, t, c)] (w.setRow h c) :=
  ⟨fun p hp => by
    simp only [List.mem_cons, List.not_mem_nil, or_false] at hp
    rcases hp with rfl | rfl
    · exact (m.blk g t c1 (by simp)).setRow_other hg _
    · exact (m.blk h t c2 (by simp)).setRow _, below_setRow m.below hh _⟩
theorem old_before {md : Region.Mode} {ops : Array Oper} {L : Array Bool} {w0 w : World} {g h : Nat} {t : TypeId} {c1 : Array Value} {O N : Nat → Bool} (hL : 0 ∈ Region.ready md ops L) (h8 : L.getD 6 false = true → L.getD 0 false = true)
    (m : Mem w0 [(g, t, c1), (h, t, arr (if L.getD 6 false = true then N else O))] w) : Blk w h t (arr O) := by
  have h0 := ready_not hL
  have e : L.getD 6 false = false := by
    cases hc : L.getD 6 false
    · rfl
    · rw [h8 hc] at h0; cases h0
  rw [e] at m
  exact m.blk h t (arr O) (by simp)
theorem toNat_mul' {a b : Int} (ha : 0 ≤ a) (hb : 0 ≤ b) : ((a.toNat * b.toNat : Nat) : Int) = a * b := by
  obtain ⟨A, rfl⟩ := Int.eq_ofNat_of_zero_le ha
  obtain ⟨B, rfl⟩ := Int.eq_ofNat_of_zero_le hb
  simp
end Go.Proofs.Yteljjjdejjkgfaa
namespace Go.Proofs.Yteljjjdejjkgfaa
open Go.RowKit Go.Shelf
def lowV (r b : Int) : Int := mdV r (10000 - b) 10000 true
def hiV (r b : Int) : Int := r * (10000 + b) / 10000
def lowT (r b g : Int) : Value := if bandV r b g = true then upT (lowV r b) g else nay
def hiT (r b g : Int) : Value := if bandV r b g = true then .tuple #[.int .i64 (downV (hiV r b) g), .bool true] else nay
theorem band_is {r b g : Int} (h : bandV r b g = true) : 1 ≤ r ∧ r ≤ 1099511627776 ∧ 0 ≤ b ∧ b ≤ 9999 ∧ 1 ≤ g ∧ g ≤ 1099511627776 := by unfold bandV at h; simpa using h
theorem low_le {r b : Int} (hr : 1 ≤ r) (hr2 : r ≤ 1099511627776) (hb : 0 ≤ b) (hb2 : b ≤ 9999) :
    1 ≤ r * (10000 - b) ∧ r * (10000 - b) ≤ 10000 * r ∧ lowV r b = r * (10000 - b) / 10000 + (if r * (10000 - b) % 10000 ≠ 0 then 1 else 0) ∧ 1 ≤ lowV r b ∧ lowV r b ≤ r := by
  have h1 : r * 1 ≤ r * (10000 - b) := Int.mul_le_mul_of_nonneg_left (by omega) (by omega)
  have h2 : r * (10000 - b) ≤ r * 10000 := Int.mul_le_mul_of_nonneg_left (by omega) (by omega)
  unfold lowV mdV
  simp only [true_and]
  generalize r * (10000 - b) = n at *
  refine ⟨by omega, by omega, ?_, ?_⟩ <;> split <;> omega
theorem hi_ge {r b : Int} (hr : 1 ≤ r) (hr2 : r ≤ 1099511627776) (hb : 0 ≤ b) (hb2 : b ≤ 9999) :
    10000 * r ≤ r * (10000 + b) ∧ r * (10000 + b) ≤ 20000 * r ∧ r ≤ hiV r b ∧ hiV r b ≤ 2 * r := by
  have h1 : r * 10000 ≤ r * (10000 + b) := Int.mul_le_mul_of_nonneg_left (by omega) (by omega)
  have h2 : r * (10000 + b) ≤ r * 20000 := Int.mul_le_mul_of_nonneg_left (by omega) (by omega)
  unfold hiV
  generalize r * (10000 + b) = n at *
  exact ⟨by omega, by omega, by omega, by omega⟩
theorem up_is (p g : Int) : ∃ (x : Int) (q : Bool), upT p g = .tuple #[.int .i64 x, .bool q] ∧ In64 x := by
  unfold upT
  split
  · exact ⟨0, false, rfl, ⟨by decide, by decide⟩⟩
  · obtain ⟨x, q, h, h2, -⟩ := fit_is (upV p g)
    exact ⟨x, q, h, h2⟩
end Go.Proofs.Yteljjjdejjkgfaa
namespace Go.Proofs.Yteljjjdejjkgfaa
open Go.RowKit Go.Shelf
def priceV (p g : Int) : Int := if g < 1 then 1 else if p < 1 ∨ 1099511627776 < p then 9 else if p % g = 0 then 0 else 8
def qtyV (q : Int) : Int := if q < 1 ∨ 4294967296 < q then 9 else 0
theorem fprice_any (p g : Int) (hp : In64 p) (hg : In64 g) (w : World) :
    Calls Try.prog 19 #[.int .i64 p, .int .i64 g] w fun e w' => e = .returned (.int .i64 (priceV p g)) ∧ Below w.heap.size w w' := by
  obtain ⟨p0, p1⟩ := hp
  obtain ⟨g0, g1⟩ := hg
  unfold priceV
  by_cases h1 : g < 1
  · rw [if_pos h1]
    go_enter Try.func19, Try.ntmps19
    go_wp2
    all_goals first | (exfalso; omega) | go_ret
    all_goals exact ⟨rfl, Below.refl _ _⟩
  · rw [if_neg h1]
    have e0 : (g == 0) = false := by simp; omega
    by_cases h2 : p < 1 ∨ 1099511627776 < p
    · rw [if_pos h2]
      go_enter Try.func19, Try.ntmps19
      go_wp2
      all_goals first | (exfalso; omega) | go_ret
      all_goals exact ⟨rfl, Below.refl _ _⟩
    · rw [if_neg h2]
      have m0 := Int.emod_nonneg p (show g ≠ 0 by omega)
      have m1 := Int.emod_lt_of_pos p (show 0 < g by omega)
      have h3 : 1 ≤ p := by omega
      by_cases hz : p % g = 0
      · rw [if_pos hz]
        go_enter Try.func19, Try.ntmps19
        go_wp2
        all_goals first | (exfalso; omega) | go_ret
        all_goals exact ⟨rfl, Below.refl _ _⟩
      · rw [if_neg hz]
        have ez : (p % g == 0) = false := by simpa using hz
        go_enter Try.func19, Try.ntmps19
        go_wp2
        all_goals first | (exfalso; omega) | go_ret
        all_goals exact ⟨rfl, Below.refl _ _⟩
theorem rprice_any (p g : Int) (hp : In64 p) (hg : In64 g) (w : World) :
    Calls Try.prog 35 #[.int .i64 p, .int .i64 g] w fun e w' => e = .returned (.int .i64 (priceV p g)) ∧ Below w.heap.size w w' := by
  obtain ⟨p0, p1⟩ := hp
  obtain ⟨g0, g1⟩ := hg
  unfold priceV
  by_cases h1 : g < 1
  · rw [if_pos h1]
    go_enter Try.func35, Try.ntmps35
    go_wp2
    all_goals first | (exfalso; omega) | go_ret
    all_goals exact ⟨rfl, Below.refl _ _⟩
  · rw [if_neg h1]
    have e0 : (g == 0) = false := by simp; omega
    by_cases h2 : p < 1 ∨ 1099511627776 < p
    · rw [if_pos h2]
      go_enter Try.func35, Try.ntmps35
      go_wp2
      all_goals first | (exfalso; omega) | go_ret
      all_goals exact ⟨rfl, Below.refl _ _⟩
    · rw [if_neg h2]
      have m0 := Int.emod_nonneg p (show g ≠ 0 by omega)
      have m1 := Int.emod_lt_of_pos p (show 0 < g by omega)
      have h3 : 1 ≤ p := by omega
      by_cases hz : p % g = 0
      · rw [if_pos hz]
        go_enter Try.func35, Try.ntmps35
        go_wp2
        all_goals first | (exfalso; omega) | go_ret
        all_goals exact ⟨rfl, Below.refl _ _⟩
      · rw [if_neg hz]
        have ez : (p % g == 0) = false := by simpa using hz
        go_enter Try.func35, Try.ntmps35
        go_wp2
        all_goals first | (exfalso; omega) | go_ret
        all_goals exact ⟨rfl, Below.refl _ _⟩
theorem fqty_any (q : Int) (w : World) :
    Calls Try.prog 27 #[.int .i64 q] w fun e w' => e = .returned (.int .i64 (qtyV q)) ∧ Below w.heap.size w w' := by
  unfold qtyV
  by_cases h1 : q < 1 ∨ 4294967296 < q
  · rw [if_pos h1]
    go_enter Try.func27, Try.ntmps27
    go_wp2
    all_goals first | (exfalso; omega) | go_ret
    all_goals exact ⟨rfl, Below.refl _ _⟩
  · rw [if_neg h1]
    go_enter Try.func27, Try.ntmps27
    go_wp2
    all_goals first | (exfalso; omega) | go_ret
    all_goals exact ⟨rfl, Below.refl _ _⟩
end Go.Proofs.Yteljjjdejjkgfaa
