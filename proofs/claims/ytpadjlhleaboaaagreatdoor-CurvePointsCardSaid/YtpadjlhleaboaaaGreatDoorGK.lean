/-
  Arrays of 128 bools as numbers of 128 bits, and what reads and writes them whole. Plain facts on bits besides.
  The contracts of the document's answers Of and Halves: a number's 128 bits, and back.
  The contract of the document's answer Add: the sum of two numbers of 128 bits, bit by bit.
  The contract of the document's answer Halves: a number's two words.
  The contracts of package fix's Add, and of the document's Add of layer 2, for every two numbers.
-/
import Derived.Test.YtpadjlhleaboaaaGreatDoorGA
import Derived.Test.YtpadjlhleaboaaaGreatDoorProg
import Derived.WalkKit
import Derived.Outline
import Derived.Lib.Hide
import Derived.Deep.LoopGhost
import Derived.Deep.DeepMust
import Derived.Laws.BitsAllLaws
namespace Go.Proofs.YtpadjlhleaboaaaGreatDoor
open Go.RowKit
/-- 128 cells, each a bool. -/
def arr (f : Nat → Bool) : Array Value := ((List.range 128).map fun i => Value.bool (f i)).toArray
theorem arr_size (f : Nat → Bool) : (arr f).size = 128 := by simp [arr]
theorem arr_get (f : Nat → Bool) (k : Nat) (hk : k < 128) : (arr f)[k]? = some (.bool (f k)) := by simp [arr, hk]
theorem arr_congr {f g : Nat → Bool} (h : ∀ i, i < 128 → f i = g i) : arr f = arr g := by
  unfold arr; congr 1; apply List.map_congr_left; intro i hi; rw [h i (by simpa using hi)]
theorem arr_set (f : Nat → Bool) (k : Nat) (v : Bool) : (arr f).setIfInBounds k (.bool v) = arr fun i => if i = k then v else f i := by
  apply Array.ext_getElem?
  intro i
  rw [Array.getElem?_setIfInBounds]
  by_cases hi : i < 128
  · rw [arr_get _ _ hi]
    by_cases hk : k = i
    · subst hk; rw [arr_get _ _ hi]; simp [arr_size, hi]
    · rw [if_neg hk, arr_get _ _ hi, if_neg (fun e => hk e.symm)]
  · have h1 : (arr f)[i]? = none := Array.getElem?_eq_none (by rw [arr_size]; omega)
    have h2 : (arr fun i => if i = k then v else f i)[i]? = none := Array.getElem?_eq_none (by rw [arr_size]; omega)
    rw [h1, h2]
    by_cases hk : k = i
    · subst hk; simp [arr_size, hi]
    · rw [if_neg hk]
theorem arr_one (f : Nat → Bool) : (arr f).all (·.oneCell') = true := by
  rw [Array.all_eq_true_iff_forall_mem]
  intro v hv
  simp [arr] at hv
  obtain ⟨i, -, rfl⟩ := hv
  rfl
theorem Blk.bit {w : World} {g : Nat} {t : TypeId} {f : Nat → Bool} (h : Blk w g t (arr f)) (k : Nat) (hk : k < 128) : w.cell? ⟨g, k, none⟩ = some (.bool (f k)) := h.cell_eq k _ (arr_get f k hk)
theorem Blk.putBit {w : World} {g : Nat} {t : TypeId} {f : Nat → Bool} (h : Blk w g t (arr f)) (k : Nat) (v : Bool) : Blk (w.setCell ⟨g, k, none⟩ (.bool v)) g t (arr fun i => if i = k then v else f i) := by
  rw [← arr_set]; exact h.set k _
/-- The bits of a number of 128 bits. -/
def bv (x : BitVec 128) : Array Value := arr fun i => x.getLsbD i
/-- One bit of a word, as the code asks for it. -/
theorem bit_word (b : Int) (h : Word b) (k : Nat) : (bits .and .u64 (b / 2 ^ k) 1 == 1) = b.toNat.testBit k := by
  obtain ⟨h0, h1⟩ := h
  obtain ⟨B, rfl⟩ := Int.eq_ofNat_of_zero_le h0
  have e : (B : Int) / 2 ^ k = ((B / 2 ^ k : Nat) : Int) := by simp
  have hle : B / 2 ^ k ≤ B := Nat.div_le_self _ _
  generalize hX : B / 2 ^ k = X at *
  rw [e, and_one _ ⟨by omega, by omega⟩, Int.toNat_natCast, Nat.testBit_eq_decide_div_mod_eq, hX, Bool.eq_iff_iff]
  simp
  omega
theorem getLsbD_two (a b i : Nat) (hb : b < 18446744073709551616) (hi : i < 128) : (BitVec.ofNat 128 (a * 18446744073709551616 + b)).getLsbD i = if i < 64 then b.testBit i else a.testBit (i - 64) := by
  rw [BitVec.getLsbD_ofNat, show a * 18446744073709551616 + b = 2 ^ 64 * a + b by omega, Nat.testBit_two_pow_mul_add _ (by omega)]
  simp [hi]
end Go.Proofs.YtpadjlhleaboaaaGreatDoor
namespace Go.Proofs.YtpadjlhleaboaaaGreatDoor
open Go.RowKit
end Go.Proofs.YtpadjlhleaboaaaGreatDoor
namespace Go.Proofs.YtpadjlhleaboaaaGreatDoor
open Go.RowKit
end Go.Proofs.YtpadjlhleaboaaaGreatDoor
namespace Go.Proofs.YtpadjlhleaboaaaGreatDoor
open Go.RowKit
theorem or_pow (L k : Nat) (hL : L < 2 ^ k) (hk : k < 64) : bits .or .u64 (L : Int) (IntKind.u64.wrap ((2 : Int) ^ k)) = ((L + 2 ^ k : Nat) : Int) := by
  have hp : 2 ^ k ≤ 2 ^ 63 := Nat.pow_le_pow_right (by decide) (by omega)
  have e : IntKind.u64.wrap ((2 : Int) ^ k) = ((2 ^ k : Nat) : Int) := by
    rw [IntKind.wrap_u64, show (2 : Int) ^ k = ((2 ^ k : Nat) : Int) by simp]; omega
  rw [e, bits_or_u64_nat _ _ (by omega) (by omega), Nat.or_comm]
  have := Nat.two_pow_add_eq_or_of_lt hL 1
  rw [Nat.mul_one] at this
  rw [← this, Nat.add_comm]
theorem mod_step (X k : Nat) : X % 2 ^ (k + 1) = X % 2 ^ k + if X.testBit k then 2 ^ k else 0 := by
  rw [Nat.pow_succ, Nat.mod_mul, Nat.testBit_eq_decide_div_mod_eq]
  have : X / 2 ^ k % 2 < 2 := Nat.mod_lt _ (by decide)
  by_cases h : X / 2 ^ k % 2 = 1
  · simp [h]
  · have h0 : X / 2 ^ k % 2 = 0 := by omega
    simp [h0]
end Go.Proofs.YtpadjlhleaboaaaGreatDoor
namespace Go.Proofs.YtpadjlhleaboaaaGreatDoor
open Go.RowKit
instance (x : Int) : Decidable (In64 x) := by unfold In64; exact inferInstance
/-- A number and whether it is an int64; 0 if it is none. -/
def fitT (v : Int) : Value := if In64 v then .tuple #[.int .i64 v, .bool true] else .tuple #[.int .i64 0, .bool false]
theorem fit_yes {v : Int} (h : In64 v) : fitT v = .tuple #[.int .i64 v, .bool true] := if_pos h
theorem fit_no {v : Int} (h : ¬ In64 v) : fitT v = .tuple #[.int .i64 0, .bool false] := if_neg h
theorem fit_is (v : Int) : ∃ (x : Int) (p : Bool), fitT v = .tuple #[.int .i64 x, .bool p] ∧ In64 x ∧ ((p = true ∧ x = v) ∨ (p = false ∧ x = 0 ∧ ¬ In64 v)) := by
  by_cases h : In64 v
  · exact ⟨v, true, fit_yes h, h, .inl ⟨rfl, rfl⟩⟩
  · exact ⟨0, false, fit_no h, ⟨by decide, by decide⟩, .inr ⟨rfl, rfl, h⟩⟩
theorem not64 (n : Int) (h : In64 n) : bits .xor .i64 (-1) n = -1 - n := by
  obtain ⟨h0, h1⟩ := h
  show IntKind.i64.wrap ((BitVec.ofInt 64 (-1) ^^^ BitVec.ofInt 64 n).toNat : Int) = _
  have e1 : BitVec.ofInt 64 (-1) = BitVec.allOnes 64 := by decide
  rw [e1, BitVec.allOnes_xor, BitVec.toNat_not, BitVec.toNat_ofInt, IntKind.wrap_i64]
  omega
/-- What has no sign. -/
def mag (n : Int) : Int := if n < 0 then -n else n
theorem mag_pos {n : Int} (h : 0 ≤ n) : mag n = n := if_neg (by omega)
theorem mag_neg {n : Int} (h : n < 0) : mag n = -n := if_pos h
theorem mag_word {n : Int} (h : In64 n) : Word (mag n) := by obtain ⟨h0, h1⟩ := h; unfold mag; split <;> exact ⟨by omega, by omega⟩
theorem fadd_any (a b : Int) (ha : In64 a) (hb : In64 b) (w : World) :
    Calls Tryz.prog 57 #[.int .i64 a, .int .i64 b] w fun e w' => e = .returned (fitT (a + b)) ∧ Below w.heap.size w w' := by
  obtain ⟨a0, a1⟩ := ha
  obtain ⟨b0, b1⟩ := hb
  by_cases hs : In64 (a + b)
  · rw [fit_yes hs]
    obtain ⟨s0, s1⟩ := hs
    go_enter Tryz.func57, Tryz.ntmps57
    go_wp2
    all_goals first | (exfalso; omega) | go_ret2
    all_goals exact ⟨rfl, Below.refl _ _⟩
  · rw [fit_no hs]
    unfold In64 at hs
    go_enter Tryz.func57, Tryz.ntmps57
    go_wp2
    all_goals first | (exfalso; omega) | go_ret2
    all_goals exact ⟨rfl, Below.refl _ _⟩
def nb (n : Nat) : Nat → Bool := fun i => (BitVec.ofNat 128 n).getLsbD i
end Go.Proofs.YtpadjlhleaboaaaGreatDoor
