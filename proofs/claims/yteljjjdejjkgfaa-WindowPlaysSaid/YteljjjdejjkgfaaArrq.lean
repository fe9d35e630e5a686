/-
  Arrays of 128 bools as numbers of 128 bits, and what reads and writes them whole. Plain facts on bits besides.
-/
import Derived.Test.YteljjjdejjkgfaaMemq
import Derived.Test.YteljjjdejjkgfaaNumq
import Derived.Test.YteljjjdejjkgfaaProg
import Derived.WalkKit
namespace Go.Proofs.Yteljjjdejjkgfaa
open Go.RowKit
/-- 128 cells, each a bool. -/
def arr (f : Nat → Bool) : Array Value := ((List.range 128).map fun i => Value.bool (f i)).toArray
theorem arr_size (f : Nat → Bool) : (arr f).size = 128 := by simp [arr]
theorem arr_get (f : Nat → Bool) (k : Nat) (hk : k < 128) : (arr f)[k]? = some (.bool (f k)) := by simp [arr, hk]
theorem arr_congr {f g : Nat → Bool} (h : ∀ i, i < 128 → f i = g i) : arr f = arr g := by
  unfold arr; congr 1; apply List.map_congr_left; intro i hi; rw [h i (by simpa using hi)]
theorem arr_set (f : Nat → Bool) (k : Nat) (v : Bool) : (arr f).setIfInBounds k (.bool v) = arr fun i => if i = k then v else f i := by
  apply Array.ext_getElem?
  intro i
  rw [Array.getElem?_setIfInBounds]
  by_cases hi : i < 128
  · rw [arr_get _ _ hi]
    by_cases hk : k = i
    · subst hk; rw [arr_get _ _ hi]; simp [arr_size, hi]
    · rw [if_neg hk, arr_get _ _ hi, if_neg (fun e => hk e.symm)]
  · have h1 : (arr f)[i]? = none := Array.getElem?_eq_none (by rw [arr_size]; omega)
    have h2 : (arr fun i => if i = k then v else f i)[i]? = none := Array.getElem?_eq_none (by rw [arr_size]; omega)
    rw [h1, h2]
    by_cases hk : k = i
    · subst hk; simp [arr_size, hi]
    · rw [if_neg hk]
theorem arr_one (f : Nat → Bool) : (arr f).all (·.oneCell') = true := by
  rw [Array.all_eq_true_iff_forall_mem]
  intro v hv
  simp [arr] at hv
  obtain ⟨i, -, rfl⟩ := hv
  rfl
theorem info28 : (Try.prog.info? 70).map (fun i => (i.zero, i.size)) = some (some (.agg (arr fun _ => false)), 128) := by kernel_rfl
theorem zero28 : ∀ w, (zeroValue 70).run Try.prog w = .ok (.agg (arr fun _ => false)) w := (zero_of_info info28).1
theorem size28 : (Try.prog.info? 70).map (·.size) = some 128 := (zero_of_info info28).2
theorem under28 : Try.prog.underlying 70 = some (.array 128 4) := by kernel_rfl
theorem Blk.bit {w : World} {g : Nat} {t : TypeId} {f : Nat → Bool} (h : Blk w g t (arr f)) (k : Nat) (hk : k < 128) : w.cell? ⟨g, k, none⟩ = some (.bool (f k)) := h.cell_eq k _ (arr_get f k hk)
theorem Blk.putBit {w : World} {g : Nat} {t : TypeId} {f : Nat → Bool} (h : Blk w g t (arr f)) (k : Nat) (v : Bool) : Blk (w.setCell ⟨g, k, none⟩ (.bool v)) g t (arr fun i => if i = k then v else f i) := by
  rw [← arr_set]; exact h.set k _
/-- The bits of a number of 128 bits. -/
def bv (x : BitVec 128) : Array Value := arr fun i => x.getLsbD i
/-- A whole array is read. -/
theorem ld28 {ops : Array Oper} {rest : List Oper} {o : Oper} {a : Act} {w : World} {Q : Exit → Act → World → Prop} (hgd : o.guard = none) (x : Operand) (ho : o.op = .load 70 x)
    (g : Nat) (hx : a.eval x = .pointer (some ⟨g, 0, none⟩)) (f : Nat → Bool) (hg : Blk w g 70 (arr f))
    (h : wpList Try.prog ops Q rest (a.put o.dst (.agg (arr f))) w) : wpList Try.prog ops Q (o :: rest) a w :=
  wpList_load_row hgd _ x ho g hx _ _ _ _ hg under28 rfl (by rw [arr_size]; exact size28) h
/-- A whole array is stored. -/
theorem st28 {ops : Array Oper} {rest : List Oper} {o : Oper} {a : Act} {w : World} {Q : Exit → Act → World → Prop} (hgd : o.guard = none) (x y : Operand) (ho : o.op = .store 70 x y)
    (g : Nat) (f old : Nat → Bool) (hx : a.eval x = .pointer (some ⟨g, 0, none⟩)) (hy : a.eval y = .agg (arr f)) (hg : Blk w g 70 (arr old))
    (h : wpList Try.prog ops Q rest (a.put o.dst undef) (w.setRow g (arr f))) : wpList Try.prog ops Q (o :: rest) a w :=
  wpList_store_row hgd _ x y ho g (arr f) hx hy _ _ hg (by rw [arr_size]; exact size28) (by rw [arr_size, arr_size]) (arr_one f) h
/-- A whole array as a result. -/
theorem res28 (w : World) (g : Nat) (f : Nat → Bool) (hg : Blk w g 70 (arr f)) : (loadVar 70 ⟨g, 0, none⟩).run Try.prog w = .ok (.agg (arr f)) w :=
  run_loadVar_row w g _ _ _ _ _ hg under28 rfl (by rw [arr_size]; exact size28)
/-- One bit of a word, as the code asks for it. -/
theorem bit_word (b : Int) (h : Word b) (k : Nat) : (bits .and .u64 (b / 2 ^ k) 1 == 1) = b.toNat.testBit k := by
  obtain ⟨h0, h1⟩ := h
  obtain ⟨B, rfl⟩ := Int.eq_ofNat_of_zero_le h0
  have e : (B : Int) / 2 ^ k = ((B / 2 ^ k : Nat) : Int) := by simp
  have hle : B / 2 ^ k ≤ B := Nat.div_le_self _ _
  generalize hX : B / 2 ^ k = X at *
  rw [e, and_one _ ⟨by omega, by omega⟩, Int.toNat_natCast, Nat.testBit_eq_decide_div_mod_eq, hX, Bool.eq_iff_iff]
  simp
  omega
theorem getLsbD_two (a b i : Nat) (hb : b < 18446744073709551616) (hi : i < 128) : (BitVec.ofNat 128 (a * 18446744073709551616 + b)).getLsbD i = if i < 64 then b.testBit i else a.testBit (i - 64) := by
  rw [BitVec.getLsbD_ofNat, show a * 18446744073709551616 + b = 2 ^ 64 * a + b by omega, Nat.testBit_two_pow_mul_add _ (by omega)]
  simp [hi]
end Go.Proofs.Yteljjjdejjkgfaa
