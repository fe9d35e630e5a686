/-
  A row of structs: its cells, and what becomes of them. (No Go text.)
-/
import Derived.Test.YtipmhialflincaaDoorSetn
namespace Go.Proofs.YtipmhialflincaaDoor
open Go.RowKit
/-- The cells of a list, sz to each. -/
structure Flt {α : Type} (enc : α → Array Value) (sz : Nat) (c : Array Value) (l : List α) : Prop where
  size : c.size = l.length * sz
  at' : ∀ i x, l[i]? = some x → ∀ (j : Nat) (v : Value), (enc x)[j]? = some v → c[i * sz + j]? = some v
section
variable {α : Type} {enc : α → Array Value} {sz : Nat} {c c' : Array Value} {l : List α}
theorem Flt.set (h : Flt enc sz c l) (he : ∀ x, (enc x).size ≤ sz) (i : Nat) (x : α) (hs : c'.size = c.size) (h1 : ∀ (j : Nat) (v : Value), (enc x)[j]? = some v → c'[i * sz + j]? = some v)
    (h2 : ∀ k, (∀ j, j < sz → k ≠ i * sz + j) → c'[k]? = c[k]?) : Flt enc sz c' (l.set i x) := by
  refine ⟨by rw [hs, List.length_set]; exact h.size, fun i' y hy j v hv => ?_⟩
  have hj : j < sz := Nat.lt_of_lt_of_le (Array.getElem?_eq_some_iff.1 hv).1 (he y)
  rw [List.getElem?_set] at hy
  by_cases hi : i = i'
  · subst hi
    rw [if_pos rfl] at hy
    split at hy
    · cases hy; exact h1 j v hv
    · cases hy
  · rw [if_neg hi] at hy
    rw [h2 _ (fun j' hj' e => hi ?_)]
    · exact h.at' i' y hy j v hv
    · have h3 : (i' * sz + j) / sz = (i * sz + j') / sz := by rw [e]
      rw [Nat.mul_comm i' sz, Nat.mul_comm i sz, Nat.mul_add_div (by omega), Nat.mul_add_div (by omega), Nat.div_eq_of_lt hj, Nat.div_eq_of_lt hj'] at h3
      omega
theorem Flt.lt (h : Flt enc sz c l) {i : Nat} (hi : i < l.length) {j : Nat} (hj : j < sz) : i * sz + j < c.size := by
  rw [h.size]
  calc i * sz + j < i * sz + sz := by omega
    _ = (i + 1) * sz := by rw [Nat.succ_mul]
    _ ≤ l.length * sz := Nat.mul_le_mul_right _ hi
theorem Flt.cell (h : Flt enc sz c l) {w : World} {b : Nat} {t : TypeId} (hB : Blk w b t c) {i : Nat} (hi : i < l.length) {j : Nat} (hj : j < sz) : ∃ v, w.cell? ⟨b, i * sz + j, none⟩ = some v :=
  ⟨_, hB.cell_eq _ _ (Array.getElem?_eq_getElem (h.lt hi hj))⟩
end
theorem Flt.of_rep {α : Type} {enc : α → Array Value} {sz : Nat} (n : Nat) (x : α) (z : Value) (h : ∀ (j : Nat) (v : Value), (enc x)[j]? = some v → j < sz ∧ v = z) : Flt enc sz (List.replicate (n * sz) z).toArray (List.replicate n x) := by
  refine ⟨by simp, fun i y hy j v hv => ?_⟩
  rw [List.getElem?_replicate] at hy
  split at hy
  · rename_i hi
    cases hy
    obtain ⟨h1, rfl⟩ := h j v hv
    have : i * sz + j < n * sz := by
      calc i * sz + j < i * sz + sz := by omega
        _ = (i + 1) * sz := by rw [Nat.succ_mul]
        _ ≤ n * sz := Nat.mul_le_mul_right _ hi
    simp [this]
  · cases hy
end Go.Proofs.YtipmhialflincaaDoor
