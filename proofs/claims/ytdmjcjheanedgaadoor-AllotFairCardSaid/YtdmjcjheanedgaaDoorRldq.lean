/-
  The document's levels: Put of a price that has a level.
-/
import Derived.Test.YtdmjcjheanedgaaDoorRlbq
import Derived.Test.YtdmjcjheanedgaaDoorRlcq
namespace Go.Proofs.YtdmjcjheanedgaaDoor
open Go.RowKit
/-- One cell of what is owned turned. -/
theorem OwG.setc {E : TypeId} {sz : Nat} {w : World} {k : Nat} {ao : Option Addr} {cap n : Nat} {cs : List Value} (h : OwG E sz w (some k) ao cap n cs) (j : Nat) (v : Value) : OwG E sz (w.setCell ⟨k, j, none⟩ v) (some k) ao cap n (cs.set j v) := by
  refine ⟨by rw [List.length_set]; exact h.cells, h.len, h.top, ?_⟩
  rcases h.at' with ⟨h0, _⟩ | ⟨k', cur, h1, h2, h3, h4, h5⟩
  · cases h0
  · cases h1
    have hb : Blk w k E cur := h3
    refine .inr ⟨k, _, rfl, h2, hb.set j v, by simpa using h4, ?_⟩
    rw [← h5, Array.toList_setIfInBounds, List.take_set]
theorem heap_oth (w : World) (p : Addr) (v : Value) {b : Nat} (h : b ≠ p.block) : (w.setCell p v).heap[b]? = w.heap[b]? := by
  simp only [World.setCell, Array.getElem?_modify, if_neg (Ne.symm h)]
theorem lcs_len (L : List Lvl) : (lcs L).length = L.length * 4 := by
  induction L with
  | nil => rfl
  | cons x t ih => simp only [List.flatMap_cons, List.length_append, ih, List.length_cons]; simp; omega
theorem lcs_set (y : Lvl) : ∀ (L : List Lvl) (i : Nat) (x : Lvl), L[i]? = some x → y.price = x.price → y.queue = x.queue →
    lcs (L.set i y) = ((lcs L).set (i * 4 + 1) (.int .i64 y.qty)).set (i * 4 + 2) (.int .i64 y.orders)
  | [], i, x, h, _, _ => by cases h
  | z :: t, 0, x, h, e1, e2 => by
    cases h
    simp [e1, e2]
  | z :: t, i + 1, x, h, e1, e2 => by
    have := lcs_set y t i x h e1 e2
    have e3 : (i + 1) * 4 + 1 = (i * 4 + 1) + 4 := by omega
    have e4 : (i + 1) * 4 + 2 = (i * 4 + 2) + 4 := by omega
    rw [e3, e4]
    simp [this]
section
variable {w w' W : World} {r : Nat} {S T : Nat → Prop} {s : Ld} {ko : Option Nat} {ao : Option Addr} {cap : Nat}
theorem lcs_get {L : List Lvl} : ∀ {i : Nat} {x : Lvl}, L[i]? = some x → ∀ (j : Nat) (v : Value), (cLvl x)[j]? = some v → (lcs L)[i * 4 + j]? = some v := by
  induction L with
  | nil => intro i x hx; cases hx
  | cons z t ih =>
    intro i x hx j v hj
    have hlt : j < 4 := by
      have := (Array.getElem?_eq_some_iff.1 hj).1
      simpa using this
    cases i with
    | zero =>
      cases hx
      show ((cLvl z).toList ++ lcs t)[0 * 4 + j]? = some v
      rw [List.getElem?_append_left (by simp; omega), Nat.zero_mul, Nat.zero_add]
      simpa using hj
    | succ i =>
      have e : (i + 1) * 4 + j - 4 = i * 4 + j := by omega
      show ((cLvl z).toList ++ lcs t)[(i + 1) * 4 + j]? = some v
      rw [List.getElem?_append_right (by simp; omega)]
      have := ih (i := i) (by simpa using hx) j v hj
      simpa [e] using this
end
end Go.Proofs.YtdmjcjheanedgaaDoor
