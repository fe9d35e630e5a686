/-
  Some cells of one block, set one behind the other. (No Go text.)
-/
import Derived.Test.YtipmhialflincaaDoorMem
import Derived.Test.YtipmhialflincaaDoorByt
namespace Go.Proofs.YtipmhialflincaaDoor
open Go.RowKit
/-- The cells behind the stores. -/
def setN (c : Array Value) : List (Nat × Value) → Array Value
  | [] => c
  | p :: r => setN (c.setIfInBounds p.1 p.2) r
/-- The world behind the stores. -/
def setW (w : World) (g : Nat) : List (Nat × Value) → World
  | [] => w
  | p :: r => setW (w.setCell ⟨g, p.1, none⟩ p.2) g r
theorem Blk.setN {w : World} {g : Nat} {t : TypeId} {c : Array Value} (l : List (Nat × Value)) (h : Blk w g t c) : Blk (setW w g l) g t (setN c l) := by
  induction l generalizing w c with
  | nil => exact h
  | cons p r ih => exact ih (h.set p.1 p.2)
theorem Blk.setNo {w : World} {g b : Nat} {t : TypeId} {c : Array Value} (h : Blk w g t c) (l : List (Nat × Value)) (hb : b ≠ g) : Blk (setW w b l) g t c := by
  induction l generalizing w with
  | nil => exact h
  | cons p r ih => exact ih (h.other (a := ⟨b, p.1, none⟩) hb p.2)
theorem Frm.setW {S : Nat → Prop} {w0 w : World} {g : Nat} (l : List (Nat × Value)) (h : Frm S w0 w) (hg : S g ∨ w0.heap.size ≤ g) : Frm S w0 (setW w g l) := by
  induction l generalizing w with
  | nil => exact h
  | cons p r ih => exact ih (h.setCell _ _ hg)
theorem setN_size (c : Array Value) (l : List (Nat × Value)) : (setN c l).size = c.size := by
  induction l generalizing c with
  | nil => rfl
  | cons p r ih => rw [setN, ih]; simp
theorem setN_not (c : Array Value) (l : List (Nat × Value)) (k : Nat) (h : ∀ p ∈ l, p.1 ≠ k) : (setN c l)[k]? = c[k]? := by
  induction l generalizing c with
  | nil => rfl
  | cons p r ih =>
    rw [setN, ih _ (fun q hq => h q (List.mem_cons_of_mem _ hq)), Array.getElem?_setIfInBounds, if_neg (h p (by simp))]
theorem setN_mem (c : Array Value) (l : List (Nat × Value)) (k : Nat) (v : Value) (hd : (l.map (·.1)).Nodup) (h : (k, v) ∈ l) (hk : k < c.size) : (setN c l)[k]? = some v := by
  induction l generalizing c with
  | nil => simp at h
  | cons p r ih =>
    rw [List.map_cons, List.nodup_cons] at hd
    rcases List.mem_cons.1 h with rfl | h
    · rw [setN, setN_not _ _ _ (fun q hq e => hd.1 (by simp only [List.mem_map]; exact ⟨q, hq, e⟩)), Array.getElem?_setIfInBounds, if_pos rfl, if_pos hk]
    · rw [setN]
      exact ih _ hd.2 h (by simpa using hk)
end Go.Proofs.YtipmhialflincaaDoor
