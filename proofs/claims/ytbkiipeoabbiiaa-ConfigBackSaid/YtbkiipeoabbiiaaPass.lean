/-
  The contracts of a field's number and set, and of pass: each number of a row goes through a function value.
-/
import Derived.Test.YtbkiipeoabbiiaaNm
namespace Go.Proofs.Ytbkiipeoabbiiaa
open Go.RowKit
theorem number_long (a : Addr) (n : Int) (w : World) (h : w.cell? a = some (.int .i64 n)) (ha : a.block < w.heap.size) :
    Calls Try.prog 76 #[.agg #[.pointer (some a), .pointer none]] w fun e w' => e = .returned (.int .i64 n) ∧ Below w.heap.size w w' := by
  have hb0 := fun o => Below.alK (Below.refl w.heap.size w) o
  have h2 : ∀ o, (w.alloc o).cell? a = some (.int .i64 n) := fun o => ((hb0 o).cell ha).trans h
  go_enter Try.func76, Try.ntmps76
  go_wp2
  go_ret
  exact ⟨rfl, hb0 _⟩
theorem number_short (a : Addr) (n : Int) (w : World) (h : w.cell? a = some (.int .i64 n)) (ha : a.block < w.heap.size) :
    Calls Try.prog 76 #[.agg #[.pointer none, .pointer (some a)]] w fun e w' => e = .returned (.int .i64 n) ∧ Below w.heap.size w w' := by
  have hb0 := fun o => Below.alK (Below.refl w.heap.size w) o
  have h2 : ∀ o, (w.alloc o).cell? a = some (.int .i64 n) := fun o => ((hb0 o).cell ha).trans h
  go_enter Try.func76, Try.ntmps76
  go_wp2
  go_ret
  exact ⟨rfl, hb0 _⟩
theorem set_long (a : Addr) (n m : Int) (w : World) (h : w.cell? a = some (.int .i64 m)) (hz : w.frozen? a = false) (ha : a.block < w.heap.size) :
    Calls Try.prog 75 #[.agg #[.pointer (some a), .pointer none], .int .i64 n] w fun e w' => e = .returned (.tuple #[]) ∧ ∃ o, w' = (w.alloc o).setCell a (.int .i64 n) := by
  have hb0 := fun o => Below.alK (Below.refl w.heap.size w) o
  have h2 : ∀ o, (w.alloc o).cell? a = some (.int .i64 m) := fun o => ((hb0 o).cell ha).trans h
  have h3 : ∀ o, (w.alloc o).frozen? a = false := fun o => by rw [← hz]; unfold World.frozen?; rw [Below.heap_alloc _ _ _ ha]
  go_enter Try.func75, Try.ntmps75
  go_wp2
  refine bodyPost_ret (results_none rfl _ _ _) rfl ?_
  exact ⟨rfl, _, rfl⟩
theorem set_short (a : Addr) (n m : Int) (w : World) (h : w.cell? a = some (.int .i64 m)) (hz : w.frozen? a = false) (ha : a.block < w.heap.size) :
    Calls Try.prog 75 #[.agg #[.pointer none, .pointer (some a)], .int .i64 n] w fun e w' => e = .returned (.tuple #[]) ∧ ∃ o, w' = (w.alloc o).setCell a (.int .i64 (if n ≤ 2147483647 then n else 2147483647)) := by
  have hb0 := fun o => Below.alK (Below.refl w.heap.size w) o
  have h2 : ∀ o, (w.alloc o).cell? a = some (.int .i64 m) := fun o => ((hb0 o).cell ha).trans h
  have h3 : ∀ o, (w.alloc o).frozen? a = false := fun o => by rw [← hz]; unfold World.frozen?; rw [Below.heap_alloc _ _ _ ha]
  go_enter Try.func75, Try.ntmps75
  go_wp2
  all_goals go_end0
  all_goals first
    | exact ⟨rfl, _, rfl⟩
    | (exfalso; omega)
    | (rw [if_pos (by omega)]; exact ⟨rfl, _, rfl⟩)
    | (rw [if_neg (by omega)]; exact ⟨rfl, _, rfl⟩)
/-- What becomes of numbers that go through. -/
def passL {σ : Type} (ans : σ → Int → Int) (nx : σ → Int → σ) : List Bool → List Int → σ → List Int × σ
  | k :: ks, v :: vs, s => let r := passL ans nx ks vs (nx s v); ((if k then ans s v else if ans s v ≤ 2147483647 then ans s v else 2147483647) :: r.1, r.2)
  | _, _, s => ([], s)
theorem passL_snoc {σ : Type} (ans : σ → Int → Int) (nx : σ → Int → σ) (k : Bool) (v : Int) : ∀ (ks : List Bool) (vs : List Int) (s : σ), ks.length = vs.length →
    passL ans nx (ks ++ [k]) (vs ++ [v]) s = ((passL ans nx ks vs s).1 ++ [if k then ans (passL ans nx ks vs s).2 v else if ans (passL ans nx ks vs s).2 v ≤ 2147483647 then ans (passL ans nx ks vs s).2 v else 2147483647], nx (passL ans nx ks vs s).2 v)
  | [], [], s, _ => rfl
  | a :: ks, b :: vs, s, h => by
    have ih := passL_snoc ans nx k v ks vs (nx s b) (by simpa using h)
    show (_ :: (passL ans nx (ks ++ [k]) (vs ++ [v]) (nx s b)).1, (passL ans nx (ks ++ [k]) (vs ++ [v]) (nx s b)).2) = _
    rw [ih]
    rfl
  | [], _ :: _, _, h => by simp at h
  | _ :: _, [], _, h => by simp at h
theorem passL_fuel {σ : Type} {fu : σ → Nat} (ans : σ → Int → Int) (nx : σ → Int → σ) (h : ∀ s n, fu s ≤ fu (nx s n) + 1) : ∀ (ks : List Bool) (vs : List Int) (s : σ), fu s ≤ fu (passL ans nx ks vs s).2 + ks.length
  | [], _, s => by simp [passL]
  | _ :: _, [], s => by simp [passL]
  | a :: ks, b :: vs, s => by
    have h1 := h s b
    have h2 := passL_fuel ans nx h ks vs (nx s b)
    simp only [passL, List.length_cons]
    omega
theorem passL_length {σ : Type} (ans : σ → Int → Int) (nx : σ → Int → σ) : ∀ (ks : List Bool) (vs : List Int) (s : σ), ks.length = vs.length → (passL ans nx ks vs s).1.length = vs.length
  | [], [], s, _ => rfl
  | a :: ks, b :: vs, s, h => by simp only [passL, List.length_cons]; rw [passL_length ans nx ks vs _ (by simpa using h)]
  | [], _ :: _, _, h => by simp at h
  | _ :: _, [], _, h => by simp at h
end Go.Proofs.Ytbkiipeoabbiiaa
