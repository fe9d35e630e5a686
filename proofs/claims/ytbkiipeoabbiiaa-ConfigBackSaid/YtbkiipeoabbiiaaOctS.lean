/-
  The contracts of octets.Reader's Uint, Int, Raw, of NewReader, and of the statements' read and got, for every input.
-/
import Derived.Test.YtbkiipeoabbiiaaOctR
namespace Go.Proofs.Ytbkiipeoabbiiaa
open Go.RowKit

theorem step_fault {kind size : Int} {xs : List Nat} {f : Nat} (h : f ≠ 0) : stepR kind size xs f = ⟨0, 0, [], 0, f⟩ := if_neg h
theorem step1 (k : Int) (xs : List Nat) : stepR 1 k xs 0 = if 1 ≤ k ∧ k ≤ 8 then (if xs.length < k.toNat then ⟨0, 0, [], 0, 3⟩ else ⟨val (xs.take k.toNat), 0, [], k.toNat, 0⟩) else ⟨0, 0, [], 0, 0⟩ := rfl
theorem step2 (k : Int) (xs : List Nat) : stepR 2 k xs 0 = if xs.length < 8 then ⟨0, 0, [], 0, 3⟩ else ⟨0, unzig (val (xs.take 8)), [], 8, 0⟩ := rfl
theorem step4 (k : Int) (xs : List Nat) : stepR 4 k xs 0 = if k < 0 then ⟨0, 0, [], 0, 0⟩ else if xs.length < k.toNat then ⟨0, 0, [], 0, 3⟩ else ⟨0, 0, xs.take k.toNat, k.toNat, 0⟩ := rfl
theorem tk_ok {n : Nat} {xs : List Nat} (h : ¬ xs.length < n) : tk n xs 0 = (xs.take n, xs.drop n, 0) := by unfold tk; rw [if_neg (by simp), if_neg h]
theorem tk_short {n : Nat} {xs : List Nat} (h : xs.length < n) : tk n xs 0 = ([], xs, 3) := by unfold tk; rw [if_neg (by simp), if_pos h]
theorem tk_fault {n : Nat} {xs : List Nat} {f : Nat} (h : f ≠ 0) : tk n xs f = ([], xs, f) := if_pos h
theorem rnum_nil (W : World) :
    Calls Try.prog 51 #[.pointer none] W fun e w' => e = .returned (.int .u64 0) ∧ W = w' := by
  have cF := fault_nil W
  go_enter Try.func51, Try.ntmps51
  go_wp2_with (go_at_call 52; refine cF.mono ?_; rintro e w1 ⟨rfl, rfl⟩)
  go_ret
  exact ⟨rfl, rfl⟩
/-- A slice of the bytes xs that no block of S holds. -/
theorem Bt.apart {w : World} {k cap : Nat} {ao : Option Addr} {xs : List Nat} (h : Bt w k ao cap xs) (g : Nat) (hg : w.heap.size ≤ g) : ∃ k2, Bt w k2 ao cap xs ∧ g ≠ k2 := by
  by_cases hx : xs = []
  · exact ⟨g + 1, ⟨h.len, h.top, h.bare, h.lt, .inl hx⟩, by omega⟩
  · have := h.size hx
    exact ⟨k, h, by omega⟩
theorem newReader_any (k cap : Nat) (ao : Option Addr) (xs : List Nat) (hx : xs.length ≤ 2000000) (W : World) (hB : Bt W k ao cap xs) :
    Calls Try.prog 49 #[.slice ao xs.length cap] W fun e w' => ∃ g, e = .returned (.pointer (some ⟨g, 0, none⟩)) ∧ Rr w' g xs 0 ∧ Below W.heap.size W w' ∧ W.heap.size ≤ g := by
  have cC := clone_any k cap ao xs hx W hB
  go_enter Try.func49, Try.ntmps49
  go_wp2_with (go_at_call 70; refine cC.mono ?_; rintro e w1 ⟨v, rfl, ao', cap', k', rfl, hB', hb', hk'⟩)
  go_ret
  obtain ⟨k2, hB2, hne⟩ := hB'.apart w1.heap.size (Nat.le_refl _)
  exact ⟨w1.heap.size, rfl, ⟨k2, ao', cap', Blk.new _ _ _, hB2.alloc _, hne⟩, hb'.alloc hb'.size _, hb'.size⟩
/-- What is read, as Go's value. -/
def rv (r : Res) (ao : Option Addr) (cap : Nat) : Value := .agg #[.int .u64 (r.n : Int), .int .i64 r.s, .slice ao r.raw.length cap, .int .i64 (r.size : Int), .int .i64 (r.f : Int)]
section
variable {w : World} {b : Nat} {t : TypeId} {a0 a1 a2 a3 a4 : Value}
theorem five_cells (h : Blk w b t #[a0, a1, a2, a3, a4]) : w.cell? ⟨b, 0, none⟩ = some a0 ∧ w.cell? ⟨b, 1, none⟩ = some a1 ∧ w.cell? ⟨b, 2, none⟩ = some a2 ∧ w.cell? ⟨b, 3, none⟩ = some a3 ∧ w.cell? ⟨b, 4, none⟩ = some a4 ∧ ∀ i, w.frozen? ⟨b, i, none⟩ = false :=
  ⟨h.cell_eq 0 _ rfl, h.cell_eq 1 _ rfl, h.cell_eq 2 _ rfl, h.cell_eq 3 _ rfl, h.cell_eq 4 _ rfl, h.free⟩
theorem five_alloc (h : Blk w b t #[a0, a1, a2, a3, a4]) : (∀ o, (w.alloc o).cell? ⟨b, 0, none⟩ = some a0) ∧ (∀ o, (w.alloc o).cell? ⟨b, 1, none⟩ = some a1) ∧ (∀ o, (w.alloc o).cell? ⟨b, 2, none⟩ = some a2) ∧ (∀ o, (w.alloc o).cell? ⟨b, 3, none⟩ = some a3) ∧ (∀ o, (w.alloc o).cell? ⟨b, 4, none⟩ = some a4) ∧ ∀ o i, (w.alloc o).frozen? ⟨b, i, none⟩ = false :=
  ⟨fun o => (h.alloc o).cell_eq 0 _ rfl, fun o => (h.alloc o).cell_eq 1 _ rfl, fun o => (h.alloc o).cell_eq 2 _ rfl, fun o => (h.alloc o).cell_eq 3 _ rfl, fun o => (h.alloc o).cell_eq 4 _ rfl, fun o => (h.alloc o).free⟩
theorem five_set (h : Blk w b t #[a0, a1, a2, a3, a4]) (u0 u1 u2 u3 u4 : Value) : Blk (((((w.setCell ⟨b, 0, none⟩ u0).setCell ⟨b, 1, none⟩ u1).setCell ⟨b, 2, none⟩ u2).setCell ⟨b, 3, none⟩ u3).setCell ⟨b, 4, none⟩ u4) b t #[u0, u1, u2, u3, u4] :=
  ((((h.set 0 u0).set 1 u1).set 2 u2).set 3 u3).set 4 u4
theorem five_below {B : Nat} {W : World} (h : Below B W w) (hb : B ≤ b) (u0 u1 u2 u3 u4 : Value) : Below B W (((((w.setCell ⟨b, 0, none⟩ u0).setCell ⟨b, 1, none⟩ u1).setCell ⟨b, 2, none⟩ u2).setCell ⟨b, 3, none⟩ u3).setCell ⟨b, 4, none⟩ u4) :=
  ((((h.setCell hb u0).setCell hb u1).setCell hb u2).setCell hb u3).setCell hb u4
end
end Go.Proofs.Ytbkiipeoabbiiaa
