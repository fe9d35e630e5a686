/-
  A slice of integers of one kind, to be read.
-/
import Derived.Test.YteljjjdejjkgfaaAppq
import Derived.ProofKit
import Derived.OpenShut
import Derived.Deep.Slices
namespace Go.Proofs.Yteljjjdejjkgfaa
open Go.RowKit Go.ChangeShapes Go.WideShapes Go.ChangeAt Go.Deep
/-- A slice of integers of one kind, to be read. -/
structure It (kd : IntKind) (w : World) (ao : Option Addr) (cap : Nat) (zs : List Int) : Prop where
  len : zs.length ≤ cap
  top : cap ≤ maxLen
  bare : ao = none → cap = 0
  wf : ∀ z ∈ zs, (Lit.int kd z).wf = true
  at' : zs = [] ∨ ∃ b off, ao = some ⟨b, off, none⟩ ∧ ∀ (i : Nat) (z : Int), zs[i]? = some z → w.cell? ⟨b, off + i, none⟩ = some (.int kd z)
theorem It.get {kd : IntKind} {w : World} {ao : Option Addr} {cap : Nat} {zs : List Int} (h : It kd w ao cap zs) {i : Nat} {z : Int} (hi : zs[i]? = some z) :
    ∃ b off, ao = some ⟨b, off, none⟩ ∧ ∀ w', Below w.heap.size w w' → w'.cell? ⟨b, off + i, none⟩ = some (.int kd z) := by
  rcases h.at' with h0 | ⟨b, off, ha, hl⟩
  · subst h0; simp at hi
  · have hc := hl i z hi
    have hlt : b < w.heap.size := World.block_lt_of_cell? w ⟨b, off + i, none⟩ hc
    exact ⟨b, off, ha, fun w' hb => (World.cell?_of_block (a := ⟨b, off + i, none⟩) (hb.block b hlt)).trans hc⟩
theorem It.nil (kd : IntKind) (w : World) : It kd w none 0 [] := ⟨Nat.le_refl _, Nat.zero_le _, fun _ => rfl, by simp, .inl rfl⟩
/-- What turns no cell of the slice's block. -/
theorem It.keep {kd : IntKind} {w w' : World} {ao : Option Addr} {cap : Nat} {zs : List Int} (h : It kd w ao cap zs) (hk : ∀ b off, ao = some ⟨b, off, none⟩ → w'.heap[b]? = w.heap[b]?) : It kd w' ao cap zs := by
  refine ⟨h.len, h.top, h.bare, h.wf, ?_⟩
  rcases h.at' with h0 | ⟨b, off, ha, hl⟩
  · exact .inl h0
  · exact .inr ⟨b, off, ha, fun i z hi => (World.cell?_of_block (a := ⟨b, off + i, none⟩) (hk b off ha)).trans (hl i z hi)⟩
theorem It.below {kd : IntKind} {w w' : World} {ao : Option Addr} {cap : Nat} {zs : List Int} (h : It kd w ao cap zs) (hb : Below w.heap.size w w') : It kd w' ao cap zs := by
  refine ⟨h.len, h.top, h.bare, h.wf, ?_⟩
  rcases h.at' with h0 | ⟨b, off, ha, hl⟩
  · exact .inl h0
  · refine .inr ⟨b, off, ha, fun i z hi => ?_⟩
    have hc := hl i z hi
    have hlt : b < w.heap.size := World.block_lt_of_cell? w ⟨b, off + i, none⟩ hc
    exact (World.cell?_of_block (a := ⟨b, off + i, none⟩) (hb.block b hlt)).trans hc
/-- All but the last ones. -/
theorem It.take {kd : IntKind} {w : World} {ao : Option Addr} {cap : Nat} {zs : List Int} (h : It kd w ao cap zs) (m : Nat) : It kd w ao cap (zs.take m) := by
  refine ⟨Nat.le_trans (List.length_take_le' _ _) h.len, h.top, h.bare, fun z hz => h.wf z (List.mem_of_mem_take hz), ?_⟩
  rcases h.at' with h0 | ⟨b, off, ha, hl⟩
  · exact .inl (by rw [h0]; simp)
  · refine .inr ⟨b, off, ha, fun i z hi => hl i z ?_⟩
    rw [List.getElem?_take] at hi
    split at hi
    · exact hi
    · cases hi
/-- What is owned is read. -/
theorem It.of_own {kd : IntKind} {E : TypeId} {w : World} {ko : Option Nat} {ao : Option Addr} {cap : Nat} {zs : List Int} (hw : ∀ z ∈ zs, (Lit.int kd z).wf = true) (h : OwG E 1 w ko ao cap zs.length (zs.map (Value.int kd))) : It kd w ao cap zs := by
  refine ⟨h.len, h.top, fun e => ?_, hw, ?_⟩
  · rcases h.at' with ⟨-, -, h0⟩ | ⟨k, cur, -, h1, -⟩
    · exact h0
    · rw [h1] at e; cases e
  · cases zs with
    | nil => exact .inl rfl
    | cons x t =>
      obtain ⟨k, _, hao, _, _⟩ := h.cell 0 (.int kd x) rfl
      refine .inr ⟨k, 0, hao, fun i z hi => ?_⟩
      obtain ⟨k2, _, hao2, hc, _⟩ := h.cell i (.int kd z) (by rw [List.getElem?_map, hi]; rfl)
      rw [hao] at hao2
      cases hao2
      rw [Nat.zero_add]
      exact hc
/-- It is appended elsewhere. -/
theorem It.src {kd : IntKind} {w : World} {ao : Option Addr} {cap : Nat} {zs : List Int} (h : It kd w ao cap zs) : SrcG 1 w ao cap zs.length (zs.map (Value.int kd)) := by
  refine ⟨by simp, fun u hu => ?_, ?_⟩
  · obtain ⟨z, -, rfl⟩ := List.mem_map.1 hu
    rfl
  · cases ao with
    | none => exact .inl ⟨rfl, h.bare rfl, by have := h.len; have := h.bare rfl; omega⟩
    | some a =>
      refine .inr ⟨a, rfl, fun j u hj => ?_⟩
      rw [List.getElem?_map, Option.map_eq_some_iff] at hj
      obtain ⟨z, hz, rfl⟩ := hj
      rcases h.at' with h0 | ⟨b, off, ha, hl⟩
      · rw [h0] at hz; simp at hz
      · cases ha
        rw [Addr.add_mid]
        exact hl j z hz
section
variable {H : Type} {enc' : TypeId × Value → H} {w : World} {base : Nat} {spare : Nat → Bool} {held : Bool}
theorem open_nums {T E : TypeId} {kd : IntKind} (hT : Try.prog.underlying T = some (.slice E)) (hE : Try.prog.underlying E = some (.int kd)) (hc : Try.prog.cellsOf E = 1) {fuel : Nat} {cs : List Value} {x : DataW H × List MemPlace} (h : DataW.trod enc' Try.prog w base spare held fuel T cs = some x) :
    ∃ (ao : Option Addr) (cap : Nat) (zs : List Int), cs = [.slice ao zs.length cap] ∧ It kd w ao cap zs := by
  rcases open_ints hT hE hc h with ⟨rfl, _⟩ | ⟨a, len, cap, zs, rfl, _, hl, hm, hz, _, hcell, hwz⟩
  · exact ⟨none, 0, [], rfl, ⟨Nat.le_refl _, Nat.zero_le _, fun _ => rfl, by simp, .inl rfl⟩⟩
  · have hlz : len ≤ zs.length := by rw [hz]; split <;> omega
    have hlen : (zs.take len).length = len := by rw [List.length_take]; omega
    by_cases h0 : len = 0
    · subst h0
      exact ⟨some a, cap, [], rfl, ⟨Nat.zero_le _, hm, fun e => (by cases e), by simp, .inl rfl⟩⟩
    · obtain ⟨b, off, rfl, hc'⟩ := ints_at hcell (by omega)
      refine ⟨some ⟨b, off, none⟩, cap, zs.take len, by rw [hlen], ⟨by rw [hlen]; exact hl, hm, fun e => (by cases e), fun z hz' => hwz z (List.mem_of_mem_take hz'), .inr ⟨b, off, rfl, fun j z hj => ?_⟩⟩⟩
      rw [List.getElem?_take] at hj
      split at hj
      · rename_i hjl
        rw [hc' j (by omega), List.getD_eq_getElem?_getD, hj]
        rfl
      · cases hj
end
end Go.Proofs.Yteljjjdejjkgfaa
