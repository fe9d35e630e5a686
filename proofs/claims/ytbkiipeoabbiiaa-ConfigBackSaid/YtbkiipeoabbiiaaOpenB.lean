/-
  From an argument's reading to what the walks ask: a slice of bytes.
-/
import Derived.Test.YtbkiipeoabbiiaaByt
import Derived.ProofKit
import Derived.OpenShut
import Derived.Deep.Slices
namespace Go.Proofs.Ytbkiipeoabbiiaa
open Go.RowKit Go.ChangeShapes Go.WideShapes Go.ChangeAt Go.Deep
theorem cellsU8 : Try.prog.cellsOf 5 = 1 := by kernel_rfl
section
variable {H : Type} {enc' : TypeId × Value → H} {w : World} {base : Nat} {spare : Nat → Bool} {held : Bool}
/-- A slice of bytes that came in. -/
theorem open_bytes {fuel : Nat} {cs : List Value} {x : DataW H × List MemPlace} (h : DataW.trod enc' Try.prog w base spare held fuel 37 cs = some x) :
    ∃ (k : Nat) (ao : Option Addr) (cap : Nat) (xs : List Nat), cs = [.slice ao xs.length cap] ∧ Bt w k ao cap xs := by
  rcases open_ints Try.underlying37 Try.underlying5 cellsU8 h with ⟨rfl, _⟩ | ⟨a, len, cap, zs, rfl, _, hl, hm, hz, _, hcell, hwz⟩
  · exact ⟨0, none, 0, [], rfl, Bt.nil _ _⟩
  · have hlz : len ≤ zs.length := by rw [hz]; split <;> omega
    have hb : ∀ n ∈ zs, 0 ≤ n ∧ n < 256 := fun n hn => by
      have := hwz n hn
      simp [Lit.wf, IntKind.min, IntKind.max, IntKind.signed, IntKind.bits] at this
      omega
    have hlen : ((zs.take len).map Int.toNat).length = len := by rw [List.length_map, List.length_take]; omega
    have hlt : ∀ x ∈ (zs.take len).map Int.toNat, x < 256 := by
      intro x hx
      obtain ⟨n, hn, rfl⟩ := List.mem_map.1 hx
      have := hb n (List.mem_of_mem_take hn)
      omega
    by_cases h0 : len = 0
    · subst h0
      exact ⟨0, some a, cap, [], rfl, ⟨Nat.zero_le _, hm, fun e => (by cases e), by simp, .inl rfl⟩⟩
    · obtain ⟨b, off, rfl, hc⟩ := ints_at hcell (by omega)
      refine ⟨b, some ⟨b, off, none⟩, cap, (zs.take len).map Int.toNat, by rw [hlen], ⟨by rw [hlen]; exact hl, hm, fun e => (by cases e), hlt, .inr ⟨off, rfl, fun j x hj => ?_⟩⟩⟩
      rw [List.getElem?_map, List.getElem?_take] at hj
      split at hj
      · rename_i hjl
        rw [Option.map_eq_some_iff] at hj
        obtain ⟨n, hn, rfl⟩ := hj
        have hn0 := hb n (List.mem_of_getElem? hn)
        rw [hc j (by omega), List.getD_eq_getElem?_getD, hn]
        show some (Value.int .u8 n) = some (Value.int .u8 ((n.toNat : Nat) : Int))
        rw [Int.toNat_of_nonneg hn0.1]
      · cases hj
/-- A slice of byte slices, to be read. -/
structure Lb (w : World) (ao : Option Addr) (cap : Nat) (ls : List (List Nat)) : Prop where
  len : ls.length ≤ cap
  top : cap ≤ maxLen
  bare : ao = none → cap = 0
  at' : ls = [] ∨ ∃ b off, ao = some ⟨b, off, none⟩ ∧ ∀ (i : Nat) (xs : List Nat), ls[i]? = some xs → ∃ k eo ec, Bt w k eo ec xs ∧ w.cell? ⟨b, off + i, none⟩ = some (.slice eo xs.length ec)
/-- One of them, in whatever world that has kept what there was. -/
theorem Lb.get {w : World} {ao : Option Addr} {cap : Nat} {ls : List (List Nat)} (h : Lb w ao cap ls) {i : Nat} {xs : List Nat} (hi : ls[i]? = some xs) :
    ∃ b off k eo ec, ao = some ⟨b, off, none⟩ ∧ ∀ w', Below w.heap.size w w' → Bt w' k eo ec xs ∧ w'.cell? ⟨b, off + i, none⟩ = some (.slice eo xs.length ec) := by
  rcases h.at' with h0 | ⟨b, off, ha, hl⟩
  · subst h0; simp at hi
  · obtain ⟨k, eo, ec, hB, hc⟩ := hl i xs hi
    have hlt : b < w.heap.size := World.block_lt_of_cell? w ⟨b, off + i, none⟩ hc
    exact ⟨b, off, k, eo, ec, ha, fun w' hb => ⟨hB.below hb, (World.cell?_of_block (a := ⟨b, off + i, none⟩) (hb.block b hlt)).trans hc⟩⟩
theorem open_lists {T : TypeId} (hT : Try.prog.underlying T = some (.slice 37)) (hc : Try.prog.cellsOf 37 = 1) {fuel : Nat} {cs : List Value} {x : DataW H × List MemPlace} (h : DataW.trod enc' Try.prog w base spare held fuel T cs = some x) :
    ∃ (ao : Option Addr) (cap : Nat) (ls : List (List Nat)), cs = [.slice ao ls.length cap] ∧ Lb w ao cap ls := by
  rcases open_slice1 hT hc h with ⟨rfl, _⟩ | ⟨a, len, cap, m, n, V, D, Pl', rfl, _, hl, hm, hmm, _, hx⟩
  · exact ⟨none, 0, [], rfl, ⟨Nat.le_refl _, Nat.zero_le _, fun _ => rfl, .inl rfl⟩⟩
  · have hlm : len ≤ m := by rw [hmm]; split <;> omega
    have each : ∀ i, i < len → ∃ xs : List Nat, ∃ k eo ec, Bt w k eo ec xs ∧ w.cell? (a.add i) = some (.slice eo xs.length ec) := by
      intro i hi
      obtain ⟨h1, h2⟩ := hx i (by omega)
      obtain ⟨k, eo, ec, xs, h3, hB⟩ := open_bytes h2
      simp only [List.cons.injEq, and_true] at h3
      rw [h3] at h1
      exact ⟨xs, k, eo, ec, hB, h1⟩
    by_cases h0 : len = 0
    · subst h0
      exact ⟨some a, cap, [], rfl, ⟨Nat.zero_le _, hm, fun e => (by cases e), .inl rfl⟩⟩
    · obtain ⟨f, hfam⟩ := choose_lt each
      obtain ⟨b, off, rfl⟩ : ∃ b off, a = ⟨b, off, none⟩ := by
        obtain ⟨k, eo, ec, _, h1⟩ := hfam 0 (by omega)
        obtain ⟨b, off, spot⟩ := a
        have hspot : spot = none := by simpa [Addr.add] using World.cell?_spot h1
        subst hspot
        exact ⟨b, off, rfl⟩
      refine ⟨some ⟨b, off, none⟩, cap, (List.range len).map f, by simp, ⟨by simpa using hl, hm, fun e => (by cases e), .inr ⟨b, off, rfl, fun i xs hi => ?_⟩⟩⟩
      rw [List.getElem?_map, Option.map_eq_some_iff] at hi
      obtain ⟨i', hi', rfl⟩ := hi
      obtain ⟨h1, h2⟩ := List.getElem?_eq_some_iff.1 hi'
      rw [List.length_range] at h1
      rw [List.getElem_range] at h2
      subst h2
      obtain ⟨k, eo, ec, hB, hc'⟩ := hfam i h1
      rw [Addr.add_mid] at hc'
      exact ⟨k, eo, ec, hB, hc'⟩
/-- A slice of integers of one kind, to be read. -/
structure It (kd : IntKind) (w : World) (ao : Option Addr) (cap : Nat) (zs : List Int) : Prop where
  len : zs.length ≤ cap
  top : cap ≤ maxLen
  bare : ao = none → cap = 0
  wf : ∀ z ∈ zs, (Lit.int kd z).wf = true
  at' : zs = [] ∨ ∃ b off, ao = some ⟨b, off, none⟩ ∧ ∀ (i : Nat) (z : Int), zs[i]? = some z → w.cell? ⟨b, off + i, none⟩ = some (.int kd z)
theorem It.get {kd : IntKind} {w : World} {ao : Option Addr} {cap : Nat} {zs : List Int} (h : It kd w ao cap zs) {i : Nat} {z : Int} (hi : zs[i]? = some z) :
    ∃ b off, ao = some ⟨b, off, none⟩ ∧ ∀ w', Below w.heap.size w w' → w'.cell? ⟨b, off + i, none⟩ = some (.int kd z) := by
  rcases h.at' with h0 | ⟨b, off, ha, hl⟩
  · subst h0; simp at hi
  · have hc := hl i z hi
    have hlt : b < w.heap.size := World.block_lt_of_cell? w ⟨b, off + i, none⟩ hc
    exact ⟨b, off, ha, fun w' hb => (World.cell?_of_block (a := ⟨b, off + i, none⟩) (hb.block b hlt)).trans hc⟩
theorem open_nums {T E : TypeId} {kd : IntKind} (hT : Try.prog.underlying T = some (.slice E)) (hE : Try.prog.underlying E = some (.int kd)) (hc : Try.prog.cellsOf E = 1) {fuel : Nat} {cs : List Value} {x : DataW H × List MemPlace} (h : DataW.trod enc' Try.prog w base spare held fuel T cs = some x) :
    ∃ (ao : Option Addr) (cap : Nat) (zs : List Int), cs = [.slice ao zs.length cap] ∧ It kd w ao cap zs := by
  rcases open_ints hT hE hc h with ⟨rfl, _⟩ | ⟨a, len, cap, zs, rfl, _, hl, hm, hz, _, hcell, hwz⟩
  · exact ⟨none, 0, [], rfl, ⟨Nat.le_refl _, Nat.zero_le _, fun _ => rfl, by simp, .inl rfl⟩⟩
  · have hlz : len ≤ zs.length := by rw [hz]; split <;> omega
    have hlen : (zs.take len).length = len := by rw [List.length_take]; omega
    by_cases h0 : len = 0
    · subst h0
      exact ⟨some a, cap, [], rfl, ⟨Nat.zero_le _, hm, fun e => (by cases e), by simp, .inl rfl⟩⟩
    · obtain ⟨b, off, rfl, hc'⟩ := ints_at hcell (by omega)
      refine ⟨some ⟨b, off, none⟩, cap, zs.take len, by rw [hlen], ⟨by rw [hlen]; exact hl, hm, fun e => (by cases e), fun z hz' => hwz z (List.mem_of_mem_take hz'), .inr ⟨b, off, rfl, fun j z hj => ?_⟩⟩⟩
      rw [List.getElem?_take] at hj
      split at hj
      · rename_i hjl
        rw [hc' j (by omega), List.getD_eq_getElem?_getD, hj]
        rfl
      · cases hj
end
end Go.Proofs.Ytbkiipeoabbiiaa
