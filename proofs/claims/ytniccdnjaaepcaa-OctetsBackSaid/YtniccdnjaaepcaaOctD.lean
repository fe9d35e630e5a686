/-
  From an argument's reading to what the walks ask: a slice of bytes, a list of parts.
-/
import Derived.Test.YtniccdnjaaepcaaOctL
import Derived.ProofKit
import Derived.OpenShut
import Derived.Deep.Slices
namespace Go.Proofs.Ytniccdnjaaepcaa
open Go.RowKit Go.ChangeShapes Go.WideShapes Go.ChangeAt Go.Deep
theorem cellsU8 : Try.prog.cellsOf 5 = 1 := by kernel_rfl
theorem cellsInt : Try.prog.cellsOf 3 = 1 := by kernel_rfl
theorem cellsU64 : Try.prog.cellsOf 30 = 1 := by kernel_rfl
theorem cellsI64 : Try.prog.cellsOf 2 = 1 := by kernel_rfl
theorem cellsBytes : Try.prog.cellsOf 25 = 1 := by kernel_rfl
theorem cellsPart : Try.prog.cellsOf 32 = 5 := by kernel_rfl
section
variable {H : Type} {enc' : TypeId × Value → H} {w : World} {base : Nat} {spare : Nat → Bool} {held : Bool}
/-- A slice of bytes that came in. -/
theorem open_bytes {fuel : Nat} {cs : List Value} {x : DataW H × List MemPlace} (h : DataW.trod enc' Try.prog w base spare held fuel 25 cs = some x) :
    ∃ (k : Nat) (ao : Option Addr) (cap : Nat) (xs : List Nat), cs = [.slice ao xs.length cap] ∧ Bt w k ao cap xs := by
  rcases open_ints Try.underlying25 Try.underlying5 cellsU8 h with ⟨rfl, _⟩ | ⟨a, len, cap, zs, rfl, _, hl, hm, hz, _, hcell, hwz⟩
  · exact ⟨0, none, 0, [], rfl, Bt.nil _ _⟩
  · have hlz : len ≤ zs.length := by rw [hz]; split <;> omega
    have hb : ∀ n ∈ zs, 0 ≤ n ∧ n < 256 := fun n hn => by
      have := hwz n hn
      simp [Lit.wf, IntKind.min, IntKind.max, IntKind.signed, IntKind.bits] at this
      omega
    have hlen : ((zs.take len).map Int.toNat).length = len := by rw [List.length_map, List.length_take]; omega
    have hlt : ∀ x ∈ (zs.take len).map Int.toNat, x < 256 := by
      intro x hx
      obtain ⟨n, hn, rfl⟩ := List.mem_map.1 hx
      have := hb n (List.mem_of_mem_take hn)
      omega
    by_cases h0 : len = 0
    · subst h0
      exact ⟨0, some a, cap, [], rfl, ⟨Nat.zero_le _, hm, fun e => (by cases e), by simp, .inl rfl⟩⟩
    · obtain ⟨b, off, rfl, hc⟩ := ints_at hcell (by omega)
      refine ⟨b, some ⟨b, off, none⟩, cap, (zs.take len).map Int.toNat, by rw [hlen], ⟨by rw [hlen]; exact hl, hm, fun e => (by cases e), hlt, .inr ⟨off, rfl, fun j x hj => ?_⟩⟩⟩
      rw [List.getElem?_map, List.getElem?_take] at hj
      split at hj
      · rename_i hjl
        rw [Option.map_eq_some_iff] at hj
        obtain ⟨n, hn, rfl⟩ := hj
        have hn0 := hb n (List.mem_of_getElem? hn)
        rw [hc j (by omega), List.getD_eq_getElem?_getD, hn]
        show some (Value.int .u8 n) = some (Value.int .u8 ((n.toNat : Nat) : Int))
        rw [Int.toNat_of_nonneg hn0.1]
      · cases hj
/-- One part that came in. -/
theorem open_part {fuel : Nat} {cs : List Value} {x : DataW H × List MemPlace} (h : DataW.trod enc' Try.prog w base spare held fuel 32 cs = some x) :
    ∃ (p : Prt) (k : Nat) (ro : Option Addr) (rc : Nat), p.Fit ∧ Bt w k ro rc p.raw ∧ cs = [.int .i64 p.kind, .int .i64 p.size, .int .u64 (p.n : Int), .int .i64 p.s, .slice ro p.raw.length rc] := by
  obtain ⟨xs, n, _, _, hl, hlen, hf⟩ := DataW.trod_struct Try.underlying32 h
  rw [cellsPart] at hl
  match cs, hl, xs, hlen with
  | [v0, v1, v2, v3, v4], _, [y0, y1, y2, y3, y4], _ =>
    have f0 : DataW.trod enc' Try.prog w base spare held n 3 [v0] = some y0 := by
      have h0 : DataW.trod enc' Try.prog w base spare held n 3 (([v0, v1, v2, v3, v4].drop 0).take (Try.prog.cellsOf 3)) = some y0 := hf 0 _ rfl
      rw [cellsInt] at h0
      exact h0
    have f1 : DataW.trod enc' Try.prog w base spare held n 3 [v1] = some y1 := by
      have h0 : DataW.trod enc' Try.prog w base spare held n 3 (([v0, v1, v2, v3, v4].drop 1).take (Try.prog.cellsOf 3)) = some y1 := hf 1 _ rfl
      rw [cellsInt] at h0
      exact h0
    have f2 : DataW.trod enc' Try.prog w base spare held n 30 [v2] = some y2 := by
      have h0 : DataW.trod enc' Try.prog w base spare held n 30 (([v0, v1, v2, v3, v4].drop 2).take (Try.prog.cellsOf 30)) = some y2 := hf 2 _ rfl
      rw [cellsU64] at h0
      exact h0
    have f3 : DataW.trod enc' Try.prog w base spare held n 2 [v3] = some y3 := by
      have h0 : DataW.trod enc' Try.prog w base spare held n 2 (([v0, v1, v2, v3, v4].drop 3).take (Try.prog.cellsOf 2)) = some y3 := hf 3 _ rfl
      rw [cellsI64] at h0
      exact h0
    have f4 : DataW.trod enc' Try.prog w base spare held n 25 [v4] = some y4 := by
      have h0 : DataW.trod enc' Try.prog w base spare held n 25 (([v0, v1, v2, v3, v4].drop 4).take (Try.prog.cellsOf 25)) = some y4 := hf 4 _ rfl
      rw [cellsBytes] at h0
      exact h0
    obtain ⟨a0, e0, _, w0⟩ := DataW.trod_int Try.underlying3 f0
    obtain ⟨a1, e1, _, w1⟩ := DataW.trod_int Try.underlying3 f1
    obtain ⟨a2, e2, _, w2⟩ := DataW.trod_int Try.underlying30 f2
    obtain ⟨a3, e3, _, w3⟩ := DataW.trod_int Try.underlying2 f3
    obtain ⟨k, ro, rc, raw, e4, hB⟩ := open_bytes f4
    simp only [List.cons.injEq, and_true] at e0 e1 e2 e3 e4
    subst e0 e1 e2 e3 e4
    simp [Lit.wf, IntKind.min, IntKind.max, IntKind.signed, IntKind.bits] at w1 w2 w3
    have e : ((a2.toNat : Nat) : Int) = a2 := Int.toNat_of_nonneg (by omega)
    exact ⟨⟨a0, a1, a2.toNat, a3, raw⟩, k, ro, rc, ⟨by show a2.toNat < _; omega, by show _ ≤ a3; omega, by show a3 < _; omega, by show a1 < _; omega⟩, hB, by simp only [e]⟩
/-- A list of parts that came in. -/
theorem open_parts {fuel : Nat} {cs : List Value} {x : DataW H × List MemPlace} (h : DataW.trod enc' Try.prog w base spare held fuel 22 cs = some x) :
    ∃ (ao : Option Addr) (cap : Nat) (ps : List Prt), cs = [.slice ao ps.length cap] ∧ Pl w ao cap ps := by
  rcases open_slice Try.underlying22 h with ⟨rfl, _⟩ | ⟨a, len, cap, m, n, D, Pl', rfl, _, hl, hm, hmm, _, hx⟩
  · exact ⟨none, 0, [], rfl, ⟨Nat.le_refl _, Nat.zero_le _, .inl rfl⟩⟩
  · have hlm : len ≤ m := by rw [hmm]; split <;> omega
    have each : ∀ i, i < len → ∃ p : Prt, p.Fit ∧ ∃ k ro rc, Bt w k ro rc p.raw ∧ w.cells? base (a.add (i * 5)) 5 = some [.int .i64 p.kind, .int .i64 p.size, .int .u64 (p.n : Int), .int .i64 p.s, .slice ro p.raw.length rc] := by
      intro i hi
      obtain ⟨cs', h1, h2⟩ := hx i (by omega)
      rw [cellsPart] at h1
      obtain ⟨p, k, ro, rc, hp, hB, rfl⟩ := open_part h2
      exact ⟨p, hp, k, ro, rc, hB, h1⟩
    by_cases h0 : len = 0
    · subst h0
      exact ⟨some a, cap, [], rfl, ⟨Nat.zero_le _, hm, .inl rfl⟩⟩
    · have : Inhabited Prt := ⟨⟨0, 0, 0, 0, []⟩⟩
      obtain ⟨f, hfam⟩ := choose_lt each
      obtain ⟨b, off, rfl⟩ : ∃ b off, a = ⟨b, off, none⟩ := by
        obtain ⟨_, k, ro, rc, _, hc⟩ := hfam 0 (by omega)
        obtain ⟨_, _, hcell⟩ := World.cells?_some hc
        have h1 := hcell 0 (by omega)
        obtain ⟨b, off, spot⟩ := a
        have hspot : spot = none := by simpa [Addr.add] using World.cell?_spot h1
        subst hspot
        exact ⟨b, off, rfl⟩
      refine ⟨some ⟨b, off, none⟩, cap, (List.range len).map f, by simp, ⟨by simpa using hl, hm, .inr ⟨b, off, rfl, fun i p hp => ?_⟩⟩⟩
      rw [List.getElem?_map, Option.map_eq_some_iff] at hp
      obtain ⟨i', hi', rfl⟩ := hp
      obtain ⟨h1, h2⟩ := List.getElem?_eq_some_iff.1 hi'
      rw [List.length_range] at h1
      rw [List.getElem_range] at h2
      subst h2
      obtain ⟨hp, k, ro, rc, hB, hc⟩ := hfam i h1
      obtain ⟨_, _, hcell⟩ := World.cells?_some hc
      rw [Addr.add_mid] at hcell
      refine ⟨hp, k, ro, rc, hB, ?_, ?_, ?_, ?_, ?_⟩
      · have := hcell 0 (by omega); rw [Addr.add_mid] at this; exact this
      · have := hcell 1 (by omega); rw [Addr.add_mid] at this; exact this
      · have := hcell 2 (by omega); rw [Addr.add_mid] at this; exact this
      · have := hcell 3 (by omega); rw [Addr.add_mid] at this; exact this
      · have := hcell 4 (by omega); rw [Addr.add_mid] at this; exact this
end
end Go.Proofs.Ytniccdnjaaepcaa
