/-
  What another block's cells, none of them a byte, do not turn: a slice of bytes, a reader.
-/
import Derived.Test.YtbkiipeoabbiiaaOctS
namespace Go.Proofs.Ytbkiipeoabbiiaa
open Go.RowKit
theorem Bt.part {w w' : World} {k b cap : Nat} {ao : Option Addr} {xs : List Nat} {t : TypeId} {cs : Array Value} (h : Bt w k ao cap xs) (hb : Blk w b t cs) (hc : ∀ (i : Nat) (x : Int), cs[i]? ≠ some (.int .u8 x)) (hf : Frm (fun q => q = b) w w') : Bt w' k ao cap xs := by
  refine h.frm hf fun hx e => ?_
  subst e
  rcases h.at' with h0 | ⟨off, _, hc'⟩
  · exact hx h0
  · match xs, hx with
    | x :: _, _ =>
      have h1 := hc' 0 x rfl
      rw [hb.cell] at h1
      exact hc _ _ h1
theorem Rr.part {w w' : World} {g f b : Nat} {xs : List Nat} {t : TypeId} {cs : Array Value} (h : Rr w g xs f) (hb : Blk w b t cs) (hc : ∀ (i : Nat) (x : Int), cs[i]? ≠ some (.int .u8 x)) (hg : g ≠ b) (hf : Frm (fun q => q = b) w w') : Rr w' g xs f := by
  obtain ⟨k, ao, cap, h1, h2, h3⟩ := h
  exact ⟨k, ao, cap, (hf.block g h1.lt hg).trans h1, h2.part hb hc hf, h3⟩
theorem slice_from (k cap : Nat) (ao : Option Addr) (xs : List Nat) (m : Nat) (hm : m ≤ xs.length) (w : World) (hB : Bt w k ao cap xs) :
    ∃ ao2 cap2, (∀ w, (Instr.slice 37 (.slice ao xs.length cap) (some (.int .i64 (m : Int))) none none).run Try.prog w = .ok (.slice ao2 (xs.length - m) cap2) w) ∧ ∀ w', Bt w' k ao cap xs → Bt w' k ao2 cap2 (xs.drop m) := by
  have hl := hB.len
  have ht := hB.top
  unfold maxLen at ht
  by_cases h : cap = m
  · subst h
    refine ⟨ao, 0, fun w => ?_, fun w' h' => h'.dropAll rfl hm⟩
    simp [go_sem, Instr.slice]
    intro h; omega
  · refine ⟨Option.map (fun x => x.add m) ao, cap - m, fun w => ?_, fun w' h' => h'.drop hm⟩
    simp [go_sem, Instr.slice]
    rw [if_pos hm, if_neg h]
end Go.Proofs.Ytbkiipeoabbiiaa
