/-
  The document's book: parts of its row; Remove. (Written by gen/p_rbd.py.)
-/
import Derived.Test.YtdpibjnlpdgdeaaDoorGJ
namespace Go.Proofs.YtdpibjnlpdgdeaaDoor
open Go.RowKit
set_option linter.unusedSimpArgs false
theorem ocs_drop : ∀ (L : List Ord) (m : Nat), ocs (L.drop m) = (ocs L).drop (m * 7)
  | L, 0 => by simp
  | [], m + 1 => by simp
  | x :: t, m + 1 => by
    have e : (m + 1) * 7 = 7 + m * 7 := by omega
    rw [List.drop_succ_cons, ocs_drop t m, e, ← List.drop_drop]
    rfl
theorem ocs_take : ∀ (L : List Ord) (m : Nat), ocs (L.take m) = (ocs L).take (m * 7)
  | L, 0 => by simp
  | [], m + 1 => by simp
  | x :: t, m + 1 => by
    have e : (m + 1) * 7 = m * 7 + 7 := by omega
    have h := ocs_take t m
    rw [e]
    simp [h]
theorem ors_lo {E : TypeId} (ko : Option Nat) (ao : Option Addr) (cap : Nat) (l : List Ord) (m : Nat) (hm : m ≤ l.length) (w : World) (hL : OwG E 7 w ko ao cap l.length (ocs l)) :
    ∃ ao2 cap2, (∀ w, (Instr.slice 22 (.slice ao l.length cap) (some (.int .i64 (m : Int))) none none).run Tryd.prog w = .ok (.slice ao2 (l.length - m) cap2) w) ∧ ∀ w', OwG E 7 w' ko ao cap l.length (ocs l) → SrcG 7 w' ao2 cap2 (l.length - m) (ocs (l.drop m)) := by
  have hl := hL.len
  have ht := hL.top
  unfold maxLen at ht
  have hu := Tryd.underlying22
  have hc := cells_Ord
  have hone : ∀ u ∈ ocs (l.drop m), u.oneCell' = true := ocs_one _
  have hlen : (ocs (l.drop m)).length = (l.length - m) * 7 := by rw [ocs_len, List.length_drop]
  by_cases h : cap = m
  · subst h
    have e : l.length = cap := by omega
    refine ⟨ao, 0, fun w => ?_, fun w' h' => ⟨hlen, hone, ?_⟩⟩
    · simp [go_sem, Instr.slice]
      intro h; omega
    · cases ao with
      | none => exact .inl ⟨rfl, rfl, by omega⟩
      | some a =>
        refine .inr ⟨a, rfl, fun j u hj => ?_⟩
        have hlt := (List.getElem?_eq_some_iff.1 hj).1
        omega
  · refine ⟨Option.map (fun x => x.add (m * 7)) ao, cap - m, fun w => ?_, fun w' h' => ⟨hlen, hone, ?_⟩⟩
    · simp [go_sem, Instr.slice]
      rw [if_pos hm, if_neg h]
    · rcases h'.at' with ⟨-, -, h0⟩ | ⟨k, cur, e1, e2, -⟩
      · omega
      · refine .inr ⟨_, by rw [e2]; rfl, fun j u hj => ?_⟩
        rw [ocs_drop, List.getElem?_drop] at hj
        obtain ⟨k', e3, -, h3, -⟩ := h'.cell _ u hj
        rw [e1] at e3
        cases e3
        show w'.cell? ((Addr.add ⟨k, 0, none⟩ (m * 7)).add j) = some u
        rw [Addr.add_mid, Addr.add_mid, Nat.zero_add]
        exact h3
theorem ors_hi {E : TypeId} (ko : Option Nat) (ao : Option Addr) (cap : Nat) (l : List Ord) (m : Nat) (hm : m ≤ l.length) (w : World) (hL : OwG E 7 w ko ao cap l.length (ocs l)) :
    (∀ w, (Instr.slice 22 (.slice ao l.length cap) none (some (.int .i64 (m : Int))) none).run Tryd.prog w = .ok (.slice ao m cap) w) ∧ ∀ w', OwG E 7 w' ko ao cap l.length (ocs l) → SrcG 7 w' ao cap m (ocs (l.take m)) := by
  have hl := hL.len
  have ht := hL.top
  unfold maxLen at ht
  have hu := Tryd.underlying22
  have hc := cells_Ord
  refine ⟨fun w => ?_, fun w' h' => ⟨by rw [ocs_len, List.length_take, Nat.min_eq_left hm], ocs_one _, ?_⟩⟩
  · simp [go_sem, Instr.slice]
    omega
  · rcases h'.at' with ⟨-, h1, h0⟩ | ⟨k, cur, e1, e2, -⟩
    · exact .inl ⟨h1, h0, by omega⟩
    · refine .inr ⟨_, e2, fun j u hj => ?_⟩
      rw [ocs_take, List.getElem?_take] at hj
      split at hj
      · obtain ⟨k', e3, -, h3, -⟩ := h'.cell _ u hj
        rw [e1] at e3
        cases e3
        rw [Addr.add_mid, Nat.zero_add]
        exact h3
      · cases hj
section
variable {w w' W : World} {r : Nat} {S T : Nat → Prop} {b : Bk} {ko : Option Nat} {ao : Option Addr} {cap : Nat}
end
end Go.Proofs.YtdpibjnlpdgdeaaDoor
