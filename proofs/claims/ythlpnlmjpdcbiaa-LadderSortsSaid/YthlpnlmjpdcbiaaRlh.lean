/-
  The document's levels: parts of the row (l.L[:i], l.L[i:]), as what is appended.
-/
import Derived.Test.YthlpnlmjpdcbiaaRlg
namespace Go.Proofs.Ythlpnlmjpdcbiaa
open Go.RowKit
theorem lcs_drop : ∀ (L : List Lvl) (m : Nat), lcs (L.drop m) = (lcs L).drop (m * 4)
  | L, 0 => by simp
  | [], m + 1 => by simp
  | x :: t, m + 1 => by
    have e : (m + 1) * 4 = 4 + m * 4 := by omega
    rw [List.drop_succ_cons, lcs_drop t m, e, ← List.drop_drop]
    rfl
theorem lcs_take : ∀ (L : List Lvl) (m : Nat), lcs (L.take m) = (lcs L).take (m * 4)
  | L, 0 => by simp
  | [], m + 1 => by simp
  | x :: t, m + 1 => by
    have e : (m + 1) * 4 = m * 4 + 4 := by omega
    have h := lcs_take t m
    rw [e]
    simp [h]
theorem lvls_lo {E : TypeId} (ko : Option Nat) (ao : Option Addr) (cap : Nat) (l : List Lvl) (m : Nat) (hm : m ≤ l.length) (w : World) (hL : OwG E 4 w ko ao cap l.length (lcs l)) :
    ∃ ao2 cap2, (∀ w, (Instr.slice 36 (.slice ao l.length cap) (some (.int .i64 (m : Int))) none none).run Try.prog w = .ok (.slice ao2 (l.length - m) cap2) w) ∧ ∀ w', OwG E 4 w' ko ao cap l.length (lcs l) → SrcG 4 w' ao2 cap2 (l.length - m) (lcs (l.drop m)) := by
  have hl := hL.len
  have ht := hL.top
  unfold maxLen at ht
  have hu := Try.underlying36
  have hc := cells_Lvl
  have hone : ∀ u ∈ lcs (l.drop m), u.oneCell' = true := lcs_one _
  have hlen : (lcs (l.drop m)).length = (l.length - m) * 4 := by rw [lcs_len, List.length_drop]
  by_cases h : cap = m
  · subst h
    have e : l.length = cap := by omega
    refine ⟨ao, 0, fun w => ?_, fun w' h' => ⟨hlen, hone, ?_⟩⟩
    · simp [go_sem, Instr.slice]
      intro h; omega
    · cases ao with
      | none => exact .inl ⟨rfl, rfl, by omega⟩
      | some a =>
        refine .inr ⟨a, rfl, fun j u hj => ?_⟩
        have hlt := (List.getElem?_eq_some_iff.1 hj).1
        omega
  · refine ⟨Option.map (fun x => x.add (m * 4)) ao, cap - m, fun w => ?_, fun w' h' => ⟨hlen, hone, ?_⟩⟩
    · simp [go_sem, Instr.slice]
      rw [if_pos hm, if_neg h]
    · rcases h'.at' with ⟨-, -, h0⟩ | ⟨k, cur, e1, e2, -⟩
      · omega
      · refine .inr ⟨_, by rw [e2]; rfl, fun j u hj => ?_⟩
        rw [lcs_drop, List.getElem?_drop] at hj
        obtain ⟨k', e3, -, h3, -⟩ := h'.cell _ u hj
        rw [e1] at e3
        cases e3
        show w'.cell? ((Addr.add ⟨k, 0, none⟩ (m * 4)).add j) = some u
        rw [Addr.add_mid, Addr.add_mid, Nat.zero_add]
        exact h3
theorem lvls_hi {E : TypeId} (ko : Option Nat) (ao : Option Addr) (cap : Nat) (l : List Lvl) (m : Nat) (hm : m ≤ l.length) (w : World) (hL : OwG E 4 w ko ao cap l.length (lcs l)) :
    (∀ w, (Instr.slice 36 (.slice ao l.length cap) none (some (.int .i64 (m : Int))) none).run Try.prog w = .ok (.slice ao m cap) w) ∧ ∀ w', OwG E 4 w' ko ao cap l.length (lcs l) → SrcG 4 w' ao cap m (lcs (l.take m)) := by
  have hl := hL.len
  have ht := hL.top
  unfold maxLen at ht
  have hu := Try.underlying36
  have hc := cells_Lvl
  refine ⟨fun w => ?_, fun w' h' => ⟨by rw [lcs_len, List.length_take, Nat.min_eq_left hm], lcs_one _, ?_⟩⟩
  · simp [go_sem, Instr.slice]
    omega
  · rcases h'.at' with ⟨-, h1, h0⟩ | ⟨k, cur, e1, e2, -⟩
    · exact .inl ⟨h1, h0, by omega⟩
    · refine .inr ⟨_, e2, fun j u hj => ?_⟩
      rw [lcs_take, List.getElem?_take] at hj
      split at hj
      · obtain ⟨k', e3, -, h3, -⟩ := h'.cell _ u hj
        rw [e1] at e3
        cases e3
        rw [Addr.add_mid, Nat.zero_add]
        exact h3
      · cases hj
end Go.Proofs.Ythlpnlmjpdcbiaa
