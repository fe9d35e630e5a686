/-
  What becomes of an arena's cells. (No Go text.)
-/
import Derived.Test.YtbkdakabpmpiiaaAre
import Derived.Test.YtbkdakabpmpiiaaSetn
namespace Go.Proofs.Ytbkdakabpmpiiaa
open Go.RowKit
theorem cOrd_lt {o : Ord} {j : Nat} {v : Value} (h : (cOrd o)[j]? = some v) : j < 7 := by
  have := (Array.getElem?_eq_some_iff.1 h).1
  simpa using this
theorem Arn.used_pos {c : Array Value} {s : Ar} {i : Nat} (_ : Arn c s) (hi : s.has i = true) : 1 ≤ s.used := by
  have : true ∈ s.T := List.mem_of_getElem? (Ar.has_true.1 hi)
  exact List.count_pos_iff.2 this
theorem Arn.used_le {c : Array Value} {s : Ar} (h : Arn c s) : s.used ≤ s.n := by have := h.wf.cnt; omega
theorem Arn.drop {c c' : Array Value} {s : Ar} {i : Nat} {f : Int} (h : Arn c s) (hi : s.has i = true) (hf : c[4002]? = some (.int .i64 f)) (hs : c'.size = c.size)
    (h0 : c'[4000]? = c[4000]?) (h1 : c'[4001]? = some (.int .i64 ((s.used : Int) - 1))) (h2 : c'[4002]? = some (.int .i64 (i : Int))) (h3 : c'[i * 8 + 7]? = some (.int .i64 f))
    (hk : ∀ k, k < 4000 → k / 8 ≠ i → c'[k]? = c[k]?) : Arn c' (s.drop i) := by
  have hlt := Ar.has_lt h.wf hi
  have hsm := h.small
  have hT : ∀ j, (s.T.set i false)[j]? = some true → j ≠ i ∧ s.T[j]? = some true := by
    intro j hj
    rw [List.getElem?_set] at hj
    split at hj
    · split at hj <;> simp at hj
    · rename_i hne; exact ⟨fun e => hne e.symm, hj⟩
  have hTn : ∀ j, s.T[j]? = some true → j < s.n := fun j hj => by
    have := (List.getElem?_eq_some_iff.1 hj).1
    rw [h.wf.lenT] at this; exact this
  refine ⟨Ar.drop_wf h.wf hi, hsm, by rw [hs]; exact h.size, by rw [h0]; exact h.cn, ?_, ?_, ?_, ⟨i, h2, ?_⟩⟩
  · rw [h1]
    have hc := count_set (b := false) (Ar.has_true.1 hi)
    simp only [Bool.false_eq_true, if_false, if_true] at hc
    have he : ((s.used : Int) - 1) = ((s.drop i).used : Int) := by
      show ((s.T.count true : Nat) : Int) - 1 = (((s.T.set i false).count true : Nat) : Int)
      omega
    rw [he]
  · intro j o hj ho q v hq
    obtain ⟨hne, hj⟩ := hT j hj
    have := cOrd_lt hq
    have := hTn j hj
    rw [hk _ (by omega) (by omega)]
    exact h.ord j o hj ho q v hq
  · intro j hj
    obtain ⟨hne, hj⟩ := hT j hj
    have := hTn j hj
    rw [hk _ (by omega) (by omega)]
    exact h.tk j hj
  · rw [Ar.drop_fr]
    obtain ⟨f', hf', hch⟩ := h.ch
    rw [hf] at hf'
    cases hf'
    refine ⟨rfl, f, h3, hch.frame fun x hx => ?_⟩
    have hx := (h.wf.mem x).1 hx
    have hxn : x < s.n := by
      have := (List.getElem?_eq_some_iff.1 hx).1
      rw [h.wf.lenT] at this; exact this
    have hne : x ≠ i := by
      rintro rfl
      rw [Ar.has_true.1 hi] at hx
      cases hx
    exact hk _ (by omega) (by omega)
theorem Arn.put {c c' : Array Value} {s : Ar} {i : Nat} {y : Int} (o : Ord) (h : Arn c s) (hi : s.next = some i) (hy : c[i * 8 + 7]? = some (.int .i64 y)) (hs : c'.size = c.size)
    (h0 : c'[4000]? = c[4000]?) (h1 : c'[4001]? = some (.int .i64 ((s.used : Int) + 1))) (h2 : c'[4002]? = some (.int .i64 y)) (h3 : c'[i * 8 + 7]? = some (.int .i64 (-1)))
    (h4 : ∀ (j : Nat) (v : Value), (cOrd o)[j]? = some v → c'[i * 8 + j]? = some v) (hk : ∀ k, k < 4000 → k / 8 ≠ i → c'[k]? = c[k]?) : Arn c' (s.put i o) := by
  obtain ⟨hTi, hlt⟩ := Ar.next_lt h.wf hi
  have hsm := h.small
  have hTn : ∀ (b : Bool) j, s.T[j]? = some b → j < s.n := fun b j hj => by
    have := (List.getElem?_eq_some_iff.1 hj).1
    rw [h.wf.lenT] at this; exact this
  refine ⟨Ar.put_wf h.wf o hi, hsm, by rw [hs]; exact h.size, by rw [h0]; exact h.cn, ?_, ?_, ?_, ⟨y, h2, ?_⟩⟩
  · rw [h1]
    have hc := count_set (b := true) hTi
    simp only [Bool.false_eq_true, if_false, if_true] at hc
    have he : ((s.used : Int) + 1) = ((s.put i o).used : Int) := by
      show ((s.T.count true : Nat) : Int) + 1 = (((s.T.set i true).count true : Nat) : Int)
      omega
    rw [he]
  · intro j o' hj ho q v hq
    have hq7 := cOrd_lt hq
    change (s.T.set i true)[j]? = some true at hj
    change (s.O.set i o)[j]? = some o' at ho
    rw [List.getElem?_set] at hj ho
    by_cases hij : i = j
    · subst hij
      rw [if_pos rfl, if_pos (by rw [h.wf.lenO]; exact hlt)] at ho
      cases ho
      exact h4 q v hq
    · rw [if_neg hij] at hj ho
      have := hTn _ j hj
      rw [hk _ (by omega) (by omega)]
      exact h.ord j o' hj ho q v hq
  · intro j hj
    change (s.T.set i true)[j]? = some true at hj
    rw [List.getElem?_set] at hj
    by_cases hij : i = j
    · subst hij; exact h3
    · rw [if_neg hij] at hj
      have := hTn _ j hj
      rw [hk _ (by omega) (by omega)]
      exact h.tk j hj
  · obtain ⟨f, -, hch⟩ := h.ch
    have hnd := h.wf.nodup
    have hmem := fun x => (h.wf.mem x).1
    rw [Ar.next_some h.wf o hi] at hch hnd hmem
    obtain ⟨-, y', hy', hch⟩ := hch
    rw [hy] at hy'
    cases hy'
    refine hch.frame fun x hx => ?_
    have hxn := hTn _ x (hmem x (List.mem_cons_of_mem _ hx))
    have hne : x ≠ i := by
      rintro rfl
      exact (List.nodup_cons.1 hnd).1 hx
    exact hk _ (by omega) (by omega)
theorem Arn.set {c c' : Array Value} {s : Ar} {i : Nat} (o : Ord) (h : Arn c s) (hi : s.has i = true) (hs : c'.size = c.size)
    (h4 : ∀ (j : Nat) (v : Value), (cOrd o)[j]? = some v → c'[i * 8 + j]? = some v) (hk : ∀ k, (∀ j, j < 7 → k ≠ i * 8 + j) → c'[k]? = c[k]?) : Arn c' (s.set i o) := by
  have hlt := Ar.has_lt h.wf hi
  have hsm := h.small
  obtain ⟨f, hf, hch⟩ := h.ch
  refine ⟨Ar.set_wf h.wf o, hsm, by rw [hs]; exact h.size, ?_, ?_, ?_, ?_, ⟨f, ?_, ?_⟩⟩
  · rw [hk _ (fun j hj => by omega)]; exact h.cn
  · rw [hk _ (fun j hj => by omega)]; exact h.cu
  · intro j o' hj ho q v hq
    have hq7 := cOrd_lt hq
    change (s.O.set i o)[j]? = some o' at ho
    rw [List.getElem?_set] at ho
    by_cases hij : i = j
    · subst hij
      rw [if_pos rfl, if_pos (by rw [h.wf.lenO]; exact hlt)] at ho
      cases ho
      exact h4 q v hq
    · rw [if_neg hij] at ho
      rw [hk _ (fun j hj => by omega)]
      exact h.ord j o' hj ho q v hq
  · intro j hj
    rw [hk _ (fun j hj => by omega)]
    exact h.tk j hj
  · rw [hk _ (fun j hj => by omega)]; exact hf
  · exact hch.frame fun x hx => hk _ (fun j hj => by omega)
end Go.Proofs.Ytbkdakabpmpiiaa
