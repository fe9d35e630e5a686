/-
  Lists of slices of bytes: to be read (Lb), to be grown; the document's Lists.
-/
import Derived.Test.YtbkiipeoabbiiaaOctB
import Derived.Test.YtbkiipeoabbiiaaOpenB
import Derived.Test.YtbkiipeoabbiiaaApp
import Derived.BigQuiet
import Derived.Deep.QuietTactic
namespace Go.Proofs.Ytbkiipeoabbiiaa
open Go.RowKit

theorem Below.drewN {B : Nat} {w w' : World} (h : Below B w w') (n : Nat) : Below B w (w'.drewN n) := ⟨h.os, h.tape, h.output, h.size, h.block⟩
theorem Bt.drewN {w : World} {k cap : Nat} {ao : Option Addr} {xs : List Nat} (h : Bt w k ao cap xs) (n : Nat) : Bt (w.drewN n) k ao cap xs := h.keep fun _ => rfl
theorem take_ne {us ts : List (List Nat)} {q : Nat} {xs ys : List Nat} (ha : us[q]? = some xs) (hb : ts[q]? = some ys) (h : xs ≠ ys) : us ≠ ts := by
  rintro rfl
  rw [ha] at hb
  cases hb
  exact h rfl
theorem take_eq {us ts : List (List Nat)} {q : Nat} {xs ys : List Nat} (ha : us[q]? = some xs) (hb : ts[q]? = some ys) (h : xs = ys) (ht : us.take q = ts.take q) : us.take (q + 1) = ts.take (q + 1) := by
  rw [List.take_add_one, List.take_add_one, ha, hb, h, ht]
/-- The values cs are slices of the bytes ls; where there are any bytes, their block is not ko and is of E. -/
def Els (E : Nat → Prop) (w : World) (ko : Option Nat) (ls : List (List Nat)) (cs : List Value) : Prop :=
  cs.length = ls.length ∧ ∀ (i : Nat) (xs : List Nat), ls[i]? = some xs → ∃ k eo ec, Bt w k eo ec xs ∧ cs[i]? = some (.slice eo xs.length ec) ∧ (xs ≠ [] → ko ≠ some k ∧ E k)
/-- A list of slices of bytes in a row that the list owns. -/
def Lo (E : Nat → Prop) (w : World) (ko : Option Nat) (ao : Option Addr) (cap : Nat) (ls : List (List Nat)) : Prop :=
  ∃ cs, OwG 37 1 w ko ao cap ls.length cs ∧ Els E w ko ls cs
section
variable {E S : Nat → Prop} {w w' : World} {ko ko' : Option Nat} {ao ao' : Option Addr} {cap cap' : Nat} {ls ms : List (List Nat)} {cs ns : List Value}
theorem Els.one (h : Els E w ko ls cs) : ∀ u ∈ cs, u.oneCell' = true := by
  intro u hu
  obtain ⟨i, hi⟩ := List.mem_iff_getElem?.1 hu
  have hlt : i < ls.length := by rw [← h.1]; exact (List.getElem?_eq_some_iff.1 hi).1
  obtain ⟨k, eo, ec, _, h2, _⟩ := h.2 i _ (List.getElem?_eq_getElem hlt)
  rw [hi] at h2
  cases h2
  rfl
theorem Els.frm (h : Els E w ko ls cs) (hf : Frm S w w') (hE : ∀ k, k < w.heap.size → ko ≠ some k → E k → ¬ S k) : Els E w' ko ls cs := by
  refine ⟨h.1, fun i xs hi => ?_⟩
  obtain ⟨k, eo, ec, h1, h2, h3⟩ := h.2 i xs hi
  exact ⟨k, eo, ec, h1.frm hf (fun hx => hE k (h1.size hx) (h3 hx).1 (h3 hx).2), h2, h3⟩
theorem Els.append (h : Els E w ko ls cs) (h2 : Els E w ko ms ns) : Els E w ko (ls ++ ms) (cs ++ ns) := by
  refine ⟨by rw [List.length_append, List.length_append, h.1, h2.1], fun i xs hi => ?_⟩
  rw [List.getElem?_append] at hi ⊢
  rw [h.1]
  split at hi
  · rename_i hlt
    rw [if_pos hlt]
    exact h.2 i xs hi
  · rename_i hlt
    rw [if_neg hlt]
    exact h2.2 _ xs hi
/-- The list's row has moved. -/
theorem Els.moved (h : Els E w ko ls cs) (hf : Frm (fun b => ko = some b) w w') (hm : Moved w ko ko') : Els E w' ko' ls cs := by
  refine ⟨h.1, fun i xs hi => ?_⟩
  obtain ⟨k, eo, ec, h1, h2, h3⟩ := h.2 i xs hi
  refine ⟨k, eo, ec, h1.frm hf (fun hx => (h3 hx).1), h2, fun hx => ⟨?_, (h3 hx).2⟩⟩
  rcases hm with hm | hm | ⟨k2, hm, hk2⟩
  · rw [hm]; exact fun e => by cases e
  · rw [hm]; exact (h3 hx).1
  · rw [hm]
    have := h1.size hx
    exact fun e => by cases e; omega
theorem Lo.nil (E : Nat → Prop) (w : World) : Lo E w none none 0 [] := ⟨[], OwG.nil _ _ _, rfl, by simp⟩
theorem Lo.frm (h : Lo E w ko ao cap ls) (hf : Frm S w w') (hk : ∀ k, ko = some k → ¬ S k) (hE : ∀ k, k < w.heap.size → ko ≠ some k → E k → ¬ S k) : Lo E w' ko ao cap ls := by
  obtain ⟨cs, h1, h2⟩ := h
  exact ⟨cs, h1.frm hf hk, h2.frm hf hE⟩
theorem Lo.below (h : Lo E w ko ao cap ls) (hf : Below w.heap.size w w') : Lo E w' ko ao cap ls := h.frm (Frm.of_below (S := fun _ => False) hf) (fun _ _ f => f) (fun _ _ _ _ f => f)
theorem Lo.lt {k : Nat} (h : Lo E w (some k) ao cap ls) : k < w.heap.size := by obtain ⟨cs, h1, _⟩ := h; exact h1.lt
theorem Lo.app (h2 : Els E w ko ls cs) (h3 : Els E w ko ms ns) (ho : OwG 37 1 w' ko' ao' cap' (ls.length + ms.length) (cs ++ ns)) (hf : Frm (fun b => ko = some b) w w') (hm : Moved w ko ko') : Lo E w' ko' ao' cap' (ls ++ ms) :=
  ⟨cs ++ ns, by rw [List.length_append]; exact ho, (h2.append h3).moved hf hm⟩
/-- One element. -/
theorem Els.single {k ec : Nat} {eo : Option Addr} {xs : List Nat} (h : Bt w k eo ec xs) (hk : xs ≠ [] → ko ≠ some k ∧ E k) : Els E w ko [xs] [.slice eo xs.length ec] := by
  refine ⟨rfl, fun i ys hi => ?_⟩
  match i, hi with
  | 0, hi => cases hi; exact ⟨k, eo, ec, h, rfl, hk⟩
/-- What one reads. -/
theorem Lo.lb (h : Lo E w ko ao cap ls) : Lb w ao cap ls := by
  obtain ⟨cs, h1, h2, h3⟩ := h
  refine ⟨h1.len, h1.top, ?_, ?_⟩
  · intro h0
    rcases h1.at' with ⟨_, _, hc⟩ | ⟨k, cur, _, ha, _⟩
    · exact hc
    · rw [ha] at h0; cases h0
  · rcases h1.at' with ⟨_, _, hc⟩ | ⟨k, cur, hk, ha, hr⟩
    · have := h1.len
      exact .inl (List.eq_nil_of_length_eq_zero (by omega))
    · refine .inr ⟨k, 0, ha, fun i xs hi => ?_⟩
      obtain ⟨ke, eo, ec, hB, hc, _⟩ := h3 i xs hi
      obtain ⟨k', hk', ha', hcell, _⟩ := h1.cell i _ hc
      rw [hk] at hk'
      cases hk'
      rw [Nat.zero_add]
      exact ⟨ke, eo, ec, hB, hcell⟩
theorem Lb.below (h : Lb w ao cap ls) (hf : Below w.heap.size w w') : Lb w' ao cap ls := by
  refine ⟨h.len, h.top, h.bare, ?_⟩
  rcases h.at' with h0 | ⟨b, off, ha, hc⟩
  · exact .inl h0
  · refine .inr ⟨b, off, ha, fun i xs hi => ?_⟩
    obtain ⟨k, eo, ec, hB, hcell⟩ := hc i xs hi
    exact ⟨k, eo, ec, hB.below hf, (World.cell?_of_block (a := ⟨b, off + i, none⟩) (hf.block b (World.block_lt_of_cell? w ⟨b, off + i, none⟩ hcell))).trans hcell⟩
theorem Lb.nil (w : World) : Lb w none 0 [] := ⟨Nat.le_refl _, Nat.zero_le _, fun _ => rfl, .inl rfl⟩
theorem Lb.dropAll {n : Nat} (h : Lb w ao cap ls) (hn : n = cap) (hx : n ≤ ls.length) : Lb w ao 0 (ls.drop n) := by
  have hl := h.len
  have e : ls.drop n = [] := List.drop_eq_nil_of_le (by omega)
  rw [e]
  exact ⟨Nat.le_refl _, Nat.zero_le _, fun _ => rfl, .inl rfl⟩
theorem Lb.drop {n : Nat} (h : Lb w ao cap ls) (hx : n ≤ ls.length) : Lb w (Option.map (fun x => x.add n) ao) (cap - n) (ls.drop n) := by
  have hl := h.len
  have ht := h.top
  refine ⟨by rw [List.length_drop]; omega, by omega, fun e => ?_, ?_⟩
  · cases ao with
    | none => have := h.bare rfl; omega
    | some a => simp at e
  · rcases h.at' with h0 | ⟨b, off, ha, hc⟩
    · subst h0; exact .inl (by simp)
    · refine .inr ⟨b, off + n, by rw [ha, Option.map_some, Addr.add_mid], fun i xs hi => ?_⟩
      rw [List.getElem?_drop] at hi
      rw [Nat.add_assoc]
      exact hc (n + i) xs hi
end
end Go.Proofs.Ytbkiipeoabbiiaa
