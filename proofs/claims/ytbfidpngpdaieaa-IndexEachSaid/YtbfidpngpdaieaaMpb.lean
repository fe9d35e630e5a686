/-
  A map of keys of two numbers, read as a list of rows: look-ups, stores, deletions, ranges.
-/
import Derived.Test.YtbfidpngpdaieaaMky
import Derived.Test.YtbfidpngpdaieaaMem
import Derived.Test.YtbfidpngpdaieaaApp
namespace Go.Proofs.Ytbfidpngpdaieaa
open Go.RowKit Go.WideMaps Go.WideElems
/-! Lists that have the same rows at a key. -/
theorem ixg_congr {l l' : List Ixr} (h : Ixu l) (h' : Ixu l') {s d : Int} (e : ∀ t, (⟨s, d, t⟩ : Ixr) ∈ l ↔ (⟨s, d, t⟩ : Ixr) ∈ l') : ixg l s d = ixg l' s d := by
  refine Option.ext fun t => ?_
  rw [ixg_key h, ixg_key h', e t]
theorem ixg_none_of {l : List Ixr} (h : Ixu l) {s d : Int} (e : ∀ t, (⟨s, d, t⟩ : Ixr) ∉ l) : ixg l s d = none := by
  cases hg : ixg l s d with
  | none => rfl
  | some t => exact absurd ((ixg_key h).1 hg) (e t)
theorem ixg_none_mem {l : List Ixr} (h : Ixu l) {s d : Int} (e : ixg l s d = none) (t : Int) : (⟨s, d, t⟩ : Ixr) ∉ l := fun hm => by rw [(ixg_key h).2 hm] at e; cases e
/-- What the map's datum says of the rows. -/
def Agr (D : DataW Unit) (l : List Ixr) : Prop := ∀ s d, In64 s → In64 d → Maps.has D (kl s d) = (ixg l s d).isSome ∧ ∀ t, ixg l s d = some t → D.atKey (kl s d) (.lit (.int .i64 0)) = .lit (.int .i64 t)
theorem Agr.nil : Agr (.map []) [] := fun s d _ _ => ⟨rfl, fun t h => by cases h⟩
theorem kl_key (s d : Int) : WideAt.IsKeyLit (kl s d) := trivial
theorem Agr.put {D : DataW Unit} {l l' : List Ixr} (h : Agr D l) (hD : Maps.IsMap D) (hu : Ixu l) (hu' : Ixu l') {s d t : Int} (hs : In64 s) (hd : In64 d) (hn : ixg l s d = none)
    (e : ∀ y, y ∈ l' ↔ y ∈ l ∨ y = ⟨s, d, t⟩) : Agr (D.put (kl s d) (.lit (.int .i64 t))) l' := by
  intro s' d' hs' hd'
  by_cases hk : s' = s ∧ d' = d
  · obtain ⟨rfl, rfl⟩ := hk
    have e1 : ixg l' s' d' = some t := (ixg_key hu').2 ((e _).2 (.inr rfl))
    rw [e1]
    refine ⟨Maps.has_put_same hD (kl_key _ _) _, fun t' ht => ?_⟩
    cases ht
    exact Maps.atKey_put_same hD (kl_key _ _) _ _
  · have hne : kl s' d' ≠ kl s d := fun g => hk (kl_inj hs' hd' hs hd g)
    have e1 : ixg l' s' d' = ixg l s' d' := ixg_congr hu' hu fun t' => by
      rw [e]
      refine ⟨fun g => ?_, .inl⟩
      rcases g with g | g
      · exact g
      · cases g; exact absurd ⟨rfl, rfl⟩ hk
    rw [e1, Maps.has_put_other hne, Maps.atKey_put_other hne]
    exact h s' d' hs' hd'
theorem Agr.del {D : DataW Unit} {l l' : List Ixr} (h : Agr D l) (hu : Ixu l) (hu' : Ixu l') {s d : Int} (hs : In64 s) (hd : In64 d)
    (e : ∀ y, y ∈ l' ↔ y ∈ l ∧ ¬ (y.sym = s ∧ y.id = d)) : Agr (D.del (kl s d)) l' := by
  intro s' d' hs' hd'
  by_cases hk : s' = s ∧ d' = d
  · obtain ⟨rfl, rfl⟩ := hk
    have e1 : ixg l' s' d' = none := ixg_none_of hu' fun t g => ((e _).1 g).2 ⟨rfl, rfl⟩
    rw [e1]
    exact ⟨Maps.has_del_same, fun t' ht => by cases ht⟩
  · have hne : kl s' d' ≠ kl s d := fun g => hk (kl_inj hs' hd' hs hd g)
    have e1 : ixg l' s' d' = ixg l s' d' := ixg_congr hu' hu fun t' => by
      rw [e]
      exact ⟨fun g => g.1, fun g => ⟨g, hk⟩⟩
    rw [e1, Maps.has_del_other hne, Maps.atKey_del_other hne]
    exact h s' d' hs' hd'
theorem int_zero (w : World) : (zeroValue 3).run Try.prog w = .ok (.int .i64 0) w := by kernel_rfl
/-- Keys that an int64 holds. -/
def Ixt (l : List Ixr) : Prop := ∀ x ∈ l, In64 x.sym ∧ In64 x.id
/-- Block b is a map (of at most k entries) that reads as these rows. -/
def MpB (w : World) (b k : Nat) (l : List Ixr) : Prop := ∃ D, w.ownsMap Try.prog 43 (plainElem (H := Unit) Try.prog 3) b k D ∧ Agr D l ∧ Ixu l ∧ Ixt l
section
variable {w w' W : World} {b k : Nat} {l l' : List Ixr} {S : Nat → Prop}
theorem MpB.u (h : MpB w b k l) : Ixu l := h.choose_spec.2.2.1
theorem MpB.t (h : MpB w b k l) : Ixt l := h.choose_spec.2.2.2
theorem MpB.lt (h : MpB w b k l) : b < w.heap.size := h.choose_spec.1.lt
theorem MpB.mono (h : MpB w b k l) {m : Nat} (hk : k ≤ m) : MpB w b m l := by
  obtain ⟨D, h1, h2, h3⟩ := h
  exact ⟨D, h1.mono hk, h2, h3⟩
theorem MpB.keep (h : MpB w b k l) (e : w'.heap[b]? = w.heap[b]?) : MpB w' b k l := by
  obtain ⟨D, ⟨es, clock, hb, r⟩, h2⟩ := h
  exact ⟨D, ⟨es, clock, e.trans hb, r⟩, h2⟩
theorem MpB.frm (h : MpB w b k l) (hf : Frm S w w') (hb : ¬ S b) : MpB w' b k l := h.keep (hf.block b h.lt hb)
theorem MpB.below (h : MpB w b k l) (hb : Below w.heap.size w w') : MpB w' b k l := h.keep (hb.block b h.lt)
theorem MpB.made (w : World) : MpB (w.alloc (.map #[] 0)) w.heap.size 0 [] := ⟨_, World.ownsMap_made _ _ _ _, Agr.nil, Ixu.nil, fun _ h => absurd h List.not_mem_nil⟩
theorem frm_turned (h : w.mapTurned w' b) : Frm (fun c => c = b) w w' := by
  have g := h.grown
  exact ⟨g.os, g.tape, g.output, g.size, fun c hc hn => g.block c hc (fun e => hn (Option.some.inj e))⟩
theorem MpB.look (h : MpB w b k l) {s d : Int} (hs : In64 s) (hd : In64 d) : (Instr.lookup 49 (.map (some b)) (vKey s d) true).run Try.prog w = .ok (.tuple #[.int .i64 ((ixg l s d).getD 0), .bool (ixg l s d).isSome]) w := by
  obtain ⟨D, h1, h2, h3, h4⟩ := h
  have hz : plainElem (H := Unit) Try.prog 3 (.int .i64 0) = some (.lit (.int .i64 0), []) := plainElem_int Try.underlying3 (by decide)
  obtain ⟨v, ps, hrun, hv⟩ := h1.look_ok key_law Try.underlying49 (int_zero w) hz (keyOf_mk hs hd)
  obtain ⟨c, rfl, hc, -⟩ := plainElem_int_inv Try.underlying3 hv
  obtain ⟨e1, e2⟩ := h2 s d hs hd
  rw [e1] at hrun
  have e3 := congrArg Prod.fst hc
  simp only at e3
  cases hg : ixg l s d with
  | some t =>
    rw [e2 t hg] at e3
    cases e3
    rw [hg] at hrun
    exact hrun
  | none =>
    rw [hg] at hrun e1
    rw [Maps.atKey_of_not_has e1] at e3
    cases e3
    exact hrun
theorem MpB.put (h : MpB w b k l) (hk : k < 100000) {s d t : Int} (hs : In64 s) (hd : In64 d) (ht : In64 t) (hn : ixf l s d = none) :
    ∃ w', (Instr.mapUpdate 49 (.map (some b)) (vKey s d) (.int .i64 t)).run Try.prog w = .ok () w' ∧ MpB w' b (k + 1) (l ++ [⟨s, d, t⟩]) ∧ Frm (fun c => c = b) w w' := by
  obtain ⟨D, h1, h2, h3, h6⟩ := h
  obtain ⟨w', hrun, h4, h5⟩ := h1.store key_law Try.underlying49 (by unfold maxLen; omega) (keyOf_mk hs hd) (plainElem_int Try.underlying3 (wf_of_in64 ht))
  exact ⟨w', hrun, ⟨_, h4, h2.put h1.isMap h3 (h3.put hn) hs hd (ixg_none.2 hn) fun y => by simp, h3.put hn, fun y hy => by
    rcases List.mem_append.1 hy with g | g
    · exact h6 y g
    · rw [List.mem_singleton.1 g]; exact ⟨hs, hd⟩⟩, frm_turned h5⟩
theorem MpB.drop (h : MpB w b k l) {s d : Int} (hs : In64 s) (hd : In64 d) {i : Nat} (hf : ixf l s d = some i) :
    ∃ w', (∀ ty, (Builtin.delete_ #[49, 43] ty #[.map (some b), vKey s d]).run Try.prog w = .ok (.tuple #[]) w') ∧ MpB w' b k (l.eraseIdx i) ∧ Frm (fun c => c = b) w w' := by
  obtain ⟨D, h1, h2, h3, h6⟩ := h
  obtain ⟨w', hrun, h4, h5⟩ := h1.drop key_law Try.underlying49 (keyOf_mk hs hd) 0
  obtain ⟨t, ht, -⟩ := ixf_some hf
  exact ⟨w', fun ty => hrun, ⟨_, h4, h2.del h3 (h3.erase i) hs hd fun y => h3.mem_erase ht, h3.erase i, fun y hy => h6 y (List.mem_of_mem_eraseIdx hy)⟩, frm_turned h5⟩
end
end Go.Proofs.Ytbfidpngpdaieaa
