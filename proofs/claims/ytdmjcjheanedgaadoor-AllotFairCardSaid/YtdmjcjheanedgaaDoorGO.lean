/-
  The rows of an index, in plain lists: in the order in which they came, and a symbol's by their IDs. (No Go text.)
  The keys of the index's map: a struct of two numbers; what it reads as.
  A map of keys of two numbers, read as a list of rows: look-ups, stores, deletions, ranges.
-/
import Derived.Test.YtdmjcjheanedgaaDoorGA
import Derived.Test.YtdmjcjheanedgaaDoorChecked
import Derived.Maps.OwnSet
import Derived.Maps.RangeWalk
import Derived.Maps.Ext
import Derived.DeepKeys4
import Derived.WideKeyArgs2
import Derived.Test.YtdmjcjheanedgaaDoorGB
namespace Go.Proofs.YtdmjcjheanedgaaDoor
structure Ixr where
  sym : Int
  id : Int
  slot : Int
deriving DecidableEq
def Ixr.zero : Ixr := ⟨0, 0, 0⟩
structure Ixr.Fit (m : Ixr) : Prop where
  sym : In64 m.sym
  id : In64 m.id
  slot : In64 m.slot
/-- Where a key is. -/
def ixf (l : List Ixr) (s d : Int) : Option Nat := l.findIdx? fun x => x.sym == s && x.id == d
def ixI (l : List Ixr) (s d : Int) : Int := match ixf l s d with
  | some i => i
  | none => -1
theorem ixf_some {l : List Ixr} {s d : Int} {i : Nat} (h : ixf l s d = some i) : ∃ t, l[i]? = some ⟨s, d, t⟩ ∧ ∀ (j : Nat) (y : Ixr), j < i → l[j]? = some y → ¬ (y.sym = s ∧ y.id = d) := by
  obtain ⟨hi, h1, h2⟩ := List.findIdx?_eq_some_iff_getElem.1 h
  obtain ⟨e1, e2⟩ : l[i].sym = s ∧ l[i].id = d := by simpa using h1
  refine ⟨l[i].slot, by rw [List.getElem?_eq_getElem hi, ← e1, ← e2], fun j y hj hy => ?_⟩
  obtain ⟨lj, rfl⟩ := List.getElem?_eq_some_iff.1 hy
  have := h2 j hj
  simpa using this
theorem ixf_none {l : List Ixr} {s d : Int} (h : ixf l s d = none) : ∀ x ∈ l, ¬ (x.sym = s ∧ x.id = d) := by
  intro x hx
  have := List.findIdx?_eq_none_iff.1 h x hx
  simpa using this
theorem ixf_at {l : List Ixr} {s d : Int} {i : Nat} {x : Ixr} (hx : l[i]? = some x) (e : x.sym = s ∧ x.id = d) (hn : ∀ (j : Nat) (y : Ixr), j < i → l[j]? = some y → ¬ (y.sym = s ∧ y.id = d)) : ixf l s d = some i := by
  obtain ⟨hi, rfl⟩ := List.getElem?_eq_some_iff.1 hx
  refine List.findIdx?_eq_some_iff_getElem.2 ⟨hi, by simpa using e, fun j hj => ?_⟩
  have := hn j l[j] hj (List.getElem?_eq_getElem (by omega))
  simpa using this
/-- The slot of a key, as the index answers. -/
def ixg (l : List Ixr) (s d : Int) : Option Int := (ixf l s d).map fun i => (l[i]?.getD .zero).slot
theorem ixg_some {l : List Ixr} {s d t : Int} : ixg l s d = some t ↔ ∃ i, ixf l s d = some i ∧ l[i]? = some ⟨s, d, t⟩ := by
  unfold ixg
  cases h : ixf l s d with
  | none => simp
  | some i =>
    obtain ⟨t', ht, -⟩ := ixf_some h
    simp [ht]
theorem ixg_none {l : List Ixr} {s d : Int} : ixg l s d = none ↔ ixf l s d = none := by
  unfold ixg
  cases ixf l s d <;> simp
/-- No key twice. -/
def Ixu (l : List Ixr) : Prop := l.Pairwise fun a b => ¬ (a.sym = b.sym ∧ a.id = b.id)
theorem Ixu.uni {l : List Ixr} (h : Ixu l) {i j : Nat} {x y : Ixr} (hi : l[i]? = some x) (hj : l[j]? = some y) (e : x.sym = y.sym ∧ x.id = y.id) : i = j := by
  obtain ⟨li, rfl⟩ := List.getElem?_eq_some_iff.1 hi
  obtain ⟨lj, rfl⟩ := List.getElem?_eq_some_iff.1 hj
  rcases Nat.lt_trichotomy i j with g | g | g
  · exact absurd e (List.pairwise_iff_getElem.1 h i j li lj g)
  · exact g
  · exact absurd ⟨e.1.symm, e.2.symm⟩ (List.pairwise_iff_getElem.1 h j i lj li g)
theorem Ixu.mem {l : List Ixr} (h : Ixu l) {x : Ixr} : x ∈ l ↔ ixg l x.sym x.id = some x.slot := by
  constructor
  · intro hx
    obtain ⟨i, hi⟩ := List.mem_iff_getElem?.1 hx
    refine ixg_some.2 ⟨i, ixf_at hi ⟨rfl, rfl⟩ fun j y hj hy e => ?_, hi⟩
    have := h.uni hy hi e
    omega
  · intro hx
    obtain ⟨i, -, hi⟩ := ixg_some.1 hx
    exact List.mem_of_getElem? hi
theorem ixg_key {l : List Ixr} (h : Ixu l) {s d t : Int} : ixg l s d = some t ↔ (⟨s, d, t⟩ : Ixr) ∈ l := (h.mem (x := ⟨s, d, t⟩)).symm
theorem Ixu.nil : Ixu [] := List.Pairwise.nil
theorem Ixu.put {l : List Ixr} (h : Ixu l) {s d t : Int} (hf : ixf l s d = none) : Ixu (l ++ [⟨s, d, t⟩]) := by
  refine List.pairwise_append.2 ⟨h, List.pairwise_singleton _ _, fun a ha b hb => ?_⟩
  rw [List.mem_singleton.1 hb]
  exact ixf_none hf a ha
theorem Ixu.erase {l : List Ixr} (h : Ixu l) (i : Nat) : Ixu (l.eraseIdx i) := List.Pairwise.sublist (List.eraseIdx_sublist _ _) h
theorem Ixu.filter {l : List Ixr} (h : Ixu l) (p : Ixr → Bool) : Ixu (l.filter p) := List.Pairwise.sublist List.filter_sublist h
/-! What the acts answer, and what they leave. -/
def ixPut (l : List Ixr) (s d t : Int) : List Ixr := if (ixf l s d).isSome then l else l ++ [⟨s, d, t⟩]
def ixDrop (l : List Ixr) (s d : Int) : List Ixr := match ixf l s d with
  | some i => l.eraseIdx i
  | none => l
def ixIs (l : List Ixr) (s : Int) : List Ixr := l.filter fun x => x.sym == s
def ixClr (l : List Ixr) (s : Int) : List Ixr := l.filter fun x => x.sym != s
/-- Erased by its place: all but it. -/
theorem Ixu.mem_erase {l : List Ixr} (h : Ixu l) {i : Nat} {x : Ixr} (hx : l[i]? = some x) {y : Ixr} : y ∈ l.eraseIdx i ↔ y ∈ l ∧ ¬ (y.sym = x.sym ∧ y.id = x.id) := by
  rw [List.mem_eraseIdx_iff_getElem?]
  constructor
  · rintro ⟨j, hj, hy⟩
    exact ⟨List.mem_of_getElem? hy, fun e => hj (h.uni hy hx e)⟩
  · rintro ⟨hy, hn⟩
    obtain ⟨j, hj⟩ := List.mem_iff_getElem?.1 hy
    refine ⟨j, fun e => ?_, hj⟩
    subst e
    rw [hx] at hj
    cases hj
    exact hn ⟨rfl, rfl⟩
/-! A symbol's rows by their IDs. -/
/-- A row among rows that rise: behind all of lesser IDs. -/
def ixAt (q : List Ixr) (d : Int) : Nat := (q.takeWhile fun y => decide (y.id < d)).length
def ixIns (q : List Ixr) (x : Ixr) : List Ixr := q.take (ixAt q x.id) ++ x :: q.drop (ixAt q x.id)
def ixOfTo (l : List Ixr) (s : Int) : Nat → List Ixr
  | 0 => []
  | n + 1 => match l[n]? with
    | some x => if x.sym = s then ixIns (ixOfTo l s n) x else ixOfTo l s n
    | none => ixOfTo l s n
def ixOf (l : List Ixr) (s : Int) : List Ixr := ixOfTo l s l.length
/-- Rising by IDs. -/
abbrev Ixm (q : List Ixr) : Prop := q.Pairwise fun a b => a.id < b.id
/-- What rises and has the same rows is the same. -/
theorem Ixm.uni {p q : List Ixr} (hp : Ixm p) (hq : Ixm q) (h : p.Perm q) : p = q :=
  List.Perm.eq_of_pairwise (le := fun a b => a.id < b.id) (fun a b _ _ h1 h2 => by omega) hp hq h
end Go.Proofs.YtdmjcjheanedgaaDoor
namespace Go.Proofs.YtdmjcjheanedgaaDoor
open Go.RowKit Go.WideMaps Go.WideElems
set_option maxRecDepth 20000
abbrev vKey (s d : Int) : Value := .agg #[.int .i64 s, .int .i64 d]
def kl (s d : Int) : Lit := .string (keyBytes [.int .i64 s, .int .i64 d])
theorem key_laid : laidOutB Tryd.prog = true := by kernel_rfl
theorem key_wide : (match Tryd.prog.underlying 91 with | some (.array _ _) | some (.struct _) => true | _ => false) = true := by kernel_rfl
theorem key_law : Maps.Keyed Tryd.prog 91 :=
  Maps.Keyed.of_law (deep_law_laid key_laid (m := 2) (by omega) (of_decide_eq_true (by kernel_rfl)) (by kernel_rfl) key_wide)
theorem key_type : Tryd.prog.keyType 91 = true := by kernel_rfl
theorem key_cells : Tryd.prog.cellsOf 91 = 2 := by kernel_rfl
theorem key_c1 : Tryd.prog.cellsOf 3 = 1 := by kernel_rfl
theorem key_c2 : Tryd.prog.cellsOf 2 = 1 := by kernel_rfl
theorem key_size : ∃ m, Tryd.prog.types.size = m + 1 := by
  have h : 0 < Tryd.prog.types.size := of_decide_eq_true (by kernel_rfl)
  exact ⟨Tryd.prog.types.size - 1, by omega⟩
theorem wf_of_in64 {x : Int} (h : In64 x) : (Lit.int .i64 x).wf = true := by
  unfold In64 at h
  simp [Lit.wf, IntKind.min, IntKind.max, IntKind.signed, IntKind.bits]
  omega
theorem keyLit_one {t : TypeId} (h : Tryd.prog.underlying t = some (.int .i64)) (m : Nat) (a : Value) (L : List Lit) : Tryd.prog.keyLits (m + 1) t [a] = some L ↔ ∃ n, In64 n ∧ a = .int .i64 n ∧ L = [.int .i64 n] := by
  unfold Program.keyLits
  rw [h]
  cases a with
  | int q n =>
    dsimp only
    constructor
    · intro g
      split at g
      · rename_i e
        obtain ⟨rfl, e2⟩ := e
        cases g
        exact ⟨n, in64_of_wf e2, rfl, rfl⟩
      · cases g
    · rintro ⟨n', hn, e, rfl⟩
      cases e
      rw [if_pos ⟨rfl, wf_of_in64 hn⟩]
  | _ => simp
theorem keyLits_iff (cs : List Value) (L : List Lit) : Tryd.prog.keyLits (Tryd.prog.types.size + 1) 91 cs = some L ↔ ∃ s d, In64 s ∧ In64 d ∧ cs = [.int .i64 s, .int .i64 d] ∧ L = [.int .i64 s, .int .i64 d] := by
  have hu := Tryd.underlying91
  have h1 := fun m => keyLit_one Tryd.underlying3 m
  have h2 := fun m => keyLit_one Tryd.underlying2 m
  have c := key_cells
  have c1 := key_c1
  have c2 := key_c2
  obtain ⟨m, hm⟩ := key_size
  rw [hm]
  constructor
  · intro h
    unfold Program.keyLits at h
    rw [hu] at h
    simp only [c] at h
    split at h
    · rename_i hl
      match cs, hl.1 with
      | [a, b], _ =>
        simp [c1, c2] at h
        cases ha : Tryd.prog.keyLits (m + 1) 3 [a] with
        | none => rw [ha] at h; simp at h
        | some l1 =>
          cases hb : Tryd.prog.keyLits (m + 1) 2 [b] with
          | none => rw [ha, hb] at h; simp at h
          | some l2 =>
            rw [ha, hb] at h
            obtain ⟨s, hs, rfl, rfl⟩ := (h1 m a l1).1 ha
            obtain ⟨d, hd, rfl, rfl⟩ := (h2 m b l2).1 hb
            refine ⟨s, d, hs, hd, rfl, ?_⟩
            simpa using h.symm
    · cases h
  · rintro ⟨s, d, hs, hd, rfl, rfl⟩
    have e1 := (h1 m (.int .i64 s) _).2 ⟨s, hs, rfl, rfl⟩
    have e2 := (h2 m (.int .i64 d) _).2 ⟨d, hd, rfl, rfl⟩
    unfold Program.keyLits
    rw [hu]
    simp [c, c1, c2, e1, e2]
theorem keyOf_mk {s d : Int} (hs : In64 s) (hd : In64 d) : keyOf Tryd.prog 91 (vKey s d) = some (kl s d) := by
  have hu := Tryd.underlying91
  have e := (keyLits_iff [.int .i64 s, .int .i64 d] _).2 ⟨s, d, hs, hd, rfl, rfl⟩
  have ef : (vKey s d).formed Tryd.prog 91 = true := by simp [Value.formed, hu, key_cells]
  unfold keyOf
  rw [hu]
  simp only [key_type, ef, Bool.and_self, if_true]
  rw [show (vKey s d).cells.toList = [.int .i64 s, .int .i64 d] from rfl, e]
  rfl
theorem kl_inj {s d s' d' : Int} (hs : In64 s) (hd : In64 d) (hs' : In64 s') (hd' : In64 d') (h : kl s d = kl s' d') : s = s' ∧ d = d' := by
  have := key_law.inj (keyOf_mk hs hd) (by rw [h]; exact keyOf_mk hs' hd')
  simpa using this
end Go.Proofs.YtdmjcjheanedgaaDoor
namespace Go.Proofs.YtdmjcjheanedgaaDoor
open Go.RowKit Go.WideMaps Go.WideElems
/-! Lists that have the same rows at a key. -/
theorem ixg_congr {l l' : List Ixr} (h : Ixu l) (h' : Ixu l') {s d : Int} (e : ∀ t, (⟨s, d, t⟩ : Ixr) ∈ l ↔ (⟨s, d, t⟩ : Ixr) ∈ l') : ixg l s d = ixg l' s d := by
  refine Option.ext fun t => ?_
  rw [ixg_key h, ixg_key h', e t]
theorem ixg_none_of {l : List Ixr} (h : Ixu l) {s d : Int} (e : ∀ t, (⟨s, d, t⟩ : Ixr) ∉ l) : ixg l s d = none := by
  cases hg : ixg l s d with
  | none => rfl
  | some t => exact absurd ((ixg_key h).1 hg) (e t)
/-- What the map's datum says of the rows. -/
def Agr (D : DataW Unit) (l : List Ixr) : Prop := ∀ s d, In64 s → In64 d → Maps.has D (kl s d) = (ixg l s d).isSome ∧ ∀ t, ixg l s d = some t → D.atKey (kl s d) (.lit (.int .i64 0)) = .lit (.int .i64 t)
theorem Agr.nil : Agr (.map []) [] := fun s d _ _ => ⟨rfl, fun t h => by cases h⟩
theorem kl_key (s d : Int) : WideAt.IsKeyLit (kl s d) := trivial
theorem Agr.put {D : DataW Unit} {l l' : List Ixr} (h : Agr D l) (hD : Maps.IsMap D) (hu : Ixu l) (hu' : Ixu l') {s d t : Int} (hs : In64 s) (hd : In64 d) (hn : ixg l s d = none)
    (e : ∀ y, y ∈ l' ↔ y ∈ l ∨ y = ⟨s, d, t⟩) : Agr (D.put (kl s d) (.lit (.int .i64 t))) l' := by
  intro s' d' hs' hd'
  by_cases hk : s' = s ∧ d' = d
  · obtain ⟨rfl, rfl⟩ := hk
    have e1 : ixg l' s' d' = some t := (ixg_key hu').2 ((e _).2 (.inr rfl))
    rw [e1]
    refine ⟨Maps.has_put_same hD (kl_key _ _) _, fun t' ht => ?_⟩
    cases ht
    exact Maps.atKey_put_same hD (kl_key _ _) _ _
  · have hne : kl s' d' ≠ kl s d := fun g => hk (kl_inj hs' hd' hs hd g)
    have e1 : ixg l' s' d' = ixg l s' d' := ixg_congr hu' hu fun t' => by
      rw [e]
      refine ⟨fun g => ?_, .inl⟩
      rcases g with g | g
      · exact g
      · cases g; exact absurd ⟨rfl, rfl⟩ hk
    rw [e1, Maps.has_put_other hne, Maps.atKey_put_other hne]
    exact h s' d' hs' hd'
theorem Agr.del {D : DataW Unit} {l l' : List Ixr} (h : Agr D l) (hu : Ixu l) (hu' : Ixu l') {s d : Int} (hs : In64 s) (hd : In64 d)
    (e : ∀ y, y ∈ l' ↔ y ∈ l ∧ ¬ (y.sym = s ∧ y.id = d)) : Agr (D.del (kl s d)) l' := by
  intro s' d' hs' hd'
  by_cases hk : s' = s ∧ d' = d
  · obtain ⟨rfl, rfl⟩ := hk
    have e1 : ixg l' s' d' = none := ixg_none_of hu' fun t g => ((e _).1 g).2 ⟨rfl, rfl⟩
    rw [e1]
    exact ⟨Maps.has_del_same, fun t' ht => by cases ht⟩
  · have hne : kl s' d' ≠ kl s d := fun g => hk (kl_inj hs' hd' hs hd g)
    have e1 : ixg l' s' d' = ixg l s' d' := ixg_congr hu' hu fun t' => by
      rw [e]
      exact ⟨fun g => g.1, fun g => ⟨g, hk⟩⟩
    rw [e1, Maps.has_del_other hne, Maps.atKey_del_other hne]
    exact h s' d' hs' hd'
theorem int_zero (w : World) : (zeroValue 3).run Tryd.prog w = .ok (.int .i64 0) w := by kernel_rfl
/-- Keys that an int64 holds. -/
def Ixt (l : List Ixr) : Prop := ∀ x ∈ l, In64 x.sym ∧ In64 x.id
/-- Block b is a map (of at most k entries) that reads as these rows. -/
def MpB (w : World) (b k : Nat) (l : List Ixr) : Prop := ∃ D, w.ownsMap Tryd.prog 91 (plainElem (H := Unit) Tryd.prog 3) b k D ∧ Agr D l ∧ Ixu l ∧ Ixt l
section
variable {w w' W : World} {b k : Nat} {l l' : List Ixr} {S : Nat → Prop}
theorem MpB.u (h : MpB w b k l) : Ixu l := h.choose_spec.2.2.1
theorem MpB.lt (h : MpB w b k l) : b < w.heap.size := h.choose_spec.1.lt
theorem MpB.mono (h : MpB w b k l) {m : Nat} (hk : k ≤ m) : MpB w b m l := by
  obtain ⟨D, h1, h2, h3⟩ := h
  exact ⟨D, h1.mono hk, h2, h3⟩
theorem MpB.keep (h : MpB w b k l) (e : w'.heap[b]? = w.heap[b]?) : MpB w' b k l := by
  obtain ⟨D, ⟨es, clock, hb, r⟩, h2⟩ := h
  exact ⟨D, ⟨es, clock, e.trans hb, r⟩, h2⟩
theorem MpB.frm (h : MpB w b k l) (hf : Frm S w w') (hb : ¬ S b) : MpB w' b k l := h.keep (hf.block b h.lt hb)
theorem MpB.below (h : MpB w b k l) (hb : Below w.heap.size w w') : MpB w' b k l := h.keep (hb.block b h.lt)
theorem MpB.made (w : World) : MpB (w.alloc (.map #[] 0)) w.heap.size 0 [] := ⟨_, World.ownsMap_made _ _ _ _, Agr.nil, Ixu.nil, fun _ h => absurd h List.not_mem_nil⟩
theorem frm_turned (h : w.mapTurned w' b) : Frm (fun c => c = b) w w' := by
  have g := h.grown
  exact ⟨g.os, g.tape, g.output, g.size, fun c hc hn => g.block c hc (fun e => hn (Option.some.inj e))⟩
theorem MpB.look (h : MpB w b k l) {s d : Int} (hs : In64 s) (hd : In64 d) : (Instr.lookup 105 (.map (some b)) (vKey s d) true).run Tryd.prog w = .ok (.tuple #[.int .i64 ((ixg l s d).getD 0), .bool (ixg l s d).isSome]) w := by
  obtain ⟨D, h1, h2, h3, h4⟩ := h
  have hz : plainElem (H := Unit) Tryd.prog 3 (.int .i64 0) = some (.lit (.int .i64 0), []) := plainElem_int Tryd.underlying3 (by decide)
  obtain ⟨v, ps, hrun, hv⟩ := h1.look_ok key_law Tryd.underlying105 (int_zero w) hz (keyOf_mk hs hd)
  obtain ⟨c, rfl, hc, -⟩ := plainElem_int_inv Tryd.underlying3 hv
  obtain ⟨e1, e2⟩ := h2 s d hs hd
  rw [e1] at hrun
  have e3 := congrArg Prod.fst hc
  simp only at e3
  cases hg : ixg l s d with
  | some t =>
    rw [e2 t hg] at e3
    cases e3
    rw [hg] at hrun
    exact hrun
  | none =>
    rw [hg] at hrun e1
    rw [Maps.atKey_of_not_has e1] at e3
    cases e3
    exact hrun
theorem MpB.put (h : MpB w b k l) (hk : k < 100000) {s d t : Int} (hs : In64 s) (hd : In64 d) (ht : In64 t) (hn : ixf l s d = none) :
    ∃ w', (Instr.mapUpdate 105 (.map (some b)) (vKey s d) (.int .i64 t)).run Tryd.prog w = .ok () w' ∧ MpB w' b (k + 1) (l ++ [⟨s, d, t⟩]) ∧ Frm (fun c => c = b) w w' := by
  obtain ⟨D, h1, h2, h3, h6⟩ := h
  obtain ⟨w', hrun, h4, h5⟩ := h1.store key_law Tryd.underlying105 (by unfold maxLen; omega) (keyOf_mk hs hd) (plainElem_int Tryd.underlying3 (wf_of_in64 ht))
  exact ⟨w', hrun, ⟨_, h4, h2.put h1.isMap h3 (h3.put hn) hs hd (ixg_none.2 hn) fun y => by simp, h3.put hn, fun y hy => by
    rcases List.mem_append.1 hy with g | g
    · exact h6 y g
    · rw [List.mem_singleton.1 g]; exact ⟨hs, hd⟩⟩, frm_turned h5⟩
theorem MpB.drop (h : MpB w b k l) {s d : Int} (hs : In64 s) (hd : In64 d) {i : Nat} (hf : ixf l s d = some i) :
    ∃ w', (∀ ty, (Builtin.delete_ #[105, 91] ty #[.map (some b), vKey s d]).run Tryd.prog w = .ok (.tuple #[]) w') ∧ MpB w' b k (l.eraseIdx i) ∧ Frm (fun c => c = b) w w' := by
  obtain ⟨D, h1, h2, h3, h6⟩ := h
  obtain ⟨w', hrun, h4, h5⟩ := h1.drop key_law Tryd.underlying105 (keyOf_mk hs hd) 0
  obtain ⟨t, ht, -⟩ := ixf_some hf
  exact ⟨w', fun ty => hrun, ⟨_, h4, h2.del h3 (h3.erase i) hs hd fun y => h3.mem_erase ht, h3.erase i, fun y hy => h6 y (List.mem_of_mem_eraseIdx hy)⟩, frm_turned h5⟩
end
end Go.Proofs.YtdmjcjheanedgaaDoor
