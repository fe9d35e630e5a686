/-
  Slots for orders, in plain lists: which are taken, which were dropped; and the cells in which the program keeps them. (No Go text.)
  The contracts of package arena's methods that read: holds, Used, Room.
  What becomes of an arena's cells. (No Go text.)
  The contracts of package arena's methods that write.
  The contracts of package arena's Take and Set.
  The contracts of package arena's Set and Get.
  The contract of package arena's New.
-/
import Derived.Test.YtdmjcjheanedgaaDoorGB
import Derived.Deep.QuietTactic
import Derived.BigQuiet
import Derived.IntWalk
import Derived.ProofKit
import Derived.OpenShut
import Derived.RegionTactic
import Derived.BigRegion
import Derived.ChangeAlike
import Derived.StillTailTactics
import Derived.Great.BuildSlice
namespace Go.Proofs.YtdmjcjheanedgaaDoor
open Go.RowKit
/-- n slots: what stands in each, which are taken, the dropped ones (the last one last), the first that was never taken. -/
structure Ar where
  n : Nat
  O : List Ord
  T : List Bool
  D : List Nat
  nx : Nat
def Ar.new (n : Nat) : Ar := ⟨n, List.replicate n Ord.zero, List.replicate n false, [], 0⟩
/-- The free slots, in the order in which they will be taken. -/
def Ar.fr (s : Ar) : List Nat := s.D.reverse ++ List.range' s.nx (s.n - s.nx)
def Ar.has (s : Ar) (i : Nat) : Bool := s.T[i]?.getD false
def Ar.used (s : Ar) : Nat := s.T.count true
structure Ar.Wf (s : Ar) : Prop where
  lenO : s.O.length = s.n
  lenT : s.T.length = s.n
  nx : s.nx ≤ s.n
  nodup : s.fr.Nodup
  mem : ∀ i, i ∈ s.fr ↔ s.T[i]? = some false
  cnt : s.used + s.fr.length = s.n
def Ar.put (s : Ar) (i : Nat) (o : Ord) : Ar := ⟨s.n, s.O.set i o, s.T.set i true, s.D.dropLast, if s.D = [] then s.nx + 1 else s.nx⟩
/-- The slot that is taken next. -/
def Ar.next (s : Ar) : Option Nat := if s.D = [] then (if s.nx < s.n then some s.nx else none) else s.D.getLast?
def Ar.drop (s : Ar) (i : Nat) : Ar := ⟨s.n, s.O, s.T.set i false, s.D ++ [i], s.nx⟩
def Ar.set (s : Ar) (i : Nat) (o : Ord) : Ar := ⟨s.n, s.O.set i o, s.T, s.D, s.nx⟩
theorem count_set {l : List Bool} {i : Nat} {a b : Bool} (h : l[i]? = some a) : (l.set i b).count true + (if a = true then 1 else 0) = l.count true + (if b = true then 1 else 0) := by
  induction l generalizing i with
  | nil => simp at h
  | cons x t ih =>
    cases i with
    | zero =>
      obtain rfl : x = a := by simpa using h
      rw [List.set_cons_zero, List.count_cons, List.count_cons]
      simp only [beq_iff_eq]
      omega
    | succ i =>
      have := ih (i := i) (by simpa using h)
      rw [List.set_cons_succ, List.count_cons, List.count_cons]
      omega
theorem Ar.has_true {s : Ar} {i : Nat} : s.has i = true ↔ s.T[i]? = some true := by
  unfold Ar.has
  cases h : s.T[i]? with
  | none => simp
  | some b => simp
theorem Ar.new_wf (n : Nat) : (Ar.new n).Wf := by
  refine ⟨by simp [Ar.new], by simp [Ar.new], by simp [Ar.new], ?_, ?_, ?_⟩
  · simp [Ar.fr, Ar.new, List.nodup_range']
  · intro i
    simp only [Ar.fr, Ar.new, List.reverse_nil, List.nil_append, List.mem_range'_1, List.getElem?_replicate]
    constructor
    · intro h; rw [if_pos (by omega)]
    · intro h; split at h
      · omega
      · cases h
  · simp [Ar.used, Ar.fr, Ar.new, List.count_replicate]
theorem Ar.next_none {s : Ar} (hw : s.Wf) (h : s.next = none) : s.fr = [] ∧ s.used = s.n ∧ s.D = [] ∧ s.nx = s.n := by
  have hc := hw.cnt
  have hn := hw.nx
  unfold Ar.next at h
  split at h
  · rename_i hd
    split at h
    · cases h
    · have : s.fr = [] := by simp [Ar.fr, hd]; omega
      rw [this] at hc
      simp at hc
      exact ⟨this, hc, hd, by omega⟩
  · rename_i hd
    exact absurd (List.getLast?_eq_none_iff.1 h) hd
theorem Ar.next_some {s : Ar} {i : Nat} (_ : s.Wf) (o : Ord) (h : s.next = some i) : s.fr = i :: (s.put i o).fr := by
  unfold Ar.next at h
  unfold Ar.fr Ar.put
  split at h
  · rename_i hd
    split at h
    · simp only [Option.some.injEq] at h
      subst h
      rw [if_pos hd, hd]
      simp only [List.reverse_nil, List.nil_append, List.dropLast_nil]
      rw [show s.n - s.nx = (s.n - (s.nx + 1)) + 1 by omega, List.range'_succ]
    · cases h
  · rename_i hd
    rw [if_neg hd]
    obtain ⟨h0, h1⟩ := List.getLast?_eq_some_iff.1 h
    rw [h1]
    simp
theorem Ar.next_lt {s : Ar} {i : Nat} (hw : s.Wf) (h : s.next = some i) : s.T[i]? = some false ∧ i < s.n := by
  have h1 := Ar.next_some hw Ord.zero h
  have h2 := (hw.mem i).1 (by rw [h1]; simp)
  refine ⟨h2, ?_⟩
  have := (List.getElem?_eq_some_iff.1 h2).1
  have := hw.lenT
  omega
theorem Ar.put_wf {s : Ar} {i : Nat} (hw : s.Wf) (o : Ord) (h : s.next = some i) : (s.put i o).Wf := by
  have h1 := Ar.next_some hw o h
  obtain ⟨h2, h3⟩ := Ar.next_lt hw h
  have hnd := hw.nodup
  rw [h1, List.nodup_cons] at hnd
  refine ⟨by simp [Ar.put, hw.lenO], by simp [Ar.put, hw.lenT], ?_, hnd.2, ?_, ?_⟩
  · have := hw.nx
    show (if s.D = [] then s.nx + 1 else s.nx) ≤ s.n
    unfold Ar.next at h
    split
    · rename_i hd
      rw [if_pos hd] at h
      split at h
      · omega
      · cases h
    · exact hw.nx
  · intro j
    have hm := hw.mem j
    rw [h1, List.mem_cons] at hm
    show j ∈ (s.put i o).fr ↔ (s.T.set i true)[j]? = some false
    rw [List.getElem?_set]
    by_cases hj : i = j
    · subst hj
      rw [if_pos rfl]
      constructor
      · intro h; exact absurd h hnd.1
      · intro h; split at h <;> simp at h
    · rw [if_neg hj, ← hm]
      constructor
      · intro h; exact .inr h
      · rintro (h | h)
        · exact absurd h.symm hj
        · exact h
  · have hc := hw.cnt
    rw [h1, List.length_cons] at hc
    have := count_set (b := true) h2
    simp only [Bool.false_eq_true, if_false, if_true] at this
    show (s.T.set i true).count true + _ = s.n
    unfold Ar.used at hc
    omega
theorem Ar.drop_fr (s : Ar) (i : Nat) : (s.drop i).fr = i :: s.fr := by simp [Ar.fr, Ar.drop]
theorem Ar.drop_wf {s : Ar} {i : Nat} (hw : s.Wf) (h : s.has i = true) : (s.drop i).Wf := by
  have h := Ar.has_true.1 h
  refine ⟨hw.lenO, by simp [Ar.drop, hw.lenT], hw.nx, ?_, ?_, ?_⟩
  · rw [Ar.drop_fr, List.nodup_cons]
    refine ⟨fun hm => ?_, hw.nodup⟩
    rw [hw.mem, h] at hm
    cases hm
  · intro j
    rw [Ar.drop_fr, List.mem_cons, hw.mem]
    show _ ↔ (s.T.set i false)[j]? = some false
    rw [List.getElem?_set]
    by_cases hj : i = j
    · subst hj
      rw [if_pos rfl, if_pos (List.getElem?_eq_some_iff.1 h).1]
      simp
    · rw [if_neg hj]
      constructor
      · rintro (h | h)
        · exact absurd h.symm hj
        · exact h
      · exact .inr
  · have hc := hw.cnt
    rw [Ar.drop_fr, List.length_cons]
    have := count_set (b := false) h
    simp only [Bool.false_eq_true, if_false, if_true] at this
    show (s.T.set i false).count true + _ = s.n
    unfold Ar.used at hc
    omega
theorem Ar.set_wf {s : Ar} {i : Nat} (hw : s.Wf) (o : Ord) : (s.set i o).Wf :=
  ⟨by simp [Ar.set, hw.lenO], hw.lenT, hw.nx, hw.nodup, hw.mem, hw.cnt⟩
theorem Ar.has_lt {s : Ar} {i : Nat} (hw : s.Wf) (h : s.has i = true) : i < s.n := by
  have := (List.getElem?_eq_some_iff.1 (Ar.has_true.1 h)).1
  have := hw.lenT
  omega
theorem Ar.has_not {s : Ar} {i : Nat} (hw : s.Wf) (h : i < s.n) (hf : s.has i = false) : s.T[i]? = some false := by
  have hl : i < s.T.length := by rw [hw.lenT]; exact h
  unfold Ar.has at hf
  rw [List.getElem?_eq_getElem hl] at hf ⊢
  simp at hf
  rw [hf]
/-- The chain of free slots: f is the first one, the cell behind a slot's order leads to the next one. -/
def Ch (c : Array Value) : Int → List Nat → Prop
  | f, [] => 0 ≤ f ∧ f ≤ 500
  | f, x :: r => f = (x : Int) ∧ ∃ y, c[x * 8 + 7]? = some (.int .i64 y) ∧ Ch c y r
theorem Ch.frame {c c' : Array Value} {f : Int} {l : List Nat} (h : Ch c f l) (hc : ∀ x ∈ l, c'[x * 8 + 7]? = c[x * 8 + 7]?) : Ch c' f l := by
  induction l generalizing f with
  | nil => exact h
  | cons x r ih =>
    obtain ⟨h1, y, h2, h3⟩ := h
    exact ⟨h1, y, by rw [hc x (by simp)]; exact h2, ih h3 (fun z hz => hc z (List.mem_cons_of_mem _ hz))⟩
theorem Ch.nn {c : Array Value} {f : Int} {l : List Nat} (h : Ch c f l) : 0 ≤ f := by
  cases l with
  | nil => exact h.1
  | cons x r => obtain ⟨h1, -⟩ := h; omega
theorem Ch.top {c : Array Value} {f : Int} {l : List Nat} (h : Ch c f l) (hl : ∀ x ∈ l, x ≤ 500) : f ≤ 500 := by
  cases l with
  | nil => exact h.2
  | cons x r => obtain ⟨h1, -⟩ := h; have := hl x (by simp); omega
theorem Ch.get {c : Array Value} {f : Int} {l : List Nat} (h : Ch c f l) {x : Nat} (hx : x ∈ l) : ∃ y : Int, c[x * 8 + 7]? = some (.int .i64 y) ∧ 0 ≤ y := by
  induction l generalizing f with
  | nil => simp at hx
  | cons z r ih =>
    obtain ⟨h1, y, h2, h3⟩ := h
    rcases List.mem_cons.1 hx with rfl | hx
    · exact ⟨y, h2, h3.nn⟩
    · exact ih h3 hx
/-- The cells of an arena: 500 slots of an order and a number; how many there are, how many are taken, the first free one. -/
structure Arn (c : Array Value) (s : Ar) : Prop where
  wf : s.Wf
  small : s.n ≤ 500
  size : c.size = 4003
  cn : c[4000]? = some (.int .i64 (s.n : Int))
  cu : c[4001]? = some (.int .i64 (s.used : Int))
  ord : ∀ i o, s.T[i]? = some true → s.O[i]? = some o → ∀ (j : Nat) (v : Value), (cOrd o)[j]? = some v → c[i * 8 + j]? = some v
  tk : ∀ i, s.T[i]? = some true → c[i * 8 + 7]? = some (.int .i64 (-1))
  ch : ∃ f, c[4002]? = some (.int .i64 f) ∧ Ch c f s.fr
/-- Is the slot of this number taken: its cell says so. -/
theorem Arn.link {c : Array Value} {s : Ar} (h : Arn c s) {i : Nat} (hi : i < s.n) : ∃ y : Int, c[i * 8 + 7]? = some (.int .i64 y) ∧ (y == -1) = s.has i := by
  cases hh : s.has i with
  | true => exact ⟨-1, h.tk i (Ar.has_true.1 hh), rfl⟩
  | false =>
    obtain ⟨f, -, hc⟩ := h.ch
    obtain ⟨y, h1, h2⟩ := hc.get ((h.wf.mem i).2 (Ar.has_not h.wf hi hh))
    exact ⟨y, h1, by simp; omega⟩
def Ar.hasI (s : Ar) (x : Int) : Bool := decide (0 ≤ x) && s.has x.toNat
theorem Ar.hasI_nat (s : Ar) (i : Nat) : s.hasI (i : Int) = s.has i := by simp [Ar.hasI]
theorem Ar.hasI_neg (s : Ar) {x : Int} (h : x < 0) : s.hasI x = false := by
  unfold Ar.hasI
  rw [decide_eq_false (by omega)]
  rfl
theorem Ar.has_ge {s : Ar} (hw : s.Wf) {i : Nat} (h : s.n ≤ i) : s.has i = false := by
  unfold Ar.has
  rw [List.getElem?_eq_none (by rw [hw.lenT]; exact h)]
  rfl
end Go.Proofs.YtdmjcjheanedgaaDoor
namespace Go.Proofs.YtdmjcjheanedgaaDoor
open Go.RowKit
set_option maxRecDepth 8000 in
set_option maxHeartbeats 1000000 in
theorem holds_any (g : Nat) (c : Array Value) (s : Ar) (x : Int) (W : World) (hB : Blk W g 112 c) (hA : Arn c s) :
    Calls Tryd.prog 84 #[.pointer (some ⟨g, 0, none⟩), .int .i64 x] W fun e w' => e = .returned (.bool (s.hasI x)) ∧ w' = W := by
  have c0 := hB.cell_eq 4000 _ hA.cn
  have hn := hA.small
  by_cases h0 : x < 0
  · rw [s.hasI_neg h0]
    go_enter Tryd.func84, Tryd.ntmps84
    go_wp2_with fail
    all_goals go_ret
    all_goals trivial
  · obtain ⟨i, rfl⟩ : ∃ i : Nat, x = (i : Int) := ⟨x.toNat, by omega⟩
    rw [s.hasI_nat]
    by_cases h1 : i < s.n
    · obtain ⟨y, hy, hk⟩ := hA.link h1
      have c1 := hB.cell_eq _ _ hy
      rw [← hk]
      generalize s.n = n at *
      clear hk hy hA
      go_enter Tryd.func84, Tryd.ntmps84
      go_wp2_with fail
      all_goals go_ret
      all_goals trivial
    · rw [Ar.has_ge hA.wf (by omega)]
      generalize s.n = n at *
      clear hA
      go_enter Tryd.func84, Tryd.ntmps84
      go_wp2_with fail
      all_goals go_ret
      all_goals trivial
set_option maxRecDepth 8000 in
set_option maxHeartbeats 1000000 in
theorem used_any (g : Nat) (c : Array Value) (s : Ar) (W : World) (hB : Blk W g 112 c) (hA : Arn c s) :
    Calls Tryd.prog 49 #[.pointer (some ⟨g, 0, none⟩)] W fun e w' => e = .returned (.int .i64 (s.used : Int)) ∧ w' = W := by
  have c1 := hB.cell_eq 4001 _ hA.cu
  generalize s.used = u at *
  clear hA
  go_enter Tryd.func49, Tryd.ntmps49
  go_wp2_with fail
  all_goals go_ret
  all_goals trivial
set_option maxRecDepth 8000 in
set_option maxHeartbeats 1000000 in
theorem room_any (g : Nat) (c : Array Value) (s : Ar) (W : World) (hB : Blk W g 112 c) (hA : Arn c s) :
    Calls Tryd.prog 56 #[.pointer (some ⟨g, 0, none⟩)] W fun e w' => e = .returned (.int .i64 (s.fr.length : Int)) ∧ ∃ n, w' = W.drewN n := by
  have c0 := hB.cell_eq 4000 _ hA.cn
  have c1 := hB.cell_eq 4001 _ hA.cu
  have h1 := hA.wf.cnt
  have h2 := hA.small
  have h3 : IntKind.i64.wrap ((s.n : Int) - s.used) = s.fr.length := by
    rw [IntWalk.i64_in _ (by omega)]; omega
  generalize s.used = u at *
  generalize s.fr.length = r at *
  generalize s.n = n at *
  clear hA h1
  go_enter Tryd.func56, Tryd.ntmps56
  go_wp2_with fail
  go_quiet (fail)
  go_wp2
  all_goals go_ret
  all_goals exact ⟨rfl, _, rfl⟩
end Go.Proofs.YtdmjcjheanedgaaDoor
namespace Go.Proofs.YtdmjcjheanedgaaDoor
open Go.RowKit
theorem cOrd_lt {o : Ord} {j : Nat} {v : Value} (h : (cOrd o)[j]? = some v) : j < 7 := by
  have := (Array.getElem?_eq_some_iff.1 h).1
  simpa using this
theorem Arn.used_pos {c : Array Value} {s : Ar} {i : Nat} (_ : Arn c s) (hi : s.has i = true) : 1 ≤ s.used := by
  have : true ∈ s.T := List.mem_of_getElem? (Ar.has_true.1 hi)
  exact List.count_pos_iff.2 this
theorem Arn.used_le {c : Array Value} {s : Ar} (h : Arn c s) : s.used ≤ s.n := by have := h.wf.cnt; omega
theorem Arn.drop {c c' : Array Value} {s : Ar} {i : Nat} {f : Int} (h : Arn c s) (hi : s.has i = true) (hf : c[4002]? = some (.int .i64 f)) (hs : c'.size = c.size)
    (h0 : c'[4000]? = c[4000]?) (h1 : c'[4001]? = some (.int .i64 ((s.used : Int) - 1))) (h2 : c'[4002]? = some (.int .i64 (i : Int))) (h3 : c'[i * 8 + 7]? = some (.int .i64 f))
    (hk : ∀ k, k < 4000 → k / 8 ≠ i → c'[k]? = c[k]?) : Arn c' (s.drop i) := by
  have hlt := Ar.has_lt h.wf hi
  have hsm := h.small
  have hT : ∀ j, (s.T.set i false)[j]? = some true → j ≠ i ∧ s.T[j]? = some true := by
    intro j hj
    rw [List.getElem?_set] at hj
    split at hj
    · split at hj <;> simp at hj
    · rename_i hne; exact ⟨fun e => hne e.symm, hj⟩
  have hTn : ∀ j, s.T[j]? = some true → j < s.n := fun j hj => by
    have := (List.getElem?_eq_some_iff.1 hj).1
    rw [h.wf.lenT] at this; exact this
  refine ⟨Ar.drop_wf h.wf hi, hsm, by rw [hs]; exact h.size, by rw [h0]; exact h.cn, ?_, ?_, ?_, ⟨i, h2, ?_⟩⟩
  · rw [h1]
    have hc := count_set (b := false) (Ar.has_true.1 hi)
    simp only [Bool.false_eq_true, if_false, if_true] at hc
    have he : ((s.used : Int) - 1) = ((s.drop i).used : Int) := by
      show ((s.T.count true : Nat) : Int) - 1 = (((s.T.set i false).count true : Nat) : Int)
      omega
    rw [he]
  · intro j o hj ho q v hq
    obtain ⟨hne, hj⟩ := hT j hj
    have := cOrd_lt hq
    have := hTn j hj
    rw [hk _ (by omega) (by omega)]
    exact h.ord j o hj ho q v hq
  · intro j hj
    obtain ⟨hne, hj⟩ := hT j hj
    have := hTn j hj
    rw [hk _ (by omega) (by omega)]
    exact h.tk j hj
  · rw [Ar.drop_fr]
    obtain ⟨f', hf', hch⟩ := h.ch
    rw [hf] at hf'
    cases hf'
    refine ⟨rfl, f, h3, hch.frame fun x hx => ?_⟩
    have hx := (h.wf.mem x).1 hx
    have hxn : x < s.n := by
      have := (List.getElem?_eq_some_iff.1 hx).1
      rw [h.wf.lenT] at this; exact this
    have hne : x ≠ i := by
      rintro rfl
      rw [Ar.has_true.1 hi] at hx
      cases hx
    exact hk _ (by omega) (by omega)
theorem Arn.put {c c' : Array Value} {s : Ar} {i : Nat} {y : Int} (o : Ord) (h : Arn c s) (hi : s.next = some i) (hy : c[i * 8 + 7]? = some (.int .i64 y)) (hs : c'.size = c.size)
    (h0 : c'[4000]? = c[4000]?) (h1 : c'[4001]? = some (.int .i64 ((s.used : Int) + 1))) (h2 : c'[4002]? = some (.int .i64 y)) (h3 : c'[i * 8 + 7]? = some (.int .i64 (-1)))
    (h4 : ∀ (j : Nat) (v : Value), (cOrd o)[j]? = some v → c'[i * 8 + j]? = some v) (hk : ∀ k, k < 4000 → k / 8 ≠ i → c'[k]? = c[k]?) : Arn c' (s.put i o) := by
  obtain ⟨hTi, hlt⟩ := Ar.next_lt h.wf hi
  have hsm := h.small
  have hTn : ∀ (b : Bool) j, s.T[j]? = some b → j < s.n := fun b j hj => by
    have := (List.getElem?_eq_some_iff.1 hj).1
    rw [h.wf.lenT] at this; exact this
  refine ⟨Ar.put_wf h.wf o hi, hsm, by rw [hs]; exact h.size, by rw [h0]; exact h.cn, ?_, ?_, ?_, ⟨y, h2, ?_⟩⟩
  · rw [h1]
    have hc := count_set (b := true) hTi
    simp only [Bool.false_eq_true, if_false, if_true] at hc
    have he : ((s.used : Int) + 1) = ((s.put i o).used : Int) := by
      show ((s.T.count true : Nat) : Int) + 1 = (((s.T.set i true).count true : Nat) : Int)
      omega
    rw [he]
  · intro j o' hj ho q v hq
    have hq7 := cOrd_lt hq
    change (s.T.set i true)[j]? = some true at hj
    change (s.O.set i o)[j]? = some o' at ho
    rw [List.getElem?_set] at hj ho
    by_cases hij : i = j
    · subst hij
      rw [if_pos rfl, if_pos (by rw [h.wf.lenO]; exact hlt)] at ho
      cases ho
      exact h4 q v hq
    · rw [if_neg hij] at hj ho
      have := hTn _ j hj
      rw [hk _ (by omega) (by omega)]
      exact h.ord j o' hj ho q v hq
  · intro j hj
    change (s.T.set i true)[j]? = some true at hj
    rw [List.getElem?_set] at hj
    by_cases hij : i = j
    · subst hij; exact h3
    · rw [if_neg hij] at hj
      have := hTn _ j hj
      rw [hk _ (by omega) (by omega)]
      exact h.tk j hj
  · obtain ⟨f, -, hch⟩ := h.ch
    have hnd := h.wf.nodup
    have hmem := fun x => (h.wf.mem x).1
    rw [Ar.next_some h.wf o hi] at hch hnd hmem
    obtain ⟨-, y', hy', hch⟩ := hch
    rw [hy] at hy'
    cases hy'
    refine hch.frame fun x hx => ?_
    have hxn := hTn _ x (hmem x (List.mem_cons_of_mem _ hx))
    have hne : x ≠ i := by
      rintro rfl
      exact (List.nodup_cons.1 hnd).1 hx
    exact hk _ (by omega) (by omega)
theorem Arn.set {c c' : Array Value} {s : Ar} {i : Nat} (o : Ord) (h : Arn c s) (hi : s.has i = true) (hs : c'.size = c.size)
    (h4 : ∀ (j : Nat) (v : Value), (cOrd o)[j]? = some v → c'[i * 8 + j]? = some v) (hk : ∀ k, (∀ j, j < 7 → k ≠ i * 8 + j) → c'[k]? = c[k]?) : Arn c' (s.set i o) := by
  have hlt := Ar.has_lt h.wf hi
  have hsm := h.small
  obtain ⟨f, hf, hch⟩ := h.ch
  refine ⟨Ar.set_wf h.wf o, hsm, by rw [hs]; exact h.size, ?_, ?_, ?_, ?_, ⟨f, ?_, ?_⟩⟩
  · rw [hk _ (fun j hj => by omega)]; exact h.cn
  · rw [hk _ (fun j hj => by omega)]; exact h.cu
  · intro j o' hj ho q v hq
    have hq7 := cOrd_lt hq
    change (s.O.set i o)[j]? = some o' at ho
    rw [List.getElem?_set] at ho
    by_cases hij : i = j
    · subst hij
      rw [if_pos rfl, if_pos (by rw [h.wf.lenO]; exact hlt)] at ho
      cases ho
      exact h4 q v hq
    · rw [if_neg hij] at ho
      rw [hk _ (fun j hj => by omega)]
      exact h.ord j o' hj ho q v hq
  · intro j hj
    rw [hk _ (fun j hj => by omega)]
    exact h.tk j hj
  · rw [hk _ (fun j hj => by omega)]; exact hf
  · exact hch.frame fun x hx => hk _ (fun j hj => by omega)
end Go.Proofs.YtdmjcjheanedgaaDoor
namespace Go.Proofs.YtdmjcjheanedgaaDoor
open Go.RowKit
theorem below_drewN {B : Nat} {w w' : World} (h : Below B w w') (n : Nat) : Below B w (w'.drewN n) := ⟨h.os, h.tape, h.output, h.size, h.block⟩
theorem drew_blk {w : World} {g : Nat} {t : TypeId} {c : Array Value} (h : Blk w g t c) : Blk w.drew g t c := h
theorem Arn.cells {c : Array Value} {s : Ar} {W : World} {g : Nat} {t : TypeId} (h : Arn c s) (hB : Blk W g t c) (j : Nat) (hj : j < 4003) : ∃ v, W.cell? ⟨g, j, none⟩ = some v := ⟨_, hB.cell_eq j _ (Array.getElem?_eq_getElem (by rw [h.size]; exact hj))⟩
set_option maxRecDepth 8000 in
set_option maxHeartbeats 1000000 in
theorem free_any (g : Nat) (c : Array Value) (s : Ar) (i : Nat) (W : World) (hB : Blk W g 112 c) (hA : Arn c s) (hi : s.has i = true) :
    Calls Tryd.prog 87 #[.pointer (some ⟨g, 0, none⟩), .int .i64 (i : Int)] W fun e w' => e = .returned undef ∧ Frm (fun b => b = g) W w' ∧ ∃ c', Blk w' g 112 c' ∧ Arn c' (s.drop i) := by
  have hlt := Ar.has_lt hA.wf hi
  have hsm := hA.small
  obtain ⟨f, hf, hch⟩ := hA.ch
  have k2 := hB.cell_eq 4002 _ hf
  have k1 := hB.cell_eq 4001 _ hA.cu
  have hlt2 : i < 500 := by omega
  have hfr := hB.free
  have hex := hA.cells hB
  obtain ⟨v0, e0⟩ := hex (i * 8 + 0) (by omega)
  obtain ⟨v1, e1⟩ := hex (i * 8 + 1) (by omega)
  obtain ⟨v2, e2⟩ := hex (i * 8 + 2) (by omega)
  obtain ⟨v3, e3⟩ := hex (i * 8 + 3) (by omega)
  obtain ⟨v4, e4⟩ := hex (i * 8 + 4) (by omega)
  obtain ⟨v5, e5⟩ := hex (i * 8 + 5) (by omega)
  obtain ⟨v6, e6⟩ := hex (i * 8 + 6) (by omega)
  obtain ⟨v7, e7⟩ := hex (i * 8 + 7) (by omega)
  replace e0 : W.cell? ⟨g, i * 8, none⟩ = some v0 := e0
  clear hex
  obtain ⟨l, hl⟩ : ∃ l : List (Nat × Value), l = [(i * 8, .int .i64 0), (i * 8 + 1, .int .i64 0), (i * 8 + 2, .int .i64 0), (i * 8 + 3, .int .i64 0), (i * 8 + 4, .int .i64 0), (i * 8 + 5, .int .i64 0), (i * 8 + 6, .int .i64 0), (i * 8 + 7, .int .i64 f), (4002, .int .i64 (i : Int)), (4001, .int .i64 ((s.used : Int) - 1))] := ⟨_, rfl⟩
  have hnd : (l.map (·.1)).Nodup := by rw [hl]; simp; omega
  have hsz := hA.size
  have hAr : Arn (setN c l) (s.drop i) := by
    refine hA.drop hi hf (setN_size _ _) (setN_not _ _ _ ?_) (setN_mem _ _ _ _ hnd ?_ (by omega)) (setN_mem _ _ _ _ hnd ?_ (by omega)) (setN_mem _ _ _ _ hnd ?_ (by omega)) (fun k hk hki => setN_not _ _ _ ?_)
    · rw [hl]; intro p hp; simp at hp; rcases hp with rfl | rfl | rfl | rfl | rfl | rfl | rfl | rfl | rfl | rfl <;> simp <;> omega
    · rw [hl]; simp
    · rw [hl]; simp
    · rw [hl]; simp
    · rw [hl]; intro p hp; simp at hp; rcases hp with rfl | rfl | rfl | rfl | rfl | rfl | rfl | rfl | rfl | rfl <;> simp <;> omega
  have hBl := hB.setN l
  have hFl := (Frm.refl (fun b => b = g) W).setW (g := g) l (.inl rfl)
  clear hnd
  have hu1 := hA.used_pos hi
  have hu2 := hA.used_le
  have H := Lib.hid hl
  clear hl
  generalize hu : s.used = u at *
  generalize s.n = n at *
  clear hA hch hu hf hsz
  go_enter Tryd.func87, Tryd.ntmps87
  go_wp2_with fail
  go_region
  all_goals (go_wp2_with fail)
  all_goals go_end0
  all_goals
    have hl := H.out
    rw [hl] at hFl
    have hBl2 : Blk (setW W g l) g 112 (setN c l) := hBl
    conv at hBl2 => arg 1; rw [hl]
    simp only [setW] at hBl2 hFl
    exact ⟨rfl, hFl.drew, _, drew_blk hBl2, hAr⟩
set_option maxRecDepth 8000 in
set_option maxHeartbeats 1000000 in
theorem drop_any (g : Nat) (c : Array Value) (s : Ar) (x : Int) (W : World) (hB : Blk W g 112 c) (hA : Arn c s) :
    Calls Tryd.prog 71 #[.pointer (some ⟨g, 0, none⟩), .int .i64 x] W fun e w' => e = .returned (.bool (s.hasI x)) ∧ Frm (fun b => b = g) W w' ∧ ∃ c', Blk w' g 112 c' ∧ Arn c' (if s.hasI x = true then s.drop x.toNat else s) := by
  have cH := holds_any g c s x W hB hA
  by_cases hx : s.hasI x = true
  · rw [if_pos hx]
    rw [hx] at cH ⊢
    have h0 : 0 ≤ x := by
      rcases Int.lt_or_le x 0 with h | h
      · rw [s.hasI_neg h] at hx; cases hx
      · exact h
    obtain ⟨i, rfl⟩ : ∃ i : Nat, x = (i : Int) := ⟨x.toNat, by omega⟩
    rw [s.hasI_nat] at hx
    have cF := free_any g c s i W hB hA hx
    rw [Int.toNat_natCast]
    clear hx h0
    go_enter Tryd.func71, Tryd.ntmps71
    go_wp2_with (first
      | (go_at_call 84; (with_reducible refine cH.mono ?_); rintro e w1 ⟨rfl, rfl⟩)
      | (go_at_call 87; (with_reducible refine cF.mono ?_); rintro e w2 ⟨rfl, h2⟩))
    go_ret
    exact ⟨rfl, h2⟩
  · rw [if_neg hx]
    obtain hx : s.hasI x = false := by simpa using hx
    rw [hx] at cH ⊢
    clear hx
    go_enter Tryd.func71, Tryd.ntmps71
    go_wp2_with (go_at_call 84; (with_reducible refine cH.mono ?_); rintro e w1 ⟨rfl, rfl⟩)
    go_ret
    exact ⟨rfl, Frm.refl _ _, c, hB, hA⟩
end Go.Proofs.YtdmjcjheanedgaaDoor
namespace Go.Proofs.YtdmjcjheanedgaaDoor
open Go.RowKit
set_option maxRecDepth 8000 in
set_option maxHeartbeats 1000000 in
theorem take_any (g : Nat) (c : Array Value) (s : Ar) (o : Ord) (i : Nat) (W : World) (hB : Blk W g 112 c) (hA : Arn c s) (hi : s.next = some i) :
    Calls Tryd.prog 37 #[.pointer (some ⟨g, 0, none⟩), vOrd o] W fun e w' => e = .returned (.tuple #[.int .i64 (i : Int), .int .i64 0]) ∧ Frm (fun b => b = g) W w' ∧ ∃ c', Blk w' g 112 c' ∧ Arn c' (s.put i o) := by
  obtain ⟨hTi, hlt⟩ := Ar.next_lt hA.wf hi
  have hsm := hA.small
  have cR := fun w (hb : Blk w g 112 c) => room_any g c s w hb hA
  have hfrl := Ar.next_some hA.wf o hi
  obtain ⟨r, hr⟩ : ∃ r, s.fr.length = r + 1 := ⟨_, by rw [hfrl]; rfl⟩
  rw [hr] at cR
  have hcnt := hA.wf.cnt
  obtain ⟨f, hf, hch⟩ := hA.ch
  rw [hfrl] at hch
  obtain ⟨rfl, y, hy, -⟩ := hch
  have hBl0 := hB.lt
  obtain ⟨W1, hW1⟩ : ∃ W1, W1 = W.alloc (.cells (cOrd o) 44) := ⟨_, rfl⟩
  have hB1 : Blk W1 g 112 c := by rw [hW1]; exact hB.alloc _
  have hBx : Blk W1 W.heap.size 44 (cOrd o) := by rw [hW1]; exact Blk.new _ _ _
  have hF1 : Frm (fun b => b = g) W W1 := by rw [hW1]; exact (Frm.refl _ W).alloc _
  obtain ⟨l1, hl1⟩ : ∃ l : List (Nat × Value), l = [(i * 8, .int .i64 o.id), (i * 8 + 1, .int .i64 o.owner), (i * 8 + 2, .int .i64 o.side), (i * 8 + 3, .int .i64 o.price), (i * 8 + 4, .int .i64 o.qty), (i * 8 + 5, .int .i64 o.flags), (i * 8 + 6, .int .i64 o.seq), (i * 8 + 7, .int .i64 (-1)), (4001, .int .i64 ((s.used : Int) + 1))] := ⟨_, rfl⟩
  obtain ⟨l, hl⟩ : ∃ l, l = (4002, Value.int .i64 y) :: l1 := ⟨_, rfl⟩
  have hAr0 : setN (c.setIfInBounds 4002 (.int .i64 y)) l1 = setN c l := by rw [hl]; rfl
  rw [hl1] at hl
  have hnd : (l.map (·.1)).Nodup := by rw [hl]; simp; omega
  have hsz := hA.size
  have hAr : Arn (setN c l) (s.put i o) := by
    refine hA.put o hi hy (setN_size _ _) (setN_not _ _ _ ?_) (setN_mem _ _ _ _ hnd ?_ (by omega)) (setN_mem _ _ _ _ hnd ?_ (by omega)) (setN_mem _ _ _ _ hnd ?_ (by omega)) (fun j v hv => ?_) (fun k hk hki => setN_not _ _ _ ?_)
    · rw [hl]; intro p hp; simp at hp; rcases hp with rfl | rfl | rfl | rfl | rfl | rfl | rfl | rfl | rfl | rfl <;> simp <;> omega
    · rw [hl]; simp
    · rw [hl]; simp
    · rw [hl]; simp
    · have hj := cOrd_lt hv
      refine setN_mem _ _ _ _ hnd ?_ (by omega)
      rw [hl]
      match j, hv with
      | 0, hv => simp at hv; simp [hv]
      | 1, hv => simp at hv; simp [hv]
      | 2, hv => simp at hv; simp [hv]
      | 3, hv => simp at hv; simp [hv]
      | 4, hv => simp at hv; simp [hv]
      | 5, hv => simp at hv; simp [hv]
      | 6, hv => simp at hv; simp [hv]
    · rw [hl]; intro p hp; simp at hp; rcases hp with rfl | rfl | rfl | rfl | rfl | rfl | rfl | rfl | rfl | rfl <;> simp <;> omega
  rw [← hAr0] at hAr
  have H := Lib.hid hl1
  clear hl hnd hl1 hAr0
  have fin : ∀ m, Blk (W1.drewN m) g 112 c ∧ Blk (W1.drewN m) W.heap.size 44 (cOrd o) ∧ Frm (fun b => b = g) W (W1.drewN m) := fun m => ⟨hB1, hBx, hF1.trans (Frm.of_below (S := fun _ => False) (below_drewN (Below.refl _ _) m)) (fun _ h => h.elim)⟩
  have hd : ((((r + 1 : Nat) : Int)) == 0) = false := by simp; omega
  have hu2 : s.used ≤ 500 := by omega
  have hlt2 : i < 500 := by omega
  have hcu0 := hA.cu
  generalize s.used = u at *
  generalize s.n = n at *
  clear hr hcnt hTi hi hfrl
  obtain ⟨a1, a2, a3, a4, a5, a6, a7⟩ := o
  simp only [vOrd, cOrd] at *
  go_enter Tryd.func37, Tryd.ntmps37
  go_wp2_with (go_at_call 56; rw [← hW1]; (with_reducible refine (cR _ hB1).mono ?_); rintro e w1 ⟨rfl, m, rfl⟩; obtain ⟨g1, g2, g3⟩ := fin m; generalize W1.drewN m = V at *; clear fin hB1 hBx hF1 hW1 hB cR; have k2 := g1.cell_eq 4002 _ hf; have ky := g1.cell_eq _ _ hy; have hfr := g1.free)
  have g1' := g1.set 4002 (.int .i64 y)
  have g2' := g2.other (a := ⟨g, 4002, none⟩) (by show g ≠ W.heap.size; omega) (.int .i64 y)
  have g3' := g3.setCell ⟨g, 4002, none⟩ (.int .i64 y) (.inl rfl)
  have hsz' : (c.setIfInBounds 4002 (.int .i64 y)).size = 4003 := by rw [Array.size_setIfInBounds]; exact hsz
  have hcu : (c.setIfInBounds 4002 (.int .i64 y))[4001]? = some (.int .i64 (u : Int)) := by rw [Array.getElem?_setIfInBounds, if_neg (by omega)]; exact hcu0
  clear k2 ky hfr g1 g2 g3
  generalize V.setCell ⟨g, 4002, none⟩ (.int .i64 y) = V2 at *
  have k1 := g1'.cell_eq 4001 _ hcu
  have hfr := g1'.free
  have hex : ∀ j, j < 4003 → ∃ v, V2.cell? ⟨g, j, none⟩ = some v := fun j hj => ⟨_, g1'.cell_eq j _ (Array.getElem?_eq_getElem (by rw [hsz']; exact hj))⟩
  obtain ⟨v0, e0⟩ := hex (i * 8 + 0) (by omega)
  obtain ⟨v1, e1⟩ := hex (i * 8 + 1) (by omega)
  obtain ⟨v2, e2⟩ := hex (i * 8 + 2) (by omega)
  obtain ⟨v3, e3⟩ := hex (i * 8 + 3) (by omega)
  obtain ⟨v4, e4⟩ := hex (i * 8 + 4) (by omega)
  obtain ⟨v5, e5⟩ := hex (i * 8 + 5) (by omega)
  obtain ⟨v6, e6⟩ := hex (i * 8 + 6) (by omega)
  obtain ⟨v7, e7⟩ := hex (i * 8 + 7) (by omega)
  replace e0 : V2.cell? ⟨g, i * 8, none⟩ = some v0 := e0
  clear hex hcu hsz'
  have b0 : V2.cell? ⟨W.heap.size, 0, none⟩ = some (.int .i64 a1) := g2'.cell_eq 0 _ rfl
  have b1 : V2.cell? ⟨W.heap.size, 1, none⟩ = some (.int .i64 a2) := g2'.cell_eq 1 _ rfl
  have b2 : V2.cell? ⟨W.heap.size, 2, none⟩ = some (.int .i64 a3) := g2'.cell_eq 2 _ rfl
  have b3 : V2.cell? ⟨W.heap.size, 3, none⟩ = some (.int .i64 a4) := g2'.cell_eq 3 _ rfl
  have b4 : V2.cell? ⟨W.heap.size, 4, none⟩ = some (.int .i64 a5) := g2'.cell_eq 4 _ rfl
  have b5 : V2.cell? ⟨W.heap.size, 5, none⟩ = some (.int .i64 a6) := g2'.cell_eq 5 _ rfl
  have b6 : V2.cell? ⟨W.heap.size, 6, none⟩ = some (.int .i64 a7) := g2'.cell_eq 6 _ rfl
  generalize W.heap.size = gx at *
  have hI : (i : Int) < 500 := by omega
  go_still_tail 7, (by kernel_rfl)
  change wpList _ _ _ _ _ (World.drew _)
  replace g1' := drew_blk g1'
  replace g3' := g3'.drew
  replace k1 : V2.drew.cell? ⟨g, 4001, none⟩ = _ := k1
  replace hfr : ∀ i, V2.drew.frozen? ⟨g, i, none⟩ = false := hfr
  replace e0 : V2.drew.cell? ⟨g, i * 8, none⟩ = some v0 := e0
  replace e1 : V2.drew.cell? ⟨g, i * 8 + 1, none⟩ = some v1 := e1
  replace e2 : V2.drew.cell? ⟨g, i * 8 + 2, none⟩ = some v2 := e2
  replace e3 : V2.drew.cell? ⟨g, i * 8 + 3, none⟩ = some v3 := e3
  replace e4 : V2.drew.cell? ⟨g, i * 8 + 4, none⟩ = some v4 := e4
  replace e5 : V2.drew.cell? ⟨g, i * 8 + 5, none⟩ = some v5 := e5
  replace e6 : V2.drew.cell? ⟨g, i * 8 + 6, none⟩ = some v6 := e6
  replace e7 : V2.drew.cell? ⟨g, i * 8 + 7, none⟩ = some v7 := e7
  clear b0 b1 b2 b3 b4 b5 b6 g2'
  generalize V2.drew = V3 at *
  go_wp2_with fail
  go_ret2
  have hl1 := H.out
  have hB' := g1'.setN l1
  conv at hB' => arg 1; rw [hl1]
  have hF' := g3'.setW (g := g) l1 (.inl rfl)
  rw [hl1] at hF'
  simp only [setW] at hB' hF'
  exact ⟨rfl, hF', _, hB', hAr⟩
end Go.Proofs.YtdmjcjheanedgaaDoor
namespace Go.Proofs.YtdmjcjheanedgaaDoor
open Go.RowKit
set_option maxRecDepth 8000 in
set_option maxHeartbeats 1000000 in
theorem set_any (g : Nat) (c : Array Value) (s : Ar) (x : Int) (o : Ord) (W : World) (hB : Blk W g 112 c) (hA : Arn c s) :
    Calls Tryd.prog 72 #[.pointer (some ⟨g, 0, none⟩), .int .i64 x, vOrd o] W fun e w' => e = .returned (.bool (s.hasI x)) ∧ Frm (fun b => b = g) W w' ∧ ∃ c', Blk w' g 112 c' ∧ Arn c' (if s.hasI x = true then s.set x.toNat o else s) := by
  obtain ⟨W1, hW1⟩ : ∃ W1, W1 = W.alloc (.cells (cOrd o) 44) := ⟨_, rfl⟩
  have hB1 : Blk W1 g 112 c := by rw [hW1]; exact hB.alloc _
  have hBx : Blk W1 W.heap.size 44 (cOrd o) := by rw [hW1]; exact Blk.new _ _ _
  have hF1 : Frm (fun b => b = g) W W1 := by rw [hW1]; exact (Frm.refl _ W).alloc _
  have cH := holds_any g c s x W1 hB1 hA
  by_cases hx : s.hasI x = true
  · rw [if_pos hx]
    rw [hx] at cH ⊢
    have h0 : 0 ≤ x := by
      rcases Int.lt_or_le x 0 with h | h
      · rw [s.hasI_neg h] at hx; cases hx
      · exact h
    obtain ⟨i, rfl⟩ : ∃ i : Nat, x = (i : Int) := ⟨x.toNat, by omega⟩
    rw [s.hasI_nat] at hx
    rw [Int.toNat_natCast]
    have hlt := Ar.has_lt hA.wf hx
    have hsm := hA.small
    have hsz := hA.size
    obtain ⟨l1, hl1⟩ : ∃ l : List (Nat × Value), l = [(i * 8, .int .i64 o.id), (i * 8 + 1, .int .i64 o.owner), (i * 8 + 2, .int .i64 o.side), (i * 8 + 3, .int .i64 o.price), (i * 8 + 4, .int .i64 o.qty), (i * 8 + 5, .int .i64 o.flags), (i * 8 + 6, .int .i64 o.seq)] := ⟨_, rfl⟩
    have hnd : (l1.map (·.1)).Nodup := by rw [hl1]; simp
    have hAr : Arn (setN c l1) (s.set i o) := by
      refine hA.set o hx (setN_size _ _) (fun j v hv => ?_) (fun k hk => setN_not _ _ _ ?_)
      · have hj := cOrd_lt hv
        refine setN_mem _ _ _ _ hnd ?_ (by omega)
        rw [hl1]
        match j, hv with
        | 0, hv => simp at hv; simp [hv]
        | 1, hv => simp at hv; simp [hv]
        | 2, hv => simp at hv; simp [hv]
        | 3, hv => simp at hv; simp [hv]
        | 4, hv => simp at hv; simp [hv]
        | 5, hv => simp at hv; simp [hv]
        | 6, hv => simp at hv; simp [hv]
      · rw [hl1]; intro p hp; simp at hp
        rcases hp with rfl | rfl | rfl | rfl | rfl | rfl | rfl
        · exact fun e => hk 0 (by omega) e.symm
        · exact fun e => hk 1 (by omega) e.symm
        · exact fun e => hk 2 (by omega) e.symm
        · exact fun e => hk 3 (by omega) e.symm
        · exact fun e => hk 4 (by omega) e.symm
        · exact fun e => hk 5 (by omega) e.symm
        · exact fun e => hk 6 (by omega) e.symm
    have H := Lib.hid hl1
    have hex := hA.cells hB1
    have hlt2 : i < 500 := by omega
    clear hl1 hnd h0 hA hB
    generalize s.n = n at *
    generalize s.set i o = s' at *
    clear hx
    obtain ⟨a1, a2, a3, a4, a5, a6, a7⟩ := o
    simp only [vOrd, cOrd] at *
    go_enter Tryd.func72, Tryd.ntmps72
    go_wp2_with (go_at_call 84; rw [← hW1]; (with_reducible refine cH.mono ?_); rintro e W1 ⟨rfl, rfl⟩; clear hW1)
    have hfr := hB1.free
    obtain ⟨v0, e0⟩ := hex (i * 8 + 0) (by omega)
    obtain ⟨v1, e1⟩ := hex (i * 8 + 1) (by omega)
    obtain ⟨v2, e2⟩ := hex (i * 8 + 2) (by omega)
    obtain ⟨v3, e3⟩ := hex (i * 8 + 3) (by omega)
    obtain ⟨v4, e4⟩ := hex (i * 8 + 4) (by omega)
    obtain ⟨v5, e5⟩ := hex (i * 8 + 5) (by omega)
    obtain ⟨v6, e6⟩ := hex (i * 8 + 6) (by omega)
    replace e0 : W1.cell? ⟨g, i * 8, none⟩ = some v0 := e0
    clear hex hsz hsm hlt cH
    have b0 : W1.cell? ⟨W.heap.size, 0, none⟩ = some (.int .i64 a1) := hBx.cell_eq 0 _ rfl
    have b1 : W1.cell? ⟨W.heap.size, 1, none⟩ = some (.int .i64 a2) := hBx.cell_eq 1 _ rfl
    have b2 : W1.cell? ⟨W.heap.size, 2, none⟩ = some (.int .i64 a3) := hBx.cell_eq 2 _ rfl
    have b3 : W1.cell? ⟨W.heap.size, 3, none⟩ = some (.int .i64 a4) := hBx.cell_eq 3 _ rfl
    have b4 : W1.cell? ⟨W.heap.size, 4, none⟩ = some (.int .i64 a5) := hBx.cell_eq 4 _ rfl
    have b5 : W1.cell? ⟨W.heap.size, 5, none⟩ = some (.int .i64 a6) := hBx.cell_eq 5 _ rfl
    have b6 : W1.cell? ⟨W.heap.size, 6, none⟩ = some (.int .i64 a7) := hBx.cell_eq 6 _ rfl
    generalize W.heap.size = gx at *
    have hI : (i : Int) < 500 := by omega
    go_still_tail 7, (by kernel_rfl)
    change wpList _ _ _ _ _ (World.drew _)
    replace hB1 := drew_blk hB1
    replace hF1 := hF1.drew
    replace hfr : ∀ i, W1.drew.frozen? ⟨g, i, none⟩ = false := hfr
    replace e0 : W1.drew.cell? ⟨g, i * 8, none⟩ = some v0 := e0
    replace e1 : W1.drew.cell? ⟨g, i * 8 + 1, none⟩ = some v1 := e1
    replace e2 : W1.drew.cell? ⟨g, i * 8 + 2, none⟩ = some v2 := e2
    replace e3 : W1.drew.cell? ⟨g, i * 8 + 3, none⟩ = some v3 := e3
    replace e4 : W1.drew.cell? ⟨g, i * 8 + 4, none⟩ = some v4 := e4
    replace e5 : W1.drew.cell? ⟨g, i * 8 + 5, none⟩ = some v5 := e5
    replace e6 : W1.drew.cell? ⟨g, i * 8 + 6, none⟩ = some v6 := e6
    clear b0 b1 b2 b3 b4 b5 b6 hBx
    generalize W1.drew = V3 at *
    go_wp2_with fail
    go_ret
    have hl1 := H.out
    have hB' := hB1.setN l1
    conv at hB' => arg 1; rw [hl1]
    have hF' := hF1.setW (g := g) l1 (.inl rfl)
    rw [hl1] at hF'
    simp only [setW] at hB' hF'
    exact ⟨rfl, hF', _, hB', hAr⟩
  · rw [if_neg hx]
    obtain hx : s.hasI x = false := by simpa using hx
    rw [hx] at cH ⊢
    clear hx
    go_enter Tryd.func72, Tryd.ntmps72
    go_wp2_with (go_at_call 84; rw [← hW1]; (with_reducible refine cH.mono ?_); rintro e W1 ⟨rfl, rfl⟩; clear hW1)
    go_ret
    exact ⟨rfl, hF1, c, hB1, hA⟩
set_option maxRecDepth 8000 in
set_option maxHeartbeats 1000000 in
theorem get_yes (g : Nat) (c : Array Value) (s : Ar) (i : Nat) (o : Ord) (W : World) (hB : Blk W g 112 c) (hA : Arn c s) (hx : s.has i = true) (ho : s.O[i]? = some o) :
    Calls Tryd.prog 67 #[.pointer (some ⟨g, 0, none⟩), .int .i64 (i : Int)] W fun e w' => e = .returned (.tuple #[vOrd o, .bool true]) ∧ Below W.heap.size W w' := by
  obtain ⟨W1, hW1⟩ : ∃ W1, W1 = W.alloc (.cells (cOrd Ord.zero) 44) := ⟨_, rfl⟩
  have hB1 : Blk W1 g 112 c := by rw [hW1]; exact hB.alloc _
  have hBx : Blk W1 W.heap.size 44 (cOrd Ord.zero) := by rw [hW1]; exact Blk.new _ _ _
  have hF1 : Below W.heap.size W W1 := by rw [hW1]; exact (Below.refl _ _).alloc (Nat.le_refl _) _
  have cH := holds_any g c s i W1 hB1 hA
  rw [s.hasI_nat, hx] at cH
  have hlt := Ar.has_lt hA.wf hx
  have hsm := hA.small
  have hlt2 : i < 500 := by omega
  have hord : ∀ (j : Nat) (v : Value), (cOrd o)[j]? = some v → W1.cell? ⟨g, i * 8 + j, none⟩ = some v := fun j v hj => hB1.cell_eq _ _ (hA.ord i o (Ar.has_true.1 hx) ho j v hj)
  obtain ⟨a1, a2, a3, a4, a5, a6, a7⟩ := o
  have e0 : W1.cell? ⟨g, i * 8, none⟩ = some (.int .i64 a1) := hord 0 _ rfl
  have e1 : W1.cell? ⟨g, i * 8 + 1, none⟩ = some (.int .i64 a2) := hord 1 _ rfl
  have e2 : W1.cell? ⟨g, i * 8 + 2, none⟩ = some (.int .i64 a3) := hord 2 _ rfl
  have e3 : W1.cell? ⟨g, i * 8 + 3, none⟩ = some (.int .i64 a4) := hord 3 _ rfl
  have e4 : W1.cell? ⟨g, i * 8 + 4, none⟩ = some (.int .i64 a5) := hord 4 _ rfl
  have e5 : W1.cell? ⟨g, i * 8 + 5, none⟩ = some (.int .i64 a6) := hord 5 _ rfl
  have e6 : W1.cell? ⟨g, i * 8 + 6, none⟩ = some (.int .i64 a7) := hord 6 _ rfl
  have b0 : W1.cell? ⟨W.heap.size, 0, none⟩ = some (.int .i64 0) := hBx.cell_eq 0 _ rfl
  have b1 : W1.cell? ⟨W.heap.size, 1, none⟩ = some (.int .i64 0) := hBx.cell_eq 1 _ rfl
  have b2 : W1.cell? ⟨W.heap.size, 2, none⟩ = some (.int .i64 0) := hBx.cell_eq 2 _ rfl
  have b3 : W1.cell? ⟨W.heap.size, 3, none⟩ = some (.int .i64 0) := hBx.cell_eq 3 _ rfl
  have b4 : W1.cell? ⟨W.heap.size, 4, none⟩ = some (.int .i64 0) := hBx.cell_eq 4 _ rfl
  have b5 : W1.cell? ⟨W.heap.size, 5, none⟩ = some (.int .i64 0) := hBx.cell_eq 5 _ rfl
  have b6 : W1.cell? ⟨W.heap.size, 6, none⟩ = some (.int .i64 0) := hBx.cell_eq 6 _ rfl
  have hfr := hBx.free
  have hlay := Ord.lay hBx a1 a2 a3 a4 a5 a6 a7
  obtain ⟨c0, c1, c2, c3, c4, c5, c6⟩ := Ord.cells hlay
  have hbel := Ord.below hF1 (Nat.le_refl _) (.int .i64 a1) (.int .i64 a2) (.int .i64 a3) (.int .i64 a4) (.int .i64 a5) (.int .i64 a6) (.int .i64 a7)
  simp only [Ord.zero, cOrd] at hW1
  clear hord hlt hsm ho hx hlay hBx hA hB
  simp only at c0 c1 c2 c3 c4 c5 c6
  go_enter Tryd.func67, Tryd.ntmps67
  go_wp2_with (go_at_call 84; rw [← hW1]; (with_reducible refine cH.mono ?_); rintro e W1 ⟨rfl, rfl⟩; clear hW1)
  refine bodyPost_ret (v := .tuple #[.agg #[.int .i64 a1, .int .i64 a2, .int .i64 a3, .int .i64 a4, .int .i64 a5, .int .i64 a6, .int .i64 a7], .bool true]) ?_ rfl ⟨rfl, hbel⟩
  simp [results, Tryd.results67, go_sem, c0, c1, c2, c3, c4, c5, c6]
end Go.Proofs.YtdmjcjheanedgaaDoor
namespace Go.Proofs.YtdmjcjheanedgaaDoor
open Go.RowKit
/-- A new arena's cells, but for the links. -/
def zA (n : Int) : Array Value := (List.replicate 4000 (Value.int IntKind.i64 0) ++ [Value.int IntKind.i64 n, Value.int IntKind.i64 0, Value.int IntKind.i64 0]).toArray
set_option maxRecDepth 100000 in
theorem built_A (n : Int) : Tryd.prog.built 112 [(1, .int .i64 n)] = some (zA n) := by kernel_rfl
theorem rep_size (m : Nat) (v x y z : Value) : ((List.replicate m v ++ [x, y, z]).toArray).size = m + 3 := by simp
theorem rep_0 (m : Nat) (v x y z : Value) : ((List.replicate m v ++ [x, y, z]).toArray)[m]? = some x := by simp
theorem rep_1 (m : Nat) (v x y z : Value) : ((List.replicate m v ++ [x, y, z]).toArray)[m + 1]? = some y := by simp
theorem rep_2 (m : Nat) (v x y z : Value) : ((List.replicate m v ++ [x, y, z]).toArray)[m + 2]? = some z := by simp
theorem zA_size (n : Int) : (zA n).size = 4003 := rep_size 4000 _ _ _ _
theorem zA_n (n : Int) : (zA n)[4000]? = some (.int .i64 n) := rep_0 4000 _ _ _ _
theorem zA_u (n : Int) : (zA n)[4001]? = some (.int .i64 0) := rep_1 4000 _ _ _ _
theorem zA_f (n : Int) : (zA n)[4002]? = some (.int .i64 0) := rep_2 4000 _ _ _ _
theorem Ch.new {c : Array Value} {n : Nat} (hn : n ≤ 500) (h : ∀ j, j < n → c[j * 8 + 7]? = some (.int .i64 ((j : Int) + 1))) : ∀ (m k : Nat), k + m = n → Ch c (k : Int) (List.range' k m) := by
  intro m
  induction m with
  | zero => intro k hk; exact ⟨by omega, by omega⟩
  | succ m ih =>
    intro k hk
    rw [List.range'_succ]
    exact ⟨rfl, _, h k (by omega), by simpa using ih (k + 1) (by omega)⟩
theorem Arn.new {c : Array Value} {n : Nat} (hn : n ≤ 500) (hs : c.size = 4003) (h : ∀ j, j < n → c[j * 8 + 7]? = some (.int .i64 ((j : Int) + 1))) (hz : ∀ j, 4000 ≤ j → c[j]? = (zA (n : Int))[j]?) : Arn c (Ar.new n) := by
  refine ⟨Ar.new_wf n, hn, hs, by rw [hz _ (by omega)]; exact zA_n _, ?_, ?_, ?_, ⟨0, by rw [hz _ (by omega)]; exact zA_f _, ?_⟩⟩
  · rw [hz _ (by omega), zA_u]
    simp [Ar.used, Ar.new, List.count_replicate]
  · intro i o hi
    simp [Ar.new, List.getElem?_replicate] at hi
  · intro i hi
    simp [Ar.new, List.getElem?_replicate] at hi
  · have := Ch.new hn h n 0 (by omega)
    simpa [Ar.fr, Ar.new] using this
set_option maxRecDepth 200000 in
set_option maxHeartbeats 1000000 in
theorem new_any (n : Nat) (h1 : 1 ≤ n) (h2 : n ≤ 500) (W : World) :
    Calls Tryd.prog 33 #[.int .i64 (n : Int)] W fun e w' => e = .returned (.tuple #[.pointer (some ⟨W.heap.size, 0, none⟩), .int .i64 0]) ∧ Below W.heap.size W w' ∧ ∃ c, Blk w' W.heap.size 112 c ∧ Arn c (Ar.new n) := by
  obtain ⟨W1, hW1⟩ : ∃ W1, W1 = W.alloc (.cells (zA (n : Int)) 112) := ⟨_, rfl⟩
  have hB1 : Blk W1 W.heap.size 112 (zA n) := by rw [hW1]; exact Blk.new _ _ _
  have hF1 : Below W.heap.size W W1 := by rw [hW1]; exact (Below.refl _ _).alloc (Nat.le_refl _) _
  obtain ⟨z, hz⟩ : ∃ z, z = zA n := ⟨_, rfl⟩
  rw [← hz] at hW1 hB1
  have hzs : z.size = 4003 := by rw [hz]; exact zA_size _
  have hbu := built_A n
  rw [← hz] at hbu
  have hbu' := Lib.hid hbu
  clear hbu
  have H := Lib.hid hz
  have HW := Lib.hid hW1
  clear hz hW1
  go_enter Tryd.func33, Tryd.ntmps33
  have hd1 : decide ((n : Int) < 1) = false := by simp; omega
  have hd2 : decide ((500 : Int) < (n : Int)) = false := by simp; omega
  go_wp2_with (refine wpList_buildTo rfl 112 _ rfl (some 13) rfl z ((congrArg (Program.built Tryd.prog 112) (show _ = [(1, Value.int IntKind.i64 (n : Int))] from by kernel_rfl)).trans hbu'.out) ?_)
  clear hbu' hd1 hd2
  rw [← HW.out]
  clear HW
  obtain ⟨g, hg⟩ : ∃ g, g = W.heap.size := ⟨_, rfl⟩
  rw [← hg] at hB1 hF1 ⊢
  have HG := Lib.hid hg
  clear hg
  go_loopw [5, 16] (fun _ p16 wr => ∃ (k : Nat) (c : Array Value), p16 = .int .i64 (k : Int) ∧ k ≤ n ∧ Blk wr g 112 c ∧ Hid (c.size = 4003) ∧ (∀ j, j < k → c[j * 8 + 7]? = some (.int .i64 ((j : Int) + 1))) ∧ (∀ j, 4000 ≤ j → c[j]? = z[j]?) ∧ Below g W wr)
    (fun _ p _ => n - (intOf p).toNat)
  case atStart => exact ⟨0, z, rfl, by omega, hB1, Lib.hid hzs, (fun j hj => by omega), fun _ _ => rfl, hF1⟩
  case round =>
    obtain ⟨k, c, rfl, hk, hBk, hck, hlk, hzk, hbk⟩ := hrel
    by_cases hkn : k < n
    · have hset := hBk.set (k * 8 + 7) (.int .i64 ((k : Int) + 1))
      have hbel := hbk.setCell (p := ⟨g, k * 8 + 7, none⟩) (Nat.le_refl _) (.int .i64 ((k : Int) + 1))
      have hex : ∃ v, wr.cell? ⟨g, k * 8 + 7, none⟩ = some v := ⟨_, hBk.cell_eq _ _ (Array.getElem?_eq_getElem (by rw [hck.out]; omega))⟩
      have hfz := hBk.free (k * 8 + 7)
      have h1' : ∀ j, j < k + 1 → (c.setIfInBounds (k * 8 + 7) (.int .i64 ((k : Int) + 1)))[j * 8 + 7]? = some (.int .i64 ((j : Int) + 1)) := by
        intro j hj
        rw [Array.getElem?_setIfInBounds]
        by_cases hjk : k = j
        · subst hjk; rw [if_pos rfl, if_pos (by rw [hck.out]; omega)]
        · rw [if_neg (by omega)]; exact hlk j (by omega)
      have h2' : ∀ j, 4000 ≤ j → (c.setIfInBounds (k * 8 + 7) (.int .i64 ((k : Int) + 1)))[j]? = z[j]? := by
        intro j hj
        rw [Array.getElem?_setIfInBounds, if_neg (by omega)]; exact hzk j hj
      have h3' : Hid ((c.setIfInBounds (k * 8 + 7) (.int .i64 ((k : Int) + 1))).size = 4003) := Lib.hid (by rw [Array.size_setIfInBounds]; exact hck.out)
      generalize c.setIfInBounds (k * 8 + 7) (.int .i64 ((k : Int) + 1)) = c' at *
      obtain ⟨v7, hex⟩ := hex
      have hlt2 : k < 500 := by omega
      clear hlk hzk hBk hbk hB1 hF1 hzs hck
      go_wp2
      go_roundw
      case rel => exact ⟨k + 1, c', by go_num, by omega, hset, h3', h1', h2', hbel⟩
      case measure => simp [intOf]; omega
    · have hkn2 : k = n := by omega
      rw [hkn2] at hlk hkn ⊢
      have hfin := Arn.new h2 hck.out hlk (fun j hj => by rw [hzk j hj, H.out])
      clear hlk hzk hck hzs hB1 hF1 hkn2
      go_wp2
      go_ret2
      rw [← HG.out]
      exact ⟨rfl, hbk, c, hBk, hfin⟩
end Go.Proofs.YtdmjcjheanedgaaDoor
