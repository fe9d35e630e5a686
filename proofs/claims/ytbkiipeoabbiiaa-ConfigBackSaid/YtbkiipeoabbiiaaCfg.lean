/-
  Configurations in plain arithmetic: which are right and what is wrong first, their bytes, and what bytes are (no Go text).
-/
import Derived.Test.YtbkiipeoabbiiaaFmt
import Derived.Test.YtbkiipeoabbiiaaIn64
import Derived.Test.YtbkiipeoabbiiaaRowp
namespace Go.Proofs.Ytbkiipeoabbiiaa

structure Symb where
  grid : Int
  refp : Int
  stat : Int
  dyn : Int
  win : Int
  move : Int
  lim : Int
  pau : Int
  ext : Int
  mext : Int
  col : Int
  wid : Int
  self : Int
  slots : Int
  levels : Int
  short : Int
def Symb.zero : Symb := ⟨0, 0, 0, 0, 0, 0, 0, 0, 0, 0, 0, 0, 0, 0, 0, 0⟩
structure Symb.Fit (m : Symb) : Prop where
  grid : In64 m.grid
  refp : In64 m.refp
  stat : In64 m.stat
  dyn : In64 m.dyn
  win : In64 m.win
  move : In64 m.move
  lim : In64 m.lim
  pau : In64 m.pau
  ext : In64 m.ext
  mext : In64 m.mext
  col : In64 m.col
  wid : In64 m.wid
  self : In64 m.self
  slots : In64 m.slots
  levels : In64 m.levels
  short : In64 m.short
structure Cfg where
  syms : List Symb
  rows : List Rowp
  index : Int
  f0 : Int
  f1 : Int
  f2 : Int
  h0 : Int
  h1 : Int
def Cfg.zero : Cfg := ⟨[], [], 0, 0, 0, 0, 0, 0⟩
structure Cfg.Fit (c : Cfg) : Prop where
  syms : ∀ s ∈ c.syms, s.Fit
  rows : ∀ r ∈ c.rows, r.Fit
  index : In64 c.index
  f0 : In64 c.f0
  f1 : In64 c.f1
  f2 : In64 c.f2
  h0 : In64 c.h0
  h1 : In64 c.h1
def inK (n lo hi : Int) : Bool := decide (lo ≤ n) && decide (n ≤ hi)
theorem inK_true {n lo hi : Int} : inK n lo hi = true ↔ lo ≤ n ∧ n ≤ hi := by simp [inK]
/-- The fault of a symbol. -/
def symR1 (s : Symb) : Bool := inK s.grid 1 1099511627776 && inK s.refp 1 1099511627776
def symR2 (s : Symb) : Bool := inK s.stat 0 9999 && (inK s.dyn 0 9999 && (inK s.move 0 9999 && (inK s.col 0 9999 && (inK s.wid 0 9999 && inK s.short 0 9999))))
def symR3 (s : Symb) : Bool := inK s.win 1 1099511627776 && (inK s.lim 1 1099511627776 && (inK s.pau 1 1099511627776 && (inK s.ext 1 1099511627776 && (inK s.mext 0 10 && (inK s.self 0 3 && (inK s.slots 1 500 && inK s.levels 1 200))))))
def symF (s : Symb) : Nat := if symR1 s = false then 9 else if s.refp.tmod s.grid ≠ 0 then 8 else if symR2 s = false then 9 else if symR3 s = false then 9 else if s.stat < s.dyn then 11 else 0
def boundS (s : Symb) : Int := if symF s = 0 then s.pau + s.ext * (s.mext + 1) else 0
/-- A symbol that is right. -/
structure RightS (s : Symb) : Prop where
  grid : 1 ≤ s.grid ∧ s.grid ≤ 1099511627776
  refp : 1 ≤ s.refp ∧ s.refp ≤ 1099511627776
  onGrid : s.refp.tmod s.grid = 0
  stat : 0 ≤ s.stat ∧ s.stat ≤ 9999
  dyn : 0 ≤ s.dyn ∧ s.dyn ≤ 9999
  move : 0 ≤ s.move ∧ s.move ≤ 9999
  col : 0 ≤ s.col ∧ s.col ≤ 9999
  wid : 0 ≤ s.wid ∧ s.wid ≤ 9999
  short : 0 ≤ s.short ∧ s.short ≤ 9999
  win : 1 ≤ s.win ∧ s.win ≤ 1099511627776
  lim : 1 ≤ s.lim ∧ s.lim ≤ 1099511627776
  pau : 1 ≤ s.pau ∧ s.pau ≤ 1099511627776
  ext : 1 ≤ s.ext ∧ s.ext ≤ 1099511627776
  mext : 0 ≤ s.mext ∧ s.mext ≤ 10
  self : 0 ≤ s.self ∧ s.self ≤ 3
  slots : 1 ≤ s.slots ∧ s.slots ≤ 500
  levels : 1 ≤ s.levels ∧ s.levels ≤ 200
  inside : s.dyn ≤ s.stat
theorem symF_right {s : Symb} : symF s = 0 ↔ RightS s := by
  unfold symF
  by_cases h1 : symR1 s = true
  · rw [if_neg (by rw [h1]; decide)]
    by_cases hg : s.refp.tmod s.grid = 0
    · rw [if_neg (fun h => h hg)]
      by_cases h2 : symR2 s = true
      · rw [if_neg (by rw [h2]; decide)]
        by_cases h3 : symR3 s = true
        · rw [if_neg (by rw [h3]; decide)]
          have g1 := h1
          have g2 := h2
          have g3 := h3
          unfold symR1 at g1
          unfold symR2 at g2
          unfold symR3 at g3
          simp only [Bool.and_eq_true, inK_true] at g1 g2 g3
          by_cases h4 : s.stat < s.dyn
          · rw [if_pos h4]
            exact ⟨fun h => (by cases h), fun h => by have := h.inside; omega⟩
          · rw [if_neg h4]
            exact ⟨fun _ => ⟨g1.1, g1.2, hg, g2.1, g2.2.1, g2.2.2.1, g2.2.2.2.1, g2.2.2.2.2.1, g2.2.2.2.2.2, g3.1, g3.2.1, g3.2.2.1, g3.2.2.2.1, g3.2.2.2.2.1, g3.2.2.2.2.2.1, g3.2.2.2.2.2.2.1, g3.2.2.2.2.2.2.2, by omega⟩, fun _ => rfl⟩
        · have h3' : symR3 s = false := by simpa using h3
          rw [if_pos h3']
          refine ⟨fun h => (by cases h), fun h => absurd ?_ h3⟩
          unfold symR3
          simp only [Bool.and_eq_true, inK_true]
          exact ⟨h.win, h.lim, h.pau, h.ext, h.mext, h.self, h.slots, h.levels⟩
      · have h2' : symR2 s = false := by simpa using h2
        rw [if_pos h2']
        refine ⟨fun h => (by cases h), fun h => absurd ?_ h2⟩
        unfold symR2
        simp only [Bool.and_eq_true, inK_true]
        exact ⟨h.stat, h.dyn, h.move, h.col, h.wid, h.short⟩
    · rw [if_pos hg]
      exact ⟨fun h => (by cases h), fun h => absurd h.onGrid hg⟩
  · have h1' : symR1 s = false := by simpa using h1
    rw [if_pos h1']
    refine ⟨fun h => (by cases h), fun h => absurd ?_ h1⟩
    unfold symR1
    simp only [Bool.and_eq_true, inK_true]
    exact ⟨h.grid, h.refp⟩
/-- The first symbol that is not right. -/
def syF : List Symb → Nat → Nat × Nat
  | [], _ => (0, 0)
  | s :: t, i => if symF s ≠ 0 then (symF s, i) else syF t (i + 1)
theorem syF_ok : ∀ (l : List Symb) (i : Nat), (syF l i).1 = 0 ↔ ∀ s ∈ l, symF s = 0
  | [], _ => ⟨fun _ _ h => (by simp at h), fun _ => rfl⟩
  | s :: t, i => by
    unfold syF
    by_cases h : symF s = 0
    · rw [if_neg (fun g => g h), syF_ok t (i + 1)]
      exact ⟨fun g x hx => (List.mem_cons.1 hx).elim (fun e => by rw [e]; exact h) (g x), fun g x hx => g x (List.mem_cons_of_mem _ hx)⟩
    · rw [if_pos h]
      exact ⟨fun g => absurd g h, fun g => g s (by simp)⟩
theorem syF_app : ∀ (pre t : List Symb) (i : Nat), (∀ s ∈ pre, symF s = 0) → syF (pre ++ t) i = syF t (i + pre.length)
  | [], t, i, _ => rfl
  | s :: pre, t, i, h => by
    rw [List.cons_append, syF, if_neg (fun g => g (h s (by simp))), syF_app pre t (i + 1) (fun x hx => h x (List.mem_cons_of_mem _ hx)), List.length_cons]
    congr 1
    omega
/-- At the first one that is not right; behind one that is. -/
theorem syF_at {l : List Symb} {q : Nat} {s : Symb} (hs : l[q]? = some s) (h : ∀ x ∈ l.take q, symF x = 0) (hb : symF s ≠ 0) : syF l 0 = (symF s, q) := by
  obtain ⟨hq, he⟩ := List.getElem?_eq_some_iff.1 hs
  have e : l = l.take q ++ s :: l.drop (q + 1) := by
    rw [← he, ← List.drop_eq_getElem_cons hq, List.take_append_drop]
  have hl : (l.take q).length = q := by rw [List.length_take]; omega
  have h2 := syF_app (l.take q) (s :: l.drop (q + 1)) 0 h
  rw [← e, hl, syF, if_pos hb] at h2
  rw [h2, Nat.zero_add]
theorem syms_next {l : List Symb} {q : Nat} {s : Symb} (hs : l[q]? = some s) (h : ∀ x ∈ l.take q, symF x = 0) (hb : symF s = 0) : ∀ x ∈ l.take (q + 1), symF x = 0 := by
  rw [List.take_add_one, hs]
  intro x hx
  rcases List.mem_append.1 hx with h1 | h1
  · exact h x h1
  · simp at h1; rw [h1]; exact hb
/-- The rows, each behind the one ahead. -/
def rowL (prev : Option Int) (r : Rowp) : Bool := match prev with
  | none => false
  | some p => decide (r.tick ≤ p)
def rowF (prev : Option Int) (r : Rowp) : Nat := if inK r.tick 0 1125899906842624 = false ∨ rowL prev r = true then 9 else if inK r.phase 0 2 = false then 10 else 0
def roF : List Rowp → Option Int → Nat → Nat × Nat
  | [], _, _ => (0, 0)
  | r :: t, p, i => if rowF p r ≠ 0 then (rowF p r, i) else roF t (some r.tick) (i + 1)
def lastT (pre : List Rowp) (p : Option Int) : Option Int := (pre.getLast?.map (·.tick)).or p
theorem lastT_cons (r : Rowp) (t : List Rowp) (p : Option Int) : lastT (r :: t) p = lastT t (some r.tick) := by
  unfold lastT
  cases t with
  | nil => rfl
  | cons x t => rw [List.getLast?_cons_cons]; cases h : (x :: t).getLast? with
    | none => simp at h
    | some y => rfl
theorem roF_app : ∀ (pre t : List Rowp) (p : Option Int) (i : Nat), (roF pre p i).1 = 0 → roF (pre ++ t) p i = roF t (lastT pre p) (i + pre.length)
  | [], t, p, i, _ => rfl
  | r :: pre, t, p, i, h => by
    unfold roF at h
    by_cases hb : rowF p r = 0
    · rw [if_neg (fun g => g hb)] at h
      rw [List.cons_append, roF, if_neg (fun g => g hb), roF_app pre t _ (i + 1) h, List.length_cons, lastT_cons]
      congr 1
      omega
    · rw [if_pos hb] at h; exact absurd h hb
/-- The row ahead of the q-th one. -/
def aheadT (l : List Rowp) (q : Nat) : Option Int := match q with
  | 0 => none
  | q + 1 => (l[q]?).map (·.tick)
theorem lastT_take {l : List Rowp} {q : Nat} (hq : q ≤ l.length) : lastT (l.take q) none = aheadT l q := by
  cases q with
  | zero => rfl
  | succ q =>
    have hlt : q < l.length := by omega
    have e : l.take (q + 1) = l.take q ++ [l[q]] := by rw [List.take_add_one, List.getElem?_eq_getElem hlt]; rfl
    unfold lastT aheadT
    rw [e, List.getLast?_append]
    simp [List.getElem?_eq_getElem hlt]
theorem roF_at {l : List Rowp} {q : Nat} {r : Rowp} (hr : l[q]? = some r) (h : (roF (l.take q) none 0).1 = 0) (hb : rowF (aheadT l q) r ≠ 0) : roF l none 0 = (rowF (aheadT l q) r, q) := by
  obtain ⟨hq, he⟩ := List.getElem?_eq_some_iff.1 hr
  have e : l = l.take q ++ r :: l.drop (q + 1) := by
    rw [← he, ← List.drop_eq_getElem_cons hq, List.take_append_drop]
  have hl : (l.take q).length = q := by rw [List.length_take]; omega
  have h2 := roF_app (l.take q) (r :: l.drop (q + 1)) none 0 h
  rw [← e, hl, lastT_take (by omega), roF, if_pos hb] at h2
  rw [h2, Nat.zero_add]
theorem roF_next {l : List Rowp} {q : Nat} {r : Rowp} (hr : l[q]? = some r) (h : (roF (l.take q) none 0).1 = 0) (hb : rowF (aheadT l q) r = 0) : (roF (l.take (q + 1)) none 0).1 = 0 := by
  obtain ⟨hq, he⟩ := List.getElem?_eq_some_iff.1 hr
  have e : l.take (q + 1) = l.take q ++ [r] := by rw [List.take_add_one, hr]; rfl
  have h2 := roF_app (l.take q) [r] none 0 h
  rw [lastT_take (by omega), roF, if_neg (fun g => g hb)] at h2
  rw [e, h2]
  rfl
def fallsB (c : Cfg) : Bool := inK c.f0 1 9999 && (inK c.f1 1 9999 && decide (c.f0 < c.f1) && (inK c.f2 1 9999 && decide (c.f1 < c.f2)))
def haltsB (c : Cfg) : Bool := inK c.h0 1 1099511627776 && inK c.h1 1 1099511627776
def tailF (c : Cfg) : Nat := if inK c.index 1 1099511627776 = false then 9 else if fallsB c = false then 9 else if haltsB c = false then 9 else 0
/-- The fault of a configuration, and where. -/
def checkF (c : Cfg) : Nat × Nat :=
  if c.syms.length < 1 ∨ 8 < c.syms.length then (9, 0) else if (syF c.syms 0).1 ≠ 0 then syF c.syms 0 else if c.rows.length < 1 ∨ 20 < c.rows.length then (9, 0) else if (roF c.rows none 0).1 ≠ 0 then roF c.rows none 0 else (tailF c, 0)
structure RightK (c : Cfg) : Prop where
  n1 : 1 ≤ c.syms.length ∧ c.syms.length ≤ 8
  syms : ∀ s ∈ c.syms, RightS s
  n2 : 1 ≤ c.rows.length ∧ c.rows.length ≤ 20
  rows : ∀ r ∈ c.rows, (0 ≤ r.tick ∧ r.tick ≤ 1125899906842624) ∧ (0 ≤ r.phase ∧ r.phase ≤ 2)
  index : 1 ≤ c.index ∧ c.index ≤ 1099511627776
  f0 : 1 ≤ c.f0 ∧ c.f0 ≤ 9999
  f1 : 1 ≤ c.f1 ∧ c.f1 ≤ 9999
  f2 : 1 ≤ c.f2 ∧ c.f2 ≤ 9999
  h0 : 1 ≤ c.h0 ∧ c.h0 ≤ 1099511627776
  h1 : 1 ≤ c.h1 ∧ c.h1 ≤ 1099511627776
theorem roF_range : ∀ (l : List Rowp) (p : Option Int) (i : Nat), (roF l p i).1 = 0 → ∀ r ∈ l, (0 ≤ r.tick ∧ r.tick ≤ 1125899906842624) ∧ (0 ≤ r.phase ∧ r.phase ≤ 2)
  | [], _, _, _, r, hr => by simp at hr
  | x :: t, p, i, h, r, hr => by
    unfold roF at h
    by_cases hb : rowF p x = 0
    · rw [if_neg (fun g => g hb)] at h
      rcases List.mem_cons.1 hr with rfl | hr
      · unfold rowF at hb
        by_cases h1 : inK r.tick 0 1125899906842624 = false ∨ rowL p r = true
        · rw [if_pos h1] at hb; cases hb
        · rw [if_neg h1] at hb
          by_cases h2 : inK r.phase 0 2 = false
          · rw [if_pos h2] at hb; cases hb
          · have h3 : inK r.tick 0 1125899906842624 = true := by
              cases e : inK r.tick 0 1125899906842624 with
              | true => rfl
              | false => exact absurd (.inl e) h1
            have h4 : inK r.phase 0 2 = true := by simpa using h2
            exact ⟨inK_true.1 h3, inK_true.1 h4⟩
      · exact roF_range t _ _ h r hr
    · rw [if_pos hb] at h; exact absurd h hb
theorem checkF_right {c : Cfg} (h : (checkF c).1 = 0) : RightK c := by
  unfold checkF at h
  by_cases h1 : c.syms.length < 1 ∨ 8 < c.syms.length
  · rw [if_pos h1] at h; cases h
  · rw [if_neg h1] at h
    by_cases h2 : (syF c.syms 0).1 = 0
    · rw [if_neg (fun g => g h2)] at h
      by_cases h3 : c.rows.length < 1 ∨ 20 < c.rows.length
      · rw [if_pos h3] at h; cases h
      · rw [if_neg h3] at h
        by_cases h4 : (roF c.rows none 0).1 = 0
        · rw [if_neg (fun g => g h4)] at h
          simp only [tailF] at h
          by_cases h5 : inK c.index 1 1099511627776 = false
          · rw [if_pos h5] at h; cases h
          · rw [if_neg h5] at h
            by_cases h6 : fallsB c = false
            · rw [if_pos h6] at h; cases h
            · rw [if_neg h6] at h
              by_cases h7 : haltsB c = false
              · rw [if_pos h7] at h; cases h
              · have g5 : inK c.index 1 1099511627776 = true := by simpa using h5
                have g6 : fallsB c = true := by simpa using h6
                have g7 : haltsB c = true := by simpa using h7
                unfold fallsB at g6
                unfold haltsB at g7
                simp only [Bool.and_eq_true, inK_true] at g6 g7
                exact ⟨by omega, fun s hs => symF_right.1 ((syF_ok _ 0).1 h2 s hs), by omega, roF_range _ _ _ h4, inK_true.1 g5, g6.1, g6.2.1.1, g6.2.2.1, g7.1, g7.2⟩
        · rw [if_pos h4] at h; exact absurd h h4
    · rw [if_pos h2] at h; exact absurd h h2
/-- A fault has no place but that of a symbol or a row; without a fault it is 0. -/
theorem checkF_ok {c : Cfg} (h : (checkF c).1 = 0) : checkF c = (0, 0) := by
  refine Prod.ext h ?_
  unfold checkF at h ⊢
  by_cases h1 : c.syms.length < 1 ∨ 8 < c.syms.length
  · rw [if_pos h1]
  · rw [if_neg h1] at h ⊢
    by_cases h2 : (syF c.syms 0).1 = 0
    · rw [if_neg (fun g => g h2)] at h ⊢
      by_cases h3 : c.rows.length < 1 ∨ 20 < c.rows.length
      · rw [if_pos h3]
      · rw [if_neg h3] at h ⊢
        by_cases h4 : (roF c.rows none 0).1 = 0
        · rw [if_neg (fun g => g h4)]
        · rw [if_pos h4] at h; exact absurd h h4
    · rw [if_pos h2] at h; exact absurd h h2
/-- The numbers of a symbol, of a row, of a configuration; its bytes. -/
def fieldsL (s : Symb) : List Int := [s.grid, s.refp, s.stat, s.dyn, s.win, s.move, s.lim, s.pau, s.ext, s.mext, s.col, s.wid, s.self, s.slots, s.levels, s.short]
def symN (s : Symb) : List Nat := (fieldsL s).map Int.toNat
def rowN (r : Rowp) : List Nat := [r.tick.toNat, r.phase.toNat]
def tailN (c : Cfg) : List Nat := [c.index.toNat, c.f0.toNat, c.f1.toNat, c.f2.toNat, c.h0.toNat, c.h1.toNat]
def numsK (c : Cfg) : List Nat := [c.syms.length] ++ c.syms.flatMap symN ++ [c.rows.length] ++ c.rows.flatMap rowN ++ tailN c
def formK (c : Cfg) : List Nat := (numsK c).flatMap num
def encK (c : Cfg) : List Nat × Nat := if (checkF c).1 ≠ 0 then ([], (checkF c).1) else (formK c, 0)
end Go.Proofs.Ytbkiipeoabbiiaa
