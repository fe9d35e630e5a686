/-
  Configurations read of bytes, in plain arithmetic: what is put is read as it was, and what is read has just those bytes (no Go text).
-/
import Derived.Test.YtbkiipeoabbiiaaCfg
namespace Go.Proofs.Ytbkiipeoabbiiaa

/-- Nums read one behind the other: the numbers (0 behind a fault), what is left, the fault. -/
def rdNs : Nat → List Nat → Nat → List Nat × List Nat × Nat
  | 0, b, f => ([], b, f)
  | k + 1, b, f => ((stepR 3 0 b f).n :: (rdNs k (b.drop (stepR 3 0 b f).size) (stepR 3 0 b f).f).1, (rdNs k (b.drop (stepR 3 0 b f).size) (stepR 3 0 b f).f).2)
theorem rdNs_fault : ∀ (k : Nat) (b : List Nat) (f : Nat), f ≠ 0 → rdNs k b f = (List.replicate k 0, b, f)
  | 0, _, _, _ => rfl
  | k + 1, b, f, h => by
    unfold rdNs
    rw [step_fault h]
    simp only [List.drop_zero]
    rw [rdNs_fault k b f h]
    rfl
theorem rdNs_length : ∀ (k : Nat) (b : List Nat) (f : Nat), (rdNs k b f).1.length = k
  | 0, _, _ => rfl
  | k + 1, b, f => by rw [rdNs, List.length_cons, rdNs_length k]
theorem rdNs_add : ∀ (j k : Nat) (b : List Nat) (f : Nat), rdNs (j + k) b f = ((rdNs j b f).1 ++ (rdNs k (rdNs j b f).2.1 (rdNs j b f).2.2).1, (rdNs k (rdNs j b f).2.1 (rdNs j b f).2.2).2)
  | 0, k, b, f => by rw [Nat.zero_add]; rfl
  | j + 1, k, b, f => by
    rw [show j + 1 + k = (j + k) + 1 by omega, rdNs, rdNs_add j k]
    rfl
theorem rdNs_snoc (k : Nat) (b : List Nat) (f : Nat) : rdNs (k + 1) b f = ((rdNs k b f).1 ++ [(stepR 3 0 (rdNs k b f).2.1 (rdNs k b f).2.2).n], (rdNs k b f).2.1.drop (stepR 3 0 (rdNs k b f).2.1 (rdNs k b f).2.2).size, (stepR 3 0 (rdNs k b f).2.1 (rdNs k b f).2.2).f) := by
  rw [rdNs_add k 1]
  rfl
theorem nums3 : Nums (3, 0) := .inr (.inr rfl)
theorem rdNs_forth : ∀ (ns : List Nat) (u : List Nat), (∀ n ∈ ns, n < 18446744073709551616) → rdNs ns.length (ns.flatMap num ++ u) 0 = (ns, u, 0)
  | [], u, _ => rfl
  | n :: t, u, h => by
    have h1 : stepR 3 0 (num n ++ (t.flatMap num ++ u)) 0 = ⟨n, 0, [], (num n).length, 0⟩ := step_forth nums3 (n := n) (s := 0) ⟨fun e => (by simp at e), fun e => (by simp at e), fun _ => ⟨h n (by simp), rfl⟩⟩ _
    rw [List.length_cons, rdNs, List.flatMap_cons, List.append_assoc, h1]
    simp only [List.drop_left]
    rw [rdNs_forth t u (fun x hx => h x (List.mem_cons_of_mem _ hx))]
theorem step3_back {b : List Nat} (hb : ∀ x ∈ b, x < 256) (h : (stepR 3 0 b 0).f = 0) : b = num (stepR 3 0 b 0).n ++ b.drop (stepR 3 0 b 0).size ∧ (stepR 3 0 b 0).n < 18446744073709551616 := by
  obtain ⟨h1, h2⟩ := step_back nums3 hb h
  exact ⟨h1, (h2.2.2 rfl).1⟩
theorem rdNs_back : ∀ (k : Nat) (b : List Nat), (∀ x ∈ b, x < 256) → (rdNs k b 0).2.2 = 0 → b = (rdNs k b 0).1.flatMap num ++ (rdNs k b 0).2.1 ∧ ∀ n ∈ (rdNs k b 0).1, n < 18446744073709551616
  | 0, b, _, _ => ⟨rfl, by intro n hn; simp [rdNs] at hn⟩
  | k + 1, b, hb, h => by
    unfold rdNs at h ⊢
    have h0 : (stepR 3 0 b 0).f = 0 := by
      rcases Nat.eq_zero_or_pos (stepR 3 0 b 0).f with h1 | h1
      · exact h1
      · rw [rdNs_fault k _ _ (by omega)] at h; exact h
    obtain ⟨g1, g2⟩ := step3_back hb h0
    rw [h0] at h ⊢
    obtain ⟨i1, i2⟩ := rdNs_back k (b.drop (stepR 3 0 b 0).size) (fun x hx => hb x (List.mem_of_mem_drop hx)) h
    refine ⟨?_, ?_⟩
    · rw [List.flatMap_cons, List.append_assoc, ← i1]
      exact g1
    · intro n hn
      rcases List.mem_cons.1 hn with rfl | hn
      · exact g2
      · exact i2 n hn
/-- Symbols and rows of numbers. -/
def symOf (l : List Nat) : Symb := ⟨(l.getD 0 0 : Nat), (l.getD 1 0 : Nat), (l.getD 2 0 : Nat), (l.getD 3 0 : Nat), (l.getD 4 0 : Nat), (l.getD 5 0 : Nat), (l.getD 6 0 : Nat), (l.getD 7 0 : Nat), (l.getD 8 0 : Nat), (l.getD 9 0 : Nat), (l.getD 10 0 : Nat), (l.getD 11 0 : Nat), (l.getD 12 0 : Nat), (l.getD 13 0 : Nat), (l.getD 14 0 : Nat), (l.getD 15 0 : Nat)⟩
def symsOf : Nat → List Nat → List Symb
  | 0, _ => []
  | n + 1, l => symOf (l.take 16) :: symsOf n (l.drop 16)
def rowOf (l : List Nat) : Rowp := ⟨(l.getD 0 0 : Nat), (l.getD 1 0 : Nat)⟩
def rowsOf : Nat → List Nat → List Rowp
  | 0, _ => []
  | n + 1, l => rowOf (l.take 2) :: rowsOf n (l.drop 2)
def cfgOf (n : Nat) (ss : List Nat) (m : Nat) (rs ts : List Nat) : Cfg := ⟨symsOf n ss, rowsOf m rs, (ts.getD 0 0 : Nat), (ts.getD 1 0 : Nat), (ts.getD 2 0 : Nat), (ts.getD 3 0 : Nat), (ts.getD 4 0 : Nat), (ts.getD 5 0 : Nat)⟩
theorem symsOf_length : ∀ (n : Nat) (l : List Nat), (symsOf n l).length = n
  | 0, _ => rfl
  | n + 1, l => by rw [symsOf, List.length_cons, symsOf_length n]
theorem rowsOf_length : ∀ (n : Nat) (l : List Nat), (rowsOf n l).length = n
  | 0, _ => rfl
  | n + 1, l => by rw [rowsOf, List.length_cons, rowsOf_length n]
theorem symsOf_snoc : ∀ (n : Nat) (l t : List Nat), l.length = 16 * n → t.length = 16 → symsOf (n + 1) (l ++ t) = symsOf n l ++ [symOf t]
  | 0, l, t, h, ht => by
    obtain rfl : l = [] := List.eq_nil_of_length_eq_zero (by omega)
    show symOf (t.take 16) :: symsOf 0 (t.drop 16) = [symOf t]
    rw [List.take_of_length_le (by omega)]
    rfl
  | n + 1, l, t, h, ht => by
    rw [symsOf, List.take_append_of_le_length (by omega), List.drop_append_of_le_length (by omega), symsOf_snoc n (l.drop 16) t (by rw [List.length_drop]; omega) ht]
    rfl
theorem rowsOf_snoc : ∀ (n : Nat) (l t : List Nat), l.length = 2 * n → t.length = 2 → rowsOf (n + 1) (l ++ t) = rowsOf n l ++ [rowOf t]
  | 0, l, t, h, ht => by
    obtain rfl : l = [] := List.eq_nil_of_length_eq_zero (by omega)
    show rowOf (t.take 2) :: rowsOf 0 (t.drop 2) = [rowOf t]
    rw [List.take_of_length_le (by omega)]
    rfl
  | n + 1, l, t, h, ht => by
    rw [rowsOf, List.take_append_of_le_length (by omega), List.drop_append_of_le_length (by omega), rowsOf_snoc n (l.drop 2) t (by rw [List.length_drop]; omega) ht]
    rfl
theorem rowN_length (r : Rowp) : (rowN r).length = 2 := rfl
theorem symN_length (s : Symb) : (symN s).length = 16 := rfl
theorem symOf_N (s : Symb) (h : RightS s) : symOf (symN s) = s := by
  have e_grid : (s.grid.toNat : Int) = s.grid := Int.toNat_of_nonneg (by have := h.grid; omega)
  have e_refp : (s.refp.toNat : Int) = s.refp := Int.toNat_of_nonneg (by have := h.refp; omega)
  have e_stat : (s.stat.toNat : Int) = s.stat := Int.toNat_of_nonneg (by have := h.stat; omega)
  have e_dyn : (s.dyn.toNat : Int) = s.dyn := Int.toNat_of_nonneg (by have := h.dyn; omega)
  have e_win : (s.win.toNat : Int) = s.win := Int.toNat_of_nonneg (by have := h.win; omega)
  have e_move : (s.move.toNat : Int) = s.move := Int.toNat_of_nonneg (by have := h.move; omega)
  have e_lim : (s.lim.toNat : Int) = s.lim := Int.toNat_of_nonneg (by have := h.lim; omega)
  have e_pau : (s.pau.toNat : Int) = s.pau := Int.toNat_of_nonneg (by have := h.pau; omega)
  have e_ext : (s.ext.toNat : Int) = s.ext := Int.toNat_of_nonneg (by have := h.ext; omega)
  have e_mext : (s.mext.toNat : Int) = s.mext := Int.toNat_of_nonneg (by have := h.mext; omega)
  have e_col : (s.col.toNat : Int) = s.col := Int.toNat_of_nonneg (by have := h.col; omega)
  have e_wid : (s.wid.toNat : Int) = s.wid := Int.toNat_of_nonneg (by have := h.wid; omega)
  have e_self : (s.self.toNat : Int) = s.self := Int.toNat_of_nonneg (by have := h.self; omega)
  have e_slots : (s.slots.toNat : Int) = s.slots := Int.toNat_of_nonneg (by have := h.slots; omega)
  have e_levels : (s.levels.toNat : Int) = s.levels := Int.toNat_of_nonneg (by have := h.levels; omega)
  have e_short : (s.short.toNat : Int) = s.short := Int.toNat_of_nonneg (by have := h.short; omega)
  cases s
  unfold symN fieldsL symOf
  simp only [List.map_cons, List.map_nil, List.getD_cons_zero, List.getD_cons_succ] at *
  simp only [e_grid, e_refp, e_stat, e_dyn, e_win, e_move, e_lim, e_pau, e_ext, e_mext, e_col, e_wid, e_self, e_slots, e_levels, e_short]
theorem symsOf_N : ∀ (l : List Symb) (u : List Nat), (∀ s ∈ l, RightS s) → symsOf l.length (l.flatMap symN ++ u) = l
  | [], _, _ => rfl
  | s :: t, u, h => by
    rw [List.length_cons, symsOf, List.flatMap_cons, List.append_assoc, List.take_left' (symN_length s), List.drop_left' (symN_length s), symOf_N s (h s (by simp)), symsOf_N t u (fun x hx => h x (List.mem_cons_of_mem _ hx))]
theorem rowsOf_N : ∀ (l : List Rowp) (u : List Nat), (∀ r ∈ l, 0 ≤ r.tick ∧ 0 ≤ r.phase) → rowsOf l.length (l.flatMap rowN ++ u) = l
  | [], _, _ => rfl
  | r :: t, u, h => by
    have h1 := h r (by simp)
    have e1 : (r.tick.toNat : Int) = r.tick := Int.toNat_of_nonneg h1.1
    have e2 : (r.phase.toNat : Int) = r.phase := Int.toNat_of_nonneg h1.2
    have hr : rowOf (rowN r) = r := by
      cases r
      simp only at e1 e2
      simp only [rowOf, rowN, List.getD_cons_zero, List.getD_cons_succ, e1, e2]
    rw [List.length_cons, rowsOf, List.flatMap_cons, List.append_assoc, List.take_left' (rowN_length r), List.drop_left' (rowN_length r), hr, rowsOf_N t u (fun x hx => h x (List.mem_cons_of_mem _ hx))]
/-- The other way: numbers come back as they were. -/
theorem symN_of (l : List Nat) (h : l.length = 16) : symN (symOf l) = l := by
  match l, h with
  | [a0, a1, a2, a3, a4, a5, a6, a7, a8, a9, a10, a11, a12, a13, a14, a15], _ => simp [symN, fieldsL, symOf]
theorem symsN_of : ∀ (n : Nat) (l : List Nat), l.length = 16 * n → (symsOf n l).flatMap symN = l
  | 0, l, h => by obtain rfl : l = [] := List.eq_nil_of_length_eq_zero (by omega); rfl
  | n + 1, l, h => by
    rw [symsOf, List.flatMap_cons, symN_of _ (by rw [List.length_take]; omega), symsN_of n (l.drop 16) (by rw [List.length_drop]; omega), List.take_append_drop]
theorem rowN_of (l : List Nat) (h : l.length = 2) : rowN (rowOf l) = l := by
  match l, h with
  | [a, b], _ => simp [rowN, rowOf]
theorem rowsN_of : ∀ (n : Nat) (l : List Nat), l.length = 2 * n → (rowsOf n l).flatMap rowN = l
  | 0, l, h => by obtain rfl : l = [] := List.eq_nil_of_length_eq_zero (by omega); rfl
  | n + 1, l, h => by
    rw [rowsOf, List.flatMap_cons, rowN_of _ (by rw [List.length_take]; omega), rowsN_of n (l.drop 2) (by rw [List.length_drop]; omega), List.take_append_drop]
/-- The numbers that bytes are, in their order: how many symbols, theirs, how many rows, theirs, the rest. -/
structure Got where
  n : Nat
  ss : List Nat
  m : Nat
  rs : List Nat
  ts : List Nat
  left : List Nat
def gotK (b : List Nat) : Got × Nat :=
  let a := rdNs 1 b 0
  let n := a.1.getD 0 0
  if a.2.2 ≠ 0 then (⟨0, [], 0, [], [], []⟩, a.2.2) else if 8 < n then (⟨0, [], 0, [], [], []⟩, 4) else
  let s := rdNs (16 * n) a.2.1 0
  if s.2.2 ≠ 0 then (⟨0, [], 0, [], [], []⟩, s.2.2) else
  let c := rdNs 1 s.2.1 0
  let m := c.1.getD 0 0
  if c.2.2 ≠ 0 then (⟨0, [], 0, [], [], []⟩, c.2.2) else if 20 < m then (⟨0, [], 0, [], [], []⟩, 4) else
  let r := rdNs (2 * m) c.2.1 0
  if r.2.2 ≠ 0 then (⟨0, [], 0, [], [], []⟩, r.2.2) else
  let t := rdNs 6 r.2.1 0
  if t.2.2 ≠ 0 then (⟨0, [], 0, [], [], []⟩, t.2.2) else (⟨n, s.1, m, r.1, t.1, t.2.1⟩, 0)
def greatN (l : List Nat) : Bool := l.any fun n => decide (4611686018427387904 < n)
def Got.great (g : Got) : Bool := greatN g.ss || (greatN g.rs || greatN g.ts)
def Got.cfg (g : Got) : Cfg := cfgOf g.n g.ss g.m g.rs g.ts
/-- What bytes are: the configuration, or what is wrong. -/
def readC (b : List Nat) : Cfg × Nat :=
  if (gotK b).2 ≠ 0 then (Cfg.zero, (gotK b).2) else if (gotK b).1.great = true ∨ (gotK b).1.left ≠ [] then (Cfg.zero, 4) else if (checkF (gotK b).1.cfg).1 ≠ 0 then (Cfg.zero, (checkF (gotK b).1.cfg).1) else ((gotK b).1.cfg, 0)
theorem readC_zero (b : List Nat) (h : (readC b).2 ≠ 0) : (readC b).1 = Cfg.zero := by
  unfold readC at h ⊢
  by_cases h1 : (gotK b).2 = 0
  · rw [if_neg (fun g => g h1)] at h ⊢
    by_cases h2 : (gotK b).1.great = true ∨ (gotK b).1.left ≠ []
    · rw [if_pos h2]
    · rw [if_neg h2] at h ⊢
      by_cases h3 : (checkF (gotK b).1.cfg).1 = 0
      · rw [if_neg (fun g => g h3)] at h; exact absurd rfl h
      · rw [if_pos h3]
  · rw [if_pos h1]
end Go.Proofs.Ytbkiipeoabbiiaa
