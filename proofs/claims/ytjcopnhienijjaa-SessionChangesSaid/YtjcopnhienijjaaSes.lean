/-
  Tables of a day in plain numbers: which row holds at a tick, and where the phase turns (no Go text).
-/
import Derived.Test.YtjcopnhienijjaaRowp
namespace Go.Proofs.Ytjcopnhienijjaa
def tk (l : List Rowp) (i : Nat) : Int := (l[i]?.getD Rowp.zero).tick
def ph (l : List Rowp) (i : Nat) : Int := (l[i]?.getD Rowp.zero).phase
theorem tk_get {l : List Rowp} {i : Nat} {r : Rowp} (h : l[i]? = some r) : tk l i = r.tick := by simp [tk, h]
theorem ph_get {l : List Rowp} {i : Nat} {r : Rowp} (h : l[i]? = some r) : ph l i = r.phase := by simp [ph, h]
/-- The ticks rise, from 0 on. -/
structure Ris (l : List Rowp) : Prop where
  up : ∀ i j, i < j → j < l.length → tk l i < tk l j
  nn : ∀ i, i < l.length → 0 ≤ tk l i
/-- The phase behind so many rows. -/
def phN (l : List Rowp) (n : Nat) : Int := if n = 0 then 0 else ph l (n - 1)
/-- So many rows have begun. -/
structure Pas (l : List Rowp) (t : Int) (p : Nat) : Prop where
  le : p ≤ l.length
  lo : ∀ i, i < p → tk l i ≤ t
  hi : ∀ i, p ≤ i → i < l.length → t < tk l i
/-- Of the rows from p on, c is the first one that has another phase, or there is none. -/
structure Chg (l : List Rowp) (p c : Nat) : Prop where
  ge : p ≤ c
  le : c ≤ l.length
  same : ∀ i, p ≤ i → i < c → ph l i = phN l p
  other : c < l.length → ph l c ≠ phN l p
theorem Pas.exists {l : List Rowp} (hR : Ris l) (t : Int) : ∃ p, Pas l t p := by
  have h : ∀ n, n ≤ l.length → ∃ p, p ≤ n ∧ (∀ i, i < p → tk l i ≤ t) ∧ ∀ i, p ≤ i → i < n → t < tk l i := by
    intro n
    induction n with
    | zero => intro _; exact ⟨0, Nat.le_refl _, fun i h => by omega, fun i _ h => by omega⟩
    | succ n ih =>
      intro hn
      obtain ⟨p, h1, h2, h3⟩ := ih (by omega)
      by_cases hp : p = n
      · subst hp
        by_cases ht : tk l p ≤ t
        · exact ⟨p + 1, Nat.le_refl _, fun i hi => by
            by_cases e : i = p
            · rw [e]; exact ht
            · exact h2 i (by omega), fun i _ h => by omega⟩
        · exact ⟨p, by omega, h2, fun i h4 h5 => by
            have : i = p := by omega
            subst this
            omega⟩
      · refine ⟨p, by omega, h2, fun i h4 h5 => ?_⟩
        by_cases e : i = n
        · have h6 := h3 p (Nat.le_refl _) (by omega)
          have h7 := hR.up p n (by omega) (by omega)
          rw [e]
          omega
        · exact h3 i h4 (by omega)
  obtain ⟨p, h1, h2, h3⟩ := h l.length (Nat.le_refl _)
  exact ⟨p, h1, h2, h3⟩
theorem Chg.exists (l : List Rowp) (p : Nat) (hp : p ≤ l.length) : ∃ c, Chg l p c := by
  have h : ∀ n, p + n ≤ l.length → ∃ c, p ≤ c ∧ c ≤ p + n ∧ (∀ i, p ≤ i → i < c → ph l i = phN l p) ∧ (c < p + n → ph l c ≠ phN l p) := by
    intro n
    induction n with
    | zero => intro _; exact ⟨p, Nat.le_refl _, Nat.le_refl _, fun i _ _ => by omega, fun h => by omega⟩
    | succ n ih =>
      intro hn
      obtain ⟨c, h1, h2, h3, h4⟩ := ih (by omega)
      by_cases hc : c = p + n
      · by_cases he : ph l c = phN l p
        · exact ⟨c + 1, by omega, by omega, fun i h5 h6 => by
            by_cases e : i = c
            · rw [e]; exact he
            · exact h3 i h5 (by omega), fun h => by omega⟩
        · exact ⟨c, h1, by omega, h3, fun _ => he⟩
      · exact ⟨c, h1, by omega, h3, fun _ => h4 (by omega)⟩
  obtain ⟨c, h1, h2, h3, h4⟩ := h (l.length - p) (by omega)
  exact ⟨c, h1, by omega, h3, fun h => h4 (by omega)⟩
theorem Pas.mono {l : List Rowp} {t t' : Int} {p p' : Nat} (h : Pas l t p) (h' : Pas l t' p') (ht : t ≤ t') : p ≤ p' := by
  refine Classical.byContradiction fun hn => ?_
  have h1 := h.lo p' (by omega)
  have h2 := h'.hi p' (Nat.le_refl _) (by have := h.le; omega)
  omega
/-- Up to the turn the phase is one. -/
theorem phase_stays {l : List Rowp} {t t' : Int} {p p' c : Nat} (h : Pas l t p) (h' : Pas l t' p') (hc : Chg l p c) (ht : t ≤ t') (hl : c < l.length → t' < tk l c) : phN l p' = phN l p := by
  have hm := h.mono h' ht
  have hpc : p' ≤ c := by
    refine Classical.byContradiction fun hn => ?_
    have h1 := h'.lo c (by omega)
    have h2 := hl (by have := h'.le; omega)
    omega
  by_cases e : p' = p
  · rw [e]
  · have h1 := hc.same (p' - 1) (by omega) (by omega)
    have h2 : phN l p' = ph l (p' - 1) := by unfold phN; rw [if_neg (by omega)]
    rw [h2, h1]
/-- At the turn it is another one. -/
theorem phase_turns {l : List Rowp} (hR : Ris l) {p p' c : Nat} (hc : Chg l p c) (hlt : c < l.length) (h' : Pas l (tk l c) p') : phN l p' ≠ phN l p := by
  have e : p' = c + 1 := by
    have h1 : c < p' := by
      refine Classical.byContradiction fun hn => ?_
      have := h'.hi c (by omega) hlt
      omega
    refine Classical.byContradiction fun hn => ?_
    have h2 := h'.lo (c + 1) (by omega)
    have h3 := hR.up c (c + 1) (by omega) (by have := h'.le; omega)
    omega
  have h2 : phN l p' = ph l c := by unfold phN; rw [if_neg (by omega), e]; simp
  rw [h2]
  exact hc.other hlt
/-- The changes, from a phase on. -/
def chL : Int → List Rowp → List Rowp
  | _, [] => []
  | p, r :: t => if r.phase = p then chL p t else r :: chL r.phase t
theorem chL_more (p : Int) (l : List Rowp) (r : Rowp) : chL p (l ++ [r]) = chL p l ++ (if r.phase = (if l = [] then p else ph l (l.length - 1)) then [] else [r]) := by
  induction l generalizing p with
  | nil => simp only [List.nil_append, chL, if_true]
  | cons s t ih =>
    have e : (if s :: t = [] then p else ph (s :: t) ((s :: t).length - 1)) = if t = [] then s.phase else ph t (t.length - 1) := by
      rw [if_neg (by simp)]
      by_cases ht : t = []
      · subst ht; rfl
      · rw [if_neg ht]
        obtain ⟨k, hk⟩ : ∃ k, t.length = k + 1 := ⟨t.length - 1, by have := List.length_pos_iff.2 ht; omega⟩
        simp [ph, hk]
    rw [e]
    simp only [List.cons_append, chL]
    by_cases hs : s.phase = p
    · rw [if_pos hs, if_pos hs, ih, hs]
    · rw [if_neg hs, if_neg hs, ih, List.cons_append]
theorem chL_take {l : List Rowp} {q : Nat} {r : Rowp} (h : l[q]? = some r) : chL 0 (l.take (q + 1)) = chL 0 (l.take q) ++ (if r.phase = phN l q then [] else [r]) := by
  obtain ⟨hq, -⟩ := List.getElem?_eq_some_iff.1 h
  have ht : l.take (q + 1) = l.take q ++ [r] := by rw [List.take_add_one, h]; rfl
  rw [ht, chL_more]
  congr 1
  have hlen : (l.take q).length = q := by rw [List.length_take]; omega
  have e : (if l.take q = [] then (0 : Int) else ph (l.take q) ((l.take q).length - 1)) = phN l q := by
    unfold phN
    by_cases h0 : q = 0
    · subst h0; simp
    · rw [if_neg h0, if_neg (fun e => by rw [e] at hlen; simp at hlen; omega), hlen]
      simp only [ph]
      rw [List.getElem?_take_of_lt (by omega)]
  rw [e]
theorem chL_len (l : List Rowp) : ∀ p, (chL p l).length ≤ l.length := by
  induction l with
  | nil => intro p; simp [chL]
  | cons r t ih =>
    intro p
    simp only [chL]
    split
    · have := ih p; simp; omega
    · have := ih r.phase; simp; omega
theorem chL_mem (l : List Rowp) : ∀ p, ∀ r ∈ chL p l, r ∈ l := by
  induction l with
  | nil => intro p r h; simp [chL] at h
  | cons s t ih =>
    intro p r h
    simp only [chL] at h
    split at h
    · exact List.mem_cons_of_mem _ (ih _ _ h)
    · rcases List.mem_cons.1 h with rfl | h
      · exact List.mem_cons_self
      · exact List.mem_cons_of_mem _ (ih _ _ h)
end Go.Proofs.Ytjcopnhienijjaa
