/-
  Queues held by links of nodes and ends of queues: what becomes of them. (No Go text.)
-/
import Derived.Test.YtipmhialflincaaDoorFif
namespace Go.Proofs.YtipmhialflincaaDoor
structure Lk where
  q : Int
  p : Int
  x : Int
structure En where
  f : Int
  l : Int
/-- The node at a place, -1 if there is none; the one ahead of a place. -/
def nt (q : List Nat) (k : Nat) : Int := (q[k]?.map fun (y : Nat) => (y : Int)).getD (-1)
def pr (q : List Nat) : Nat → Int
  | 0 => -1
  | k + 1 => nt q k
theorem nt_some {q : List Nat} {k y : Nat} (h : q[k]? = some y) : nt q k = (y : Int) := by simp [nt, h]
theorem nt_none {q : List Nat} {k : Nat} (h : q.length ≤ k) : nt q k = -1 := by simp [nt, List.getElem?_eq_none h]
theorem nt_iff {q : List Nat} {k y : Nat} : nt q k = (y : Int) ↔ q[k]? = some y := by
  unfold nt
  cases h : q[k]? with
  | none => simp
  | some z => simp; omega
theorem nt_neg {q : List Nat} {k : Nat} : nt q k = -1 ↔ q.length ≤ k := by
  unfold nt
  rcases Nat.lt_or_ge k q.length with h | h
  · rw [List.getElem?_eq_getElem h]; simp; omega
  · simp [h]
theorem nt_cases (q : List Nat) (k : Nat) : (nt q k = -1 ∧ q.length ≤ k) ∨ ∃ y : Nat, nt q k = (y : Int) ∧ q[k]? = some y := by
  rcases Nat.lt_or_ge k q.length with h | h
  · exact .inr ⟨q[k], nt_some (List.getElem?_eq_getElem h), List.getElem?_eq_getElem h⟩
  · exact .inl ⟨nt_none h, h⟩
theorem pr_cases (q : List Nat) (k : Nat) (hk : k ≤ q.length) : (pr q k = -1 ∧ k = 0) ∨ ∃ j y : Nat, k = j + 1 ∧ pr q k = (y : Int) ∧ q[j]? = some y := by
  cases k with
  | zero => exact .inl ⟨rfl, rfl⟩
  | succ j => exact .inr ⟨j, q[j], rfl, nt_some (List.getElem?_eq_getElem (by omega)), List.getElem?_eq_getElem (by omega)⟩
theorem pr_iff {q : List Nat} {k y : Nat} : pr q k = (y : Int) ↔ ∃ j, k = j + 1 ∧ q[j]? = some y := by
  cases k with
  | zero =>
    constructor
    · intro h; exact absurd h (by show ¬ ((-1 : Int) = y); omega)
    · rintro ⟨j, h, _⟩; omega
  | succ k =>
    constructor
    · intro h; exact ⟨k, rfl, nt_iff.1 h⟩
    · rintro ⟨j, h, h1⟩; obtain rfl : k = j := by omega
      exact nt_iff.2 h1
theorem nt_erase (q : List Nat) (k m : Nat) : nt (q.eraseIdx k) m = if m < k then nt q m else nt q (m + 1) := by
  unfold nt
  rw [List.getElem?_eraseIdx]
  split <;> rfl
theorem pr_erase (q : List Nat) (k m : Nat) : pr (q.eraseIdx k) m = if m ≤ k then pr q m else pr q (m + 1) := by
  cases m with
  | zero => rw [if_pos (Nat.zero_le _)]; rfl
  | succ m =>
    show nt _ m = _
    rw [nt_erase]
    by_cases h : m < k
    · rw [if_pos h, if_pos (by omega)]; rfl
    · rw [if_neg h, if_neg (by omega)]; rfl
theorem nt_push (q : List Nat) (x m : Nat) : nt (q ++ [x]) m = if m < q.length then nt q m else if m = q.length then (x : Int) else -1 := by
  unfold nt
  rw [List.getElem?_append]
  split
  · rfl
  · rename_i h
    split
    · rename_i h2
      rw [h2]
      simp
    · rename_i h2
      rw [List.getElem?_eq_none (by simp; omega)]
      rfl
theorem pr_push (q : List Nat) (x m : Nat) (h : m ≤ q.length) : pr (q ++ [x]) m = pr q m := by
  cases m with
  | zero => rfl
  | succ m =>
    show nt _ m = nt _ m
    rw [nt_push, if_pos (by omega)]
/-- The links, the ends and the sizes of queues. -/
structure Fqp (K : List Lk) (E : List En) (Z : List Int) (s : Fq) : Prop where
  wf : s.Wf
  lk : K.length = s.n
  le : E.length = s.L.length
  lz : Z.length = s.L.length
  out : ∀ x, x < s.n → (∀ i k, ¬ s.At x i k) → K[x]? = some ⟨-1, -1, -1⟩
  inn : ∀ (x i k : Nat) q, s.L[i]? = some q → q[k]? = some x → K[x]? = some ⟨(i : Int), pr q k, nt q (k + 1)⟩
  en : ∀ (i : Nat) q, s.L[i]? = some q → E[i]? = some ⟨nt q 0, pr q q.length⟩
  sz : ∀ (i : Nat) q, s.L[i]? = some q → Z[i]? = some (q.length : Int)
theorem Fqp.push {K K' : List Lk} {E E' : List En} {Z Z' : List Int} {s : Fq} (h : Fqp K E Z s) {i x : Nat} {q : List Nat} (hi : s.L[i]? = some q) (hx : x < s.n) (hn : ∀ j m, ¬ s.At x j m)
    (lK : K'.length = K.length) (lE : E'.length = E.length) (lZ : Z'.length = Z.length)
    (hK : ∀ y : Nat, K'[y]? = if y = x then some ⟨(i : Int), pr q q.length, -1⟩ else if (y : Int) = pr q q.length then K[y]?.map (fun k => ⟨k.q, k.p, (x : Int)⟩) else K[y]?)
    (hE : ∀ j : Nat, E'[j]? = if j = i then some ⟨if q.length = 0 then (x : Int) else nt q 0, (x : Int)⟩ else E[j]?)
    (hZ : ∀ j : Nat, Z'[j]? = if j = i then some ((q.length : Int) + 1) else Z[j]?) : Fqp K' E' Z' (s.put i (q ++ [x])) := by
  have hl := (List.getElem?_eq_some_iff.1 hi).1
  have hLi : ∀ (j : Nat) (q' : List Nat), (s.put i (q ++ [x])).L[j]? = some q' → (j = i ∧ q' = q ++ [x]) ∨ (j ≠ i ∧ s.L[j]? = some q') := by
    intro j q' hq
    simp only [Fq.put, List.getElem?_set] at hq
    split at hq
    · rename_i e
      cases hq
      exact .inl ⟨e.symm, rfl⟩
    · rename_i e
      exact .inr ⟨fun e' => e e'.symm, hq⟩
  refine ⟨h.wf.push hi hx hn, by rw [lK]; exact h.lk, by rw [lE, s.put_m]; exact h.le, by rw [lZ, s.put_m]; exact h.lz, ?_, ?_, ?_, ?_⟩
  · intro y hy hno
    have hyx : y ≠ x := by
      rintro rfl
      exact hno i q.length ((Fq.at_put hl).2 (.inl ⟨rfl, by simp⟩))
    have hno2 : ∀ j k, ¬ s.At y j k := by
      intro j k hjk
      by_cases hj : j = i
      · subst hj
        have hk := Fq.at_get hjk hi
        exact hno j k ((Fq.at_put hl).2 (.inl ⟨rfl, by rw [List.getElem?_append_left (List.getElem?_eq_some_iff.1 hk).1]; exact hk⟩))
      · exact hno j k ((Fq.at_put hl).2 (.inr ⟨hj, hjk⟩))
    rw [hK, if_neg hyx, if_neg]
    · exact h.out y hy hno2
    · intro e
      obtain ⟨j, -, hj⟩ := pr_iff.1 e.symm
      exact hno2 i j ⟨q, hi, hj⟩
  · intro y j m q' hq' hy
    rcases hLi j q' hq' with ⟨rfl, rfl⟩ | ⟨hj, hq'⟩
    · rcases Nat.lt_or_ge m q.length with hm | hm
      · rw [List.getElem?_append_left hm] at hy
        have hyx : y ≠ x := by rintro rfl; exact hn j m ⟨q, hi, hy⟩
        rw [hK, if_neg hyx, h.inn y j m q hi hy, pr_push _ _ _ (by omega), nt_push]
        by_cases he : m + 1 = q.length
        · rw [if_pos (Eq.symm (pr_iff.2 ⟨m, he.symm, hy⟩)), if_neg (by omega), if_pos he]
          rfl
        · rw [if_neg, if_pos (by omega)]
          intro e
          obtain ⟨m', hm', hy'⟩ := pr_iff.1 e.symm
          have := (h.wf.uni y j m j m' ⟨q, hi, hy⟩ ⟨q, hi, hy'⟩).2
          omega
      · obtain ⟨d, rfl⟩ : ∃ d, m = q.length + d := ⟨m - q.length, by omega⟩
        rw [List.getElem?_append_right (by omega), Nat.add_sub_cancel_left] at hy
        cases d with
        | zero =>
          obtain rfl : x = y := by simpa using hy
          rw [hK, if_pos rfl, Nat.add_zero, pr_push _ _ _ (Nat.le_refl _), nt_push, if_neg (by omega), if_neg (by omega)]
        | succ d => simp at hy
    · have hyx : y ≠ x := fun e => hn j m (by rw [← e]; exact ⟨q', hq', hy⟩)
      rw [hK, if_neg hyx, if_neg]
      · exact h.inn y j m q' hq' hy
      · intro e
        obtain ⟨m', -, hy'⟩ := pr_iff.1 e.symm
        exact hj (h.wf.uni y j m i m' ⟨q', hq', hy⟩ ⟨q, hi, hy'⟩).1
  · intro j q' hq'
    rcases hLi j q' hq' with ⟨rfl, rfl⟩ | ⟨hj, hq'⟩
    · rw [hE, if_pos rfl]
      simp only [List.length_append, List.length_cons, List.length_nil, Nat.zero_add]
      show _ = some (⟨nt (q ++ [x]) 0, nt (q ++ [x]) q.length⟩ : En)
      rw [nt_push, nt_push, if_neg (Nat.lt_irrefl _), if_pos rfl]
      by_cases h0 : q.length = 0
      · rw [if_pos h0, if_neg (by omega), if_pos h0.symm]
      · rw [if_neg h0, if_pos (by omega)]
    · rw [hE, if_neg hj]; exact h.en j q' hq'
  · intro j q' hq'
    rcases hLi j q' hq' with ⟨rfl, rfl⟩ | ⟨hj, hq'⟩
    · rw [hZ, if_pos rfl]; simp
    · rw [hZ, if_neg hj]; exact h.sz j q' hq'
theorem Fqp.rem {K K' : List Lk} {E E' : List En} {Z Z' : List Int} {s : Fq} (h : Fqp K E Z s) {i x k : Nat} {q : List Nat} (hi : s.L[i]? = some q) (hx : q[k]? = some x)
    (lK : K'.length = K.length) (lE : E'.length = E.length) (lZ : Z'.length = Z.length)
    (hK : ∀ y : Nat, K'[y]? = if y = x then some ⟨-1, -1, -1⟩ else if (y : Int) = pr q k then K[y]?.map (fun k' => ⟨k'.q, k'.p, nt q (k + 1)⟩) else if (y : Int) = nt q (k + 1) then K[y]?.map (fun k' => ⟨k'.q, pr q k, k'.x⟩) else K[y]?)
    (hE : ∀ j : Nat, E'[j]? = if j = i then some ⟨if k = 0 then nt q 1 else nt q 0, if k + 1 = q.length then pr q k else pr q q.length⟩ else E[j]?)
    (hZ : ∀ j : Nat, Z'[j]? = if j = i then some ((q.length : Int) - 1) else Z[j]?) : Fqp K' E' Z' (s.put i (q.eraseIdx k)) := by
  have hl := (List.getElem?_eq_some_iff.1 hi).1
  have hk := (List.getElem?_eq_some_iff.1 hx).1
  have hLi : ∀ (j : Nat) (q' : List Nat), (s.put i (q.eraseIdx k)).L[j]? = some q' → (j = i ∧ q' = q.eraseIdx k) ∨ (j ≠ i ∧ s.L[j]? = some q') := by
    intro j q' hq
    simp only [Fq.put, List.getElem?_set] at hq
    split at hq
    · rename_i e
      cases hq
      exact .inl ⟨e.symm, rfl⟩
    · rename_i e
      exact .inr ⟨fun e' => e e'.symm, hq⟩
  have hat : s.At x i k := ⟨q, hi, hx⟩
  refine ⟨h.wf.rem hi, by rw [lK]; exact h.lk, by rw [lE, s.put_m]; exact h.le, by rw [lZ, s.put_m]; exact h.lz, ?_, ?_, ?_, ?_⟩
  · intro y hy hno
    rw [hK]
    by_cases hyx : y = x
    · rw [if_pos hyx]
    · have hno2 : ∀ j m, ¬ s.At y j m := by
        intro j m hjm
        by_cases hj : j = i
        · subst hj
          have hm := Fq.at_get hjm hi
          have hmk : m ≠ k := by rintro rfl; rw [hx] at hm; cases hm; exact hyx rfl
          by_cases hlt : m < k
          · exact hno j m ((Fq.at_put hl).2 (.inl ⟨rfl, by rw [List.getElem?_eraseIdx, if_pos hlt]; exact hm⟩))
          · exact hno j (m - 1) ((Fq.at_put hl).2 (.inl ⟨rfl, by rw [List.getElem?_eraseIdx, if_neg (by omega), show m - 1 + 1 = m by omega]; exact hm⟩))
        · exact hno j m ((Fq.at_put hl).2 (.inr ⟨hj, hjm⟩))
      rw [if_neg hyx, if_neg, if_neg]
      · exact h.out y hy hno2
      · intro e
        exact hno2 i _ ⟨q, hi, nt_iff.1 e.symm⟩
      · intro e
        obtain ⟨j, -, hj⟩ := pr_iff.1 e.symm
        exact hno2 i j ⟨q, hi, hj⟩
  · intro y j m q' hq' hy
    rcases hLi j q' hq' with ⟨rfl, rfl⟩ | ⟨hj, hq'⟩
    · rw [List.getElem?_eraseIdx] at hy
      rw [nt_erase, pr_erase, hK]
      have un : ∀ m1 m2, q[m1]? = some y → q[m2]? = some y → m1 = m2 := fun m1 m2 h1 h2 => (h.wf.uni y j m1 j m2 ⟨q, hi, h1⟩ ⟨q, hi, h2⟩).2
      have hyx : ∀ m1, m1 ≠ k → q[m1]? = some y → y ≠ x := fun m1 h1 h2 e => by subst e; exact h1 (un _ _ h2 hx)
      split at hy
      · rename_i hm
        rw [if_neg (hyx m (by omega) hy), h.inn y j m q hi hy, if_pos (show m ≤ k by omega)]
        by_cases he : m + 1 = k
        · rw [if_pos (Eq.symm (pr_iff.2 ⟨m, he.symm, hy⟩)), if_neg (by omega), he]
          rfl
        · rw [if_neg, if_neg, if_pos (by omega)]
          · intro e; have := un _ _ hy (nt_iff.1 e.symm); omega
          · intro e
            obtain ⟨m', hm', hy'⟩ := pr_iff.1 e.symm
            have := un _ _ hy hy'
            omega
      · rename_i hm
        rw [if_neg (hyx (m + 1) (by omega) hy), h.inn y j (m + 1) q hi hy, if_neg (show ¬ m + 1 < k by omega), if_neg]
        · by_cases he : m = k
          · subst he
            rw [if_pos (nt_some hy).symm, if_pos (Nat.le_refl _)]
            rfl
          · rw [if_neg, if_neg (by omega)]
            intro e; have := un _ _ hy (nt_iff.1 e.symm); omega
        · intro e
          obtain ⟨m', hm', hy'⟩ := pr_iff.1 e.symm
          have := un _ _ hy hy'
          omega
    · have hne : ∀ z : Nat, s.At z i z ∨ True := fun _ => .inr trivial
      have hyq : ∀ m', q[m']? ≠ some y := fun m' e => hj (h.wf.uni y j m i m' ⟨q', hq', hy⟩ ⟨q, hi, e⟩).1
      rw [hK, if_neg, if_neg, if_neg]
      · exact h.inn y j m q' hq' hy
      · intro e; exact hyq _ (nt_iff.1 e.symm)
      · intro e
        obtain ⟨m', -, hy'⟩ := pr_iff.1 e.symm
        exact hyq _ hy'
      · rintro rfl; exact hyq _ hx
  · intro j q' hq'
    rcases hLi j q' hq' with ⟨rfl, rfl⟩ | ⟨hj, hq'⟩
    · rw [hE, if_pos rfl, List.length_eraseIdx, if_pos hk, nt_erase, pr_erase]
      congr 2
      · by_cases h0 : k = 0
        · rw [if_pos h0, if_neg (by omega)]
        · rw [if_neg h0, if_pos (by omega)]
      · by_cases h0 : k + 1 = q.length
        · rw [if_pos h0, if_pos (by omega)]
          congr 1
          omega
        · rw [if_neg h0, if_neg (by omega)]
          congr 1
          omega
    · rw [hE, if_neg hj]; exact h.en j q' hq'
  · intro j q' hq'
    rcases hLi j q' hq' with ⟨rfl, rfl⟩ | ⟨hj, hq'⟩
    · rw [hZ, if_pos rfl, List.length_eraseIdx, if_pos hk]
      congr 1
      omega
    · rw [hZ, if_neg hj]; exact h.sz j q' hq'
theorem Fqp.new (n m : Nat) : Fqp (List.replicate n ⟨-1, -1, -1⟩) (List.replicate m ⟨-1, -1⟩) (List.replicate m 0) (Fq.new n m) := by
  have hq : ∀ (i : Nat) q, (Fq.new n m).L[i]? = some q → i < m ∧ q = [] := by
    intro i q h
    simp only [Fq.new, List.getElem?_replicate] at h
    split at h
    · cases h; exact ⟨by assumption, rfl⟩
    · cases h
  refine ⟨Fq.new_wf n m, by simp [Fq.new], by simp [Fq.new], by simp [Fq.new], ?_, ?_, ?_, ?_⟩
  · intro x hx _
    rw [List.getElem?_replicate, if_pos (show x < n from hx)]
  · intro x i k q h h1
    obtain ⟨_, rfl⟩ := hq i q h
    simp at h1
  · intro i q h
    obtain ⟨h1, rfl⟩ := hq i q h
    rw [List.getElem?_replicate, if_pos h1]
    rfl
  · intro i q h
    obtain ⟨h1, rfl⟩ := hq i q h
    rw [List.getElem?_replicate, if_pos h1]
    rfl
end Go.Proofs.YtipmhialflincaaDoor
