/-
  Queues of numbered nodes, in plain lists; the links and ends by which a program may hold them. (No Go text.)
  Queues held by links of nodes and ends of queues: what becomes of them. (No Go text.)
  The program's queues in memory; the contracts of the methods that read.
-/
import Derived.Test.YtdmjcjheanedgaaDoorGA
import Derived.Test.YtdmjcjheanedgaaDoorGB
import Derived.Laws.StructEq
import Derived.Lib.Hide
import Derived.ProofKit
import Derived.OpenShut
import Derived.Deep.QuietTactic
import Derived.BigQuiet
import Derived.IntWalk
namespace Go.Proofs.YtdmjcjheanedgaaDoor
/-- n nodes, and the queues. -/
structure Fq where
  n : Nat
  L : List (List Nat)
/-- Node x stands in queue i, at place k. -/
def Fq.At (s : Fq) (x i k : Nat) : Prop := ∃ q, s.L[i]? = some q ∧ q[k]? = some x
structure Fq.Wf (s : Fq) : Prop where
  lt : ∀ x i k, s.At x i k → x < s.n
  uni : ∀ x i k j m, s.At x i k → s.At x j m → i = j ∧ k = m
def Fq.put (s : Fq) (i : Nat) (q : List Nat) : Fq := ⟨s.n, s.L.set i q⟩
def Fq.new (n m : Nat) : Fq := ⟨n, List.replicate m []⟩
theorem Fq.at_get {s : Fq} {x i k : Nat} {q : List Nat} (h : s.At x i k) (hi : s.L[i]? = some q) : q[k]? = some x := by
  obtain ⟨q', h1, h2⟩ := h
  rw [hi] at h1
  cases h1
  exact h2
theorem Fq.at_put {s : Fq} {i : Nat} {q : List Nat} {x j m : Nat} (hi : i < s.L.length) : (s.put i q).At x j m ↔ (j = i ∧ q[m]? = some x) ∨ (j ≠ i ∧ s.At x j m) := by
  unfold Fq.At Fq.put
  simp only [List.getElem?_set]
  by_cases h : i = j
  · subst h
    simp [hi]
  · have h' : ¬ j = i := fun e => h e.symm
    simp [h, h']
theorem Fq.new_at (n m x i k : Nat) : ¬ (Fq.new n m).At x i k := by
  rintro ⟨q, h1, h2⟩
  simp only [Fq.new, List.getElem?_replicate] at h1
  split at h1
  · cases h1; simp at h2
  · cases h1
theorem Fq.new_wf (n m : Nat) : (Fq.new n m).Wf := ⟨fun x i k h => absurd h (Fq.new_at n m x i k), fun x i k _ _ h => absurd h (Fq.new_at n m x i k)⟩
theorem nodup_le {l : List Nat} : ∀ (n : Nat), (∀ (i j x : Nat), l[i]? = some x → l[j]? = some x → i = j) → (∀ x ∈ l, x < n) → l.length ≤ n := by
  intro n
  induction n generalizing l with
  | zero =>
    intro _ h
    cases l with
    | nil => exact Nat.le_refl _
    | cons a t => exact absurd (h a (by simp)) (by omega)
  | succ n ih =>
    intro hu h
    by_cases hn : n ∈ l
    · obtain ⟨k, hk⟩ := List.mem_iff_getElem?.1 hn
      have hk' := (List.getElem?_eq_some_iff.1 hk).1
      have h1 : (l.eraseIdx k).length ≤ n := by
        refine ih (fun i j x hi hj => ?_) (fun x hx => ?_)
        · rw [List.getElem?_eraseIdx] at hi hj
          split at hi <;> split at hj
          · exact hu _ _ _ hi hj
          · have := hu _ _ _ hi hj; omega
          · have := hu _ _ _ hi hj; omega
          · have := hu _ _ _ hi hj; omega
        · obtain ⟨j, hj⟩ := List.mem_iff_getElem?.1 hx
          rw [List.getElem?_eraseIdx] at hj
          have hx2 : x ∈ l := by split at hj <;> exact List.mem_of_getElem? hj
          have := h x hx2
          have hne : x ≠ n := by
            rintro rfl
            split at hj
            · have := hu _ _ _ hj hk; omega
            · have := hu _ _ _ hj hk; omega
          omega
      rw [List.length_eraseIdx, if_pos hk'] at h1
      omega
    · have := ih hu (fun x hx => by
        have := h x hx
        have hne : x ≠ n := by rintro rfl; exact hn hx
        omega)
      omega
theorem Fq.Wf.len {s : Fq} (h : s.Wf) {i : Nat} {q : List Nat} (hi : s.L[i]? = some q) : q.length ≤ s.n := by
  refine nodup_le s.n (fun a b x ha hb => (h.uni x i a i b ⟨q, hi, ha⟩ ⟨q, hi, hb⟩).2) (fun x hx => ?_)
  obtain ⟨k, hk⟩ := List.mem_iff_getElem?.1 hx
  exact h.lt x i k ⟨q, hi, hk⟩
theorem Fq.Wf.push {s : Fq} (h : s.Wf) {i x : Nat} {q : List Nat} (hi : s.L[i]? = some q) (hx : x < s.n) (hn : ∀ j m, ¬ s.At x j m) : (s.put i (q ++ [x])).Wf := by
  have hl := (List.getElem?_eq_some_iff.1 hi).1
  have key : ∀ y j m, (s.put i (q ++ [x])).At y j m → s.At y j m ∨ (y = x ∧ j = i ∧ m = q.length) := by
    intro y j m hy
    rcases (Fq.at_put hl).1 hy with ⟨rfl, h1⟩ | ⟨_, h1⟩
    · rw [List.getElem?_append] at h1
      split at h1
      · exact .inl ⟨q, hi, h1⟩
      · rename_i hm
        obtain ⟨d, hd⟩ : ∃ d, m - q.length = d := ⟨_, rfl⟩
        rw [hd] at h1
        cases d with
        | zero => simp at h1; exact .inr ⟨h1.symm, rfl, by omega⟩
        | succ d => simp at h1
    · exact .inl h1
  refine ⟨fun y j m hy => ?_, fun y j m j' m' hy hy' => ?_⟩
  · rcases key y j m hy with h1 | ⟨rfl, _, _⟩
    · exact h.lt y j m h1
    · exact hx
  · rcases key y j m hy with h1 | ⟨rfl, rfl, rfl⟩ <;> rcases key y j' m' hy' with h2 | ⟨h2, h3, h4⟩
    · exact h.uni y j m j' m' h1 h2
    · rw [h2] at h1; exact absurd h1 (hn _ _)
    · exact absurd h2 (hn _ _)
    · exact ⟨h3.symm, h4.symm⟩
theorem Fq.Wf.rem {s : Fq} (h : s.Wf) {i k : Nat} {q : List Nat} (hi : s.L[i]? = some q) : (s.put i (q.eraseIdx k)).Wf := by
  have hl := (List.getElem?_eq_some_iff.1 hi).1
  have key : ∀ y j m, (s.put i (q.eraseIdx k)).At y j m → s.At y j (if j = i ∧ k ≤ m then m + 1 else m) := by
    intro y j m hy
    rcases (Fq.at_put hl).1 hy with ⟨rfl, h1⟩ | ⟨h0, h1⟩
    · rw [List.getElem?_eraseIdx] at h1
      split at h1
      · rw [if_neg (by omega)]; exact ⟨q, hi, h1⟩
      · rw [if_pos ⟨rfl, by omega⟩]; exact ⟨q, hi, h1⟩
    · rw [if_neg (fun e => h0 e.1)]; exact h1
  refine ⟨fun y j m hy => h.lt y j _ (key y j m hy), fun y j m j' m' hy hy' => ?_⟩
  obtain ⟨h1, h2⟩ := h.uni y _ _ _ _ (key y j m hy) (key y j' m' hy')
  subst h1
  refine ⟨rfl, ?_⟩
  split at h2 <;> split at h2 <;> omega
/-- Where a node is. -/
def findL (x : Nat) : List (List Nat) → Nat → Option (Nat × Nat)
  | [], _ => none
  | q :: r, i => if x ∈ q then some (i, q.idxOf x) else findL x r (i + 1)
def Fq.find (s : Fq) (x : Nat) : Option (Nat × Nat) := findL x s.L 0
theorem findL_some {x : Nat} {l : List (List Nat)} {b i k : Nat} (h : findL x l b = some (i, k)) : ∃ j q, i = b + j ∧ l[j]? = some q ∧ q[k]? = some x := by
  induction l generalizing b with
  | nil => cases h
  | cons q r ih =>
    unfold findL at h
    split at h
    · rename_i hx
      cases h
      refine ⟨0, q, rfl, rfl, ?_⟩
      have hlt := List.idxOf_lt_length_iff.2 hx
      rw [List.getElem?_eq_getElem hlt, List.getElem_idxOf]
    · obtain ⟨j, q', h1, h2, h3⟩ := ih h
      exact ⟨j + 1, q', by omega, h2, h3⟩
theorem findL_none {x : Nat} {l : List (List Nat)} {b : Nat} (h : findL x l b = none) : ∀ (j : Nat) (q : List Nat), l[j]? = some q → x ∉ q := by
  induction l generalizing b with
  | nil => intro j q hq; simp at hq
  | cons q r ih =>
    unfold findL at h
    split at h
    · cases h
    · rename_i hx
      intro j q' hq
      cases j with
      | zero => simp at hq; rw [← hq]; exact hx
      | succ j => exact ih h j q' (by simpa using hq)
theorem Fq.find_some {s : Fq} {x i k : Nat} (h : s.find x = some (i, k)) : s.At x i k := by
  obtain ⟨j, q, h1, h2, h3⟩ := findL_some h
  rw [Nat.zero_add] at h1
  subst h1
  exact ⟨q, h2, h3⟩
theorem Fq.find_none {s : Fq} {x : Nat} (h : s.find x = none) : ∀ i k, ¬ s.At x i k := by
  rintro i k ⟨q, h1, h2⟩
  exact findL_none h i q h1 (List.mem_of_getElem? h2)
theorem Fq.find_eq {s : Fq} (hw : s.Wf) {x i k : Nat} (h : s.At x i k) : s.find x = some (i, k) := by
  cases hf : s.find x with
  | none => exact absurd h (Fq.find_none hf i k)
  | some p =>
    obtain ⟨j, m⟩ := p
    obtain ⟨rfl, rfl⟩ := hw.uni x i k j m h (Fq.find_some hf)
    rfl
theorem Fq.find_no {s : Fq} {x : Nat} (h : ∀ i k, ¬ s.At x i k) : s.find x = none := by
  cases hf : s.find x with
  | none => rfl
  | some p => exact absurd (Fq.find_some hf) (h _ _)
/-! Numbers as they come in. -/
def Fq.hasN (s : Fq) (x : Int) : Bool := decide (0 ≤ x) && decide (x.toNat < s.n)
def Fq.hasQ (s : Fq) (i : Int) : Bool := decide (0 ≤ i) && decide (i.toNat < s.L.length)
def Fq.findI (s : Fq) (x : Int) : Option (Nat × Nat) := if 0 ≤ x then s.find x.toNat else none
def Fq.qi (s : Fq) (i : Int) : List Nat := if 0 ≤ i then s.L[i.toNat]?.getD [] else []
def Fq.pushB (s : Fq) (i x : Int) : Bool := s.hasQ i && s.hasN x && (s.findI x).isNone
def Fq.pushS (s : Fq) (i x : Int) : Fq := if s.pushB i x = true then s.put i.toNat (s.qi i ++ [x.toNat]) else s
def Fq.frontB (s : Fq) (i : Int) : Bool := !(s.qi i).isEmpty
def Fq.frontV (s : Fq) (i : Int) : Int := ((s.qi i)[0]?.map fun (y : Nat) => (y : Int)).getD 0
def Fq.ofB (s : Fq) (x : Int) : Bool := (s.findI x).isSome
def Fq.ofV (s : Fq) (x : Int) : Int := ((s.findI x).map fun p => (p.1 : Int)).getD 0
def Fq.remS (s : Fq) (x : Int) : Fq := match s.findI x with
  | some (i, k) => s.put i ((s.L[i]?.getD []).eraseIdx k)
  | none => s
def Fq.popS (s : Fq) (i : Int) : Fq := if s.frontB i = true then s.remS (s.frontV i) else s
theorem Fq.hasN_nat (s : Fq) (x : Nat) : s.hasN (x : Int) = decide (x < s.n) := by simp [Fq.hasN]
theorem Fq.findI_nat (s : Fq) (x : Nat) : s.findI (x : Int) = s.find x := by simp [Fq.findI]
theorem Fq.qi_nat (s : Fq) (i : Nat) : s.qi (i : Int) = s.L[i]?.getD [] := by simp [Fq.qi]
theorem Fq.findI_neg (s : Fq) {i : Int} (h : i < 0) : s.findI i = none := by unfold Fq.findI; rw [if_neg (by omega)]
theorem Fq.hasQ_pos {s : Fq} {i : Int} (h : s.hasQ i = true) : ∃ (k : Nat) (q : List Nat), i = (k : Int) ∧ k < s.L.length ∧ s.L[k]? = some q ∧ s.qi i = q := by
  simp [Fq.hasQ] at h
  refine ⟨i.toNat, s.L[i.toNat]'h.2, by omega, h.2, List.getElem?_eq_getElem h.2, ?_⟩
  unfold Fq.qi
  rw [if_pos h.1, List.getElem?_eq_getElem h.2]
  rfl
theorem Fq.hasN_pos {s : Fq} {x : Int} (h : s.hasN x = true) : ∃ k : Nat, x = (k : Int) ∧ k < s.n := by
  simp [Fq.hasN] at h
  exact ⟨x.toNat, by omega, h.2⟩
theorem Fq.qi_no {s : Fq} {i : Int} (h : s.hasQ i = false) : s.qi i = [] := by
  unfold Fq.qi
  split
  · rename_i h0
    simp [Fq.hasQ] at h
    rw [List.getElem?_eq_none (h h0)]
    rfl
  · rfl
theorem Fq.findI_no {s : Fq} (hw : s.Wf) {x : Int} (h : s.hasN x = false) : s.findI x = none := by
  rcases Int.lt_or_le x 0 with h0 | h0
  · exact s.findI_neg h0
  · obtain ⟨k, rfl⟩ : ∃ k : Nat, x = (k : Int) := ⟨x.toNat, by omega⟩
    rw [s.hasN_nat] at h
    rw [s.findI_nat]
    refine Fq.find_no fun i m hm => ?_
    have := hw.lt _ _ _ hm
    simp at h
    omega
theorem Fq.findI_some {s : Fq} {x : Int} {i k : Nat} (h : s.findI x = some (i, k)) : ∃ y : Nat, x = (y : Int) ∧ s.At y i k := by
  unfold Fq.findI at h
  split at h
  · exact ⟨x.toNat, by omega, Fq.find_some h⟩
  · cases h
theorem Fq.findI_eq {s : Fq} (hw : s.Wf) {x i k : Nat} (h : s.At x i k) : s.findI (x : Int) = some (i, k) := by rw [s.findI_nat]; exact Fq.find_eq hw h
theorem Fq.put_m (s : Fq) (i : Nat) (q : List Nat) : (s.put i q).L.length = s.L.length := by simp [Fq.put]
end Go.Proofs.YtdmjcjheanedgaaDoor
namespace Go.Proofs.YtdmjcjheanedgaaDoor
structure Lk where
  q : Int
  p : Int
  x : Int
structure En where
  f : Int
  l : Int
/-- The node at a place, -1 if there is none; the one ahead of a place. -/
def nt (q : List Nat) (k : Nat) : Int := (q[k]?.map fun (y : Nat) => (y : Int)).getD (-1)
def pr (q : List Nat) : Nat → Int
  | 0 => -1
  | k + 1 => nt q k
theorem nt_some {q : List Nat} {k y : Nat} (h : q[k]? = some y) : nt q k = (y : Int) := by simp [nt, h]
theorem nt_none {q : List Nat} {k : Nat} (h : q.length ≤ k) : nt q k = -1 := by simp [nt, List.getElem?_eq_none h]
theorem nt_iff {q : List Nat} {k y : Nat} : nt q k = (y : Int) ↔ q[k]? = some y := by
  unfold nt
  cases h : q[k]? with
  | none => simp
  | some z => simp; omega
theorem nt_neg {q : List Nat} {k : Nat} : nt q k = -1 ↔ q.length ≤ k := by
  unfold nt
  rcases Nat.lt_or_ge k q.length with h | h
  · rw [List.getElem?_eq_getElem h]; simp; omega
  · simp [h]
theorem nt_cases (q : List Nat) (k : Nat) : (nt q k = -1 ∧ q.length ≤ k) ∨ ∃ y : Nat, nt q k = (y : Int) ∧ q[k]? = some y := by
  rcases Nat.lt_or_ge k q.length with h | h
  · exact .inr ⟨q[k], nt_some (List.getElem?_eq_getElem h), List.getElem?_eq_getElem h⟩
  · exact .inl ⟨nt_none h, h⟩
theorem pr_cases (q : List Nat) (k : Nat) (hk : k ≤ q.length) : (pr q k = -1 ∧ k = 0) ∨ ∃ j y : Nat, k = j + 1 ∧ pr q k = (y : Int) ∧ q[j]? = some y := by
  cases k with
  | zero => exact .inl ⟨rfl, rfl⟩
  | succ j => exact .inr ⟨j, q[j], rfl, nt_some (List.getElem?_eq_getElem (by omega)), List.getElem?_eq_getElem (by omega)⟩
theorem pr_iff {q : List Nat} {k y : Nat} : pr q k = (y : Int) ↔ ∃ j, k = j + 1 ∧ q[j]? = some y := by
  cases k with
  | zero =>
    constructor
    · intro h; exact absurd h (by show ¬ ((-1 : Int) = y); omega)
    · rintro ⟨j, h, _⟩; omega
  | succ k =>
    constructor
    · intro h; exact ⟨k, rfl, nt_iff.1 h⟩
    · rintro ⟨j, h, h1⟩; obtain rfl : k = j := by omega
      exact nt_iff.2 h1
theorem nt_erase (q : List Nat) (k m : Nat) : nt (q.eraseIdx k) m = if m < k then nt q m else nt q (m + 1) := by
  unfold nt
  rw [List.getElem?_eraseIdx]
  split <;> rfl
theorem pr_erase (q : List Nat) (k m : Nat) : pr (q.eraseIdx k) m = if m ≤ k then pr q m else pr q (m + 1) := by
  cases m with
  | zero => rw [if_pos (Nat.zero_le _)]; rfl
  | succ m =>
    show nt _ m = _
    rw [nt_erase]
    by_cases h : m < k
    · rw [if_pos h, if_pos (by omega)]; rfl
    · rw [if_neg h, if_neg (by omega)]; rfl
theorem nt_push (q : List Nat) (x m : Nat) : nt (q ++ [x]) m = if m < q.length then nt q m else if m = q.length then (x : Int) else -1 := by
  unfold nt
  rw [List.getElem?_append]
  split
  · rfl
  · rename_i h
    split
    · rename_i h2
      rw [h2]
      simp
    · rename_i h2
      rw [List.getElem?_eq_none (by simp; omega)]
      rfl
theorem pr_push (q : List Nat) (x m : Nat) (h : m ≤ q.length) : pr (q ++ [x]) m = pr q m := by
  cases m with
  | zero => rfl
  | succ m =>
    show nt _ m = nt _ m
    rw [nt_push, if_pos (by omega)]
/-- The links, the ends and the sizes of queues. -/
structure Fqp (K : List Lk) (E : List En) (Z : List Int) (s : Fq) : Prop where
  wf : s.Wf
  lk : K.length = s.n
  le : E.length = s.L.length
  lz : Z.length = s.L.length
  out : ∀ x, x < s.n → (∀ i k, ¬ s.At x i k) → K[x]? = some ⟨-1, -1, -1⟩
  inn : ∀ (x i k : Nat) q, s.L[i]? = some q → q[k]? = some x → K[x]? = some ⟨(i : Int), pr q k, nt q (k + 1)⟩
  en : ∀ (i : Nat) q, s.L[i]? = some q → E[i]? = some ⟨nt q 0, pr q q.length⟩
  sz : ∀ (i : Nat) q, s.L[i]? = some q → Z[i]? = some (q.length : Int)
theorem Fqp.push {K K' : List Lk} {E E' : List En} {Z Z' : List Int} {s : Fq} (h : Fqp K E Z s) {i x : Nat} {q : List Nat} (hi : s.L[i]? = some q) (hx : x < s.n) (hn : ∀ j m, ¬ s.At x j m)
    (lK : K'.length = K.length) (lE : E'.length = E.length) (lZ : Z'.length = Z.length)
    (hK : ∀ y : Nat, K'[y]? = if y = x then some ⟨(i : Int), pr q q.length, -1⟩ else if (y : Int) = pr q q.length then K[y]?.map (fun k => ⟨k.q, k.p, (x : Int)⟩) else K[y]?)
    (hE : ∀ j : Nat, E'[j]? = if j = i then some ⟨if q.length = 0 then (x : Int) else nt q 0, (x : Int)⟩ else E[j]?)
    (hZ : ∀ j : Nat, Z'[j]? = if j = i then some ((q.length : Int) + 1) else Z[j]?) : Fqp K' E' Z' (s.put i (q ++ [x])) := by
  have hl := (List.getElem?_eq_some_iff.1 hi).1
  have hLi : ∀ (j : Nat) (q' : List Nat), (s.put i (q ++ [x])).L[j]? = some q' → (j = i ∧ q' = q ++ [x]) ∨ (j ≠ i ∧ s.L[j]? = some q') := by
    intro j q' hq
    simp only [Fq.put, List.getElem?_set] at hq
    split at hq
    · rename_i e
      cases hq
      exact .inl ⟨e.symm, rfl⟩
    · rename_i e
      exact .inr ⟨fun e' => e e'.symm, hq⟩
  refine ⟨h.wf.push hi hx hn, by rw [lK]; exact h.lk, by rw [lE, s.put_m]; exact h.le, by rw [lZ, s.put_m]; exact h.lz, ?_, ?_, ?_, ?_⟩
  · intro y hy hno
    have hyx : y ≠ x := by
      rintro rfl
      exact hno i q.length ((Fq.at_put hl).2 (.inl ⟨rfl, by simp⟩))
    have hno2 : ∀ j k, ¬ s.At y j k := by
      intro j k hjk
      by_cases hj : j = i
      · subst hj
        have hk := Fq.at_get hjk hi
        exact hno j k ((Fq.at_put hl).2 (.inl ⟨rfl, by rw [List.getElem?_append_left (List.getElem?_eq_some_iff.1 hk).1]; exact hk⟩))
      · exact hno j k ((Fq.at_put hl).2 (.inr ⟨hj, hjk⟩))
    rw [hK, if_neg hyx, if_neg]
    · exact h.out y hy hno2
    · intro e
      obtain ⟨j, -, hj⟩ := pr_iff.1 e.symm
      exact hno2 i j ⟨q, hi, hj⟩
  · intro y j m q' hq' hy
    rcases hLi j q' hq' with ⟨rfl, rfl⟩ | ⟨hj, hq'⟩
    · rcases Nat.lt_or_ge m q.length with hm | hm
      · rw [List.getElem?_append_left hm] at hy
        have hyx : y ≠ x := by rintro rfl; exact hn j m ⟨q, hi, hy⟩
        rw [hK, if_neg hyx, h.inn y j m q hi hy, pr_push _ _ _ (by omega), nt_push]
        by_cases he : m + 1 = q.length
        · rw [if_pos (Eq.symm (pr_iff.2 ⟨m, he.symm, hy⟩)), if_neg (by omega), if_pos he]
          rfl
        · rw [if_neg, if_pos (by omega)]
          intro e
          obtain ⟨m', hm', hy'⟩ := pr_iff.1 e.symm
          have := (h.wf.uni y j m j m' ⟨q, hi, hy⟩ ⟨q, hi, hy'⟩).2
          omega
      · obtain ⟨d, rfl⟩ : ∃ d, m = q.length + d := ⟨m - q.length, by omega⟩
        rw [List.getElem?_append_right (by omega), Nat.add_sub_cancel_left] at hy
        cases d with
        | zero =>
          obtain rfl : x = y := by simpa using hy
          rw [hK, if_pos rfl, Nat.add_zero, pr_push _ _ _ (Nat.le_refl _), nt_push, if_neg (by omega), if_neg (by omega)]
        | succ d => simp at hy
    · have hyx : y ≠ x := fun e => hn j m (by rw [← e]; exact ⟨q', hq', hy⟩)
      rw [hK, if_neg hyx, if_neg]
      · exact h.inn y j m q' hq' hy
      · intro e
        obtain ⟨m', -, hy'⟩ := pr_iff.1 e.symm
        exact hj (h.wf.uni y j m i m' ⟨q', hq', hy⟩ ⟨q, hi, hy'⟩).1
  · intro j q' hq'
    rcases hLi j q' hq' with ⟨rfl, rfl⟩ | ⟨hj, hq'⟩
    · rw [hE, if_pos rfl]
      simp only [List.length_append, List.length_cons, List.length_nil, Nat.zero_add]
      show _ = some (⟨nt (q ++ [x]) 0, nt (q ++ [x]) q.length⟩ : En)
      rw [nt_push, nt_push, if_neg (Nat.lt_irrefl _), if_pos rfl]
      by_cases h0 : q.length = 0
      · rw [if_pos h0, if_neg (by omega), if_pos h0.symm]
      · rw [if_neg h0, if_pos (by omega)]
    · rw [hE, if_neg hj]; exact h.en j q' hq'
  · intro j q' hq'
    rcases hLi j q' hq' with ⟨rfl, rfl⟩ | ⟨hj, hq'⟩
    · rw [hZ, if_pos rfl]; simp
    · rw [hZ, if_neg hj]; exact h.sz j q' hq'
theorem Fqp.rem {K K' : List Lk} {E E' : List En} {Z Z' : List Int} {s : Fq} (h : Fqp K E Z s) {i x k : Nat} {q : List Nat} (hi : s.L[i]? = some q) (hx : q[k]? = some x)
    (lK : K'.length = K.length) (lE : E'.length = E.length) (lZ : Z'.length = Z.length)
    (hK : ∀ y : Nat, K'[y]? = if y = x then some ⟨-1, -1, -1⟩ else if (y : Int) = pr q k then K[y]?.map (fun k' => ⟨k'.q, k'.p, nt q (k + 1)⟩) else if (y : Int) = nt q (k + 1) then K[y]?.map (fun k' => ⟨k'.q, pr q k, k'.x⟩) else K[y]?)
    (hE : ∀ j : Nat, E'[j]? = if j = i then some ⟨if k = 0 then nt q 1 else nt q 0, if k + 1 = q.length then pr q k else pr q q.length⟩ else E[j]?)
    (hZ : ∀ j : Nat, Z'[j]? = if j = i then some ((q.length : Int) - 1) else Z[j]?) : Fqp K' E' Z' (s.put i (q.eraseIdx k)) := by
  have hl := (List.getElem?_eq_some_iff.1 hi).1
  have hk := (List.getElem?_eq_some_iff.1 hx).1
  have hLi : ∀ (j : Nat) (q' : List Nat), (s.put i (q.eraseIdx k)).L[j]? = some q' → (j = i ∧ q' = q.eraseIdx k) ∨ (j ≠ i ∧ s.L[j]? = some q') := by
    intro j q' hq
    simp only [Fq.put, List.getElem?_set] at hq
    split at hq
    · rename_i e
      cases hq
      exact .inl ⟨e.symm, rfl⟩
    · rename_i e
      exact .inr ⟨fun e' => e e'.symm, hq⟩
  have hat : s.At x i k := ⟨q, hi, hx⟩
  refine ⟨h.wf.rem hi, by rw [lK]; exact h.lk, by rw [lE, s.put_m]; exact h.le, by rw [lZ, s.put_m]; exact h.lz, ?_, ?_, ?_, ?_⟩
  · intro y hy hno
    rw [hK]
    by_cases hyx : y = x
    · rw [if_pos hyx]
    · have hno2 : ∀ j m, ¬ s.At y j m := by
        intro j m hjm
        by_cases hj : j = i
        · subst hj
          have hm := Fq.at_get hjm hi
          have hmk : m ≠ k := by rintro rfl; rw [hx] at hm; cases hm; exact hyx rfl
          by_cases hlt : m < k
          · exact hno j m ((Fq.at_put hl).2 (.inl ⟨rfl, by rw [List.getElem?_eraseIdx, if_pos hlt]; exact hm⟩))
          · exact hno j (m - 1) ((Fq.at_put hl).2 (.inl ⟨rfl, by rw [List.getElem?_eraseIdx, if_neg (by omega), show m - 1 + 1 = m by omega]; exact hm⟩))
        · exact hno j m ((Fq.at_put hl).2 (.inr ⟨hj, hjm⟩))
      rw [if_neg hyx, if_neg, if_neg]
      · exact h.out y hy hno2
      · intro e
        exact hno2 i _ ⟨q, hi, nt_iff.1 e.symm⟩
      · intro e
        obtain ⟨j, -, hj⟩ := pr_iff.1 e.symm
        exact hno2 i j ⟨q, hi, hj⟩
  · intro y j m q' hq' hy
    rcases hLi j q' hq' with ⟨rfl, rfl⟩ | ⟨hj, hq'⟩
    · rw [List.getElem?_eraseIdx] at hy
      rw [nt_erase, pr_erase, hK]
      have un : ∀ m1 m2, q[m1]? = some y → q[m2]? = some y → m1 = m2 := fun m1 m2 h1 h2 => (h.wf.uni y j m1 j m2 ⟨q, hi, h1⟩ ⟨q, hi, h2⟩).2
      have hyx : ∀ m1, m1 ≠ k → q[m1]? = some y → y ≠ x := fun m1 h1 h2 e => by subst e; exact h1 (un _ _ h2 hx)
      split at hy
      · rename_i hm
        rw [if_neg (hyx m (by omega) hy), h.inn y j m q hi hy, if_pos (show m ≤ k by omega)]
        by_cases he : m + 1 = k
        · rw [if_pos (Eq.symm (pr_iff.2 ⟨m, he.symm, hy⟩)), if_neg (by omega), he]
          rfl
        · rw [if_neg, if_neg, if_pos (by omega)]
          · intro e; have := un _ _ hy (nt_iff.1 e.symm); omega
          · intro e
            obtain ⟨m', hm', hy'⟩ := pr_iff.1 e.symm
            have := un _ _ hy hy'
            omega
      · rename_i hm
        rw [if_neg (hyx (m + 1) (by omega) hy), h.inn y j (m + 1) q hi hy, if_neg (show ¬ m + 1 < k by omega), if_neg]
        · by_cases he : m = k
          · subst he
            rw [if_pos (nt_some hy).symm, if_pos (Nat.le_refl _)]
            rfl
          · rw [if_neg, if_neg (by omega)]
            intro e; have := un _ _ hy (nt_iff.1 e.symm); omega
        · intro e
          obtain ⟨m', hm', hy'⟩ := pr_iff.1 e.symm
          have := un _ _ hy hy'
          omega
    · have hne : ∀ z : Nat, s.At z i z ∨ True := fun _ => .inr trivial
      have hyq : ∀ m', q[m']? ≠ some y := fun m' e => hj (h.wf.uni y j m i m' ⟨q', hq', hy⟩ ⟨q, hi, e⟩).1
      rw [hK, if_neg, if_neg, if_neg]
      · exact h.inn y j m q' hq' hy
      · intro e; exact hyq _ (nt_iff.1 e.symm)
      · intro e
        obtain ⟨m', -, hy'⟩ := pr_iff.1 e.symm
        exact hyq _ hy'
      · rintro rfl; exact hyq _ hx
  · intro j q' hq'
    rcases hLi j q' hq' with ⟨rfl, rfl⟩ | ⟨hj, hq'⟩
    · rw [hE, if_pos rfl, List.length_eraseIdx, if_pos hk, nt_erase, pr_erase]
      congr 2
      · by_cases h0 : k = 0
        · rw [if_pos h0, if_neg (by omega)]
        · rw [if_neg h0, if_pos (by omega)]
      · by_cases h0 : k + 1 = q.length
        · rw [if_pos h0, if_pos (by omega)]
          congr 1
          omega
        · rw [if_neg h0, if_neg (by omega)]
          congr 1
          omega
    · rw [hE, if_neg hj]; exact h.en j q' hq'
  · intro j q' hq'
    rcases hLi j q' hq' with ⟨rfl, rfl⟩ | ⟨hj, hq'⟩
    · rw [hZ, if_pos rfl, List.length_eraseIdx, if_pos hk]
      congr 1
      omega
    · rw [hZ, if_neg hj]; exact h.sz j q' hq'
theorem Fqp.new (n m : Nat) : Fqp (List.replicate n ⟨-1, -1, -1⟩) (List.replicate m ⟨-1, -1⟩) (List.replicate m 0) (Fq.new n m) := by
  have hq : ∀ (i : Nat) q, (Fq.new n m).L[i]? = some q → i < m ∧ q = [] := by
    intro i q h
    simp only [Fq.new, List.getElem?_replicate] at h
    split at h
    · cases h; exact ⟨by assumption, rfl⟩
    · cases h
  refine ⟨Fq.new_wf n m, by simp [Fq.new], by simp [Fq.new], by simp [Fq.new], ?_, ?_, ?_, ?_⟩
  · intro x hx _
    rw [List.getElem?_replicate, if_pos (show x < n from hx)]
  · intro x i k q h h1
    obtain ⟨_, rfl⟩ := hq i q h
    simp at h1
  · intro i q h
    obtain ⟨h1, rfl⟩ := hq i q h
    rw [List.getElem?_replicate, if_pos h1]
    rfl
  · intro i q h
    obtain ⟨h1, rfl⟩ := hq i q h
    rw [List.getElem?_replicate, if_pos h1]
    rfl
end Go.Proofs.YtdmjcjheanedgaaDoor
namespace Go.Proofs.YtdmjcjheanedgaaDoor
open Go.RowKit
abbrev cLk (k : Lk) : Array Value := #[.int .i64 k.q, .int .i64 k.p, .int .i64 k.x]
abbrev cEn (e : En) : Array Value := #[.int .i64 e.f, .int .i64 e.l]
abbrev cI (z : Int) : Array Value := #[.int .i64 z]
abbrev vLk (k : Lk) : Value := .agg (cLk k)
abbrev vEn (e : En) : Value := .agg (cEn e)
def eqLk (a b : Lk) : Bool := a.q == b.q && a.p == b.p && a.x == b.x
def eqEn (a b : En) : Bool := a.f == b.f && a.l == b.l
theorem eqF_step (p : Prop) [Decidable p] (q : Bool) (w : World) {X : Result Bool} (h : X = Result.ok q w) : (if p then X else Result.ok false w) = Result.ok (decide p && q) w := by
  subst h
  by_cases hp : p <;> simp [hp]
theorem eqF_last (p : Prop) [Decidable p] (w : World) : (if p then Result.ok true w else Result.ok false w) = Result.ok (decide p) w := by
  by_cases hp : p <;> simp [hp]
theorem eqIn_Lk (a b : Lk) (w : World) : (Op.equalIn 10000 119 (vLk a) (vLk b)).run Tryd.prog w = .ok (eqLk a b) w := by
  have hu := Tryd.underlying119
  have hf : Tryd.prog.underlying 119 = some (.struct (Tryd.prog.fieldsOf 119)) := by rw [Program.fieldsOf, hu]
  have uint := Tryd.underlying3
  rw [show (10000 : Nat) = 9999 + 1 from rfl, run_equalIn_agg w 9999 _ _ _ hf (by kernel_rfl), Program.fieldsOf, hu]
  simp only [Op.eqFields]
  unfold eqLk
  simp [go_sem, part]
  clear hu hf uint
  simp only [Bool.and_assoc]
  exact eqF_step _ _ w (eqF_step _ _ w (eqF_last _ w))
theorem eql_Lk (a b : Lk) (w : World) : (binOp .eql 119 (vLk a) (vLk b)).run Tryd.prog w = .ok (.bool (eqLk a b)) w := by
  rw [run_eql_struct, eqIn_Lk]; rfl
theorem neq_Lk (a b : Lk) (w : World) : (binOp .neq 119 (vLk a) (vLk b)).run Tryd.prog w = .ok (.bool (!eqLk a b)) w := by
  rw [run_neq_struct, eqIn_Lk]; rfl
theorem eqIn_En (a b : En) (w : World) : (Op.equalIn 10000 121 (vEn a) (vEn b)).run Tryd.prog w = .ok (eqEn a b) w := by
  have hu := Tryd.underlying121
  have hf : Tryd.prog.underlying 121 = some (.struct (Tryd.prog.fieldsOf 121)) := by rw [Program.fieldsOf, hu]
  have uint := Tryd.underlying3
  rw [show (10000 : Nat) = 9999 + 1 from rfl, run_equalIn_agg w 9999 _ _ _ hf (by kernel_rfl), Program.fieldsOf, hu]
  simp only [Op.eqFields]
  unfold eqEn
  simp [go_sem, part]
  clear hu hf uint
  exact eqF_step _ _ w (eqF_last _ w)
theorem eql_En (a b : En) (w : World) : (binOp .eql 121 (vEn a) (vEn b)).run Tryd.prog w = .ok (.bool (eqEn a b)) w := by
  rw [run_eql_struct, eqIn_En]; rfl
/-- What the package's variables hold. -/
structure Gl (w : World) : Prop where
  a0 : w.cell? ⟨0, 0, none⟩ = some (.int .i64 (-1))
  a1 : w.cell? ⟨0, 1, none⟩ = some (.int .i64 (-1))
  a2 : w.cell? ⟨0, 2, none⟩ = some (.int .i64 (-1))
  b0 : w.cell? ⟨1, 0, none⟩ = some (.int .i64 (-1))
  b1 : w.cell? ⟨1, 1, none⟩ = some (.int .i64 (-1))
theorem Gl.lt {w : World} (h : Gl w) : 0 < w.heap.size ∧ 1 < w.heap.size := ⟨World.block_lt_of_cell? w _ h.a0, World.block_lt_of_cell? w _ h.b0⟩
theorem Gl.two {w : World} (h : Gl w) : 2 ≤ w.heap.size := by have := h.lt; omega
theorem Gl.of_heap {w w' : World} (h : Gl w) (h0 : w'.heap[0]? = w.heap[0]?) (h1 : w'.heap[1]? = w.heap[1]?) : Gl w' :=
  ⟨(World.cell?_of_block h0).trans h.a0, (World.cell?_of_block h0).trans h.a1, (World.cell?_of_block h0).trans h.a2, (World.cell?_of_block h1).trans h.b0, (World.cell?_of_block h1).trans h.b1⟩
theorem Gl.frm {S : Nat → Prop} {w w' : World} (h : Gl w) (hf : Frm S w w') (hS : ∀ b, S b → 2 ≤ b) : Gl w' :=
  h.of_heap (hf.block _ h.lt.1 (fun e => by have := hS _ e; omega)) (hf.block _ h.lt.2 (fun e => by have := hS _ e; omega))
theorem Gl.below {w w' : World} (h : Gl w) (hb : Below w.heap.size w w') : Gl w' := h.of_heap (hb.block _ h.lt.1) (hb.block _ h.lt.2)
theorem Flt.upd {α : Type} {enc : α → Array Value} {sz : Nat} {c : Array Value} {l : List α} (h : Flt enc sz c l) (he : ∀ x, (enc x).size ≤ sz) {i : Nat} {x : α} (x' : α) (hi : l[i]? = some x) (j : Nat) (v : Value) (hj : j < sz)
    (hx : ∀ (j' : Nat) (v' : Value), (enc x')[j']? = some v' → (j' = j ∧ v' = v) ∨ (j' ≠ j ∧ (enc x)[j']? = some v')) : Flt enc sz (c.setIfInBounds (i * sz + j) v) (l.set i x') := by
  have hlt := (List.getElem?_eq_some_iff.1 hi).1
  have hin := h.lt hlt hj
  refine h.set he i x' (by simp) (fun j' v' hv => ?_) (fun k hk => ?_)
  · rw [Array.getElem?_setIfInBounds]
    rcases hx j' v' hv with ⟨rfl, rfl⟩ | ⟨h1, h2⟩
    · rw [if_pos rfl, if_pos hin]
    · rw [if_neg (by omega)]
      exact h.at' i x hi j' v' h2
  · rw [Array.getElem?_setIfInBounds, if_neg (fun e => hk j hj e.symm)]
/-- The struct in block g, its rows in bl, be, bs: links, ends, sizes. -/
structure PM (w : World) (g bl be bs : Nat) (K : List Lk) (E : List En) (Z : List Int) : Prop where
  hg : Blk w g 117 #[.slice (some ⟨bl, 0, none⟩) K.length K.length, .slice (some ⟨be, 0, none⟩) E.length E.length, .slice (some ⟨bs, 0, none⟩) E.length E.length]
  hl : ∃ c, Blk w bl 119 c ∧ Flt cLk 3 c K
  he : ∃ c, Blk w be 121 c ∧ Flt cEn 2 c E
  hs : ∃ c, Blk w bs 3 c ∧ Flt cI 1 c Z
  lz : Z.length = E.length
  nk : K.length ≤ 500
  ne : E.length ≤ 400
  gl : Gl w
  d1 : g ≠ bl
  d2 : g ≠ be
  d3 : g ≠ bs
  d4 : bl ≠ be
  d5 : bl ≠ bs
  d6 : be ≠ bs
  z1 : 2 ≤ g
  z2 : 2 ≤ bl
  z3 : 2 ≤ be
  z4 : 2 ≤ bs
/-- The four blocks. -/
def Qb (g bl be bs : Nat) (b : Nat) : Prop := b = g ∨ b = bl ∨ b = be ∨ b = bs
section
variable {w w' : World} {g bl be bs : Nat} {K : List Lk} {E : List En} {Z : List Int}
theorem PM.two (h : PM w g bl be bs K E Z) : ∀ b, Qb g bl be bs b → 2 ≤ b := by
  rintro b (e | e | e | e) <;> rw [e]
  · exact h.z1
  · exact h.z2
  · exact h.z3
  · exact h.z4
theorem PM.lt (h : PM w g bl be bs K E Z) : ∀ b, Qb g bl be bs b → b < w.heap.size := by
  obtain ⟨_, h1, _⟩ := h.hl
  obtain ⟨_, h2, _⟩ := h.he
  obtain ⟨_, h3, _⟩ := h.hs
  rintro b (e | e | e | e) <;> rw [e]
  · exact h.hg.lt
  · exact h1.lt
  · exact h2.lt
  · exact h3.lt
theorem PM.of_heap (h : PM w g bl be bs K E Z) (hh : ∀ b, Qb g bl be bs b → w'.heap[b]? = w.heap[b]?) (hgl : Gl w') : PM w' g bl be bs K E Z := by
  obtain ⟨c1, h1, f1⟩ := h.hl
  obtain ⟨c2, h2, f2⟩ := h.he
  obtain ⟨c3, h3, f3⟩ := h.hs
  exact { h with hg := (hh g (.inl rfl)).trans h.hg, hl := ⟨c1, (hh bl (.inr (.inl rfl))).trans h1, f1⟩, he := ⟨c2, (hh be (.inr (.inr (.inl rfl)))).trans h2, f2⟩, hs := ⟨c3, (hh bs (.inr (.inr (.inr rfl)))).trans h3, f3⟩, gl := hgl }
theorem PM.frm {S : Nat → Prop} (h : PM w g bl be bs K E Z) (hf : Frm S w w') (hS : ∀ b, S b → 2 ≤ b ∧ ¬ Qb g bl be bs b) : PM w' g bl be bs K E Z :=
  h.of_heap (fun b hb => hf.block b (h.lt b hb) (fun e => (hS b e).2 hb)) (h.gl.frm hf (fun b e => (hS b e).1))
theorem PM.below (h : PM w g bl be bs K E Z) (hb : Below w.heap.size w w') : PM w' g bl be bs K E Z := h.of_heap (fun b hq => hb.block b (h.lt b hq)) (h.gl.below hb)
theorem PM.drew (h : PM w g bl be bs K E Z) : PM w.drew g bl be bs K E Z := h.of_heap (fun _ _ => rfl) (h.gl.of_heap rfl rfl)
theorem PM.drewN (h : PM w g bl be bs K E Z) (n : Nat) : PM (w.drewN n) g bl be bs K E Z := h.of_heap (fun _ _ => rfl) (h.gl.of_heap rfl rfl)
theorem PM.lk (h : PM w g bl be bs K E Z) {x : Nat} {k : Lk} (hk : K[x]? = some k) : w.cell? ⟨bl, x * 3, none⟩ = some (.int .i64 k.q) ∧ w.cell? ⟨bl, x * 3 + 1, none⟩ = some (.int .i64 k.p) ∧ w.cell? ⟨bl, x * 3 + 2, none⟩ = some (.int .i64 k.x) := by
  obtain ⟨c, hB, hF⟩ := h.hl
  exact ⟨hB.cell_eq _ _ (hF.at' x k hk 0 _ rfl), hB.cell_eq _ _ (hF.at' x k hk 1 _ rfl), hB.cell_eq _ _ (hF.at' x k hk 2 _ rfl)⟩
theorem PM.en (h : PM w g bl be bs K E Z) {i : Nat} {e : En} (he : E[i]? = some e) : w.cell? ⟨be, i * 2, none⟩ = some (.int .i64 e.f) ∧ w.cell? ⟨be, i * 2 + 1, none⟩ = some (.int .i64 e.l) := by
  obtain ⟨c, hB, hF⟩ := h.he
  exact ⟨hB.cell_eq _ _ (hF.at' i e he 0 _ rfl), hB.cell_eq _ _ (hF.at' i e he 1 _ rfl)⟩
theorem PM.sz (h : PM w g bl be bs K E Z) {i : Nat} {z : Int} (hz : Z[i]? = some z) : w.cell? ⟨bs, i, none⟩ = some (.int .i64 z) := by
  obtain ⟨c, hB, hF⟩ := h.hs
  have := hB.cell_eq _ _ (hF.at' i z hz 0 _ rfl)
  rwa [Nat.mul_one, Nat.add_zero] at this
theorem PM.c0 (h : PM w g bl be bs K E Z) : w.cell? ⟨g, 0, none⟩ = some (.slice (some ⟨bl, 0, none⟩) K.length K.length) := h.hg.cell_eq 0 _ rfl
theorem PM.c1 (h : PM w g bl be bs K E Z) : w.cell? ⟨g, 1, none⟩ = some (.slice (some ⟨be, 0, none⟩) E.length E.length) := h.hg.cell_eq 1 _ rfl
theorem PM.c2 (h : PM w g bl be bs K E Z) : w.cell? ⟨g, 2, none⟩ = some (.slice (some ⟨bs, 0, none⟩) E.length E.length) := h.hg.cell_eq 2 _ rfl
theorem PM.fl (h : PM w g bl be bs K E Z) (i : Nat) : w.frozen? ⟨bl, i, none⟩ = false := by obtain ⟨c, hB, -⟩ := h.hl; exact hB.free i
theorem PM.fe (h : PM w g bl be bs K E Z) (i : Nat) : w.frozen? ⟨be, i, none⟩ = false := by obtain ⟨c, hB, -⟩ := h.he; exact hB.free i
theorem PM.fs (h : PM w g bl be bs K E Z) (i : Nat) : w.frozen? ⟨bs, i, none⟩ = false := by obtain ⟨c, hB, -⟩ := h.hs; exact hB.free i
theorem heap_other (w : World) (a : Addr) (v : Value) {b : Nat} (h : b ≠ a.block) : (w.setCell a v).heap[b]? = w.heap[b]? := Below.heap_setCell w a v b h
theorem PM.putL (h : PM w g bl be bs K E Z) {c' : Array Value} {K' : List Lk} (hc : Flt cLk 3 c' K') (hlen : K'.length = K.length) (hB : Blk w' bl 119 c') (ho : ∀ b, b ≠ bl → w'.heap[b]? = w.heap[b]?) : PM w' g bl be bs K' E Z := by
  obtain ⟨c2, h2, f2⟩ := h.he
  obtain ⟨c3, h3, f3⟩ := h.hs
  exact { h with hg := by rw [hlen]; exact (ho g h.d1).trans h.hg, hl := ⟨c', hB, hc⟩, he := ⟨c2, (ho be (fun e => h.d4 e.symm)).trans h2, f2⟩, hs := ⟨c3, (ho bs (fun e => h.d5 e.symm)).trans h3, f3⟩, nk := by rw [hlen]; exact h.nk, gl := h.gl.of_heap (ho _ (by have := h.z2; omega)) (ho _ (by have := h.z2; omega)) }
theorem PM.setLq (h : PM w g bl be bs K E Z) {x : Nat} {k : Lk} (hk : K[x]? = some k) (v : Int) : PM (w.setCell ⟨bl, x * 3, none⟩ (.int .i64 v)) g bl be bs (K.set x ⟨v, k.p, k.x⟩) E Z := by
  obtain ⟨c, hB, hF⟩ := h.hl
  refine h.putL (hF.upd (fun _ => Nat.le_refl _) ⟨v, k.p, k.x⟩ hk 0 (.int .i64 v) (by omega) (fun j' v' hv => ?_)) (by simp) (hB.set (x * 3) _) (fun b hb => heap_other w _ _ hb)
  match j', hv with
  | 0, hv => simp at hv; exact .inl ⟨rfl, hv.symm⟩
  | 1, hv => exact .inr ⟨by omega, hv⟩
  | 2, hv => exact .inr ⟨by omega, hv⟩
theorem PM.setLp (h : PM w g bl be bs K E Z) {x : Nat} {k : Lk} (hk : K[x]? = some k) (v : Int) : PM (w.setCell ⟨bl, x * 3 + 1, none⟩ (.int .i64 v)) g bl be bs (K.set x ⟨k.q, v, k.x⟩) E Z := by
  obtain ⟨c, hB, hF⟩ := h.hl
  refine h.putL (hF.upd (fun _ => Nat.le_refl _) ⟨k.q, v, k.x⟩ hk 1 (.int .i64 v) (by omega) (fun j' v' hv => ?_)) (by simp) (hB.set (x * 3 + 1) _) (fun b hb => heap_other w _ _ hb)
  match j', hv with
  | 0, hv => exact .inr ⟨by omega, hv⟩
  | 1, hv => simp at hv; exact .inl ⟨rfl, hv.symm⟩
  | 2, hv => exact .inr ⟨by omega, hv⟩
theorem PM.setLx (h : PM w g bl be bs K E Z) {x : Nat} {k : Lk} (hk : K[x]? = some k) (v : Int) : PM (w.setCell ⟨bl, x * 3 + 2, none⟩ (.int .i64 v)) g bl be bs (K.set x ⟨k.q, k.p, v⟩) E Z := by
  obtain ⟨c, hB, hF⟩ := h.hl
  refine h.putL (hF.upd (fun _ => Nat.le_refl _) ⟨k.q, k.p, v⟩ hk 2 (.int .i64 v) (by omega) (fun j' v' hv => ?_)) (by simp) (hB.set (x * 3 + 2) _) (fun b hb => heap_other w _ _ hb)
  match j', hv with
  | 0, hv => exact .inr ⟨by omega, hv⟩
  | 1, hv => exact .inr ⟨by omega, hv⟩
  | 2, hv => simp at hv; exact .inl ⟨rfl, hv.symm⟩
theorem PM.putE (h : PM w g bl be bs K E Z) {c' : Array Value} {E' : List En} (hc : Flt cEn 2 c' E') (hlen : E'.length = E.length) (hB : Blk w' be 121 c') (ho : ∀ b, b ≠ be → w'.heap[b]? = w.heap[b]?) : PM w' g bl be bs K E' Z := by
  obtain ⟨c1, h1, f1⟩ := h.hl
  obtain ⟨c3, h3, f3⟩ := h.hs
  exact { h with hg := by rw [hlen]; exact (ho g h.d2).trans h.hg, hl := ⟨c1, (ho bl h.d4).trans h1, f1⟩, he := ⟨c', hB, hc⟩, hs := ⟨c3, (ho bs (fun e => h.d6 e.symm)).trans h3, f3⟩, lz := by rw [hlen]; exact h.lz, ne := by rw [hlen]; exact h.ne, gl := h.gl.of_heap (ho _ (by have := h.z3; omega)) (ho _ (by have := h.z3; omega)) }
theorem PM.setEf (h : PM w g bl be bs K E Z) {i : Nat} {e : En} (he : E[i]? = some e) (v : Int) : PM (w.setCell ⟨be, i * 2, none⟩ (.int .i64 v)) g bl be bs K (E.set i ⟨v, e.l⟩) Z := by
  obtain ⟨c, hB, hF⟩ := h.he
  refine h.putE (hF.upd (fun _ => Nat.le_refl _) ⟨v, e.l⟩ he 0 (.int .i64 v) (by omega) (fun j' v' hv => ?_)) (by simp) (hB.set (i * 2) _) (fun b hb => heap_other w _ _ hb)
  match j', hv with
  | 0, hv => simp at hv; exact .inl ⟨rfl, hv.symm⟩
  | 1, hv => exact .inr ⟨by omega, hv⟩
theorem PM.setEl (h : PM w g bl be bs K E Z) {i : Nat} {e : En} (he : E[i]? = some e) (v : Int) : PM (w.setCell ⟨be, i * 2 + 1, none⟩ (.int .i64 v)) g bl be bs K (E.set i ⟨e.f, v⟩) Z := by
  obtain ⟨c, hB, hF⟩ := h.he
  refine h.putE (hF.upd (fun _ => Nat.le_refl _) ⟨e.f, v⟩ he 1 (.int .i64 v) (by omega) (fun j' v' hv => ?_)) (by simp) (hB.set (i * 2 + 1) _) (fun b hb => heap_other w _ _ hb)
  match j', hv with
  | 0, hv => exact .inr ⟨by omega, hv⟩
  | 1, hv => simp at hv; exact .inl ⟨rfl, hv.symm⟩
theorem PM.setZ (h : PM w g bl be bs K E Z) {i : Nat} {z : Int} (hz : Z[i]? = some z) (v : Int) : PM (w.setCell ⟨bs, i, none⟩ (.int .i64 v)) g bl be bs K E (Z.set i v) := by
  obtain ⟨c1, h1, f1⟩ := h.hl
  obtain ⟨c2, h2, f2⟩ := h.he
  obtain ⟨c, hB, hF⟩ := h.hs
  have ho : ∀ b, b ≠ bs → (w.setCell ⟨bs, i, none⟩ (.int .i64 v)).heap[b]? = w.heap[b]? := fun b hb => heap_other w _ _ hb
  have hF' := hF.upd (fun _ => Nat.le_refl _) v hz 0 (.int .i64 v) (by omega) (fun j' v' hv => by
    match j', hv with
    | 0, hv => simp at hv; exact .inl ⟨rfl, hv.symm⟩)
  rw [Nat.mul_one, Nat.add_zero] at hF'
  exact { h with hg := (ho g h.d3).trans h.hg, hl := ⟨c1, (ho bl h.d5).trans h1, f1⟩, he := ⟨c2, (ho be h.d6).trans h2, f2⟩, hs := ⟨_, hB.set i _, hF'⟩, lz := by simp; exact h.lz, gl := h.gl.of_heap (ho _ (by have := h.z4; omega)) (ho _ (by have := h.z4; omega)) }
end
def inR (n : Nat) (x : Int) : Bool := decide (0 ≤ x) && decide (x.toNat < n)
theorem inR_neg {n : Nat} {x : Int} (h : x < 0) : inR n x = false := by simp [inR]; omega
theorem inR_nat (n i : Nat) : inR n (i : Int) = decide (i < n) := by simp [inR]
section
variable {W : World} {g bl be bs : Nat} {K : List Lk} {E : List En} {Z : List Int}
set_option maxRecDepth 8000 in
set_option maxHeartbeats 1000000 in
theorem hasQueue_any (x : Int) (h : PM W g bl be bs K E Z) :
    Calls Tryd.prog 59 #[.pointer (some ⟨g, 0, none⟩), .int .i64 x] W fun e w' => e = .returned (.bool (inR E.length x)) ∧ w' = W := by
  have c1 := h.c1
  have hn := h.ne
  generalize E.length = n at *
  clear h
  by_cases h0 : x < 0
  · rw [inR_neg h0]
    go_enter Tryd.func59, Tryd.ntmps59
    go_wp2_with fail
    all_goals go_ret
    all_goals trivial
  · obtain ⟨i, rfl⟩ : ∃ i : Nat, x = (i : Int) := ⟨x.toNat, by omega⟩
    rw [inR_nat]
    by_cases h1 : i < n
    · rw [decide_eq_true h1]
      go_enter Tryd.func59, Tryd.ntmps59
      go_wp2_with fail
      all_goals go_ret
      all_goals trivial
    · rw [decide_eq_false h1]
      go_enter Tryd.func59, Tryd.ntmps59
      go_wp2_with fail
      all_goals go_ret
      all_goals trivial
set_option maxRecDepth 8000 in
set_option maxHeartbeats 1000000 in
theorem hasNode_any (x : Int) (h : PM W g bl be bs K E Z) :
    Calls Tryd.prog 60 #[.pointer (some ⟨g, 0, none⟩), .int .i64 x] W fun e w' => e = .returned (.bool (inR K.length x)) ∧ w' = W := by
  have c0 := h.c0
  have hn := h.nk
  generalize K.length = n at *
  clear h
  by_cases h0 : x < 0
  · rw [inR_neg h0]
    go_enter Tryd.func60, Tryd.ntmps60
    go_wp2_with fail
    all_goals go_ret
    all_goals trivial
  · obtain ⟨i, rfl⟩ : ∃ i : Nat, x = (i : Int) := ⟨x.toNat, by omega⟩
    rw [inR_nat]
    by_cases h1 : i < n
    · rw [decide_eq_true h1]
      go_enter Tryd.func60, Tryd.ntmps60
      go_wp2_with fail
      all_goals go_ret
      all_goals trivial
    · rw [decide_eq_false h1]
      go_enter Tryd.func60, Tryd.ntmps60
      go_wp2_with fail
      all_goals go_ret
      all_goals trivial
end
section
variable (x : Int) (W : World)
end
end Go.Proofs.YtdmjcjheanedgaaDoor
