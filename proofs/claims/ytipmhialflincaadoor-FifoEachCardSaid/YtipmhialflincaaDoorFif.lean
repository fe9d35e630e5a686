/-
  Queues of numbered nodes, in plain lists; the links and ends by which a program may hold them. (No Go text.)
-/
import Derived.Test.YtipmhialflincaaDoorIn64
namespace Go.Proofs.YtipmhialflincaaDoor
/-- n nodes, and the queues. -/
structure Fq where
  n : Nat
  L : List (List Nat)
/-- Node x stands in queue i, at place k. -/
def Fq.At (s : Fq) (x i k : Nat) : Prop := ∃ q, s.L[i]? = some q ∧ q[k]? = some x
structure Fq.Wf (s : Fq) : Prop where
  lt : ∀ x i k, s.At x i k → x < s.n
  uni : ∀ x i k j m, s.At x i k → s.At x j m → i = j ∧ k = m
def Fq.put (s : Fq) (i : Nat) (q : List Nat) : Fq := ⟨s.n, s.L.set i q⟩
def Fq.new (n m : Nat) : Fq := ⟨n, List.replicate m []⟩
theorem Fq.at_some {s : Fq} {x i k : Nat} {q : List Nat} (hi : s.L[i]? = some q) (h : q[k]? = some x) : s.At x i k := ⟨q, hi, h⟩
theorem Fq.at_get {s : Fq} {x i k : Nat} {q : List Nat} (h : s.At x i k) (hi : s.L[i]? = some q) : q[k]? = some x := by
  obtain ⟨q', h1, h2⟩ := h
  rw [hi] at h1
  cases h1
  exact h2
theorem Fq.at_put {s : Fq} {i : Nat} {q : List Nat} {x j m : Nat} (hi : i < s.L.length) : (s.put i q).At x j m ↔ (j = i ∧ q[m]? = some x) ∨ (j ≠ i ∧ s.At x j m) := by
  unfold Fq.At Fq.put
  simp only [List.getElem?_set]
  by_cases h : i = j
  · subst h
    simp [hi]
  · have h' : ¬ j = i := fun e => h e.symm
    simp [h, h']
theorem Fq.new_at (n m x i k : Nat) : ¬ (Fq.new n m).At x i k := by
  rintro ⟨q, h1, h2⟩
  simp only [Fq.new, List.getElem?_replicate] at h1
  split at h1
  · cases h1; simp at h2
  · cases h1
theorem Fq.new_wf (n m : Nat) : (Fq.new n m).Wf := ⟨fun x i k h => absurd h (Fq.new_at n m x i k), fun x i k _ _ h => absurd h (Fq.new_at n m x i k)⟩
theorem nodup_le {l : List Nat} : ∀ (n : Nat), (∀ (i j x : Nat), l[i]? = some x → l[j]? = some x → i = j) → (∀ x ∈ l, x < n) → l.length ≤ n := by
  intro n
  induction n generalizing l with
  | zero =>
    intro _ h
    cases l with
    | nil => exact Nat.le_refl _
    | cons a t => exact absurd (h a (by simp)) (by omega)
  | succ n ih =>
    intro hu h
    by_cases hn : n ∈ l
    · obtain ⟨k, hk⟩ := List.mem_iff_getElem?.1 hn
      have hk' := (List.getElem?_eq_some_iff.1 hk).1
      have h1 : (l.eraseIdx k).length ≤ n := by
        refine ih (fun i j x hi hj => ?_) (fun x hx => ?_)
        · rw [List.getElem?_eraseIdx] at hi hj
          split at hi <;> split at hj
          · exact hu _ _ _ hi hj
          · have := hu _ _ _ hi hj; omega
          · have := hu _ _ _ hi hj; omega
          · have := hu _ _ _ hi hj; omega
        · obtain ⟨j, hj⟩ := List.mem_iff_getElem?.1 hx
          rw [List.getElem?_eraseIdx] at hj
          have hx2 : x ∈ l := by split at hj <;> exact List.mem_of_getElem? hj
          have := h x hx2
          have hne : x ≠ n := by
            rintro rfl
            split at hj
            · have := hu _ _ _ hj hk; omega
            · have := hu _ _ _ hj hk; omega
          omega
      rw [List.length_eraseIdx, if_pos hk'] at h1
      omega
    · have := ih hu (fun x hx => by
        have := h x hx
        have hne : x ≠ n := by rintro rfl; exact hn hx
        omega)
      omega
theorem Fq.Wf.len {s : Fq} (h : s.Wf) {i : Nat} {q : List Nat} (hi : s.L[i]? = some q) : q.length ≤ s.n := by
  refine nodup_le s.n (fun a b x ha hb => (h.uni x i a i b ⟨q, hi, ha⟩ ⟨q, hi, hb⟩).2) (fun x hx => ?_)
  obtain ⟨k, hk⟩ := List.mem_iff_getElem?.1 hx
  exact h.lt x i k ⟨q, hi, hk⟩
theorem Fq.Wf.push {s : Fq} (h : s.Wf) {i x : Nat} {q : List Nat} (hi : s.L[i]? = some q) (hx : x < s.n) (hn : ∀ j m, ¬ s.At x j m) : (s.put i (q ++ [x])).Wf := by
  have hl := (List.getElem?_eq_some_iff.1 hi).1
  have key : ∀ y j m, (s.put i (q ++ [x])).At y j m → s.At y j m ∨ (y = x ∧ j = i ∧ m = q.length) := by
    intro y j m hy
    rcases (Fq.at_put hl).1 hy with ⟨rfl, h1⟩ | ⟨_, h1⟩
    · rw [List.getElem?_append] at h1
      split at h1
      · exact .inl ⟨q, hi, h1⟩
      · rename_i hm
        obtain ⟨d, hd⟩ : ∃ d, m - q.length = d := ⟨_, rfl⟩
        rw [hd] at h1
        cases d with
        | zero => simp at h1; exact .inr ⟨h1.symm, rfl, by omega⟩
        | succ d => simp at h1
    · exact .inl h1
  refine ⟨fun y j m hy => ?_, fun y j m j' m' hy hy' => ?_⟩
  · rcases key y j m hy with h1 | ⟨rfl, _, _⟩
    · exact h.lt y j m h1
    · exact hx
  · rcases key y j m hy with h1 | ⟨rfl, rfl, rfl⟩ <;> rcases key y j' m' hy' with h2 | ⟨h2, h3, h4⟩
    · exact h.uni y j m j' m' h1 h2
    · rw [h2] at h1; exact absurd h1 (hn _ _)
    · exact absurd h2 (hn _ _)
    · exact ⟨h3.symm, h4.symm⟩
theorem Fq.Wf.rem {s : Fq} (h : s.Wf) {i k : Nat} {q : List Nat} (hi : s.L[i]? = some q) : (s.put i (q.eraseIdx k)).Wf := by
  have hl := (List.getElem?_eq_some_iff.1 hi).1
  have key : ∀ y j m, (s.put i (q.eraseIdx k)).At y j m → s.At y j (if j = i ∧ k ≤ m then m + 1 else m) := by
    intro y j m hy
    rcases (Fq.at_put hl).1 hy with ⟨rfl, h1⟩ | ⟨h0, h1⟩
    · rw [List.getElem?_eraseIdx] at h1
      split at h1
      · rw [if_neg (by omega)]; exact ⟨q, hi, h1⟩
      · rw [if_pos ⟨rfl, by omega⟩]; exact ⟨q, hi, h1⟩
    · rw [if_neg (fun e => h0 e.1)]; exact h1
  refine ⟨fun y j m hy => h.lt y j _ (key y j m hy), fun y j m j' m' hy hy' => ?_⟩
  obtain ⟨h1, h2⟩ := h.uni y _ _ _ _ (key y j m hy) (key y j' m' hy')
  subst h1
  refine ⟨rfl, ?_⟩
  split at h2 <;> split at h2 <;> omega
/-- Where a node is. -/
def findL (x : Nat) : List (List Nat) → Nat → Option (Nat × Nat)
  | [], _ => none
  | q :: r, i => if x ∈ q then some (i, q.idxOf x) else findL x r (i + 1)
def Fq.find (s : Fq) (x : Nat) : Option (Nat × Nat) := findL x s.L 0
theorem findL_some {x : Nat} {l : List (List Nat)} {b i k : Nat} (h : findL x l b = some (i, k)) : ∃ j q, i = b + j ∧ l[j]? = some q ∧ q[k]? = some x := by
  induction l generalizing b with
  | nil => cases h
  | cons q r ih =>
    unfold findL at h
    split at h
    · rename_i hx
      cases h
      refine ⟨0, q, rfl, rfl, ?_⟩
      have hlt := List.idxOf_lt_length_iff.2 hx
      rw [List.getElem?_eq_getElem hlt, List.getElem_idxOf]
    · obtain ⟨j, q', h1, h2, h3⟩ := ih h
      exact ⟨j + 1, q', by omega, h2, h3⟩
theorem findL_none {x : Nat} {l : List (List Nat)} {b : Nat} (h : findL x l b = none) : ∀ (j : Nat) (q : List Nat), l[j]? = some q → x ∉ q := by
  induction l generalizing b with
  | nil => intro j q hq; simp at hq
  | cons q r ih =>
    unfold findL at h
    split at h
    · cases h
    · rename_i hx
      intro j q' hq
      cases j with
      | zero => simp at hq; rw [← hq]; exact hx
      | succ j => exact ih h j q' (by simpa using hq)
theorem Fq.find_some {s : Fq} {x i k : Nat} (h : s.find x = some (i, k)) : s.At x i k := by
  obtain ⟨j, q, h1, h2, h3⟩ := findL_some h
  rw [Nat.zero_add] at h1
  subst h1
  exact ⟨q, h2, h3⟩
theorem Fq.find_none {s : Fq} {x : Nat} (h : s.find x = none) : ∀ i k, ¬ s.At x i k := by
  rintro i k ⟨q, h1, h2⟩
  exact findL_none h i q h1 (List.mem_of_getElem? h2)
theorem Fq.find_eq {s : Fq} (hw : s.Wf) {x i k : Nat} (h : s.At x i k) : s.find x = some (i, k) := by
  cases hf : s.find x with
  | none => exact absurd h (Fq.find_none hf i k)
  | some p =>
    obtain ⟨j, m⟩ := p
    obtain ⟨rfl, rfl⟩ := hw.uni x i k j m h (Fq.find_some hf)
    rfl
theorem Fq.find_no {s : Fq} {x : Nat} (h : ∀ i k, ¬ s.At x i k) : s.find x = none := by
  cases hf : s.find x with
  | none => rfl
  | some p => exact absurd (Fq.find_some hf) (h _ _)
/-! Numbers as they come in. -/
def Fq.hasN (s : Fq) (x : Int) : Bool := decide (0 ≤ x) && decide (x.toNat < s.n)
def Fq.hasQ (s : Fq) (i : Int) : Bool := decide (0 ≤ i) && decide (i.toNat < s.L.length)
def Fq.findI (s : Fq) (x : Int) : Option (Nat × Nat) := if 0 ≤ x then s.find x.toNat else none
def Fq.qi (s : Fq) (i : Int) : List Nat := if 0 ≤ i then s.L[i.toNat]?.getD [] else []
def Fq.pushB (s : Fq) (i x : Int) : Bool := s.hasQ i && s.hasN x && (s.findI x).isNone
def Fq.pushS (s : Fq) (i x : Int) : Fq := if s.pushB i x = true then s.put i.toNat (s.qi i ++ [x.toNat]) else s
def Fq.frontB (s : Fq) (i : Int) : Bool := !(s.qi i).isEmpty
def Fq.frontV (s : Fq) (i : Int) : Int := ((s.qi i)[0]?.map fun (y : Nat) => (y : Int)).getD 0
def Fq.ofB (s : Fq) (x : Int) : Bool := (s.findI x).isSome
def Fq.ofV (s : Fq) (x : Int) : Int := ((s.findI x).map fun p => (p.1 : Int)).getD 0
def Fq.remS (s : Fq) (x : Int) : Fq := match s.findI x with
  | some (i, k) => s.put i ((s.L[i]?.getD []).eraseIdx k)
  | none => s
def Fq.popS (s : Fq) (i : Int) : Fq := if s.frontB i = true then s.remS (s.frontV i) else s
theorem Fq.hasQ_nat (s : Fq) (i : Nat) : s.hasQ (i : Int) = decide (i < s.L.length) := by simp [Fq.hasQ]
theorem Fq.hasN_nat (s : Fq) (x : Nat) : s.hasN (x : Int) = decide (x < s.n) := by simp [Fq.hasN]
theorem Fq.findI_nat (s : Fq) (x : Nat) : s.findI (x : Int) = s.find x := by simp [Fq.findI]
theorem Fq.qi_nat (s : Fq) (i : Nat) : s.qi (i : Int) = s.L[i]?.getD [] := by simp [Fq.qi]
theorem Fq.hasQ_neg (s : Fq) {i : Int} (h : i < 0) : s.hasQ i = false := by simp [Fq.hasQ]; omega
theorem Fq.hasN_neg (s : Fq) {i : Int} (h : i < 0) : s.hasN i = false := by simp [Fq.hasN]; omega
theorem Fq.findI_neg (s : Fq) {i : Int} (h : i < 0) : s.findI i = none := by unfold Fq.findI; rw [if_neg (by omega)]
theorem Fq.hasQ_pos {s : Fq} {i : Int} (h : s.hasQ i = true) : ∃ (k : Nat) (q : List Nat), i = (k : Int) ∧ k < s.L.length ∧ s.L[k]? = some q ∧ s.qi i = q := by
  simp [Fq.hasQ] at h
  refine ⟨i.toNat, s.L[i.toNat]'h.2, by omega, h.2, List.getElem?_eq_getElem h.2, ?_⟩
  unfold Fq.qi
  rw [if_pos h.1, List.getElem?_eq_getElem h.2]
  rfl
theorem Fq.hasN_pos {s : Fq} {x : Int} (h : s.hasN x = true) : ∃ k : Nat, x = (k : Int) ∧ k < s.n := by
  simp [Fq.hasN] at h
  exact ⟨x.toNat, by omega, h.2⟩
theorem Fq.qi_no {s : Fq} {i : Int} (h : s.hasQ i = false) : s.qi i = [] := by
  unfold Fq.qi
  split
  · rename_i h0
    simp [Fq.hasQ] at h
    rw [List.getElem?_eq_none (h h0)]
    rfl
  · rfl
theorem Fq.findI_no {s : Fq} (hw : s.Wf) {x : Int} (h : s.hasN x = false) : s.findI x = none := by
  rcases Int.lt_or_le x 0 with h0 | h0
  · exact s.findI_neg h0
  · obtain ⟨k, rfl⟩ : ∃ k : Nat, x = (k : Int) := ⟨x.toNat, by omega⟩
    rw [s.hasN_nat] at h
    rw [s.findI_nat]
    refine Fq.find_no fun i m hm => ?_
    have := hw.lt _ _ _ hm
    simp at h
    omega
theorem Fq.findI_some {s : Fq} {x : Int} {i k : Nat} (h : s.findI x = some (i, k)) : ∃ y : Nat, x = (y : Int) ∧ s.At y i k := by
  unfold Fq.findI at h
  split at h
  · exact ⟨x.toNat, by omega, Fq.find_some h⟩
  · cases h
theorem Fq.findI_eq {s : Fq} (hw : s.Wf) {x i k : Nat} (h : s.At x i k) : s.findI (x : Int) = some (i, k) := by rw [s.findI_nat]; exact Fq.find_eq hw h
theorem Fq.put_n (s : Fq) (i : Nat) (q : List Nat) : (s.put i q).n = s.n := rfl
theorem Fq.put_m (s : Fq) (i : Nat) (q : List Nat) : (s.put i q).L.length = s.L.length := by simp [Fq.put]
theorem Fq.pushS_nm (s : Fq) (i x : Int) : (s.pushS i x).n = s.n ∧ (s.pushS i x).L.length = s.L.length := by unfold Fq.pushS; split <;> simp [Fq.put]
theorem Fq.remS_nm (s : Fq) (x : Int) : (s.remS x).n = s.n ∧ (s.remS x).L.length = s.L.length := by unfold Fq.remS; split <;> simp [Fq.put]
theorem Fq.popS_nm (s : Fq) (i : Int) : (s.popS i).n = s.n ∧ (s.popS i).L.length = s.L.length := by
  unfold Fq.popS
  split
  · exact s.remS_nm _
  · exact ⟨rfl, rfl⟩
theorem Fq.pushS_wf {s : Fq} (hw : s.Wf) (i x : Int) : (s.pushS i x).Wf := by
  unfold Fq.pushS
  split
  · rename_i h
    simp only [Fq.pushB, Bool.and_eq_true] at h
    obtain ⟨k, q, rfl, hk, hq, hqi⟩ := Fq.hasQ_pos h.1.1
    obtain ⟨y, rfl, hy⟩ := Fq.hasN_pos h.1.2
    rw [hqi, Int.toNat_natCast, Int.toNat_natCast]
    refine hw.push hq hy (Fq.find_none ?_)
    have := h.2
    rw [s.findI_nat] at this
    simpa using this
  · exact hw
theorem Fq.remS_wf {s : Fq} (hw : s.Wf) (x : Int) : (s.remS x).Wf := by
  unfold Fq.remS
  cases hf : s.findI x with
  | none => exact hw
  | some p =>
    obtain ⟨i, k⟩ := p
    obtain ⟨y, rfl, q, h1, h2⟩ := Fq.findI_some hf
    simp only
    rw [h1]
    exact hw.rem h1
theorem Fq.popS_wf {s : Fq} (hw : s.Wf) (i : Int) : (s.popS i).Wf := by
  unfold Fq.popS
  split
  · exact Fq.remS_wf hw _
  · exact hw
theorem Fq.frontV_some {s : Fq} (hw : s.Wf) {i : Int} (h : s.frontB i = true) : ∃ (k y : Nat), i = (k : Int) ∧ s.frontV i = (y : Int) ∧ s.At y k 0 ∧ s.findI (y : Int) = some (k, 0) := by
  have hq : s.hasQ i = true := by
    cases hc : s.hasQ i with
    | true => rfl
    | false => simp [Fq.frontB, Fq.qi_no hc] at h
  obtain ⟨k, q, rfl, hk, hq, hqi⟩ := Fq.hasQ_pos hq
  simp [Fq.frontB, hqi] at h
  cases q with
  | nil => exact absurd rfl h
  | cons y t =>
    have h0 : s.At y k 0 := ⟨_, hq, rfl⟩
    refine ⟨k, y, rfl, ?_, h0, Fq.findI_eq hw h0⟩
    unfold Fq.frontV
    rw [hqi]
    rfl
end Go.Proofs.YtipmhialflincaaDoor
