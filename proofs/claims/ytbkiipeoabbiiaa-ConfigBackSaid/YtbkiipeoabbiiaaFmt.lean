/-
  Numbers read one behind the other, in plain arithmetic: what was put is read, of less it is not, and what is read has just those bytes.
-/
import Derived.Test.YtbkiipeoabbiiaaOctS
namespace Go.Proofs.Ytbkiipeoabbiiaa

theorem be_val : ∀ (k : Nat) (l : List Nat), l.length = k → (∀ x ∈ l, x < 256) → be k (val l) = l
  | 0, l, h, _ => by rw [List.eq_nil_of_length_eq_zero h]; rfl
  | k + 1, l, h, hl => by
    rcases List.eq_nil_or_concat l with rfl | ⟨l', x, rfl⟩
    · simp at h
    · rw [List.concat_eq_append] at *
      have h1 : l'.length = k := by simpa using h
      have h2 : x < 256 := hl x (by simp)
      have h3 := be_val k l' h1 fun y hy => hl y (by simp [hy])
      rw [val_snoc, be, show (val l' * 256 + x) / 256 = val l' by omega, show (val l' * 256 + x) % 256 = x by omega, h3]
theorem zig_unzig (u : Nat) : zig (unzig u) = u := by unfold unzig zig; split <;> split <;> omega
theorem unzig_in {u : Nat} (h : u < 18446744073709551616) : -9223372036854775808 ≤ unzig u ∧ unzig u < 9223372036854775808 := by unfold unzig; split <;> omega
theorem rn_back (b : List Nat) (hb : ∀ x ∈ b, x < 256) : ∀ (f i acc n s : Nat), f + i = 10 → rn b f i acc = (n, s, 0) →
    ∃ m, n = acc + m * 128 ^ i ∧ s = i + (num m).length ∧ b.drop i = num m ++ b.drop s ∧ (0 < i → 0 < m) ∧ m < 2 ^ (64 - 7 * i) := by
  intro f
  induction f with
  | zero => intro i acc n s _ h; simp [rn] at h
  | succ f ih =>
    intro i acc n s hi h
    cases hx : b[i]? with
    | none => rw [rn_end hx] at h; simp at h
    | some x =>
      obtain ⟨hlt, he⟩ := List.getElem?_eq_some_iff.1 hx
      have hd : b.drop i = x :: b.drop (i + 1) := by rw [List.drop_eq_getElem_cons hlt, he]
      have hxb : x < 256 := hb x (List.mem_of_getElem? hx)
      by_cases hbad : (i = 9 ∧ 1 < x) ∨ (0 < i ∧ x = 0)
      · rw [rn_bad hx hbad] at h; simp at h
      · by_cases h1 : x < 128
        · rw [rn_last hx hbad h1] at h
          simp only [Prod.mk.injEq, and_true] at h
          obtain ⟨rfl, rfl⟩ := h
          refine ⟨x, rfl, by rw [num_small h1]; rfl, by rw [num_small h1, hd]; rfl, fun h0 => by omega, ?_⟩
          rcases Nat.lt_or_ge i 9 with h9 | h9
          · have : (2 : Nat) ^ 7 ≤ 2 ^ (64 - 7 * i) := Nat.pow_le_pow_right (by decide) (by omega)
            omega
          · obtain rfl : i = 9 := by omega
            have : x < 2 := by omega
            simpa using this
        · rw [rn_more hx hbad h1] at h
          have h9 : i < 9 := by omega
          obtain ⟨m, h2, h3, h4, h5, h6⟩ := ih (i + 1) _ n s (by omega) h
          have h50 := h5 (by omega)
          have hm : ¬ (x - 128) + 128 * m < 128 := by omega
          have e1 : ((x - 128) + 128 * m) % 128 + 128 = x := by omega
          have e2 : ((x - 128) + 128 * m) / 128 = m := by omega
          have hpw : 2 ^ (64 - 7 * i) = 128 * 2 ^ (64 - 7 * (i + 1)) := by
            rw [show 64 - 7 * i = 7 + (64 - 7 * (i + 1)) by omega, Nat.pow_add]
          refine ⟨(x - 128) + 128 * m, ?_, ?_, ?_, fun _ => by omega, ?_⟩
          · rw [h2, Nat.pow_succ, Nat.add_mul, Nat.add_assoc, Nat.mul_comm (128 ^ i) 128, ← Nat.mul_assoc, Nat.mul_comm m 128]
          · rw [num_big hm, e2, List.length_cons]; omega
          · rw [num_big hm, e1, e2, hd, h4]; rfl
          · rw [hpw]; omega
theorem read_back {b : List Nat} {n s : Nat} (hb : ∀ x ∈ b, x < 256) (h : rn b 10 0 0 = (n, s, 0)) : b = num n ++ b.drop s ∧ s = (num n).length ∧ n < 18446744073709551616 := by
  obtain ⟨m, h1, h2, h3, _, h5⟩ := rn_back b hb 10 0 0 n s (by omega) h
  obtain rfl : n = m := by rw [h1, Nat.pow_zero]; omega
  exact ⟨by simpa using h3, by omega, by simpa using h5⟩

/-- A kind and a size of a number that is read: in so many bytes (1), with a sign (2), in groups (3). -/
def Nums (q : Int × Int) : Prop := (q.1 = 1 ∧ 1 ≤ q.2 ∧ q.2 ≤ 8) ∨ q.1 = 2 ∨ q.1 = 3
/-- The bytes of such a number. -/
def encN (q : Int × Int) (n : Nat) (s : Int) : List Nat := if q.1 = 1 then be q.2.toNat n else if q.1 = 2 then be 8 (zig s) else num n
/-- A number that may be there. -/
def FitN (q : Int × Int) (n : Nat) (s : Int) : Prop := (q.1 = 1 → n < 256 ^ q.2.toNat ∧ s = 0) ∧ (q.1 = 2 → (-9223372036854775808 ≤ s ∧ s < 9223372036854775808) ∧ n = 0) ∧ (q.1 = 3 → n < 18446744073709551616 ∧ s = 0)
theorem step_back {q : Int × Int} (hq : Nums q) {b : List Nat} (hb : ∀ x ∈ b, x < 256) (h : (stepR q.1 q.2 b 0).f = 0) :
    b = encN q (stepR q.1 q.2 b 0).n (stepR q.1 q.2 b 0).s ++ b.drop (stepR q.1 q.2 b 0).size ∧ FitN q (stepR q.1 q.2 b 0).n (stepR q.1 q.2 b 0).s := by
  obtain ⟨k, z⟩ := q
  simp only at h ⊢
  rcases hq with ⟨h1, h2, h3⟩ | h1 | h1
  · simp only at h1 h2 h3
    subst h1
    rw [step1, if_pos ⟨h2, h3⟩] at h ⊢
    by_cases hl : b.length < z.toNat
    · rw [if_pos hl] at h; simp at h
    · rw [if_neg hl]
      have ht : (b.take z.toNat).length = z.toNat := by rw [List.length_take]; omega
      have hlt : ∀ x ∈ b.take z.toNat, x < 256 := fun x hx => hb x (List.mem_of_mem_take hx)
      have hv := val_lt _ hlt
      rw [ht] at hv
      refine ⟨?_, ⟨fun _ => ⟨hv, rfl⟩, fun e => (by simp at e), fun e => (by simp at e)⟩⟩
      show b = (if (1 : Int) = 1 then be z.toNat (val (b.take z.toNat)) else _) ++ _
      rw [if_pos rfl, be_val z.toNat _ ht hlt]
      exact (List.take_append_drop _ _).symm
  · simp only at h1
    subst h1
    rw [step2] at h ⊢
    by_cases hl : b.length < 8
    · rw [if_pos hl] at h; simp at h
    · rw [if_neg hl]
      have ht : (b.take 8).length = 8 := by rw [List.length_take]; omega
      have hlt : ∀ x ∈ b.take 8, x < 256 := fun x hx => hb x (List.mem_of_mem_take hx)
      have hv := val_lt _ hlt
      rw [ht] at hv
      refine ⟨?_, ⟨fun e => (by simp at e), fun _ => ⟨unzig_in hv, rfl⟩, fun e => (by simp at e)⟩⟩
      show b = (if (2 : Int) = 1 then _ else if (2 : Int) = 2 then be 8 (zig (unzig (val (b.take 8)))) else _) ++ _
      rw [if_neg (by decide), if_pos rfl, zig_unzig, be_val 8 _ ht hlt]
      exact (List.take_append_drop _ _).symm
  · simp only at h1
    subst h1
    have e : stepR 3 z b 0 = ⟨(rn b 10 0 0).1, 0, [], (rn b 10 0 0).2.1, (rn b 10 0 0).2.2⟩ := rfl
    rw [e] at h ⊢
    obtain ⟨r1, r2, r3⟩ := read_back (b := b) (n := (rn b 10 0 0).1) (s := (rn b 10 0 0).2.1) hb (Prod.ext rfl (Prod.ext rfl h))
    refine ⟨?_, ⟨fun e => (by simp at e), fun e => (by simp at e), fun _ => ⟨r3, rfl⟩⟩⟩
    show b = (if (3 : Int) = 1 then _ else if (3 : Int) = 2 then _ else num _) ++ _
    rw [if_neg (by decide), if_neg (by decide)]
    exact r1
theorem step_forth {q : Int × Int} (hq : Nums q) {n : Nat} {s : Int} (hf : FitN q n s) (t : List Nat) : stepR q.1 q.2 (encN q n s ++ t) 0 = ⟨n, s, [], (encN q n s).length, 0⟩ := by
  obtain ⟨k, z⟩ := q
  obtain ⟨f1, f2, f3⟩ := hf
  rcases hq with ⟨h1, h2, h3⟩ | h1 | h1
  · simp only at h1 h2 h3 f1
    subst h1
    obtain ⟨g1, rfl⟩ := f1 rfl
    have e : encN (1, z) n 0 = be z.toNat n := if_pos rfl
    have hl : (be z.toNat n).length = z.toNat := be_length _ n
    rw [e, step1, if_pos ⟨h2, h3⟩, if_neg (by rw [List.length_append, hl]; omega), List.take_left' hl, val_be, Nat.mod_eq_of_lt g1, hl]
  · simp only at h1 f2
    subst h1
    obtain ⟨⟨g2, g4⟩, rfl⟩ := f2 rfl
    have e : encN (2, z) 0 s = be 8 (zig s) := (if_neg (by simp)).trans (if_pos rfl)
    have hl : (be 8 (zig s)).length = 8 := be_length 8 _
    rw [e, step2, if_neg (by rw [List.length_append, hl]; omega), List.take_left' hl, val_be, Nat.mod_eq_of_lt (zig_lt g2 g4), unzig_zig, hl]
  · simp only at h1 f3
    subst h1
    obtain ⟨g3, rfl⟩ := f3 rfl
    have e : encN (3, z) n 0 = num n := (if_neg (by simp)).trans (if_neg (by simp))
    have e2 : stepR 3 z (num n ++ t) 0 = ⟨(rn (num n ++ t) 10 0 0).1, 0, [], (rn (num n ++ t) 10 0 0).2.1, (rn (num n ++ t) 10 0 0).2.2⟩ := rfl
    rw [e]
    show stepR 3 z _ 0 = _
    rw [e2, read_num (word_pow g3)]
theorem step_cut {q : Int × Int} (hq : Nums q) {n : Nat} {s : Int} (hf : FitN q n s) {m : Nat} (hm : m < (encN q n s).length) : (stepR q.1 q.2 ((encN q n s).take m) 0).f = 3 := by
  obtain ⟨k, z⟩ := q
  obtain ⟨f1, f2, f3⟩ := hf
  have hl : ((encN (k, z) n s).take m).length = m := by rw [List.length_take]; omega
  rcases hq with ⟨h1, h2, h3⟩ | h1 | h1
  · simp only at h1 h2 h3
    subst h1
    have e : encN (1, z) n s = be z.toNat n := if_pos rfl
    have he := congrArg List.length e
    rw [be_length] at he
    show (stepR 1 z _ 0).f = 3
    rw [step1, if_pos ⟨h2, h3⟩, if_pos (by omega)]
  · simp only at h1
    subst h1
    have e : encN (2, z) n s = be 8 (zig s) := (if_neg (by simp)).trans (if_pos rfl)
    have he := congrArg List.length e
    rw [be_length] at he
    show (stepR 2 z _ 0).f = 3
    rw [step2, if_pos (by omega)]
  · simp only at h1 f3
    subst h1
    obtain ⟨g3, rfl⟩ := f3 rfl
    have e : encN (3, z) n 0 = num n := (if_neg (by simp)).trans (if_neg (by simp))
    rw [e] at hm ⊢
    have e2 : stepR 3 z ((num n).take m) 0 = ⟨(rn ((num n).take m) 10 0 0).1, 0, [], (rn ((num n).take m) 10 0 0).2.1, (rn ((num n).take m) 10 0 0).2.2⟩ := rfl
    show (stepR 3 z _ 0).f = 3
    rw [e2, cut_num g3 hm]

/-- Numbers read one behind the other; nothing more is read behind a fault. -/
def rdL : List (Int × Int) → List Nat → Nat → List Res × List Nat × Nat
  | [], b, f => ([], b, f)
  | q :: t, b, f => (stepR q.1 q.2 b f :: (rdL t (b.drop (stepR q.1 q.2 b f).size) (stepR q.1 q.2 b f).f).1, (rdL t (b.drop (stepR q.1 q.2 b f).size) (stepR q.1 q.2 b f).f).2)
theorem rdL_cons {k z : Int} {t : List (Int × Int)} {b : List Nat} {f : Nat} {r : Res} (h : stepR k z b f = r) : rdL ((k, z) :: t) b f = (r :: (rdL t (b.drop r.size) r.f).1, (rdL t (b.drop r.size) r.f).2) := by subst h; rfl
theorem rdL_fault : ∀ (t : List (Int × Int)) (b : List Nat) (f : Nat), f ≠ 0 → (rdL t b f).2.2 = f
  | [], _, _, _ => rfl
  | q :: t, b, f, h => by
    rw [rdL, step_fault h]
    exact rdL_fault t _ f h
theorem rdL_length : ∀ (t : List (Int × Int)) (b : List Nat) (f : Nat), (rdL t b f).1.length = t.length
  | [], _, _ => rfl
  | q :: t, b, f => by rw [rdL]; exact congrArg (· + 1) (rdL_length t _ _)
/-- The bytes of numbers. -/
def encL : List (Int × Int) → List Res → List Nat
  | q :: t, r :: rs => encN q r.n r.s ++ encL t rs
  | _, _ => []
/-- Numbers that may be there. -/
def FitL : List (Int × Int) → List Res → Prop
  | q :: t, r :: rs => FitN q r.n r.s ∧ FitL t rs
  | [], [] => True
  | _, _ => False
theorem rdL_back : ∀ (t : List (Int × Int)) (_ : ∀ q ∈ t, Nums q) (b : List Nat) (_ : ∀ x ∈ b, x < 256), (rdL t b 0).2.2 = 0 → b = encL t (rdL t b 0).1 ++ (rdL t b 0).2.1 ∧ FitL t (rdL t b 0).1
  | [], _, b, _, _ => ⟨rfl, trivial⟩
  | q :: t, hq, b, hb, h => by
    rw [rdL] at h ⊢
    have h0 : (stepR q.1 q.2 b 0).f = 0 := by
      apply Classical.byContradiction
      intro hne
      rw [rdL_fault _ _ _ hne] at h
      exact hne h
    obtain ⟨e1, e2⟩ := step_back (hq q (by simp)) hb h0
    rw [h0] at h ⊢
    obtain ⟨i1, i2⟩ := rdL_back t (fun q h => hq q (List.mem_cons_of_mem _ h)) (b.drop (stepR q.1 q.2 b 0).size) (fun x hx => hb x (List.mem_of_mem_drop hx)) h
    refine ⟨?_, e2, i2⟩
    rw [encL, List.append_assoc, ← i1]
    exact e1
/-- The same numbers, with the sizes of their bytes. -/
def sized : List (Int × Int) → List Res → List Res
  | q :: t, r :: rs => ⟨r.n, r.s, [], (encN q r.n r.s).length, 0⟩ :: sized t rs
  | _, _ => []
theorem rdL_forth : ∀ (t : List (Int × Int)) (_ : ∀ q ∈ t, Nums q) (rs : List Res) (_ : FitL t rs) (u : List Nat), rdL t (encL t rs ++ u) 0 = (sized t rs, u, 0)
  | [], _, [], _, u => rfl
  | [], _, _ :: _, h, _ => h.elim
  | _ :: _, _, [], h, _ => h.elim
  | q :: t, hq, r :: rs, hf, u => by
    obtain ⟨h1, h2⟩ := hf
    rw [encL, List.append_assoc, rdL, step_forth (hq q (by simp)) h1, List.drop_left, rdL_forth t (fun q h => hq q (List.mem_cons_of_mem _ h)) rs h2 u]
    rfl
theorem rdL_cut : ∀ (t : List (Int × Int)) (_ : ∀ q ∈ t, Nums q) (rs : List Res) (_ : FitL t rs) (m : Nat), m < (encL t rs).length → (rdL t ((encL t rs).take m) 0).2.2 = 3
  | [], _, [], _, m, h => by simp [encL] at h
  | [], _, _ :: _, h, _, _ => h.elim
  | _ :: _, _, [], h, _, _ => h.elim
  | q :: t, hq, r :: rs, hf, m, hm => by
    obtain ⟨h1, h2⟩ := hf
    rw [encL, List.length_append] at hm
    rw [encL, rdL]
    by_cases hle : (encN q r.n r.s).length ≤ m
    · have e : (encN q r.n r.s ++ encL t rs).take m = encN q r.n r.s ++ (encL t rs).take (m - (encN q r.n r.s).length) := by
        rw [List.take_append, List.take_of_length_le hle]
      rw [e, step_forth (hq q (by simp)) h1, List.drop_left]
      exact rdL_cut t (fun q h => hq q (List.mem_cons_of_mem _ h)) rs h2 _ (by omega)
    · have e : (encN q r.n r.s ++ encL t rs).take m = (encN q r.n r.s).take m := by rw [List.take_append_of_le_length (by omega)]
      rw [e]
      have h3 := step_cut (hq q (by simp)) h1 (show m < (encN q r.n r.s).length by omega)
      rw [rdL_fault _ _ _ (by rw [h3]; decide), h3]
end Go.Proofs.Ytbkiipeoabbiiaa
