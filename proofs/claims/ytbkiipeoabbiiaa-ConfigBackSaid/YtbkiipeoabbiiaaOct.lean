/-
  Numbers as bytes, in plain arithmetic: the three encodings, reading them, and that what was written is read. No Go text is looked at here.
-/
import Derived.Lib.ItoaNum
namespace Go.Proofs.Ytbkiipeoabbiiaa

/-- The k lowest bytes of n, the most significant first. -/
def be : Nat → Nat → List Nat
  | 0, _ => []
  | k + 1, n => be k (n / 256) ++ [n % 256]
theorem be_length : ∀ k n, (be k n).length = k
  | 0, _ => rfl
  | k + 1, n => by rw [be, List.length_append, be_length k]; rfl
theorem be_lt : ∀ k n, ∀ x ∈ be k n, x < 256
  | 0, _ => by simp [be]
  | k + 1, n => by
    intro x hx
    rw [be, List.mem_append] at hx
    rcases hx with h | h
    · exact be_lt k _ x h
    · rw [List.mem_singleton] at h; omega
theorem be_cons : ∀ k n, be (k + 1) n = (n / 256 ^ k % 256) :: be k n
  | 0, n => by simp [be]
  | k + 1, n => by
    rw [be, be_cons k (n / 256), List.cons_append, Nat.div_div_eq_div_mul, Nat.pow_succ, Nat.mul_comm 256]
    rfl
/-- The number of which these are the bytes, the most significant first. -/
def val (l : List Nat) : Nat := l.foldl (fun n b => n * 256 + b) 0
theorem val_snoc (l : List Nat) (x : Nat) : val (l ++ [x]) = val l * 256 + x := by simp [val]
theorem val_be : ∀ k n, val (be k n) = n % 256 ^ k
  | 0, n => by simp [be, val, Nat.mod_one]
  | k + 1, n => by
    rw [be, val_snoc, val_be k, Nat.pow_succ, Nat.mul_comm (256 ^ k) 256, Nat.mod_mul]
    omega
theorem fold_lt : ∀ (l : List Nat) (acc : Nat), (∀ x ∈ l, x < 256) → l.foldl (fun n b => n * 256 + b) acc < (acc + 1) * 256 ^ l.length := by
  intro l
  induction l with
  | nil => intro acc _; simp
  | cons x l ih =>
    intro acc h
    have h1 := ih (acc * 256 + x) fun y hy => h y (List.mem_cons_of_mem _ hy)
    have h2 := h x (by simp)
    have h3 : (acc * 256 + x + 1) * 256 ^ l.length ≤ ((acc + 1) * 256) * 256 ^ l.length := Nat.mul_le_mul_right _ (by omega)
    rw [List.length_cons, Nat.pow_succ, Nat.mul_comm (256 ^ l.length) 256, ← Nat.mul_assoc]
    exact Nat.lt_of_lt_of_le h1 h3
theorem val_lt (l : List Nat) (h : ∀ x ∈ l, x < 256) : val l < 256 ^ l.length := by have := fold_lt l 0 h; unfold val; omega
/-- Groups of seven bits, the least significant first. -/
def num (n : Nat) : List Nat := if _h : n < 128 then [n] else (n % 128 + 128) :: num (n / 128)
termination_by n
decreasing_by omega
theorem num_small {n : Nat} (h : n < 128) : num n = [n] := by rw [num, dif_pos h]
theorem num_big {n : Nat} (h : ¬ n < 128) : num n = (n % 128 + 128) :: num (n / 128) := by rw [num, dif_neg h]
theorem num_lt (n : Nat) : ∀ x ∈ num n, x < 256 := by
  induction n using Nat.strongRecOn with
  | _ n ih =>
    intro x hx
    by_cases h : n < 128
    · rw [num_small h, List.mem_singleton] at hx; omega
    · rw [num_big h, List.mem_cons] at hx
      rcases hx with h1 | h1
      · omega
      · exact ih (n / 128) (by omega) x h1
theorem num_pos (n : Nat) : 0 < (num n).length := by
  by_cases h : n < 128
  · rw [num_small h]; exact Nat.one_pos
  · rw [num_big h]; exact Nat.succ_pos _
theorem num_length : ∀ (k n : Nat), n < 128 ^ (k + 1) → (num n).length ≤ k + 1
  | 0, n, h => by rw [num_small (by simpa using h)]; simp
  | k + 1, n, h => by
    by_cases h1 : n < 128
    · rw [num_small h1]; simp
    · rw [num_big h1, List.length_cons]
      have := num_length k (n / 128) (by rw [Nat.pow_succ] at h; omega)
      omega
theorem num_ten {n : Nat} (h : n < 18446744073709551616) : (num n).length ≤ 10 := num_length 9 n (by omega)
/-- A number with a sign, as one without. -/
def zig (s : Int) : Nat := if 0 ≤ s then (2 * s).toNat else (-2 * s - 1).toNat
def unzig (u : Nat) : Int := if u % 2 = 0 then ((u / 2 : Nat) : Int) else -((u / 2 : Nat) : Int) - 1
theorem unzig_zig (s : Int) : unzig (zig s) = s := by unfold unzig zig; split <;> split <;> omega
theorem zig_lt {s : Int} (h0 : -9223372036854775808 ≤ s) (h1 : s < 9223372036854775808) : zig s < 18446744073709551616 := by unfold zig; split <;> omega
/-- What is read as groups of seven bits: the number, how many bytes, the fault. f: how many more may come; i: how many have come; n: the number so far. -/
def rn (b : List Nat) : Nat → Nat → Nat → Nat × Nat × Nat
  | 0, _, _ => (0, 0, 4)
  | f + 1, i, n => match b[i]? with
    | none => (0, 0, 3)
    | some x => if (i = 9 ∧ 1 < x) ∨ (0 < i ∧ x = 0) then (0, 0, 4) else if x < 128 then (n + x * 128 ^ i, i + 1, 0) else rn b f (i + 1) (n + (x - 128) * 128 ^ i)
theorem rn_end {b : List Nat} {f i n : Nat} (h : b[i]? = none) : rn b (f + 1) i n = (0, 0, 3) := by rw [rn, h]
theorem rn_bad {b : List Nat} {f i n x : Nat} (h : b[i]? = some x) (hx : (i = 9 ∧ 1 < x) ∨ (0 < i ∧ x = 0)) : rn b (f + 1) i n = (0, 0, 4) := by rw [rn, h]; exact if_pos hx
theorem rn_last {b : List Nat} {f i n x : Nat} (h : b[i]? = some x) (hx : ¬ ((i = 9 ∧ 1 < x) ∨ (0 < i ∧ x = 0))) (h1 : x < 128) : rn b (f + 1) i n = (n + x * 128 ^ i, i + 1, 0) := by
  rw [rn, h]; exact (if_neg hx).trans (if_pos h1)
theorem rn_more {b : List Nat} {f i n x : Nat} (h : b[i]? = some x) (hx : ¬ ((i = 9 ∧ 1 < x) ∨ (0 < i ∧ x = 0))) (h1 : ¬ x < 128) : rn b (f + 1) i n = rn b f (i + 1) (n + (x - 128) * 128 ^ i) := by
  rw [rn, h]; exact (if_neg hx).trans (if_neg h1)
theorem rn_size (b : List Nat) : ∀ f i n, (rn b f i n).2.1 ≤ b.length ∧ ((rn b f i n).2.2 = 0 ∨ rn b f i n = (0, 0, 3) ∨ rn b f i n = (0, 0, 4)) := by
  intro f
  induction f with
  | zero => intro i n; exact ⟨Nat.zero_le _, .inr (.inr rfl)⟩
  | succ f ih =>
    intro i n
    cases h : b[i]? with
    | none => rw [rn_end h]; exact ⟨Nat.zero_le _, .inr (.inl rfl)⟩
    | some x =>
      have hi : i < b.length := (List.getElem?_eq_some_iff.1 h).1
      by_cases hx : (i = 9 ∧ 1 < x) ∨ (0 < i ∧ x = 0)
      · rw [rn_bad h hx]; exact ⟨Nat.zero_le _, .inr (.inr rfl)⟩
      · by_cases h1 : x < 128
        · rw [rn_last h hx h1]; exact ⟨hi, .inl rfl⟩
        · rw [rn_more h hx h1]; exact ih _ _
/-- What was written as groups is read, and as far as that. -/
theorem rn_num (b rest : List Nat) : ∀ (f i m acc : Nat), f + i = 10 → b.drop i = num m ++ rest → m < 2 ^ (64 - 7 * i) → (0 < i → 0 < m) → rn b f i acc = (acc + m * 128 ^ i, i + (num m).length, 0) := by
  intro f
  induction f with
  | zero => intro i m acc hi _ hm hp; have h10 : i = 10 := by omega
            subst h10; simp at hm; have := hp (by omega); omega
  | succ f ih =>
    intro i m acc hi hb hm hp
    have h9 : i = 9 → m < 2 := by rintro rfl; simpa using hm
    by_cases h1 : m < 128
    · rw [num_small h1] at hb ⊢
      have hx : b[i]? = some m := by
        have := List.getElem?_drop (xs := b) (i := i) (j := 0)
        rw [hb] at this
        simpa using this.symm
      rw [rn_last hx (by rintro (⟨h, h2⟩ | ⟨h, h2⟩); · have := h9 h; omega
                         · have := hp h; omega) h1]
      rfl
    · rw [num_big h1] at hb ⊢
      have hx : b[i]? = some (m % 128 + 128) := by
        have := List.getElem?_drop (xs := b) (i := i) (j := 0)
        rw [hb] at this
        simpa using this.symm
      rw [rn_more hx (by rintro (⟨h, h2⟩ | ⟨h, h2⟩); · have := h9 h; omega
                         · omega) (by omega)]
      have hi9 : i < 9 := by
        rcases Nat.lt_or_ge i 9 with h | h
        · exact h
        · have := h9 (by omega); omega
      have hd : b.drop (i + 1) = num (m / 128) ++ rest := by
        rw [← List.drop_drop, hb]; rfl
      have hpw : 2 ^ (64 - 7 * i) = 128 * 2 ^ (64 - 7 * (i + 1)) := by
        rw [show 64 - 7 * i = 7 + (64 - 7 * (i + 1)) by omega, Nat.pow_add]
      rw [ih (i + 1) (m / 128) _ (by omega) hd (by rw [hpw] at hm; exact Nat.div_lt_of_lt_mul hm) (by omega)]
      have e : acc + (m % 128 + 128 - 128) * 128 ^ i + m / 128 * 128 ^ (i + 1) = acc + m * 128 ^ i := by
        rw [Nat.add_sub_cancel, Nat.pow_succ, Nat.add_assoc, Nat.mul_comm (128 ^ i) 128, ← Nat.mul_assoc, ← Nat.add_mul, show m % 128 + m / 128 * 128 = m by omega]
      rw [e, List.length_cons]
      congr 2
      omega
theorem word_pow {m : Nat} (hm : m < 18446744073709551616) : m < 2 ^ (64 - 7 * 0) := by
  have e : (2 : Nat) ^ (64 - 7 * 0) = 18446744073709551616 := by simp
  rw [e]; exact hm
theorem read_num {m : Nat} (hm : m < 2 ^ (64 - 7 * 0)) (rest : List Nat) : rn (num m ++ rest) 10 0 0 = (m, (num m).length, 0) := by
  rw [rn_num (num m ++ rest) rest 10 0 m 0 (by omega) List.drop_zero hm (by omega), Nat.pow_zero, Nat.mul_one, Nat.zero_add, Nat.zero_add]
/-- What is cut within the groups ends too early. -/
theorem rn_cut (b : List Nat) : ∀ (f i m t acc : Nat), f + i = 10 → b.drop i = (num m).take t → t < (num m).length → m < 2 ^ (64 - 7 * i) → (0 < i → 0 < m) → rn b f i acc = (0, 0, 3) := by
  intro f
  induction f with
  | zero => intro i m t acc hi _ _ hm hp; have h10 : i = 10 := by omega
            subst h10; simp at hm; have := hp (by omega); omega
  | succ f ih =>
    intro i m t acc hi hb ht hm hp
    cases t with
    | zero =>
      refine rn_end ?_
      have := List.getElem?_drop (xs := b) (i := i) (j := 0)
      rw [hb] at this
      simpa using this.symm
    | succ t =>
      by_cases h1 : m < 128
      · rw [num_small h1] at ht; simp at ht
      · have h9 : i = 9 → m < 2 := by rintro rfl; simpa using hm
        rw [num_big h1] at hb ht
        have hx : b[i]? = some (m % 128 + 128) := by
          have := List.getElem?_drop (xs := b) (i := i) (j := 0)
          rw [hb] at this
          simpa using this.symm
        rw [rn_more hx (by rintro (⟨h, h2⟩ | ⟨h, h2⟩); · have := h9 h; omega
                           · omega) (by omega)]
        have hi9 : i < 9 := by
          rcases Nat.lt_or_ge i 9 with h | h
          · exact h
          · have := h9 (by omega); omega
        have hd : b.drop (i + 1) = (num (m / 128)).take t := by
          rw [← List.drop_drop, hb]; rfl
        have hpw : 2 ^ (64 - 7 * i) = 128 * 2 ^ (64 - 7 * (i + 1)) := by
          rw [show 64 - 7 * i = 7 + (64 - 7 * (i + 1)) by omega, Nat.pow_add]
        exact ih (i + 1) (m / 128) t _ (by omega) hd (by simpa using ht) (by rw [hpw] at hm; exact Nat.div_lt_of_lt_mul hm) (by omega)
theorem cut_num {m t : Nat} (hm : m < 18446744073709551616) (ht : t < (num m).length) : rn ((num m).take t) 10 0 0 = (0, 0, 3) :=
  rn_cut _ 10 0 m t 0 (by omega) List.drop_zero ht (word_pow hm) (by omega)
theorem num_apart {a b : Nat} (ha : a < 18446744073709551616) (hb : b < 18446744073709551616) (rest : List Nat) (h : num b = num a ++ rest) : a = b := by
  have h1 := read_num (word_pow ha) rest
  have h2 := read_num (word_pow hb) []
  rw [List.append_nil, h, h1] at h2
  exact congrArg (·.1) h2
theorem zig_apart {c d : Int} (hc0 : -9223372036854775808 ≤ c) (hc1 : c < 9223372036854775808) (hd0 : -9223372036854775808 ≤ d) (hd1 : d < 9223372036854775808) (h : be 8 (zig c) = be 8 (zig d)) : c = d := by
  have e := congrArg val h
  rw [val_be, val_be, Nat.mod_eq_of_lt (zig_lt hc0 hc1), Nat.mod_eq_of_lt (zig_lt hd0 hd1)] at e
  rw [← unzig_zig c, ← unzig_zig d, e]

/-- One thing that is put, or read. -/
structure Prt where
  kind : Int
  size : Int
  n : Nat
  s : Int
  raw : List Nat
/-- Its bytes. -/
def enc (p : Prt) : List Nat :=
  if p.kind = 1 then (if 1 ≤ p.size ∧ p.size ≤ 8 then be p.size.toNat p.n else []) else if p.kind = 2 then be 8 (zig p.s) else if p.kind = 3 then num p.n else if p.kind = 4 then p.raw else []
/-- What is read. -/
structure Res where
  n : Nat
  s : Int
  raw : List Nat
  size : Nat
  f : Nat
def rd (kind size : Int) (b : List Nat) : Res :=
  if kind = 1 then (if 1 ≤ size ∧ size ≤ 8 then (if b.length < size.toNat then ⟨0, 0, [], 0, 3⟩ else ⟨val (b.take size.toNat), 0, [], size.toNat, 0⟩) else ⟨0, 0, [], 0, 0⟩)
  else if kind = 2 then (if b.length < 8 then ⟨0, 0, [], 0, 3⟩ else ⟨0, unzig (val (b.take 8)), [], 8, 0⟩)
  else if kind = 3 then ⟨(rn b 10 0 0).1, 0, [], (rn b 10 0 0).2.1, (rn b 10 0 0).2.2⟩
  else if kind = 4 then (if size < 0 then ⟨0, 0, [], 0, 0⟩ else if b.length < size.toNat then ⟨0, 0, [], 0, 3⟩ else ⟨0, 0, b.take size.toNat, size.toNat, 0⟩)
  else ⟨0, 0, [], 0, 0⟩
theorem rd_size (kind size : Int) (b : List Nat) : (rd kind size b).size ≤ b.length := by
  unfold rd
  repeat' split
  all_goals first
    | exact Nat.zero_le _
    | exact (rn_size b 10 0 0).1
    | (show _ ≤ _; simp only []; omega)
/-- A reader's step: nothing more is read behind a fault. -/
def stepR (kind size : Int) (b : List Nat) (f : Nat) : Res := if f = 0 then rd kind size b else ⟨0, 0, [], 0, f⟩
end Go.Proofs.Ytbkiipeoabbiiaa
