/-
  Numbers as bytes, in plain arithmetic: the three encodings, reading them, and that what was written is read. No Go text is looked at here.
  The contracts of octets.Writer, for every input.
  The document's answers for the bytes that are put, and the statements' form and put, for every input.
  The contracts of octets.Reader, for every input.
  The contracts of octets.Reader's Uint, Int, Raw, of NewReader, and of the statements' read and got, for every input.
  What another block's cells, none of them a byte, do not turn: a slice of bytes, a reader.
-/
import Derived.Lib.ItoaNum
import Derived.Test.YteljjjdejjkgfaaBytq
import Derived.Deep.LoopGhost
import Derived.Deep.DeepMust
import Derived.Deep.DeepFit
import Derived.Laws.BitsAllLaws
import Derived.WalkSpells
import Derived.WalkMore
import Derived.WideShapes
import Derived.Deep.Cut
namespace Go.Proofs.Yteljjjdejjkgfaa

/-- The k lowest bytes of n, the most significant first. -/
def be : Nat → Nat → List Nat
  | 0, _ => []
  | k + 1, n => be k (n / 256) ++ [n % 256]
theorem be_length : ∀ k n, (be k n).length = k
  | 0, _ => rfl
  | k + 1, n => by rw [be, List.length_append, be_length k]; rfl
theorem be_lt : ∀ k n, ∀ x ∈ be k n, x < 256
  | 0, _ => by simp [be]
  | k + 1, n => by
    intro x hx
    rw [be, List.mem_append] at hx
    rcases hx with h | h
    · exact be_lt k _ x h
    · rw [List.mem_singleton] at h; omega
theorem be_cons : ∀ k n, be (k + 1) n = (n / 256 ^ k % 256) :: be k n
  | 0, n => by simp [be]
  | k + 1, n => by
    rw [be, be_cons k (n / 256), List.cons_append, Nat.div_div_eq_div_mul, Nat.pow_succ, Nat.mul_comm 256]
    rfl
/-- The number of which these are the bytes, the most significant first. -/
def val (l : List Nat) : Nat := l.foldl (fun n b => n * 256 + b) 0
theorem val_snoc (l : List Nat) (x : Nat) : val (l ++ [x]) = val l * 256 + x := by simp [val]
theorem val_be : ∀ k n, val (be k n) = n % 256 ^ k
  | 0, n => by simp [be, val, Nat.mod_one]
  | k + 1, n => by
    rw [be, val_snoc, val_be k, Nat.pow_succ, Nat.mul_comm (256 ^ k) 256, Nat.mod_mul]
    omega
theorem fold_lt : ∀ (l : List Nat) (acc : Nat), (∀ x ∈ l, x < 256) → l.foldl (fun n b => n * 256 + b) acc < (acc + 1) * 256 ^ l.length := by
  intro l
  induction l with
  | nil => intro acc _; simp
  | cons x l ih =>
    intro acc h
    have h1 := ih (acc * 256 + x) fun y hy => h y (List.mem_cons_of_mem _ hy)
    have h2 := h x (by simp)
    have h3 : (acc * 256 + x + 1) * 256 ^ l.length ≤ ((acc + 1) * 256) * 256 ^ l.length := Nat.mul_le_mul_right _ (by omega)
    rw [List.length_cons, Nat.pow_succ, Nat.mul_comm (256 ^ l.length) 256, ← Nat.mul_assoc]
    exact Nat.lt_of_lt_of_le h1 h3
theorem val_lt (l : List Nat) (h : ∀ x ∈ l, x < 256) : val l < 256 ^ l.length := by have := fold_lt l 0 h; unfold val; omega
/-- Groups of seven bits, the least significant first. -/
def num (n : Nat) : List Nat := if _h : n < 128 then [n] else (n % 128 + 128) :: num (n / 128)
termination_by n
decreasing_by omega
theorem num_small {n : Nat} (h : n < 128) : num n = [n] := by rw [num, dif_pos h]
theorem num_big {n : Nat} (h : ¬ n < 128) : num n = (n % 128 + 128) :: num (n / 128) := by rw [num, dif_neg h]
theorem num_lt (n : Nat) : ∀ x ∈ num n, x < 256 := by
  induction n using Nat.strongRecOn with
  | _ n ih =>
    intro x hx
    by_cases h : n < 128
    · rw [num_small h, List.mem_singleton] at hx; omega
    · rw [num_big h, List.mem_cons] at hx
      rcases hx with h1 | h1
      · omega
      · exact ih (n / 128) (by omega) x h1
theorem num_pos (n : Nat) : 0 < (num n).length := by
  by_cases h : n < 128
  · rw [num_small h]; exact Nat.one_pos
  · rw [num_big h]; exact Nat.succ_pos _
theorem num_length : ∀ (k n : Nat), n < 128 ^ (k + 1) → (num n).length ≤ k + 1
  | 0, n, h => by rw [num_small (by simpa using h)]; simp
  | k + 1, n, h => by
    by_cases h1 : n < 128
    · rw [num_small h1]; simp
    · rw [num_big h1, List.length_cons]
      have := num_length k (n / 128) (by rw [Nat.pow_succ] at h; omega)
      omega
theorem num_ten {n : Nat} (h : n < 18446744073709551616) : (num n).length ≤ 10 := num_length 9 n (by omega)
/-- A number with a sign, as one without. -/
def zig (s : Int) : Nat := if 0 ≤ s then (2 * s).toNat else (-2 * s - 1).toNat
def unzig (u : Nat) : Int := if u % 2 = 0 then ((u / 2 : Nat) : Int) else -((u / 2 : Nat) : Int) - 1
theorem unzig_zig (s : Int) : unzig (zig s) = s := by unfold unzig zig; split <;> split <;> omega
theorem zig_lt {s : Int} (h0 : -9223372036854775808 ≤ s) (h1 : s < 9223372036854775808) : zig s < 18446744073709551616 := by unfold zig; split <;> omega
/-- What is read as groups of seven bits: the number, how many bytes, the fault. f: how many more may come; i: how many have come; n: the number so far. -/
def rn (b : List Nat) : Nat → Nat → Nat → Nat × Nat × Nat
  | 0, _, _ => (0, 0, 4)
  | f + 1, i, n => match b[i]? with
    | none => (0, 0, 3)
    | some x => if (i = 9 ∧ 1 < x) ∨ (0 < i ∧ x = 0) then (0, 0, 4) else if x < 128 then (n + x * 128 ^ i, i + 1, 0) else rn b f (i + 1) (n + (x - 128) * 128 ^ i)
theorem rn_end {b : List Nat} {f i n : Nat} (h : b[i]? = none) : rn b (f + 1) i n = (0, 0, 3) := by rw [rn, h]
theorem rn_bad {b : List Nat} {f i n x : Nat} (h : b[i]? = some x) (hx : (i = 9 ∧ 1 < x) ∨ (0 < i ∧ x = 0)) : rn b (f + 1) i n = (0, 0, 4) := by rw [rn, h]; exact if_pos hx
theorem rn_last {b : List Nat} {f i n x : Nat} (h : b[i]? = some x) (hx : ¬ ((i = 9 ∧ 1 < x) ∨ (0 < i ∧ x = 0))) (h1 : x < 128) : rn b (f + 1) i n = (n + x * 128 ^ i, i + 1, 0) := by
  rw [rn, h]; exact (if_neg hx).trans (if_pos h1)
theorem rn_more {b : List Nat} {f i n x : Nat} (h : b[i]? = some x) (hx : ¬ ((i = 9 ∧ 1 < x) ∨ (0 < i ∧ x = 0))) (h1 : ¬ x < 128) : rn b (f + 1) i n = rn b f (i + 1) (n + (x - 128) * 128 ^ i) := by
  rw [rn, h]; exact (if_neg hx).trans (if_neg h1)
theorem rn_size (b : List Nat) : ∀ f i n, (rn b f i n).2.1 ≤ b.length ∧ ((rn b f i n).2.2 = 0 ∨ rn b f i n = (0, 0, 3) ∨ rn b f i n = (0, 0, 4)) := by
  intro f
  induction f with
  | zero => intro i n; exact ⟨Nat.zero_le _, .inr (.inr rfl)⟩
  | succ f ih =>
    intro i n
    cases h : b[i]? with
    | none => rw [rn_end h]; exact ⟨Nat.zero_le _, .inr (.inl rfl)⟩
    | some x =>
      have hi : i < b.length := (List.getElem?_eq_some_iff.1 h).1
      by_cases hx : (i = 9 ∧ 1 < x) ∨ (0 < i ∧ x = 0)
      · rw [rn_bad h hx]; exact ⟨Nat.zero_le _, .inr (.inr rfl)⟩
      · by_cases h1 : x < 128
        · rw [rn_last h hx h1]; exact ⟨hi, .inl rfl⟩
        · rw [rn_more h hx h1]; exact ih _ _
/-- What was written as groups is read, and as far as that. -/
theorem rn_num (b rest : List Nat) : ∀ (f i m acc : Nat), f + i = 10 → b.drop i = num m ++ rest → m < 2 ^ (64 - 7 * i) → (0 < i → 0 < m) → rn b f i acc = (acc + m * 128 ^ i, i + (num m).length, 0) := by
  intro f
  induction f with
  | zero => intro i m acc hi _ hm hp; have h10 : i = 10 := by omega
            subst h10; simp at hm; have := hp (by omega); omega
  | succ f ih =>
    intro i m acc hi hb hm hp
    have h9 : i = 9 → m < 2 := by rintro rfl; simpa using hm
    by_cases h1 : m < 128
    · rw [num_small h1] at hb ⊢
      have hx : b[i]? = some m := by
        have := List.getElem?_drop (xs := b) (i := i) (j := 0)
        rw [hb] at this
        simpa using this.symm
      rw [rn_last hx (by rintro (⟨h, h2⟩ | ⟨h, h2⟩); · have := h9 h; omega
                         · have := hp h; omega) h1]
      rfl
    · rw [num_big h1] at hb ⊢
      have hx : b[i]? = some (m % 128 + 128) := by
        have := List.getElem?_drop (xs := b) (i := i) (j := 0)
        rw [hb] at this
        simpa using this.symm
      rw [rn_more hx (by rintro (⟨h, h2⟩ | ⟨h, h2⟩); · have := h9 h; omega
                         · omega) (by omega)]
      have hi9 : i < 9 := by
        rcases Nat.lt_or_ge i 9 with h | h
        · exact h
        · have := h9 (by omega); omega
      have hd : b.drop (i + 1) = num (m / 128) ++ rest := by
        rw [← List.drop_drop, hb]; rfl
      have hpw : 2 ^ (64 - 7 * i) = 128 * 2 ^ (64 - 7 * (i + 1)) := by
        rw [show 64 - 7 * i = 7 + (64 - 7 * (i + 1)) by omega, Nat.pow_add]
      rw [ih (i + 1) (m / 128) _ (by omega) hd (by rw [hpw] at hm; exact Nat.div_lt_of_lt_mul hm) (by omega)]
      have e : acc + (m % 128 + 128 - 128) * 128 ^ i + m / 128 * 128 ^ (i + 1) = acc + m * 128 ^ i := by
        rw [Nat.add_sub_cancel, Nat.pow_succ, Nat.add_assoc, Nat.mul_comm (128 ^ i) 128, ← Nat.mul_assoc, ← Nat.add_mul, show m % 128 + m / 128 * 128 = m by omega]
      rw [e, List.length_cons]
      congr 2
      omega
theorem word_pow {m : Nat} (hm : m < 18446744073709551616) : m < 2 ^ (64 - 7 * 0) := by
  have e : (2 : Nat) ^ (64 - 7 * 0) = 18446744073709551616 := by simp
  rw [e]; exact hm
theorem read_num {m : Nat} (hm : m < 2 ^ (64 - 7 * 0)) (rest : List Nat) : rn (num m ++ rest) 10 0 0 = (m, (num m).length, 0) := by
  rw [rn_num (num m ++ rest) rest 10 0 m 0 (by omega) List.drop_zero hm (by omega), Nat.pow_zero, Nat.mul_one, Nat.zero_add, Nat.zero_add]
/-- What is cut within the groups ends too early. -/
theorem rn_cut (b : List Nat) : ∀ (f i m t acc : Nat), f + i = 10 → b.drop i = (num m).take t → t < (num m).length → m < 2 ^ (64 - 7 * i) → (0 < i → 0 < m) → rn b f i acc = (0, 0, 3) := by
  intro f
  induction f with
  | zero => intro i m t acc hi _ _ hm hp; have h10 : i = 10 := by omega
            subst h10; simp at hm; have := hp (by omega); omega
  | succ f ih =>
    intro i m t acc hi hb ht hm hp
    cases t with
    | zero =>
      refine rn_end ?_
      have := List.getElem?_drop (xs := b) (i := i) (j := 0)
      rw [hb] at this
      simpa using this.symm
    | succ t =>
      by_cases h1 : m < 128
      · rw [num_small h1] at ht; simp at ht
      · have h9 : i = 9 → m < 2 := by rintro rfl; simpa using hm
        rw [num_big h1] at hb ht
        have hx : b[i]? = some (m % 128 + 128) := by
          have := List.getElem?_drop (xs := b) (i := i) (j := 0)
          rw [hb] at this
          simpa using this.symm
        rw [rn_more hx (by rintro (⟨h, h2⟩ | ⟨h, h2⟩); · have := h9 h; omega
                           · omega) (by omega)]
        have hi9 : i < 9 := by
          rcases Nat.lt_or_ge i 9 with h | h
          · exact h
          · have := h9 (by omega); omega
        have hd : b.drop (i + 1) = (num (m / 128)).take t := by
          rw [← List.drop_drop, hb]; rfl
        have hpw : 2 ^ (64 - 7 * i) = 128 * 2 ^ (64 - 7 * (i + 1)) := by
          rw [show 64 - 7 * i = 7 + (64 - 7 * (i + 1)) by omega, Nat.pow_add]
        exact ih (i + 1) (m / 128) t _ (by omega) hd (by simpa using ht) (by rw [hpw] at hm; exact Nat.div_lt_of_lt_mul hm) (by omega)
theorem cut_num {m t : Nat} (hm : m < 18446744073709551616) (ht : t < (num m).length) : rn ((num m).take t) 10 0 0 = (0, 0, 3) :=
  rn_cut _ 10 0 m t 0 (by omega) List.drop_zero ht (word_pow hm) (by omega)
theorem num_apart {a b : Nat} (ha : a < 18446744073709551616) (hb : b < 18446744073709551616) (rest : List Nat) (h : num b = num a ++ rest) : a = b := by
  have h1 := read_num (word_pow ha) rest
  have h2 := read_num (word_pow hb) []
  rw [List.append_nil, h, h1] at h2
  exact congrArg (·.1) h2
theorem zig_apart {c d : Int} (hc0 : -9223372036854775808 ≤ c) (hc1 : c < 9223372036854775808) (hd0 : -9223372036854775808 ≤ d) (hd1 : d < 9223372036854775808) (h : be 8 (zig c) = be 8 (zig d)) : c = d := by
  have e := congrArg val h
  rw [val_be, val_be, Nat.mod_eq_of_lt (zig_lt hc0 hc1), Nat.mod_eq_of_lt (zig_lt hd0 hd1)] at e
  rw [← unzig_zig c, ← unzig_zig d, e]

/-- One thing that is put, or read. -/
structure Prt where
  kind : Int
  size : Int
  n : Nat
  s : Int
  raw : List Nat
/-- Its bytes. -/
def enc (p : Prt) : List Nat :=
  if p.kind = 1 then (if 1 ≤ p.size ∧ p.size ≤ 8 then be p.size.toNat p.n else []) else if p.kind = 2 then be 8 (zig p.s) else if p.kind = 3 then num p.n else if p.kind = 4 then p.raw else []
/-- What is read. -/
structure Res where
  n : Nat
  s : Int
  raw : List Nat
  size : Nat
  f : Nat
def rd (kind size : Int) (b : List Nat) : Res :=
  if kind = 1 then (if 1 ≤ size ∧ size ≤ 8 then (if b.length < size.toNat then ⟨0, 0, [], 0, 3⟩ else ⟨val (b.take size.toNat), 0, [], size.toNat, 0⟩) else ⟨0, 0, [], 0, 0⟩)
  else if kind = 2 then (if b.length < 8 then ⟨0, 0, [], 0, 3⟩ else ⟨0, unzig (val (b.take 8)), [], 8, 0⟩)
  else if kind = 3 then ⟨(rn b 10 0 0).1, 0, [], (rn b 10 0 0).2.1, (rn b 10 0 0).2.2⟩
  else if kind = 4 then (if size < 0 then ⟨0, 0, [], 0, 0⟩ else if b.length < size.toNat then ⟨0, 0, [], 0, 3⟩ else ⟨0, 0, b.take size.toNat, size.toNat, 0⟩)
  else ⟨0, 0, [], 0, 0⟩
theorem rd_size (kind size : Int) (b : List Nat) : (rd kind size b).size ≤ b.length := by
  unfold rd
  repeat' split
  all_goals first
    | exact Nat.zero_le _
    | exact (rn_size b 10 0 0).1
    | (show _ ≤ _; simp only []; omega)
/-- A reader's step: nothing more is read behind a fault. -/
def stepR (kind size : Int) (b : List Nat) (f : Nat) : Res := if f = 0 then rd kind size b else ⟨0, 0, [], 0, f⟩
end Go.Proofs.Yteljjjdejjkgfaa
namespace Go.Proofs.Yteljjjdejjkgfaa
open Go.RowKit

theorem xor_none (a : Int) (h0 : 0 ≤ a) (h1 : a < 18446744073709551616) : bits .xor .u64 a 0 = a := by
  show IntKind.u64.wrap ((BitVec.ofInt 64 a ^^^ BitVec.ofInt 64 0).toNat : Int) = _
  have e1 : BitVec.ofInt 64 0 = 0#64 := by decide
  rw [e1, BitVec.xor_zero, BitVec.toNat_ofInt, IntKind.wrap_u64]
  omega
theorem xor_all (a : Int) (h0 : 0 ≤ a) (h1 : a < 18446744073709551616) : bits .xor .u64 a 18446744073709551615 = 18446744073709551615 - a := by
  show IntKind.u64.wrap ((BitVec.ofInt 64 a ^^^ BitVec.ofInt 64 18446744073709551615).toNat : Int) = _
  have e1 : BitVec.ofInt 64 18446744073709551615 = BitVec.allOnes 64 := by decide
  rw [e1, BitVec.xor_allOnes, BitVec.toNat_not, BitVec.toNat_ofInt, IntKind.wrap_u64]
  omega
theorem shift_byte (n j : Nat) (_hj : j ≤ 7) : IntKind.u8.wrap ((n : Int) / 2 ^ (8 * ((j : Int) + 1) - 8).toNat) = ((n / 256 ^ j % 256 : Nat) : Int) := by
  have e1 : (8 * ((j : Int) + 1) - 8).toNat = 8 * j := by omega
  have e2 : (2 : Int) ^ (8 * j) = ((256 ^ j : Nat) : Int) := by rw [Int.pow_mul]; simp
  rw [e1, e2, IntKind.wrap_u8, ← Int.natCast_ediv]
  omega
/-- A slice of the bytes xs in new memory; nothing that was there has turned. -/
def Fresh (W w' : World) (v : Value) (xs : List Nat) : Prop := ∃ ao cap k', v = .slice ao xs.length cap ∧ Bt w' k' ao cap xs ∧ Below W.heap.size W w' ∧ W.heap.size ≤ k'
theorem low7 (m : Nat) : bits .andNot .u8 (IntKind.u8.wrap (m : Int)) 128 = ((m % 128 : Nat) : Int) := by
  have e : IntKind.u8.wrap (m : Int) = ((m % 256 : Nat) : Int) := by rw [IntKind.wrap_u8]; omega
  have := (by decide +kernel : ∀ x : Fin 256, bits .andNot .u8 ((x.val : Nat) : Int) 128 = ((x.val % 128 : Nat) : Int)) ⟨m % 256, Nat.mod_lt _ (by decide)⟩
  rw [e, this]
  congr 1
  show m % 256 % 128 = _
  omega
theorem more7 (x : Nat) (h : x < 128) : bits .or .u8 (x : Int) 128 = ((x + 128 : Nat) : Int) :=
  (by decide +kernel : ∀ x : Fin 128, bits .or .u8 ((x.val : Nat) : Int) 128 = ((x.val + 128 : Nat) : Int)) ⟨x, h⟩
end Go.Proofs.Yteljjjdejjkgfaa
namespace Go.Proofs.Yteljjjdejjkgfaa
open Go.RowKit

/-- A string of these bytes. -/
def str8 (l : List Nat) : ByteArray := ⟨(l.map UInt8.ofNat).toArray⟩
theorem str8_inj {l m : List Nat} (hl : ∀ x ∈ l, x < 256) (hm : ∀ x ∈ m, x < 256) (h : str8 l = str8 m) : l = m := by
  have e : l.map UInt8.ofNat = m.map UInt8.ofNat := by
    have := congrArg (fun s => s.data.toList) h
    simpa [str8] using this
  have back : ∀ q : List Nat, (∀ x ∈ q, x < 256) → (q.map UInt8.ofNat).map UInt8.toNat = q := by
    intro q hq
    rw [List.map_map]
    conv => rhs; rw [← List.map_id q]
    refine List.map_congr_left fun x hx => ?_
    have := hq x hx
    show (UInt8.ofNat x).toNat = x
    rw [UInt8.toNat_ofNat']
    exact Nat.mod_eq_of_lt this
  rw [← back l hl, ← back m hm, e]
theorem fold_str8 : ∀ (l : List Nat) (s : ByteArray), ((l.map fun (x : Nat) => (x : Int)).foldl (fun r n => r.push (UInt8.ofNat n.toNat)) s) = ⟨s.data ++ (l.map UInt8.ofNat).toArray⟩ := by
  intro l
  induction l with
  | nil => intro s; simp
  | cons x l ih =>
    intro s
    rw [List.map_cons, List.foldl_cons, ih]
    congr 1
    simp [ByteArray.push]
/-- A slice of the bytes xs; nothing that was there has turned. -/
def Given (W w' : World) (v : Value) (xs : List Nat) : Prop := ∃ ao cap k', v = .slice ao xs.length cap ∧ Bt w' k' ao cap xs ∧ Below W.heap.size W w'
theorem Fresh.given {W w' : World} {v : Value} {xs : List Nat} (h : Fresh W w' v xs) : Given W w' v xs := by
  obtain ⟨ao, cap, k', h1, h2, h3, _⟩ := h
  exact ⟨ao, cap, k', h1, h2, h3⟩
/-- A part, as Go's value. -/
def pv (p : Prt) (ro : Option Addr) (rc : Nat) : Value := .agg #[.int .i64 p.kind, .int .i64 p.size, .int .u64 (p.n : Int), .int .i64 p.s, .slice ro p.raw.length rc]
/-- Its numbers fit. -/
structure Prt.Ok (p : Prt) : Prop where
  n : p.n < 18446744073709551616
  s0 : -9223372036854775808 ≤ p.s
  s1 : p.s < 9223372036854775808
  r : p.raw.length ≤ 60
theorem given_back {W w0 w1 : World} {v : Value} {xs : List Nat} (hb : Below W.heap.size W w0) (h : Given w0 w1 v xs) : Given W w1 v xs := by
  obtain ⟨ao, cap, k', h1, h2, h3⟩ := h
  exact ⟨ao, cap, k', h1, h2, hb.trans (h3.mono hb.size)⟩
end Go.Proofs.Yteljjjdejjkgfaa
namespace Go.Proofs.Yteljjjdejjkgfaa
open Go.RowKit

section
variable {w : World} {k cap n : Nat} {ao : Option Addr} {xs : List Nat}
theorem Bt.take (h : Bt w k ao cap xs) (hn : n ≤ xs.length) : Bt w k ao cap (xs.take n) := by
  refine ⟨by have := h.len; rw [List.length_take]; omega, h.top, h.bare, fun x hx => h.lt x (List.mem_of_mem_take hx), ?_⟩
  rcases h.at' with h0 | ⟨off, ha, hc⟩
  · subst h0; exact .inl (by simp)
  · refine .inr ⟨off, ha, fun j x hj => hc j x ?_⟩
    rw [List.getElem?_take] at hj
    split at hj
    · exact hj
    · cases hj
theorem Bt.dropAll (h : Bt w k ao cap xs) (hn : n = cap) (hx : n ≤ xs.length) : Bt w k ao 0 (xs.drop n) := by
  have hl := h.len
  have e : xs.drop n = [] := List.drop_eq_nil_of_le (by omega)
  rw [e]
  exact ⟨Nat.le_refl _, Nat.zero_le _, fun _ => rfl, by simp, .inl rfl⟩
theorem Bt.drop (h : Bt w k ao cap xs) (hx : n ≤ xs.length) : Bt w k (Option.map (fun x => x.add n) ao) (cap - n) (xs.drop n) := by
  have hl := h.len
  have ht := h.top
  refine ⟨by rw [List.length_drop]; omega, by omega, fun e => ?_, fun x hx => h.lt x (List.mem_of_mem_drop hx), ?_⟩
  · cases ao with
    | none => have := h.bare rfl; omega
    | some a => simp at e
  · rcases h.at' with h0 | ⟨off, ha, hc⟩
    · subst h0; exact .inl (by simp)
    · refine .inr ⟨off + n, by rw [ha, Option.map_some, Addr.add_mid], fun j x hj => ?_⟩
      rw [List.getElem?_drop] at hj
      rw [Nat.add_assoc]
      exact hc (n + j) x hj
end
/-- What take answers of what is left, and what it leaves. -/
def tk (n : Nat) (xs : List Nat) (f : Nat) : List Nat × List Nat × Nat := if f ≠ 0 then ([], xs, f) else if xs.length < n then ([], xs, 3) else (xs.take n, xs.drop n, 0)
theorem or_byte (a b : Nat) (_ha : a < 72057594037927936) (hb : b < 256) : bits .or .u64 ((a : Int) * 256) (b : Int) = ((a * 256 + b : Nat) : Int) := by
  show IntKind.u64.wrap ((BitVec.ofInt 64 ((a : Int) * 256) ||| BitVec.ofInt 64 (b : Int)).toNat : Int) = _
  have e1 : BitVec.ofInt 64 ((a : Int) * 256) = BitVec.ofNat 64 (a * 256) := by rw [← BitVec.ofInt_natCast]; congr 1
  have e2 : BitVec.ofInt 64 (b : Int) = BitVec.ofNat 64 b := BitVec.ofInt_natCast ..
  have e3 : a * 256 ||| b = a * 256 + b := by
    have := Nat.two_pow_add_eq_or_of_lt (i := 8) (b := b) (by omega) a
    rw [show 2 ^ 8 * a = a * 256 by omega] at this
    exact this.symm
  rw [e1, e2, BitVec.toNat_or, BitVec.toNat_ofNat, BitVec.toNat_ofNat, Nat.mod_eq_of_lt (by omega), Nat.mod_eq_of_lt (by omega), e3, IntKind.wrap_u64]
  omega
theorem val_take (ys : List Nat) (q x : Nat) (h : ys[q]? = some x) : val (ys.take (q + 1)) = val (ys.take q) * 256 + x := by
  rw [List.take_add_one, h]
  exact val_snoc _ _
theorem val_small (ys : List Nat) (q : Nat) (hq : q < 8) (h : ∀ x ∈ ys, x < 256) : val (ys.take q) < 72057594037927936 := by
  have h1 := val_lt (ys.take q) fun x hx => h x (List.mem_of_mem_take hx)
  have h2 : (ys.take q).length ≤ 7 := by rw [List.length_take]; omega
  have h3 : 256 ^ (ys.take q).length ≤ 256 ^ 7 := Nat.pow_le_pow_right (by decide) h2
  omega
theorem low7' (x : Nat) (h : x < 256) : bits .andNot .u8 (x : Int) 128 = ((x % 128 : Nat) : Int) :=
  (by decide +kernel : ∀ x : Fin 256, bits .andNot .u8 ((x.val : Nat) : Int) 128 = ((x.val % 128 : Nat) : Int)) ⟨x, h⟩
theorem or_group (n d i : Nat) (hn : n < 128 ^ i) (hd : d < 128) (hi : i ≤ 9) (h9 : i = 9 → d ≤ 1) : bits .or .u64 (n : Int) (IntKind.u64.wrap ((d : Int) * 2 ^ (7 * i))) = ((n + d * 128 ^ i : Nat) : Int) := by
  have e0 : (2 : Nat) ^ (7 * i) = 128 ^ i := by rw [Nat.pow_mul]
  have hp : d * 128 ^ i < 9223372036854775808 + 1 ∧ n < 9223372036854775808 := by
    rcases Nat.lt_or_ge i 9 with h | h
    · have h1 : 128 ^ i ≤ 128 ^ 8 := Nat.pow_le_pow_right (by decide) (by omega)
      have h2 : d * 128 ^ i ≤ 127 * 128 ^ 8 := Nat.mul_le_mul (by omega) h1
      exact ⟨by omega, by omega⟩
    · have h1 : i = 9 := by omega
      subst h1
      have h2 : d * 128 ^ 9 ≤ 1 * 128 ^ 9 := Nat.mul_le_mul_right _ (h9 rfl)
      exact ⟨by omega, by omega⟩
  have e1 : ((d : Int) * 2 ^ (7 * i)) = ((d * 128 ^ i : Nat) : Int) := by rw [← e0]; simp
  have e2 : IntKind.u64.wrap ((d * 128 ^ i : Nat) : Int) = ((d * 128 ^ i : Nat) : Int) := by rw [IntKind.wrap_u64]; omega
  rw [e1, e2]
  have e3 : n ||| d * 128 ^ i = n + d * 128 ^ i := by
    have := Nat.two_pow_add_eq_or_of_lt (i := 7 * i) (b := n) (by rw [e0]; exact hn) d
    rw [e0, Nat.mul_comm (128 ^ i) d] at this
    rw [Nat.or_comm, ← this, Nat.add_comm]
  show IntKind.u64.wrap ((BitVec.ofInt 64 (n : Int) ||| BitVec.ofInt 64 ((d * 128 ^ i : Nat) : Int)).toNat : Int) = _
  rw [BitVec.ofInt_natCast, BitVec.ofInt_natCast, BitVec.toNat_or, BitVec.toNat_ofNat, BitVec.toNat_ofNat, Nat.mod_eq_of_lt (by omega), Nat.mod_eq_of_lt (by omega), e3, IntKind.wrap_u64]
  omega
theorem rn_fault (xs : List Nat) (h : (rn xs 10 0 0).2.2 ≠ 0) : (rn xs 10 0 0).1 = 0 ∧ (rn xs 10 0 0).2.1 = 0 := by
  rcases (rn_size xs 10 0 0).2 with h0 | h0 | h0
  · exact absurd h0 h
  · rw [h0]; exact ⟨rfl, rfl⟩
  · rw [h0]; exact ⟨rfl, rfl⟩
end Go.Proofs.Yteljjjdejjkgfaa
namespace Go.Proofs.Yteljjjdejjkgfaa
open Go.RowKit

theorem step_fault {kind size : Int} {xs : List Nat} {f : Nat} (h : f ≠ 0) : stepR kind size xs f = ⟨0, 0, [], 0, f⟩ := if_neg h
theorem step1 (k : Int) (xs : List Nat) : stepR 1 k xs 0 = if 1 ≤ k ∧ k ≤ 8 then (if xs.length < k.toNat then ⟨0, 0, [], 0, 3⟩ else ⟨val (xs.take k.toNat), 0, [], k.toNat, 0⟩) else ⟨0, 0, [], 0, 0⟩ := rfl
theorem step2 (k : Int) (xs : List Nat) : stepR 2 k xs 0 = if xs.length < 8 then ⟨0, 0, [], 0, 3⟩ else ⟨0, unzig (val (xs.take 8)), [], 8, 0⟩ := rfl
theorem step4 (k : Int) (xs : List Nat) : stepR 4 k xs 0 = if k < 0 then ⟨0, 0, [], 0, 0⟩ else if xs.length < k.toNat then ⟨0, 0, [], 0, 3⟩ else ⟨0, 0, xs.take k.toNat, k.toNat, 0⟩ := rfl
theorem tk_ok {n : Nat} {xs : List Nat} (h : ¬ xs.length < n) : tk n xs 0 = (xs.take n, xs.drop n, 0) := by unfold tk; rw [if_neg (by simp), if_neg h]
theorem tk_short {n : Nat} {xs : List Nat} (h : xs.length < n) : tk n xs 0 = ([], xs, 3) := by unfold tk; rw [if_neg (by simp), if_pos h]
theorem tk_fault {n : Nat} {xs : List Nat} {f : Nat} (h : f ≠ 0) : tk n xs f = ([], xs, f) := if_pos h
theorem Bt.apart {w : World} {k cap : Nat} {ao : Option Addr} {xs : List Nat} (h : Bt w k ao cap xs) (g : Nat) (hg : w.heap.size ≤ g) : ∃ k2, Bt w k2 ao cap xs ∧ g ≠ k2 := by
  by_cases hx : xs = []
  · exact ⟨g + 1, ⟨h.len, h.top, h.bare, h.lt, .inl hx⟩, by omega⟩
  · have := h.size hx
    exact ⟨k, h, by omega⟩
/-- What is read, as Go's value. -/
def rv (r : Res) (ao : Option Addr) (cap : Nat) : Value := .agg #[.int .u64 (r.n : Int), .int .i64 r.s, .slice ao r.raw.length cap, .int .i64 (r.size : Int), .int .i64 (r.f : Int)]
section
variable {w : World} {b : Nat} {t : TypeId} {a0 a1 a2 a3 a4 : Value}
theorem five_cells (h : Blk w b t #[a0, a1, a2, a3, a4]) : w.cell? ⟨b, 0, none⟩ = some a0 ∧ w.cell? ⟨b, 1, none⟩ = some a1 ∧ w.cell? ⟨b, 2, none⟩ = some a2 ∧ w.cell? ⟨b, 3, none⟩ = some a3 ∧ w.cell? ⟨b, 4, none⟩ = some a4 ∧ ∀ i, w.frozen? ⟨b, i, none⟩ = false :=
  ⟨h.cell_eq 0 _ rfl, h.cell_eq 1 _ rfl, h.cell_eq 2 _ rfl, h.cell_eq 3 _ rfl, h.cell_eq 4 _ rfl, h.free⟩
theorem five_alloc (h : Blk w b t #[a0, a1, a2, a3, a4]) : (∀ o, (w.alloc o).cell? ⟨b, 0, none⟩ = some a0) ∧ (∀ o, (w.alloc o).cell? ⟨b, 1, none⟩ = some a1) ∧ (∀ o, (w.alloc o).cell? ⟨b, 2, none⟩ = some a2) ∧ (∀ o, (w.alloc o).cell? ⟨b, 3, none⟩ = some a3) ∧ (∀ o, (w.alloc o).cell? ⟨b, 4, none⟩ = some a4) ∧ ∀ o i, (w.alloc o).frozen? ⟨b, i, none⟩ = false :=
  ⟨fun o => (h.alloc o).cell_eq 0 _ rfl, fun o => (h.alloc o).cell_eq 1 _ rfl, fun o => (h.alloc o).cell_eq 2 _ rfl, fun o => (h.alloc o).cell_eq 3 _ rfl, fun o => (h.alloc o).cell_eq 4 _ rfl, fun o => (h.alloc o).free⟩
theorem five_set (h : Blk w b t #[a0, a1, a2, a3, a4]) (u0 u1 u2 u3 u4 : Value) : Blk (((((w.setCell ⟨b, 0, none⟩ u0).setCell ⟨b, 1, none⟩ u1).setCell ⟨b, 2, none⟩ u2).setCell ⟨b, 3, none⟩ u3).setCell ⟨b, 4, none⟩ u4) b t #[u0, u1, u2, u3, u4] :=
  ((((h.set 0 u0).set 1 u1).set 2 u2).set 3 u3).set 4 u4
theorem five_below {B : Nat} {W : World} (h : Below B W w) (hb : B ≤ b) (u0 u1 u2 u3 u4 : Value) : Below B W (((((w.setCell ⟨b, 0, none⟩ u0).setCell ⟨b, 1, none⟩ u1).setCell ⟨b, 2, none⟩ u2).setCell ⟨b, 3, none⟩ u3).setCell ⟨b, 4, none⟩ u4) :=
  ((((h.setCell hb u0).setCell hb u1).setCell hb u2).setCell hb u3).setCell hb u4
end
end Go.Proofs.Yteljjjdejjkgfaa
namespace Go.Proofs.Yteljjjdejjkgfaa
open Go.RowKit
theorem Bt.part {w w' : World} {k b cap : Nat} {ao : Option Addr} {xs : List Nat} {t : TypeId} {cs : Array Value} (h : Bt w k ao cap xs) (hb : Blk w b t cs) (hc : ∀ (i : Nat) (x : Int), cs[i]? ≠ some (.int .u8 x)) (hf : Frm (fun q => q = b) w w') : Bt w' k ao cap xs := by
  refine h.frm hf fun hx e => ?_
  subst e
  rcases h.at' with h0 | ⟨off, _, hc'⟩
  · exact hx h0
  · match xs, hx with
    | x :: _, _ =>
      have h1 := hc' 0 x rfl
      rw [hb.cell] at h1
      exact hc _ _ h1
end Go.Proofs.Yteljjjdejjkgfaa
