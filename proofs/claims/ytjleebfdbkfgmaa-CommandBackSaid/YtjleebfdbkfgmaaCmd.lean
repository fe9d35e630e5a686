/-
  Commands as bytes, in plain arithmetic: which are right, their bytes, what is read of bytes; that a right one is read as it was, of less it is not, and what is read has just those bytes.
-/
import Derived.Test.YtjleebfdbkfgmaaFmt
import Derived.Test.YtjleebfdbkfgmaaIn64
namespace Go.Proofs.Ytjleebfdbkfgmaa

structure Cmd where
  kind : Int
  sym : Int
  id : Int
  owner : Int
  side : Int
  typ : Int
  price : Int
  qty : Int
  flags : Int
def Cmd.zero : Cmd := ⟨0, 0, 0, 0, 0, 0, 0, 0, 0⟩
/-- Its numbers fit. -/
structure Cmd.Fit (c : Cmd) : Prop where
  kind : In64 c.kind
  sym : In64 c.sym
  id : In64 c.id
  owner : In64 c.owner
  side : In64 c.side
  typ : In64 c.typ
  price : In64 c.price
  qty : In64 c.qty
  flags : In64 c.flags
def inB (n lo hi : Int) : Bool := decide (lo ≤ n) && decide (n ≤ hi)
theorem inB_true {n lo hi : Int} : inB n lo hi = true ↔ lo ≤ n ∧ n ≤ hi := by simp [inB]
def kindB (n : Int) : Bool := n == 1 || n == 2 || n == 3
def newB (c : Cmd) : Bool := inB c.owner 0 1073741824 && inB c.side 0 1 && inB c.typ 1 5 && inB c.flags 0 7
def restB (c : Cmd) : Bool := c.owner == 0 && c.side == 0 && c.typ == 0 && c.flags == 0
def bareB (c : Cmd) : Bool := c.price == 0 && c.qty == 0
/-- Which commands are right. -/
def rightB (c : Cmd) : Bool := kindB c.kind && inB c.sym 0 255 && inB c.id 0 4611686018427387904 && (if c.kind = 1 then newB c else if c.kind = 2 then restB c && bareB c else restB c)
/-- What is read of one of this kind. -/
def fmtC (k : Int) : List (Int × Int) := [(1, 1), (1, 1), (3, 0)] ++ (if k = 1 then [(3, 0), (1, 1), (1, 1), (1, 1)] else []) ++ (if k = 2 then [] else [(2, 0), (2, 0)])
theorem fmt1 : fmtC 1 = [(1, 1), (1, 1), (3, 0), (3, 0), (1, 1), (1, 1), (1, 1), (2, 0), (2, 0)] := rfl
theorem fmt2 : fmtC 2 = [(1, 1), (1, 1), (3, 0)] := rfl
theorem fmt3 : fmtC 3 = [(1, 1), (1, 1), (3, 0), (2, 0), (2, 0)] := rfl
theorem fmt_nums (k : Int) : ∀ q ∈ fmtC k, Nums q := by
  intro q hq
  unfold fmtC at hq
  simp only [List.mem_append, List.mem_cons] at hq
  unfold Nums
  rcases hq with (hq | hq) | hq
  · rcases hq with rfl | rfl | rfl | hq
    · exact .inl ⟨rfl, by decide, by decide⟩
    · exact .inl ⟨rfl, by decide, by decide⟩
    · exact .inr (.inr rfl)
    · simp at hq
  · split at hq
    · simp only [List.mem_cons] at hq
      rcases hq with rfl | rfl | rfl | rfl | hq
      · exact .inr (.inr rfl)
      · exact .inl ⟨rfl, by decide, by decide⟩
      · exact .inl ⟨rfl, by decide, by decide⟩
      · exact .inl ⟨rfl, by decide, by decide⟩
      · simp at hq
    · simp at hq
  · split at hq
    · simp at hq
    · simp only [List.mem_cons] at hq
      rcases hq with rfl | rfl | hq
      · exact .inr (.inl rfl)
      · exact .inr (.inl rfl)
      · simp at hq
/-- The numbers of a command. -/
def resC (c : Cmd) : List Res :=
  [⟨c.kind.toNat, 0, [], 0, 0⟩, ⟨c.sym.toNat, 0, [], 0, 0⟩, ⟨c.id.toNat, 0, [], 0, 0⟩] ++ (if c.kind = 1 then [⟨c.owner.toNat, 0, [], 0, 0⟩, ⟨c.side.toNat, 0, [], 0, 0⟩, ⟨c.typ.toNat, 0, [], 0, 0⟩, ⟨c.flags.toNat, 0, [], 0, 0⟩] else []) ++
    (if c.kind = 2 then [] else [⟨0, c.price, [], 0, 0⟩, ⟨0, c.qty, [], 0, 0⟩])
/-- The bytes of a command. -/
def formC (c : Cmd) : List Nat :=
  [c.kind.toNat, c.sym.toNat] ++ num c.id.toNat ++ (if c.kind = 1 then num c.owner.toNat ++ [c.side.toNat, c.typ.toNat, c.flags.toNat] else []) ++ (if c.kind = 2 then [] else be 8 (zig c.price) ++ be 8 (zig c.qty))
theorem be_one {n : Nat} (h : n < 256) : be 1 n = [n] := by simp [be, Nat.mod_eq_of_lt h]
theorem enc_one {n : Nat} (h : n < 256) : encN (1, 1) n 0 = [n] := by
  have e : encN (1, 1) n 0 = be 1 n := rfl
  rw [e, be_one h]
theorem enc_num (n : Nat) : encN (3, 0) n 0 = num n := rfl
theorem enc_int (s : Int) : encN (2, 0) 0 s = be 8 (zig s) := rfl
/-- What a right command's fields are. -/
structure Right (c : Cmd) : Prop where
  kind : c.kind = 1 ∨ c.kind = 2 ∨ c.kind = 3
  sym : 0 ≤ c.sym ∧ c.sym ≤ 255
  id : 0 ≤ c.id ∧ c.id ≤ 4611686018427387904
  new : c.kind = 1 → (0 ≤ c.owner ∧ c.owner ≤ 1073741824) ∧ (0 ≤ c.side ∧ c.side ≤ 1) ∧ (1 ≤ c.typ ∧ c.typ ≤ 5) ∧ (0 ≤ c.flags ∧ c.flags ≤ 7)
  rest : c.kind ≠ 1 → c.owner = 0 ∧ c.side = 0 ∧ c.typ = 0 ∧ c.flags = 0
  bare : c.kind = 2 → c.price = 0 ∧ c.qty = 0
theorem right_iff (c : Cmd) : rightB c = true ↔ Right c := by
  unfold rightB
  constructor
  · intro h
    simp only [Bool.and_eq_true, inB_true] at h
    obtain ⟨⟨⟨h1, h2⟩, h3⟩, h4⟩ := h
    have hk : c.kind = 1 ∨ c.kind = 2 ∨ c.kind = 3 := by simpa [kindB, or_assoc] using h1
    refine ⟨hk, h2, h3, ?_, ?_, ?_⟩
    · intro hk1
      rw [if_pos hk1] at h4
      simp only [newB, Bool.and_eq_true, inB_true] at h4
      exact ⟨h4.1.1.1, h4.1.1.2, h4.1.2, h4.2⟩
    · intro hk1
      rw [if_neg hk1] at h4
      split at h4
      · simp only [restB, Bool.and_eq_true, beq_iff_eq] at h4
        exact ⟨h4.1.1.1.1, h4.1.1.1.2, h4.1.1.2, h4.1.2⟩
      · simp only [restB, Bool.and_eq_true, beq_iff_eq] at h4
        exact ⟨h4.1.1.1, h4.1.1.2, h4.1.2, h4.2⟩
    · intro hk2
      rw [if_neg (by omega), if_pos hk2] at h4
      simp only [bareB, Bool.and_eq_true, beq_iff_eq] at h4
      exact h4.2
  · intro h
    simp only [Bool.and_eq_true, inB_true]
    refine ⟨⟨⟨by simpa [kindB, or_assoc] using h.kind, h.sym⟩, h.id⟩, ?_⟩
    split
    · rename_i hk
      obtain ⟨a, b, c, d⟩ := h.new hk
      simp only [newB, Bool.and_eq_true, inB_true]
      exact ⟨⟨⟨a, b⟩, c⟩, d⟩
    · rename_i hk
      obtain ⟨a, b, c, d⟩ := h.rest hk
      split
      · rename_i hk2
        obtain ⟨p, q⟩ := h.bare hk2
        simp [restB, bareB, a, b, c, d, p, q]
      · simp [restB, a, b, c, d]
theorem enc_res (c : Cmd) (hr : Right c) : encL (fmtC c.kind) (resC c) = formC c := by
  obtain ⟨hk, hs, hi, hn, _, _⟩ := hr
  have s1 : c.sym.toNat < 256 := by omega
  rcases hk with hk | hk | hk
  · obtain ⟨ho, hsd, ht, hf⟩ := hn hk
    have a1 : c.side.toNat < 256 := by omega
    have a2 : c.typ.toNat < 256 := by omega
    have a3 : c.flags.toNat < 256 := by omega
    unfold formC resC
    rw [hk, fmt1]
    simp only [Int.reduceEq, reduceIte, List.cons_append, List.nil_append, encL, enc_one (show (1 : Int).toNat < 256 by decide), enc_one s1, enc_one a1, enc_one a2, enc_one a3, enc_num, enc_int, List.append_nil, List.append_assoc]
  · unfold formC resC
    rw [hk, fmt2]
    simp only [Int.reduceEq, reduceIte, List.cons_append, List.nil_append, encL, enc_one (show (2 : Int).toNat < 256 by decide), enc_one s1, enc_num, List.append_nil]
  · unfold formC resC
    rw [hk, fmt3]
    simp only [Int.reduceEq, reduceIte, List.cons_append, List.nil_append, encL, enc_one (show (3 : Int).toNat < 256 by decide), enc_one s1, enc_num, enc_int, List.append_nil]
theorem fit_one {n : Nat} (h : n < 256) : FitN (1, 1) n 0 := ⟨fun _ => ⟨by simpa using h, rfl⟩, fun e => (by simp at e), fun e => (by simp at e)⟩
theorem fit_num {n : Nat} (h : n < 18446744073709551616) : FitN (3, 0) n 0 := ⟨fun e => (by simp at e), fun e => (by simp at e), fun _ => ⟨h, rfl⟩⟩
theorem fit_int {s : Int} (h : In64 s) : FitN (2, 0) 0 s := ⟨fun e => (by simp at e), fun _ => ⟨h, rfl⟩, fun e => (by simp at e)⟩
theorem fit_res (c : Cmd) (hr : Right c) (hf : c.Fit) : FitL (fmtC c.kind) (resC c) := by
  obtain ⟨hk, hs, hi, hn, _, _⟩ := hr
  have s1 : c.sym.toNat < 256 := by omega
  have i1 : c.id.toNat < 18446744073709551616 := by omega
  rcases hk with hk | hk | hk
  · obtain ⟨ho, hsd, ht, hfl⟩ := hn hk
    have o1 : c.owner.toNat < 18446744073709551616 := by omega
    have a1 : c.side.toNat < 256 := by omega
    have a2 : c.typ.toNat < 256 := by omega
    have a3 : c.flags.toNat < 256 := by omega
    unfold resC
    rw [hk, if_pos rfl, if_neg (by decide), fmt1]
    exact ⟨fit_one (by decide), fit_one s1, fit_num i1, fit_num o1, fit_one a1, fit_one a2, fit_one a3, fit_int hf.price, fit_int hf.qty, trivial⟩
  · unfold resC
    rw [hk, if_neg (by decide), if_pos rfl, fmt2]
    exact ⟨fit_one (by decide), fit_one s1, fit_num i1, trivial⟩
  · unfold resC
    rw [hk, if_neg (by decide), if_neg (by decide), fmt3]
    exact ⟨fit_one (by decide), fit_one s1, fit_num i1, fit_int hf.price, fit_int hf.qty, trivial⟩
/-- The command of numbers that were read. -/
def ofR : List Res → Cmd
  | [k, s, i] => ⟨k.n, s.n, min (i.n : Int) 4611686018427387905, 0, 0, 0, 0, 0, 0⟩
  | [k, s, i, p, q] => ⟨k.n, s.n, min (i.n : Int) 4611686018427387905, 0, 0, 0, p.s, q.s, 0⟩
  | [k, s, i, o, d, t, f, p, q] => ⟨k.n, s.n, min (i.n : Int) 4611686018427387905, min (o.n : Int) 1073741825, d.n, t.n, p.s, q.s, f.n⟩
  | _ => Cmd.zero
theorem of_res (c : Cmd) (hr : Right c) : ofR (sized (fmtC c.kind) (resC c)) = c := by
  obtain ⟨hk, hs, hi, hn, hre, hba⟩ := hr
  have i1 : min (c.id.toNat : Int) 4611686018427387905 = c.id := by omega
  have s1 : (c.sym.toNat : Int) = c.sym := by omega
  have k1 : (c.kind.toNat : Int) = c.kind := by omega
  rcases hk with hk | hk | hk
  · obtain ⟨ho, hsd, ht, hfl⟩ := hn hk
    have o1 : min (c.owner.toNat : Int) 1073741825 = c.owner := by omega
    have a1 : (c.side.toNat : Int) = c.side := by omega
    have a2 : (c.typ.toNat : Int) = c.typ := by omega
    have a3 : (c.flags.toNat : Int) = c.flags := by omega
    have e : fmtC c.kind = fmtC 1 := by rw [hk]
    unfold resC
    rw [e, if_pos hk, if_neg (by omega), fmt1]
    simp only [List.cons_append, List.nil_append, sized, ofR]
    rw [k1, s1, i1, o1, a1, a2, a3]
  · obtain ⟨r1, r2, r3, r4⟩ := hre (by omega)
    obtain ⟨b1, b2⟩ := hba hk
    have e : fmtC c.kind = fmtC 2 := by rw [hk]
    unfold resC
    rw [e, if_neg (by omega), if_pos hk, fmt2]
    simp only [List.cons_append, List.nil_append, sized, ofR]
    rw [k1, s1, i1]
    cases c; simp_all
  · obtain ⟨r1, r2, r3, r4⟩ := hre (by omega)
    have e : fmtC c.kind = fmtC 3 := by rw [hk]
    unfold resC
    rw [e, if_neg (by omega), if_neg (by omega), fmt3]
    simp only [List.cons_append, List.nil_append, sized, ofR]
    rw [k1, s1, i1]
    cases c; simp_all
/-- What bytes of a command of this first byte are: the command, or what is wrong. -/
def decK (x : Nat) (b : List Nat) : Cmd × Nat :=
  if (rdL (fmtC x) b 0).2.2 ≠ 0 then (Cmd.zero, (rdL (fmtC x) b 0).2.2) else if rightB (ofR (rdL (fmtC x) b 0).1) = true ∧ (rdL (fmtC x) b 0).2.1 = [] then (ofR (rdL (fmtC x) b 0).1, 0) else (Cmd.zero, 4)
def decC (b : List Nat) : Cmd × Nat :=
  match b with
  | [] => (Cmd.zero, 3)
  | x :: _ => if x < 1 ∨ 3 < x then (Cmd.zero, 4) else decK x b
theorem dec_in {x : Nat} {t b : List Nat} (h : b = x :: t) (h1 : 1 ≤ x) (h3 : x ≤ 3) : decC b = decK x b := by
  subst h
  exact if_neg (by omega)
theorem form_cons (c : Cmd) : ∃ t, formC c = c.kind.toNat :: t := ⟨_, rfl⟩
theorem right_byte {c : Cmd} (hr : Right c) : 1 ≤ c.kind.toNat ∧ c.kind.toNat ≤ 3 ∧ ((c.kind.toNat : Nat) : Int) = c.kind := by
  have := hr.kind
  omega
theorem dec_form (c : Cmd) (hr : Right c) (hf : c.Fit) : decC (formC c) = (c, 0) := by
  obtain ⟨t, ht⟩ := form_cons c
  obtain ⟨h1, h3, hk⟩ := right_byte hr
  have h := rdL_forth (fmtC c.kind) (fmt_nums _) (resC c) (fit_res c hr hf) []
  rw [List.append_nil, enc_res c hr] at h
  rw [dec_in ht h1 h3]
  unfold decK
  rw [hk, h]
  simp only [ne_eq, not_true_eq_false, if_false, of_res c hr, and_true]
  rw [if_pos ((right_iff c).2 hr)]
theorem dec_more (c : Cmd) (hr : Right c) (hf : c.Fit) (x : Nat) : (decC (formC c ++ [x])).2 = 4 := by
  obtain ⟨t, ht⟩ := form_cons c
  obtain ⟨h1, h3, hk⟩ := right_byte hr
  have h := rdL_forth (fmtC c.kind) (fmt_nums _) (resC c) (fit_res c hr hf) [x]
  rw [enc_res c hr] at h
  rw [dec_in (x := c.kind.toNat) (t := t ++ [x]) (by rw [ht]; rfl) h1 h3]
  unfold decK
  rw [hk, h]
  simp
theorem dec_less (c : Cmd) (hr : Right c) (hf : c.Fit) (m : Nat) (hm : m < (formC c).length) : (decC ((formC c).take m)).2 = 3 := by
  obtain ⟨t, ht⟩ := form_cons c
  obtain ⟨h1, h3, hk⟩ := right_byte hr
  cases m with
  | zero => rfl
  | succ m =>
    have h := rdL_cut (fmtC c.kind) (fmt_nums _) (resC c) (fit_res c hr hf) (m + 1) (by rw [enc_res c hr]; exact hm)
    rw [enc_res c hr] at h
    rw [dec_in (x := c.kind.toNat) (t := t.take m) (by rw [ht]; rfl) h1 h3]
    unfold decK
    rw [hk, if_pos (by rw [h]; decide), h]
theorem FitL.cons {q : Int × Int} {t : List (Int × Int)} {rs : List Res} (h : FitL (q :: t) rs) : ∃ r rs', rs = r :: rs' ∧ FitN q r.n r.s ∧ FitL t rs' := by
  cases rs with
  | nil => exact h.elim
  | cons r rs => exact ⟨r, rs, rfl, h⟩
theorem FitL.nil {rs : List Res} (h : FitL [] rs) : rs = [] := by
  cases rs with
  | nil => rfl
  | cons r rs => exact h.elim
theorem min_le {n : Nat} {k m : Int} (h : min (n : Int) m ≤ k) (hm : k < m) : (min (n : Int) m).toNat = n := by omega
theorem in_byte {n : Nat} (h : n < 256) : In64 (n : Int) := ⟨by omega, by omega⟩
theorem in_min {n : Nat} {m : Int} (h0 : 0 ≤ m) (hm : m ≤ 4611686018427387905) : In64 (min (n : Int) m) := ⟨by omega, by omega⟩
theorem in_zero : In64 0 := ⟨by decide, by decide⟩
/-- What is decoded has just those bytes. -/
theorem dec_back {b : List Nat} (hb : ∀ x ∈ b, x < 256) {d : Cmd} (h : decC b = (d, 0)) : Right d ∧ formC d = b ∧ d.Fit := by
  match b, hb, h with
  | [], _, h => simp [decC] at h
  | x :: t, hb, h =>
    by_cases hx : x < 1 ∨ 3 < x
    · rw [decC, if_pos hx] at h; simp at h
    · rw [dec_in rfl (by omega) (by omega)] at h
      unfold decK at h
      by_cases hf : (rdL (fmtC x) (x :: t) 0).2.2 = 0
      · rw [if_neg (by omega)] at h
        by_cases hr : rightB (ofR (rdL (fmtC x) (x :: t) 0).1) = true ∧ (rdL (fmtC x) (x :: t) 0).2.1 = []
        · rw [if_pos hr] at h
          simp only [Prod.mk.injEq, and_true] at h
          obtain ⟨hr1, hr2⟩ := hr
          obtain ⟨e1, e2⟩ := rdL_back _ (fmt_nums _) _ hb hf
          rw [hr2, List.append_nil] at e1
          rw [h] at hr1
          have hR := (right_iff d).1 hr1
          generalize (rdL (fmtC x) (x :: t) 0).1 = rs at *
          refine ⟨hR, ?_⟩
          have hk : (x : Int) = 1 ∨ (x : Int) = 2 ∨ (x : Int) = 3 := by omega
          have hR0 := hR
          obtain ⟨_, hs, hi, hn, hre, hba⟩ := hR
          rcases hk with hk | hk | hk
          · rw [hk, fmt1] at e1 e2
            obtain ⟨k, rs, rfl, fk, e2⟩ := e2.cons
            obtain ⟨s, rs, rfl, fs, e2⟩ := e2.cons
            obtain ⟨i, rs, rfl, fi, e2⟩ := e2.cons
            obtain ⟨o, rs, rfl, fo, e2⟩ := e2.cons
            obtain ⟨a, rs, rfl, fa, e2⟩ := e2.cons
            obtain ⟨u, rs, rfl, fu, e2⟩ := e2.cons
            obtain ⟨v, rs, rfl, fv, e2⟩ := e2.cons
            obtain ⟨p, rs, rfl, fp, e2⟩ := e2.cons
            obtain ⟨q, rs, rfl, fq, e2⟩ := e2.cons
            obtain rfl := e2.nil
            obtain ⟨k1, k2⟩ := fk.1 rfl
            obtain ⟨s1, s2⟩ := fs.1 rfl
            obtain ⟨a1, a2⟩ := fa.1 rfl
            obtain ⟨u1, u2⟩ := fu.1 rfl
            obtain ⟨v1, v2⟩ := fv.1 rfl
            obtain ⟨i1, i2⟩ := fi.2.2 rfl
            obtain ⟨o1, o2⟩ := fo.2.2 rfl
            obtain ⟨p1, p2⟩ := fp.2.1 rfl
            obtain ⟨q1, q2⟩ := fq.2.1 rfl
            have k1 : k.n < 256 := k1
            have s1 : s.n < 256 := s1
            have a1 : a.n < 256 := a1
            have u1 : u.n < 256 := u1
            have v1 : v.n < 256 := v1
            simp only [encL, k2, s2, i2, o2, a2, u2, v2, p2, q2, enc_one k1, enc_one s1, enc_one a1, enc_one u1, enc_one v1, enc_num, enc_int, List.append_nil] at e1
            have hkx : k.n = x := by have := congrArg List.head? e1; simpa using this.symm
            subst h
            simp only [ofR] at hi hn hR0 ⊢
            obtain ⟨hn1, _⟩ := hn (by omega)
            constructor
            · rw [e1]
              unfold formC
              simp only []
              rw [min_le hi.2 (by decide), min_le hn1.2 (by decide), if_pos (by omega), if_neg (by omega)]
              simp
            · exact ⟨in_byte k1, in_byte s1, in_min (by decide) (by decide), in_min (by decide) (by decide), in_byte a1, in_byte u1, p1, q1, in_byte v1⟩
          · rw [hk, fmt2] at e1 e2
            obtain ⟨k, rs, rfl, fk, e2⟩ := e2.cons
            obtain ⟨s, rs, rfl, fs, e2⟩ := e2.cons
            obtain ⟨i, rs, rfl, fi, e2⟩ := e2.cons
            obtain rfl := e2.nil
            obtain ⟨k1, k2⟩ := fk.1 rfl
            obtain ⟨s1, s2⟩ := fs.1 rfl
            obtain ⟨i1, i2⟩ := fi.2.2 rfl
            have k1 : k.n < 256 := k1
            have s1 : s.n < 256 := s1
            simp only [encL, k2, s2, i2, enc_one k1, enc_one s1, enc_num, List.append_nil] at e1
            have hkx : k.n = x := by have := congrArg List.head? e1; simpa using this.symm
            subst h
            simp only [ofR] at hi hR0 ⊢
            constructor
            · rw [e1]
              unfold formC
              simp only []
              rw [min_le hi.2 (by decide), if_neg (by omega), if_pos (by omega)]
              simp
            · exact ⟨in_byte k1, in_byte s1, in_min (by decide) (by decide), in_zero, in_zero, in_zero, in_zero, in_zero, in_zero⟩
          · rw [hk, fmt3] at e1 e2
            obtain ⟨k, rs, rfl, fk, e2⟩ := e2.cons
            obtain ⟨s, rs, rfl, fs, e2⟩ := e2.cons
            obtain ⟨i, rs, rfl, fi, e2⟩ := e2.cons
            obtain ⟨p, rs, rfl, fp, e2⟩ := e2.cons
            obtain ⟨q, rs, rfl, fq, e2⟩ := e2.cons
            obtain rfl := e2.nil
            obtain ⟨k1, k2⟩ := fk.1 rfl
            obtain ⟨s1, s2⟩ := fs.1 rfl
            obtain ⟨i1, i2⟩ := fi.2.2 rfl
            obtain ⟨p1, p2⟩ := fp.2.1 rfl
            obtain ⟨q1, q2⟩ := fq.2.1 rfl
            have k1 : k.n < 256 := k1
            have s1 : s.n < 256 := s1
            simp only [encL, k2, s2, i2, p2, q2, enc_one k1, enc_one s1, enc_num, enc_int, List.append_nil] at e1
            have hkx : k.n = x := by have := congrArg List.head? e1; simpa using this.symm
            subst h
            simp only [ofR] at hi hR0 ⊢
            constructor
            · rw [e1]
              unfold formC
              simp only []
              rw [min_le hi.2 (by decide), if_neg (by omega), if_neg (by omega)]
              simp
            · exact ⟨in_byte k1, in_byte s1, in_min (by decide) (by decide), in_zero, in_zero, in_zero, p1, q1, in_zero⟩
        · rw [if_neg hr] at h; simp at h
      · rw [if_pos hf] at h
        simp only [Prod.mk.injEq] at h
        exact absurd h.2 hf
theorem dec_zero (b : List Nat) (h : (decC b).2 ≠ 0) : (decC b).1 = Cmd.zero := by
  match b, h with
  | [], _ => rfl
  | x :: t, h =>
    by_cases hx : x < 1 ∨ 3 < x
    · rw [decC, if_pos hx]
    · rw [dec_in rfl (by omega) (by omega)] at h ⊢
      unfold decK at h ⊢
      by_cases hf : (rdL (fmtC x) (x :: t) 0).2.2 = 0
      · rw [if_neg (by omega)] at h ⊢
        by_cases hr : rightB (ofR (rdL (fmtC x) (x :: t) 0).1) = true ∧ (rdL (fmtC x) (x :: t) 0).2.1 = []
        · rw [if_pos hr] at h; exact absurd rfl h
        · rw [if_neg hr]
      · rw [if_pos hf]
end Go.Proofs.Ytjleebfdbkfgmaa
