/-
  Messages as bytes, and in a stream, in plain arithmetic: which are right, their bytes, what is read of bytes; that right ones are read as they were, of less they are not, and what is read has just those bytes. No Go text is looked at here.
-/
import Derived.Test.YtalgpbjonkcldaaFmt
import Derived.Test.YtalgpbjonkcldaaFrmM
import Derived.Test.YtalgpbjonkcldaaIn64
namespace Go.Proofs.Ytalgpbjonkcldaa

structure Msg where
  kind : Int
  sym : Int
  seq : Int
  tick : Int
  id : Int
  other : Int
  price : Int
  qty : Int
  code : Int
def Msg.zero : Msg := ⟨0, 0, 0, 0, 0, 0, 0, 0, 0⟩
/-- Its numbers fit. -/
structure Msg.Fit (m : Msg) : Prop where
  kind : In64 m.kind
  sym : In64 m.sym
  seq : In64 m.seq
  tick : In64 m.tick
  id : In64 m.id
  other : In64 m.other
  price : In64 m.price
  qty : In64 m.qty
  code : In64 m.code
def inM (n lo hi : Int) : Bool := decide (lo ≤ n) && decide (n ≤ hi)
theorem inM_true {n lo hi : Int} : inM n lo hi = true ↔ lo ≤ n ∧ n ≤ hi := by simp [inM]
/-- Which messages are right. -/
def rightM (m : Msg) : Bool := inM m.kind 1 9 && inM m.sym 0 255 && inM m.code 0 255 && inM m.seq 0 4611686018427387904 && inM m.tick 0 4611686018427387904 && inM m.id (-1) 4611686018427387904 && inM m.other (-1) 4611686018427387904
structure RightM (m : Msg) : Prop where
  kind : 1 ≤ m.kind ∧ m.kind ≤ 9
  sym : 0 ≤ m.sym ∧ m.sym ≤ 255
  code : 0 ≤ m.code ∧ m.code ≤ 255
  seq : 0 ≤ m.seq ∧ m.seq ≤ 4611686018427387904
  tick : 0 ≤ m.tick ∧ m.tick ≤ 4611686018427387904
  id : -1 ≤ m.id ∧ m.id ≤ 4611686018427387904
  other : -1 ≤ m.other ∧ m.other ≤ 4611686018427387904
theorem rightM_iff (m : Msg) : rightM m = true ↔ RightM m := by
  unfold rightM
  simp only [Bool.and_eq_true, inM_true]
  exact ⟨fun ⟨⟨⟨⟨⟨⟨a, b⟩, c⟩, d⟩, e⟩, f⟩, g⟩ => ⟨a, b, c, d, e, f, g⟩, fun ⟨a, b, c, d, e, f, g⟩ => ⟨⟨⟨⟨⟨⟨a, b⟩, c⟩, d⟩, e⟩, f⟩, g⟩⟩
/-- What is read of one. -/
def fmtM : List (Int × Int) := [(1, 1), (1, 1), (1, 1), (3, 0), (3, 0), (2, 0), (2, 0), (2, 0), (2, 0)]
theorem fmtM_nums : ∀ q ∈ fmtM, Nums q := by
  intro q hq
  unfold fmtM at hq
  simp only [List.mem_cons, List.not_mem_nil, or_false] at hq
  unfold Nums
  rcases hq with rfl | rfl | rfl | rfl | rfl | rfl | rfl | rfl | rfl
  · exact .inl ⟨rfl, by decide, by decide⟩
  · exact .inl ⟨rfl, by decide, by decide⟩
  · exact .inl ⟨rfl, by decide, by decide⟩
  · exact .inr (.inr rfl)
  · exact .inr (.inr rfl)
  · exact .inr (.inl rfl)
  · exact .inr (.inl rfl)
  · exact .inr (.inl rfl)
  · exact .inr (.inl rfl)
/-- The numbers of a message. -/
def resM (m : Msg) : List Res :=
  [⟨m.kind.toNat, 0, [], 0, 0⟩, ⟨m.sym.toNat, 0, [], 0, 0⟩, ⟨m.code.toNat, 0, [], 0, 0⟩, ⟨m.seq.toNat, 0, [], 0, 0⟩, ⟨m.tick.toNat, 0, [], 0, 0⟩, ⟨0, m.id, [], 0, 0⟩, ⟨0, m.other, [], 0, 0⟩, ⟨0, m.price, [], 0, 0⟩, ⟨0, m.qty, [], 0, 0⟩]
/-- The bytes of a message. -/
def formM (m : Msg) : List Nat :=
  [m.kind.toNat, m.sym.toNat, m.code.toNat] ++ (num m.seq.toNat ++ (num m.tick.toNat ++ (be 8 (zig m.id) ++ (be 8 (zig m.other) ++ (be 8 (zig m.price) ++ be 8 (zig m.qty))))))
theorem beM_one {n : Nat} (h : n < 256) : be 1 n = [n] := by simp [be, Nat.mod_eq_of_lt h]
theorem encM_one {n : Nat} (h : n < 256) : encN (1, 1) n 0 = [n] := by
  have e : encN (1, 1) n 0 = be 1 n := rfl
  rw [e, beM_one h]
theorem encM_num (n : Nat) : encN (3, 0) n 0 = num n := rfl
theorem encM_int (s : Int) : encN (2, 0) 0 s = be 8 (zig s) := rfl
theorem encM_res (m : Msg) (hr : RightM m) : encL fmtM (resM m) = formM m := by
  have k1 : m.kind.toNat < 256 := by have := hr.kind; omega
  have s1 : m.sym.toNat < 256 := by have := hr.sym; omega
  have c1 : m.code.toNat < 256 := by have := hr.code; omega
  unfold formM resM fmtM
  simp only [encL, encM_one k1, encM_one s1, encM_one c1, encM_num, encM_int, List.append_nil, List.cons_append, List.nil_append]
theorem fitM_one {n : Nat} (h : n < 256) : FitN (1, 1) n 0 := ⟨fun _ => ⟨by simpa using h, rfl⟩, fun e => (by simp at e), fun e => (by simp at e)⟩
theorem fitM_num {n : Nat} (h : n < 18446744073709551616) : FitN (3, 0) n 0 := ⟨fun e => (by simp at e), fun e => (by simp at e), fun _ => ⟨h, rfl⟩⟩
theorem fitM_int {s : Int} (h : In64 s) : FitN (2, 0) 0 s := ⟨fun e => (by simp at e), fun _ => ⟨h, rfl⟩, fun e => (by simp at e)⟩
theorem fitM_res (m : Msg) (hr : RightM m) (hf : m.Fit) : FitL fmtM (resM m) := by
  have k1 : m.kind.toNat < 256 := by have := hr.kind; omega
  have s1 : m.sym.toNat < 256 := by have := hr.sym; omega
  have c1 : m.code.toNat < 256 := by have := hr.code; omega
  have q1 : m.seq.toNat < 18446744073709551616 := by have := hr.seq; omega
  have t1 : m.tick.toNat < 18446744073709551616 := by have := hr.tick; omega
  exact ⟨fitM_one k1, fitM_one s1, fitM_one c1, fitM_num q1, fitM_num t1, fitM_int hf.id, fitM_int hf.other, fitM_int hf.price, fitM_int hf.qty, trivial⟩
/-- The message of numbers that were read. -/
def ofM : List Res → Msg
  | [k, s, c, q, t, i, o, p, y] => ⟨k.n, s.n, q.n, t.n, i.s, o.s, p.s, y.s, c.n⟩
  | _ => Msg.zero
theorem ofM_res (m : Msg) (hr : RightM m) : ofM (sized fmtM (resM m)) = m := by
  have k1 : (m.kind.toNat : Int) = m.kind := by have := hr.kind; omega
  have s1 : (m.sym.toNat : Int) = m.sym := by have := hr.sym; omega
  have c1 : (m.code.toNat : Int) = m.code := by have := hr.code; omega
  have q1 : (m.seq.toNat : Int) = m.seq := by have := hr.seq; omega
  have t1 : (m.tick.toNat : Int) = m.tick := by have := hr.tick; omega
  unfold resM fmtM
  simp only [sized, ofM]
  rw [k1, s1, c1, q1, t1]
/-- What bytes are: the message, or what is wrong. -/
def decM (b : List Nat) : Msg × Nat :=
  if (rdL fmtM b 0).2.2 ≠ 0 then (Msg.zero, (rdL fmtM b 0).2.2) else if rightM (ofM (rdL fmtM b 0).1) = true ∧ (rdL fmtM b 0).2.1 = [] then (ofM (rdL fmtM b 0).1, 0) else (Msg.zero, 4)
theorem decM_form (m : Msg) (hr : RightM m) (hf : m.Fit) : decM (formM m) = (m, 0) := by
  have h := rdL_forth fmtM fmtM_nums (resM m) (fitM_res m hr hf) []
  rw [List.append_nil, encM_res m hr] at h
  unfold decM
  rw [h]
  simp only [ne_eq, not_true_eq_false, if_false, ofM_res m hr, and_true]
  rw [if_pos ((rightM_iff m).2 hr)]
theorem decM_more (m : Msg) (hr : RightM m) (hf : m.Fit) (x : Nat) : (decM (formM m ++ [x])).2 = 4 := by
  have h := rdL_forth fmtM fmtM_nums (resM m) (fitM_res m hr hf) [x]
  rw [encM_res m hr] at h
  unfold decM
  rw [h]
  simp
theorem decM_less (m : Msg) (hr : RightM m) (hf : m.Fit) (k : Nat) (hk : k < (formM m).length) : (decM ((formM m).take k)).2 = 3 := by
  have h := rdL_cut fmtM fmtM_nums (resM m) (fitM_res m hr hf) k (by rw [encM_res m hr]; exact hk)
  rw [encM_res m hr] at h
  unfold decM
  rw [if_pos (by rw [h]; decide), h]
theorem FitL.consM {q : Int × Int} {t : List (Int × Int)} {rs : List Res} (h : FitL (q :: t) rs) : ∃ r rs', rs = r :: rs' ∧ FitN q r.n r.s ∧ FitL t rs' := by
  cases rs with
  | nil => exact h.elim
  | cons r rs => exact ⟨r, rs, rfl, h⟩
theorem FitL.nilM {rs : List Res} (h : FitL [] rs) : rs = [] := by
  cases rs with
  | nil => rfl
  | cons r rs => exact h.elim
theorem inM_byte {n : Nat} (h : n < 256) : In64 (n : Int) := ⟨by omega, by omega⟩
theorem inM_tick {n : Nat} (h : (n : Int) ≤ 4611686018427387904) : In64 (n : Int) := ⟨by omega, by omega⟩
/-- What is decoded has just those bytes. -/
theorem decM_back {b : List Nat} (hb : ∀ x ∈ b, x < 256) {d : Msg} (h : decM b = (d, 0)) : RightM d ∧ formM d = b ∧ d.Fit := by
  unfold decM at h
  by_cases hf : (rdL fmtM b 0).2.2 = 0
  · rw [if_neg (by omega)] at h
    by_cases hr : rightM (ofM (rdL fmtM b 0).1) = true ∧ (rdL fmtM b 0).2.1 = []
    · rw [if_pos hr] at h
      simp only [Prod.mk.injEq, and_true] at h
      obtain ⟨hr1, hr2⟩ := hr
      obtain ⟨e1, e2⟩ := rdL_back _ fmtM_nums _ hb hf
      rw [hr2, List.append_nil] at e1
      rw [h] at hr1
      have hR := (rightM_iff d).1 hr1
      generalize (rdL fmtM b 0).1 = rs at *
      refine ⟨hR, ?_⟩
      unfold fmtM at e1 e2
      obtain ⟨k, rs, rfl, fk, e2⟩ := e2.consM
      obtain ⟨s, rs, rfl, fs, e2⟩ := e2.consM
      obtain ⟨c, rs, rfl, fc, e2⟩ := e2.consM
      obtain ⟨q, rs, rfl, fq, e2⟩ := e2.consM
      obtain ⟨t, rs, rfl, ft, e2⟩ := e2.consM
      obtain ⟨i, rs, rfl, fi, e2⟩ := e2.consM
      obtain ⟨o, rs, rfl, fo, e2⟩ := e2.consM
      obtain ⟨p, rs, rfl, fp, e2⟩ := e2.consM
      obtain ⟨y, rs, rfl, fy, e2⟩ := e2.consM
      obtain rfl := e2.nilM
      obtain ⟨k1, k2⟩ := fk.1 rfl
      obtain ⟨s1, s2⟩ := fs.1 rfl
      obtain ⟨c1, c2⟩ := fc.1 rfl
      obtain ⟨q1, q2⟩ := fq.2.2 rfl
      obtain ⟨t1, t2⟩ := ft.2.2 rfl
      obtain ⟨i1, i2⟩ := fi.2.1 rfl
      obtain ⟨o1, o2⟩ := fo.2.1 rfl
      obtain ⟨p1, p2⟩ := fp.2.1 rfl
      obtain ⟨y1, y2⟩ := fy.2.1 rfl
      have k1 : k.n < 256 := k1
      have s1 : s.n < 256 := s1
      have c1 : c.n < 256 := c1
      simp only [encL, k2, s2, c2, q2, t2, i2, o2, p2, y2, encM_one k1, encM_one s1, encM_one c1, encM_num, encM_int, List.append_nil] at e1
      subst h
      have hq := hR.seq.2
      have ht := hR.tick.2
      simp only [ofM] at hq ht ⊢
      constructor
      · rw [e1]
        unfold formM
        simp
      · exact ⟨inM_byte k1, inM_byte s1, inM_tick hq, inM_tick ht, i1, o1, p1, y1, inM_byte c1⟩
    · rw [if_neg hr] at h; simp at h
  · rw [if_pos hf] at h
    simp only [Prod.mk.injEq] at h
    exact absurd h.2 hf
theorem decM_zero (b : List Nat) (h : (decM b).2 ≠ 0) : (decM b).1 = Msg.zero := by
  unfold decM at h ⊢
  by_cases hf : (rdL fmtM b 0).2.2 = 0
  · rw [if_neg (by omega)] at h ⊢
    by_cases hr : rightM (ofM (rdL fmtM b 0).1) = true ∧ (rdL fmtM b 0).2.1 = []
    · rw [if_pos hr] at h; exact absurd rfl h
    · rw [if_neg hr]
  · rw [if_pos hf]
/-- A message has at most 64 bytes. -/
theorem formM_len (m : Msg) (hr : RightM m) : (formM m).length ≤ 53 := by
  have p9 : (128 : Nat) ^ (8 + 1) = 9223372036854775808 := by decide
  have h1 := num_length 8 m.seq.toNat (by rw [p9]; have := hr.seq; omega)
  have h2 := num_length 8 m.tick.toNat (by rw [p9]; have := hr.tick; omega)
  unfold formM
  simp only [List.length_append, List.length_cons, List.length_nil, be_length]
  omega
/-- The stream of messages, each in a frame. -/
def strM (l : List Msg) : List Nat := (l.map formM).flatMap putF
/-- What Stream tells: the bytes, or the fault. -/
def strF (l : List Msg) : List Nat × Nat := if l.all rightM = true then (strM l, 0) else ([], 1)
theorem strM_nil : strM [] = [] := rfl
theorem strM_snoc (l : List Msg) (m : Msg) : strM (l ++ [m]) = strM l ++ putF (formM m) := by simp [strM]
theorem strM_len (l : List Msg) (h : ∀ m ∈ l, RightM m) : (strM l).length ≤ 55 * l.length := by
  induction l with
  | nil => simp [strM]
  | cons m t ih =>
    have h1 := formM_len m (h m (by simp))
    have h2 := ih fun x hx => h x (List.mem_cons_of_mem _ hx)
    have e : strM (m :: t) = putF (formM m) ++ strM t := by simp [strM]
    rw [e, List.length_append, putF_length, List.length_cons]
    omega
/-- The messages of payloads, or the first fault. -/
def decLs : List (List Nat) → List Msg × Nat
  | [] => ([], 0)
  | p :: t => if (decM p).2 ≠ 0 then ([], (decM p).2) else if (decLs t).2 ≠ 0 then ([], (decLs t).2) else ((decM p).1 :: (decLs t).1, 0)
/-- The messages of a stream, or the first fault. -/
def allM (b : List Nat) : List Msg × Nat := if (decLs (allF b).1).2 ≠ 0 then ([], (decLs (allF b).1).2) else if (allF b).2.2 ≠ 0 then ([], (allF b).2.2) else ((decLs (allF b).1).1, 0)
theorem decLs_forms (l : List Msg) (h : ∀ m ∈ l, RightM m ∧ m.Fit) : decLs (l.map formM) = (l, 0) := by
  induction l with
  | nil => rfl
  | cons m t ih =>
    have h1 := decM_form m (h m (by simp)).1 (h m (by simp)).2
    have h2 := ih fun x hx => h x (List.mem_cons_of_mem _ hx)
    rw [List.map_cons, decLs, h1, h2]
    simp
/-- Messages of a stream come back. -/
theorem allM_str (l : List Msg) (h : ∀ m ∈ l, RightM m ∧ m.Fit) : allM (strM l) = (l, 0) := by
  have h1 := allF_puts (l.map formM) (by
    intro p hp
    obtain ⟨m, hm, rfl⟩ := List.mem_map.1 hp
    have := formM_len m (h m hm).1
    omega)
  unfold allM strM
  rw [h1, decLs_forms l h]
  simp
/-- Payloads read so far, one more. -/
theorem decLs_cons_ok {p : List Nat} {t : List (List Nat)} (hp : (decM p).2 = 0) (ht : (decLs t).2 = 0) : decLs (p :: t) = ((decM p).1 :: (decLs t).1, 0) := by
  rw [decLs, if_neg (fun h => h hp), if_neg (fun h => h ht)]
theorem decLs_cons_bad {p : List Nat} (t : List (List Nat)) (hp : (decM p).2 ≠ 0) : decLs (p :: t) = ([], (decM p).2) := by rw [decLs, if_pos hp]
theorem decLs_cons_late {p : List Nat} {t : List (List Nat)} (hp : (decM p).2 = 0) (ht : (decLs t).2 ≠ 0) : decLs (p :: t) = ([], (decLs t).2) := by
  rw [decLs, if_neg (fun h => h hp), if_pos ht]
theorem decLs_ok {p : List Nat} {t : List (List Nat)} (h : (decLs (p :: t)).2 = 0) : (decM p).2 = 0 ∧ (decLs t).2 = 0 := by
  by_cases hp : (decM p).2 = 0
  · by_cases ht : (decLs t).2 = 0
    · exact ⟨hp, ht⟩
    · rw [decLs_cons_late hp ht] at h; simp only at h; exact absurd h ht
  · rw [decLs_cons_bad t hp] at h; simp only at h; exact absurd h hp
/-- One payload more that is a message. -/
theorem decLs_snoc_ok (ps : List (List Nat)) (p : List Nat) (h : (decLs ps).2 = 0) (hp : (decM p).2 = 0) : decLs (ps ++ [p]) = ((decLs ps).1 ++ [(decM p).1], 0) := by
  induction ps with
  | nil =>
    have h0 : (decLs []).2 = 0 := h
    have e := decLs_cons_ok hp h0
    rw [List.nil_append, e]
    rfl
  | cons q t ih =>
    obtain ⟨hq, ht⟩ := decLs_ok h
    have e := ih ht
    have e2 : (decLs (t ++ [p])).2 = 0 := by rw [e]
    rw [List.cons_append, decLs_cons_ok hq e2, decLs_cons_ok hq ht, e]
    rfl
/-- One payload more that is none. -/
theorem decLs_snoc_bad (ps : List (List Nat)) (p : List Nat) (h : (decLs ps).2 = 0) (hp : (decM p).2 ≠ 0) : decLs (ps ++ [p]) = ([], (decM p).2) := by
  induction ps with
  | nil => exact decLs_cons_bad [] hp
  | cons q t ih =>
    obtain ⟨hq, ht⟩ := decLs_ok h
    have e := ih ht
    have e2 : (decLs (t ++ [p])).2 ≠ 0 := by rw [e]; simp only; exact hp
    rw [List.cons_append, decLs_cons_late hq e2, e]
/-- A fault that has come stays. -/
theorem decLs_stop (ps ts : List (List Nat)) (h : (decLs ps).2 ≠ 0) : decLs (ps ++ ts) = ([], (decLs ps).2) := by
  induction ps with
  | nil => exact absurd rfl h
  | cons q t ih =>
    by_cases hq : (decM q).2 = 0
    · by_cases ht : (decLs t).2 = 0
      · rw [decLs_cons_ok hq ht] at h; simp only at h; exact absurd rfl h
      · have e := ih ht
        have e2 : (decLs (t ++ ts)).2 ≠ 0 := by rw [e]; simp only; exact ht
        rw [List.cons_append, decLs_cons_late hq e2, decLs_cons_late hq ht, e]
    · rw [List.cons_append, decLs_cons_bad _ hq, decLs_cons_bad _ hq]
end Go.Proofs.Ytalgpbjonkcldaa
