/-
  Plain arithmetic of numbers of two words of 64 bits: shifts, lengths, division bit by bit. No Go text is looked at here.
-/
import Derived.Laws.Bits64b
import Derived.Lib.ItoaNum
namespace Go.Proofs.Yteljjjdejjkgfaa

def hi (r : Int) : Int := r / 18446744073709551616
def lo (r : Int) : Int := r % 18446744073709551616
def Word (x : Int) : Prop := 0 ≤ x ∧ x < 18446744073709551616
def Two (r : Int) : Prop := 0 ≤ r ∧ r < 340282366920938463463374607431768211456
theorem word_hi {r : Int} (h : Two r) : Word (hi r) := by obtain ⟨h1, h2⟩ := h; unfold hi; exact ⟨by omega, by omega⟩
theorem word_lo {r : Int} (_h : Two r) : Word (lo r) := by unfold lo; exact ⟨by omega, by omega⟩
theorem hi_mk {a b : Int} (hb : Word b) : hi (a * 18446744073709551616 + b) = a := by obtain ⟨h1, h2⟩ := hb; unfold hi; omega
theorem lo_mk {a b : Int} (hb : Word b) : lo (a * 18446744073709551616 + b) = b := by obtain ⟨h1, h2⟩ := hb; unfold lo; omega
theorem two_mk {a b : Int} (ha : Word a) (hb : Word b) : Two (a * 18446744073709551616 + b) := by obtain ⟨h1, h2⟩ := ha; obtain ⟨h3, h4⟩ := hb; exact ⟨by omega, by omega⟩
theorem hi_lo (r : Int) : hi r * 18446744073709551616 + lo r = r := by unfold hi lo; omega
theorem two_ext {r s : Int} (h1 : hi r = hi s) (h2 : lo r = lo s) : r = s := by rw [← hi_lo r, ← hi_lo s, h1, h2]
theorem two_mod (r : Int) : Two (r % 340282366920938463463374607431768211456) := ⟨by omega, by omega⟩

def shl (r n : Int) : Int := if n < 0 then r else r * 2 ^ n.toNat % 340282366920938463463374607431768211456
def shr (r n : Int) : Int := if n < 0 then r else r / 2 ^ n.toNat
theorem pow_pos' (k : Nat) : (0 : Int) < 2 ^ k := Int.pow_pos (by decide)
theorem two_shl {r : Int} (h : Two r) (n : Int) : Two (shl r n) := by
  unfold shl; split
  · exact h
  · exact two_mod _
theorem two_shr {r : Int} (h : Two r) (n : Int) : Two (shr r n) := by
  unfold shr; split
  · exact h
  · have := pow_pos' n.toNat
    exact ⟨Int.ediv_nonneg h.1 (Int.le_of_lt this), Int.lt_of_le_of_lt (Int.ediv_le_self _ h.1) h.2⟩

theorem nat_or_add (P Q A B k : Nat) (hP : P = 2 ^ k) (hPQ : P * Q = 18446744073709551616) (hB : B < P) :
    (A * P % 18446744073709551616) ||| B = A * P % 18446744073709551616 + B := by
  have e : A * P % 18446744073709551616 = 2 ^ k * (A % Q) := by rw [← hPQ, Nat.mul_comm P Q, Nat.mul_mod_mul_right, Nat.mul_comm, hP]
  rw [e]; exact (Nat.two_pow_add_eq_or_of_lt (by omega) _).symm

/-- The left shift's two words, as the code makes them. -/
theorem shl_mid (r : Int) (h : Two r) (k : Nat) (hk : k < 64) :
    bits .or .u64 (IntKind.u64.wrap (hi r * 2 ^ k)) (lo r / 2 ^ (64 - k)) = hi (shl r k) ∧ IntKind.u64.wrap (lo r * 2 ^ k) = lo (shl r k) := by
  have hp := hi_lo r
  obtain ⟨a0, a1⟩ := word_hi h
  obtain ⟨b0, b1⟩ := word_lo h
  generalize hi r = a at *
  generalize lo r = b at *
  subst hp
  obtain ⟨A, rfl⟩ := Int.eq_ofNat_of_zero_le a0
  obtain ⟨B, rfl⟩ := Int.eq_ofNat_of_zero_le b0
  have hPQ : 2 ^ k * 2 ^ (64 - k) = 18446744073709551616 := by rw [← Nat.pow_add, show k + (64 - k) = 64 by omega]
  have hsh : shl ((A : Int) * 18446744073709551616 + B) k = (((A * 18446744073709551616 + B) * 2 ^ k % 340282366920938463463374607431768211456 : Nat) : Int) := by
    unfold shl
    rw [if_neg (by omega)]
    simp
  rw [hsh, IntKind.wrap_u64, IntKind.wrap_u64]
  generalize hP : 2 ^ k = P at *
  generalize hQ : 2 ^ (64 - k) = Q at *
  have eP : ((2 : Int) ^ k) = (P : Int) := by rw [← hP]; simp
  have eQ : ((2 : Int) ^ (64 - k)) = (Q : Int) := by rw [← hQ]; simp
  rw [eP, eQ]
  have e1 : (A : Int) * P % 18446744073709551616 = ((A * P % 18446744073709551616 : Nat) : Int) := by simp
  have e2 : (B : Int) / Q = ((B / Q : Nat) : Int) := by simp
  have hQpos : 0 < Q := by rw [← hQ]; exact Nat.pow_pos (by decide)
  have hBQ : B / Q < P := by rw [Nat.div_lt_iff_lt_mul hQpos, hPQ]; omega
  have hPle : P ≤ 18446744073709551616 := by rw [← hPQ]; exact Nat.le_mul_of_pos_right _ hQpos
  rw [e1, e2, bits_or_u64_nat _ _ (by omega) (by omega), nat_or_add P Q A (B / Q) k hP.symm hPQ hBQ]
  have hBP : B * P / 18446744073709551616 = B / Q := by
    rw [← hPQ, Nat.mul_comm P Q]; exact Nat.mul_div_mul_right _ _ (by rw [← hP]; exact Nat.pow_pos (by decide))
  have hlt : A * P % 18446744073709551616 + B / Q < 18446744073709551616 := by
    have e : A * P % 18446744073709551616 = (A % Q) * P := by rw [← hPQ, Nat.mul_comm P Q, Nat.mul_mod_mul_right]
    have h1 : A % Q < Q := Nat.mod_lt _ hQpos
    have h2 : (A % Q + 1) * P ≤ Q * P := Nat.mul_le_mul_right _ h1
    rw [Nat.mul_comm Q P, hPQ, Nat.add_mul] at h2
    omega
  have hm : (A * 18446744073709551616 + B) * P = (A * P) * 18446744073709551616 + B * P := by rw [Nat.add_mul, Nat.mul_right_comm]
  have e3 : (B : Int) * P = ((B * P : Nat) : Int) := by simp
  rw [hm, e3]
  clear hsh
  generalize A * P = X at *
  generalize B * P = Y at *
  have h3 : (X * 18446744073709551616 + Y) % 340282366920938463463374607431768211456 / 18446744073709551616 = (X + Y / 18446744073709551616) % 18446744073709551616 := by omega
  refine ⟨?_, ?_⟩
  · unfold hi
    rw [show (((X * 18446744073709551616 + Y) % 340282366920938463463374607431768211456 : Nat) : Int) / 18446744073709551616 = (((X * 18446744073709551616 + Y) % 340282366920938463463374607431768211456 / 18446744073709551616 : Nat) : Int) by simp, h3, hBP]
    congr 1
    omega
  · unfold lo
    omega
theorem shl_big (r : Int) (h : Two r) (k : Nat) (hk : 64 ≤ k) :
    IntKind.u64.wrap (lo r * 2 ^ min (k - 64) 64) = hi (shl r k) ∧ 0 = lo (shl r k) := by
  have hp := hi_lo r
  obtain ⟨a0, a1⟩ := word_hi h
  obtain ⟨b0, b1⟩ := word_lo h
  generalize hi r = a at *
  generalize lo r = b at *
  subst hp
  obtain ⟨A, rfl⟩ := Int.eq_ofNat_of_zero_le a0
  obtain ⟨B, rfl⟩ := Int.eq_ofNat_of_zero_le b0
  have hsh : shl ((A : Int) * 18446744073709551616 + B) k = (((A * 18446744073709551616 + B) * 2 ^ k % 340282366920938463463374607431768211456 : Nat) : Int) := by
    unfold shl
    rw [if_neg (by omega)]
    simp
  have hk2 : 2 ^ k = 18446744073709551616 * 2 ^ (k - 64) := by
    rw [show (18446744073709551616 : Nat) = 2 ^ 64 by rfl, ← Nat.pow_add, show 64 + (k - 64) = k by omega]
  have hmin : (B * 2 ^ min (k - 64) 64) % 18446744073709551616 = (B * 2 ^ (k - 64)) % 18446744073709551616 := by
    by_cases hc : k - 64 ≤ 64
    · rw [Nat.min_eq_left hc]
    · rw [Nat.min_eq_right (by omega)]
      have : 2 ^ (k - 64) = 2 ^ (k - 128) * 18446744073709551616 := by
        rw [show (18446744073709551616 : Nat) = 2 ^ 64 by rfl, ← Nat.pow_add, show k - 128 + 64 = k - 64 by omega]
      rw [this, ← Nat.mul_assoc]
      simp
  have e1 : (B : Int) * 2 ^ min (k - 64) 64 = ((B * 2 ^ min (k - 64) 64 : Nat) : Int) := by simp
  rw [hsh, IntKind.wrap_u64, e1, hk2]
  generalize hY : B * 2 ^ min (k - 64) 64 = Y at *
  generalize hP : 2 ^ (k - 64) = P at *
  have hm : (A * 18446744073709551616 + B) * (18446744073709551616 * P) = (A * P) * 340282366920938463463374607431768211456 + (B * P) * 18446744073709551616 := by
    rw [Nat.add_mul]
    congr 1
    · rw [show A * 18446744073709551616 * (18446744073709551616 * P) = (A * P) * (18446744073709551616 * 18446744073709551616) by
        simp only [Nat.mul_assoc, Nat.mul_comm, Nat.mul_left_comm]]
    · simp only [Nat.mul_assoc, Nat.mul_comm]
  rw [hm]
  generalize A * P = X at *
  generalize B * P = Z at *
  unfold hi lo
  omega
theorem shr_mid (r : Int) (h : Two r) (k : Nat) (hk : k < 64) :
    bits .or .u64 (lo r / 2 ^ k) (IntKind.u64.wrap (hi r * 2 ^ (64 - k))) = lo (shr r k) ∧ hi r / 2 ^ k = hi (shr r k) := by
  have hp := hi_lo r
  obtain ⟨a0, a1⟩ := word_hi h
  obtain ⟨b0, b1⟩ := word_lo h
  generalize hi r = a at *
  generalize lo r = b at *
  subst hp
  obtain ⟨A, rfl⟩ := Int.eq_ofNat_of_zero_le a0
  obtain ⟨B, rfl⟩ := Int.eq_ofNat_of_zero_le b0
  have hPQ : 2 ^ k * 2 ^ (64 - k) = 18446744073709551616 := by rw [← Nat.pow_add, show k + (64 - k) = 64 by omega]
  have hsh : shr ((A : Int) * 18446744073709551616 + B) k = (((A * 18446744073709551616 + B) / 2 ^ k : Nat) : Int) := by
    unfold shr
    rw [if_neg (by omega)]
    simp
  rw [hsh, IntKind.wrap_u64]
  generalize hP : 2 ^ k = P at *
  generalize hQ : 2 ^ (64 - k) = Q at *
  have eP : ((2 : Int) ^ k) = (P : Int) := by rw [← hP]; simp
  have eQ : ((2 : Int) ^ (64 - k)) = (Q : Int) := by rw [← hQ]; simp
  rw [eP, eQ]
  have hPpos : 0 < P := by rw [← hP]; exact Nat.pow_pos (by decide)
  have hQpos : 0 < Q := by rw [← hQ]; exact Nat.pow_pos (by decide)
  have e1 : (A : Int) * Q % 18446744073709551616 = ((A * Q % 18446744073709551616 : Nat) : Int) := by simp
  have e2 : (B : Int) / P = ((B / P : Nat) : Int) := by simp
  have hBP : B / P < Q := by rw [Nat.div_lt_iff_lt_mul hPpos, Nat.mul_comm, hPQ]; omega
  have hQle : Q ≤ 18446744073709551616 := by rw [← hPQ]; exact Nat.le_mul_of_pos_left _ hPpos
  rw [e1, e2, bits_or_u64_nat _ _ (by omega) (by omega), Nat.or_comm, nat_or_add Q P A (B / P) (64 - k) hQ.symm (by rw [Nat.mul_comm]; exact hPQ) hBP]
  have hlt : A * Q % 18446744073709551616 + B / P < 18446744073709551616 := by
    have e : A * Q % 18446744073709551616 = (A % P) * Q := by rw [← hPQ, Nat.mul_mod_mul_right]
    have h1 : A % P < P := Nat.mod_lt _ hPpos
    have h2 : (A % P + 1) * Q ≤ P * Q := Nat.mul_le_mul_right _ h1
    rw [hPQ, Nat.add_mul] at h2
    omega
  have hdiv : (A * 18446744073709551616 + B) / P = A * Q + B / P := by
    rw [← hPQ, show A * (P * Q) + B = B + P * (A * Q) by rw [Nat.mul_left_comm]; omega, Nat.add_mul_div_left _ _ hPpos]; omega
  have hAP : A * Q / 18446744073709551616 = A / P := by rw [← hPQ]; exact Nat.mul_div_mul_right _ _ hQpos
  rw [hdiv]
  have e3 : (A : Int) / P = ((A / P : Nat) : Int) := by simp
  rw [e3, ← hAP]
  clear hsh e2
  generalize A * Q = X at *
  generalize B / P = Z at *
  unfold hi lo
  omega
theorem shr_big (r : Int) (h : Two r) (k : Nat) (hk : 64 ≤ k) :
    hi r / 2 ^ (k - 64) = lo (shr r k) ∧ 0 = hi (shr r k) := by
  have hp := hi_lo r
  obtain ⟨a0, a1⟩ := word_hi h
  obtain ⟨b0, b1⟩ := word_lo h
  generalize hi r = a at *
  generalize lo r = b at *
  subst hp
  obtain ⟨A, rfl⟩ := Int.eq_ofNat_of_zero_le a0
  obtain ⟨B, rfl⟩ := Int.eq_ofNat_of_zero_le b0
  have hsh : shr ((A : Int) * 18446744073709551616 + B) k = (((A * 18446744073709551616 + B) / 2 ^ k : Nat) : Int) := by
    unfold shr
    rw [if_neg (by omega)]
    simp
  have hk2 : 2 ^ k = 18446744073709551616 * 2 ^ (k - 64) := by
    rw [show (18446744073709551616 : Nat) = 2 ^ 64 by rfl, ← Nat.pow_add, show 64 + (k - 64) = k by omega]
  have hd : (A * 18446744073709551616 + B) / 2 ^ k = A / 2 ^ (k - 64) := by
    rw [hk2, ← Nat.div_div_eq_div_mul]; congr 1; omega
  have e3 : (A : Int) / 2 ^ (k - 64) = ((A / 2 ^ (k - 64) : Nat) : Int) := by simp
  have hle : A / 2 ^ (k - 64) ≤ A := Nat.div_le_self _ _
  rw [hsh, hd, e3]
  generalize A / 2 ^ (k - 64) = Z at *
  unfold hi lo
  omega
theorem min_div (a : Int) (h : Word a) (k : Nat) : a / 2 ^ min k 64 = a / 2 ^ k := by
  by_cases hc : k ≤ 64
  · rw [Nat.min_eq_left hc]
  · rw [Nat.min_eq_right (by omega)]
    obtain ⟨h0, h1⟩ := h
    obtain ⟨A, rfl⟩ := Int.eq_ofNat_of_zero_le h0
    have e1 : A / 2 ^ 64 = 0 := Nat.div_eq_of_lt (by omega)
    have e2 : A / 2 ^ k = 0 := Nat.div_eq_of_lt (Nat.lt_of_lt_of_le (show A < 2 ^ 64 by omega) (Nat.pow_le_pow_right (by decide) (by omega)))
    have f1 : (A : Int) / 2 ^ 64 = ((A / 2 ^ 64 : Nat) : Int) := by simp
    have f2 : (A : Int) / 2 ^ k = ((A / 2 ^ k : Nat) : Int) := by simp
    rw [f1, f2, e1, e2]

/-- How many bits a number has. -/
def len2 (r : Int) : Int := if hi r = 0 then (Lib.bitLen (lo r).toNat : Int) else 64 + (Lib.bitLen (hi r).toNat : Int)
theorem bitLen_lt (x : Nat) (h : x < 18446744073709551616) : x < 2 ^ Lib.bitLen x ∧ (x ≠ 0 → 2 ^ (Lib.bitLen x - 1) ≤ x ∧ 1 ≤ Lib.bitLen x) ∧ (x = 0 → Lib.bitLen x = 0) := by
  by_cases h0 : x = 0
  · subst h0
    have : Lib.bitLen 0 = 0 := Lib.bitLenAux_zero 64
    rw [this]; simp
  · have := Lib.bitLenAux_bounds 64 x h h0
    exact ⟨this.2.2, fun _ => ⟨this.2.1, this.1⟩, fun e => absurd e h0⟩
theorem and_one (a : Int) (h : Word a) : bits .and .u64 a 1 = a % 2 := by
  obtain ⟨h0, h1⟩ := h
  obtain ⟨A, rfl⟩ := Int.eq_ofNat_of_zero_le h0
  have := bits_and_u64_nat A 1 (by omega) (by decide)
  simp only [Nat.and_one_is_mod] at this
  exact this
theorem or_bit (R b : Int) (h : Word R) (hb0 : 0 ≤ b) (hb1 : b ≤ 1) : bits .or .u64 (IntKind.u64.wrap (R * 2)) b = (R * 2 + b) % 18446744073709551616 := by
  obtain ⟨h0, h1⟩ := h
  obtain ⟨A, rfl⟩ := Int.eq_ofNat_of_zero_le h0
  obtain ⟨B, rfl⟩ := Int.eq_ofNat_of_zero_le hb0
  rw [IntKind.wrap_u64]
  have e1 : (A : Int) * 2 % 18446744073709551616 = ((A * 2 % 18446744073709551616 : Nat) : Int) := by simp
  rw [e1, bits_or_u64_nat _ _ (by omega) (by omega), nat_or_add 2 9223372036854775808 A B 1 rfl (by decide) (by omega)]
  omega
theorem or_one (a : Int) (h : Word a) (he : a % 2 = 0) : bits .or .u64 a 1 = a + 1 := by
  obtain ⟨h0, h1⟩ := h
  have := or_bit (a / 2) 1 ⟨by omega, by omega⟩ (by decide) (by decide)
  have e : IntKind.u64.wrap (a / 2 * 2) = a := by rw [IntKind.wrap_u64]; omega
  rw [e] at this
  rw [this]; omega
theorem len2_spec (r : Int) (h : Two r) : ∃ L : Nat, len2 r = L ∧ L ≤ 128 ∧ r / 2 ^ L = 0 ∧ (r ≠ 0 → 1 ≤ L ∧ 1 ≤ r / 2 ^ (L - 1)) ∧ (r = 0 → L = 0) := by
  have hp := hi_lo r
  obtain ⟨a0, a1⟩ := word_hi h
  obtain ⟨b0, b1⟩ := word_lo h
  unfold len2
  generalize hi r = a at *
  generalize lo r = b at *
  subst hp
  obtain ⟨A, rfl⟩ := Int.eq_ofNat_of_zero_le a0
  obtain ⟨B, rfl⟩ := Int.eq_ofNat_of_zero_le b0
  obtain ⟨hA1, hA2, hA3⟩ := bitLen_lt A (by omega)
  obtain ⟨hB1, hB2, hB3⟩ := bitLen_lt B (by omega)
  have lA := Lib.bitLen_le A 64 (by omega) (by omega)
  have lB := Lib.bitLen_le B 64 (by omega) (by omega)
  simp only [Int.toNat_natCast]
  have cast : ∀ k : Nat, ((A : Int) * 18446744073709551616 + B) / 2 ^ k = (((A * 18446744073709551616 + B) / 2 ^ k : Nat) : Int) := fun k => by simp
  simp only [cast]
  by_cases h0 : A = 0
  · subst h0
    refine ⟨Lib.bitLen B, by simp, by omega, ?_, ?_, ?_⟩
    · rw [Nat.div_eq_of_lt (by simpa using hB1)]; rfl
    · intro hne
      have hBne : B ≠ 0 := by omega
      refine ⟨(hB2 hBne).2, ?_⟩
      have : 1 ≤ (0 * 18446744073709551616 + B) / 2 ^ (Lib.bitLen B - 1) := by
        rw [Nat.le_div_iff_mul_le (Nat.pow_pos (by decide))]; have := (hB2 hBne).1; omega
      omega
    · intro he
      exact hB3 (by omega)
  · refine ⟨64 + Lib.bitLen A, by rw [if_neg (by omega)]; simp, by omega, ?_, ?_, ?_⟩
    · rw [Nat.div_eq_of_lt]; rfl
      rw [Nat.pow_add, show (2 : Nat) ^ 64 = 18446744073709551616 by rfl]
      have : (A + 1) * 18446744073709551616 ≤ 2 ^ Lib.bitLen A * 18446744073709551616 := Nat.mul_le_mul_right _ hA1
      rw [Nat.mul_comm 18446744073709551616]
      omega
    · intro _
      refine ⟨by omega, ?_⟩
      have h3 := hA2 h0
      have : 1 ≤ (A * 18446744073709551616 + B) / 2 ^ (64 + Lib.bitLen A - 1) := by
        rw [Nat.le_div_iff_mul_le (Nat.pow_pos (by decide)), show 64 + Lib.bitLen A - 1 = 64 + (Lib.bitLen A - 1) by omega, Nat.pow_add, show (2 : Nat) ^ 64 = 18446744073709551616 by rfl]
        have := Nat.mul_le_mul_left 18446744073709551616 h3.1
        omega
      omega
    · intro he; omega

/-! Division bit by bit: what one round does. -/
theorem step_bit (r : Int) (h : Two r) (j : Nat) : r / 2 ^ j = 2 * (r / 2 ^ (j + 1)) + lo (shr r j) % 2 := by
  obtain ⟨h0, h1⟩ := h
  obtain ⟨V, rfl⟩ := Int.eq_ofNat_of_zero_le h0
  unfold shr lo
  rw [if_neg (by omega)]
  simp only [Int.toNat_natCast]
  have e1 : (V : Int) / 2 ^ j = ((V / 2 ^ j : Nat) : Int) := by simp
  have e2 : (V : Int) / 2 ^ (j + 1) = ((V / 2 ^ (j + 1) : Nat) : Int) := by simp
  rw [e1, e2, Nat.pow_succ, ← Nat.div_div_eq_div_mul]
  omega
theorem div_nn (r : Int) (h : Two r) (j : Nat) : 0 ≤ r / 2 ^ j ∧ r / 2 ^ j ≤ r := ⟨Int.ediv_nonneg h.1 (Int.le_of_lt (pow_pos' j)), Int.ediv_le_self _ h.1⟩
theorem step_div (T T' d b : Int) (hd : 0 < d) (hT : T' = 2 * T + b) (_hb0 : 0 ≤ b) (_hb1 : b ≤ 1) :
    (2 * (T % d) + b < d → T' % d = 2 * (T % d) + b ∧ T' / d = 2 * (T / d)) ∧ (d ≤ 2 * (T % d) + b → T' % d = 2 * (T % d) + b - d ∧ T' / d = 2 * (T / d) + 1) := by
  have e := Int.mul_ediv_add_emod T d
  have m0 := Int.emod_nonneg T (show d ≠ 0 by omega)
  have m1 := Int.emod_lt_of_pos T hd
  generalize T % d = R at *
  generalize T / d = Q at *
  constructor
  · intro hlt
    have h2 : T' = (2 * R + b) + d * (2 * Q) := by rw [hT, ← e, Int.mul_add, show d * (2 * Q) = 2 * (d * Q) by rw [Int.mul_left_comm]]; omega
    rw [h2]
    exact ⟨by rw [Int.add_mul_emod_self_left]; exact Int.emod_eq_of_lt (by omega) hlt, by rw [Int.add_mul_ediv_left _ _ (by omega), Int.ediv_eq_zero_of_lt (by omega) hlt]; omega⟩
  · intro hge
    have h2 : T' = (2 * R + b - d) + d * (2 * Q + 1) := by rw [hT, ← e, Int.mul_add, Int.mul_add, show d * (2 * Q) = 2 * (d * Q) by rw [Int.mul_left_comm]]; omega
    rw [h2]
    exact ⟨by rw [Int.add_mul_emod_self_left]; exact Int.emod_eq_of_lt (by omega) (by omega), by rw [Int.add_mul_ediv_left _ _ (by omega), Int.ediv_eq_zero_of_lt (by omega) (by omega)]; omega⟩
theorem shl_one (Q : Int) (h0 : 0 ≤ Q) (h : 2 * Q < 340282366920938463463374607431768211456) : shl Q 1 = 2 * Q := by
  unfold shl
  rw [if_neg (by decide)]
  simp
  omega
theorem hi_odd (Q : Int) : hi (2 * Q + 1) = hi (2 * Q) ∧ lo (2 * Q + 1) = lo (2 * Q) + 1 ∧ lo (2 * Q) % 2 = 0 := by
  unfold hi lo; omega
end Go.Proofs.Yteljjjdejjkgfaa
