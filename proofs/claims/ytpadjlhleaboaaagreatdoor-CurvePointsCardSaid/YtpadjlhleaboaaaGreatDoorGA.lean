/-
  Plain arithmetic of numbers of two words of 64 bits: shifts, lengths, division bit by bit. No Go text is looked at here.
  A row's last step where of the world behind the call is known that nothing that was there before has changed.
  A number that an int64 holds. (Of XFixA, which a cut without package fix cannot fill.)
  Blocks of memory that are known whole, and what keeps them so. No Go text is looked at here.
  Slices of bytes: as a reader sees them (Bt), as their one owner does (Ow); what turns nothing but given blocks (Frm); append to what is owned.
-/
import Derived.Laws.Bits64b
import Derived.Lib.ItoaNum
import Derived.Below
import Derived.ChangeSame
import Derived.WalkKit
import Derived.Laws.OwnMore
import Derived.Laws.Rows
import Derived.Laws.Tables
import Derived.Deep.WholeRow
import Derived.Test.YtpadjlhleaboaaaGreatDoorProg
import Derived.Laws.AppendOwn
import Derived.Laws.AppendOwnNone
import Derived.Laws.BytesString
import Derived.Deep.RegionLaw
import Derived.Deep.MidRow
namespace Go.Proofs.YtpadjlhleaboaaaGreatDoor

def hi (r : Int) : Int := r / 18446744073709551616
def lo (r : Int) : Int := r % 18446744073709551616
def Word (x : Int) : Prop := 0 ≤ x ∧ x < 18446744073709551616
def Two (r : Int) : Prop := 0 ≤ r ∧ r < 340282366920938463463374607431768211456
theorem word_hi {r : Int} (h : Two r) : Word (hi r) := by obtain ⟨h1, h2⟩ := h; unfold hi; exact ⟨by omega, by omega⟩
theorem word_lo {r : Int} (_h : Two r) : Word (lo r) := by unfold lo; exact ⟨by omega, by omega⟩
theorem hi_mk {a b : Int} (hb : Word b) : hi (a * 18446744073709551616 + b) = a := by obtain ⟨h1, h2⟩ := hb; unfold hi; omega
theorem lo_mk {a b : Int} (hb : Word b) : lo (a * 18446744073709551616 + b) = b := by obtain ⟨h1, h2⟩ := hb; unfold lo; omega
theorem two_mk {a b : Int} (ha : Word a) (hb : Word b) : Two (a * 18446744073709551616 + b) := by obtain ⟨h1, h2⟩ := ha; obtain ⟨h3, h4⟩ := hb; exact ⟨by omega, by omega⟩
theorem hi_lo (r : Int) : hi r * 18446744073709551616 + lo r = r := by unfold hi lo; omega
theorem two_ext {r s : Int} (h1 : hi r = hi s) (h2 : lo r = lo s) : r = s := by rw [← hi_lo r, ← hi_lo s, h1, h2]
theorem two_mod (r : Int) : Two (r % 340282366920938463463374607431768211456) := ⟨by omega, by omega⟩

def shl (r n : Int) : Int := if n < 0 then r else r * 2 ^ n.toNat % 340282366920938463463374607431768211456
def shr (r n : Int) : Int := if n < 0 then r else r / 2 ^ n.toNat
theorem pow_pos' (k : Nat) : (0 : Int) < 2 ^ k := Int.pow_pos (by decide)
theorem two_shl {r : Int} (h : Two r) (n : Int) : Two (shl r n) := by
  unfold shl; split
  · exact h
  · exact two_mod _
theorem two_shr {r : Int} (h : Two r) (n : Int) : Two (shr r n) := by
  unfold shr; split
  · exact h
  · have := pow_pos' n.toNat
    exact ⟨Int.ediv_nonneg h.1 (Int.le_of_lt this), Int.lt_of_le_of_lt (Int.ediv_le_self _ h.1) h.2⟩

theorem nat_or_add (P Q A B k : Nat) (hP : P = 2 ^ k) (hPQ : P * Q = 18446744073709551616) (hB : B < P) :
    (A * P % 18446744073709551616) ||| B = A * P % 18446744073709551616 + B := by
  have e : A * P % 18446744073709551616 = 2 ^ k * (A % Q) := by rw [← hPQ, Nat.mul_comm P Q, Nat.mul_mod_mul_right, Nat.mul_comm, hP]
  rw [e]; exact (Nat.two_pow_add_eq_or_of_lt (by omega) _).symm

/-- The left shift's two words, as the code makes them. -/
theorem shl_mid (r : Int) (h : Two r) (k : Nat) (hk : k < 64) :
    bits .or .u64 (IntKind.u64.wrap (hi r * 2 ^ k)) (lo r / 2 ^ (64 - k)) = hi (shl r k) ∧ IntKind.u64.wrap (lo r * 2 ^ k) = lo (shl r k) := by
  have hp := hi_lo r
  obtain ⟨a0, a1⟩ := word_hi h
  obtain ⟨b0, b1⟩ := word_lo h
  generalize hi r = a at *
  generalize lo r = b at *
  subst hp
  obtain ⟨A, rfl⟩ := Int.eq_ofNat_of_zero_le a0
  obtain ⟨B, rfl⟩ := Int.eq_ofNat_of_zero_le b0
  have hPQ : 2 ^ k * 2 ^ (64 - k) = 18446744073709551616 := by rw [← Nat.pow_add, show k + (64 - k) = 64 by omega]
  have hsh : shl ((A : Int) * 18446744073709551616 + B) k = (((A * 18446744073709551616 + B) * 2 ^ k % 340282366920938463463374607431768211456 : Nat) : Int) := by
    unfold shl
    rw [if_neg (by omega)]
    simp
  rw [hsh, IntKind.wrap_u64, IntKind.wrap_u64]
  generalize hP : 2 ^ k = P at *
  generalize hQ : 2 ^ (64 - k) = Q at *
  have eP : ((2 : Int) ^ k) = (P : Int) := by rw [← hP]; simp
  have eQ : ((2 : Int) ^ (64 - k)) = (Q : Int) := by rw [← hQ]; simp
  rw [eP, eQ]
  have e1 : (A : Int) * P % 18446744073709551616 = ((A * P % 18446744073709551616 : Nat) : Int) := by simp
  have e2 : (B : Int) / Q = ((B / Q : Nat) : Int) := by simp
  have hQpos : 0 < Q := by rw [← hQ]; exact Nat.pow_pos (by decide)
  have hBQ : B / Q < P := by rw [Nat.div_lt_iff_lt_mul hQpos, hPQ]; omega
  have hPle : P ≤ 18446744073709551616 := by rw [← hPQ]; exact Nat.le_mul_of_pos_right _ hQpos
  rw [e1, e2, bits_or_u64_nat _ _ (by omega) (by omega), nat_or_add P Q A (B / Q) k hP.symm hPQ hBQ]
  have hBP : B * P / 18446744073709551616 = B / Q := by
    rw [← hPQ, Nat.mul_comm P Q]; exact Nat.mul_div_mul_right _ _ (by rw [← hP]; exact Nat.pow_pos (by decide))
  have hlt : A * P % 18446744073709551616 + B / Q < 18446744073709551616 := by
    have e : A * P % 18446744073709551616 = (A % Q) * P := by rw [← hPQ, Nat.mul_comm P Q, Nat.mul_mod_mul_right]
    have h1 : A % Q < Q := Nat.mod_lt _ hQpos
    have h2 : (A % Q + 1) * P ≤ Q * P := Nat.mul_le_mul_right _ h1
    rw [Nat.mul_comm Q P, hPQ, Nat.add_mul] at h2
    omega
  have hm : (A * 18446744073709551616 + B) * P = (A * P) * 18446744073709551616 + B * P := by rw [Nat.add_mul, Nat.mul_right_comm]
  have e3 : (B : Int) * P = ((B * P : Nat) : Int) := by simp
  rw [hm, e3]
  clear hsh
  generalize A * P = X at *
  generalize B * P = Y at *
  have h3 : (X * 18446744073709551616 + Y) % 340282366920938463463374607431768211456 / 18446744073709551616 = (X + Y / 18446744073709551616) % 18446744073709551616 := by omega
  refine ⟨?_, ?_⟩
  · unfold hi
    rw [show (((X * 18446744073709551616 + Y) % 340282366920938463463374607431768211456 : Nat) : Int) / 18446744073709551616 = (((X * 18446744073709551616 + Y) % 340282366920938463463374607431768211456 / 18446744073709551616 : Nat) : Int) by simp, h3, hBP]
    congr 1
    omega
  · unfold lo
    omega
theorem shl_big (r : Int) (h : Two r) (k : Nat) (hk : 64 ≤ k) :
    IntKind.u64.wrap (lo r * 2 ^ min (k - 64) 64) = hi (shl r k) ∧ 0 = lo (shl r k) := by
  have hp := hi_lo r
  obtain ⟨a0, a1⟩ := word_hi h
  obtain ⟨b0, b1⟩ := word_lo h
  generalize hi r = a at *
  generalize lo r = b at *
  subst hp
  obtain ⟨A, rfl⟩ := Int.eq_ofNat_of_zero_le a0
  obtain ⟨B, rfl⟩ := Int.eq_ofNat_of_zero_le b0
  have hsh : shl ((A : Int) * 18446744073709551616 + B) k = (((A * 18446744073709551616 + B) * 2 ^ k % 340282366920938463463374607431768211456 : Nat) : Int) := by
    unfold shl
    rw [if_neg (by omega)]
    simp
  have hk2 : 2 ^ k = 18446744073709551616 * 2 ^ (k - 64) := by
    rw [show (18446744073709551616 : Nat) = 2 ^ 64 by rfl, ← Nat.pow_add, show 64 + (k - 64) = k by omega]
  have hmin : (B * 2 ^ min (k - 64) 64) % 18446744073709551616 = (B * 2 ^ (k - 64)) % 18446744073709551616 := by
    by_cases hc : k - 64 ≤ 64
    · rw [Nat.min_eq_left hc]
    · rw [Nat.min_eq_right (by omega)]
      have : 2 ^ (k - 64) = 2 ^ (k - 128) * 18446744073709551616 := by
        rw [show (18446744073709551616 : Nat) = 2 ^ 64 by rfl, ← Nat.pow_add, show k - 128 + 64 = k - 64 by omega]
      rw [this, ← Nat.mul_assoc]
      simp
  have e1 : (B : Int) * 2 ^ min (k - 64) 64 = ((B * 2 ^ min (k - 64) 64 : Nat) : Int) := by simp
  rw [hsh, IntKind.wrap_u64, e1, hk2]
  generalize hY : B * 2 ^ min (k - 64) 64 = Y at *
  generalize hP : 2 ^ (k - 64) = P at *
  have hm : (A * 18446744073709551616 + B) * (18446744073709551616 * P) = (A * P) * 340282366920938463463374607431768211456 + (B * P) * 18446744073709551616 := by
    rw [Nat.add_mul]
    congr 1
    · rw [show A * 18446744073709551616 * (18446744073709551616 * P) = (A * P) * (18446744073709551616 * 18446744073709551616) by
        simp only [Nat.mul_assoc, Nat.mul_comm, Nat.mul_left_comm]]
    · simp only [Nat.mul_assoc, Nat.mul_comm]
  rw [hm]
  generalize A * P = X at *
  generalize B * P = Z at *
  unfold hi lo
  omega
theorem shr_mid (r : Int) (h : Two r) (k : Nat) (hk : k < 64) :
    bits .or .u64 (lo r / 2 ^ k) (IntKind.u64.wrap (hi r * 2 ^ (64 - k))) = lo (shr r k) ∧ hi r / 2 ^ k = hi (shr r k) := by
  have hp := hi_lo r
  obtain ⟨a0, a1⟩ := word_hi h
  obtain ⟨b0, b1⟩ := word_lo h
  generalize hi r = a at *
  generalize lo r = b at *
  subst hp
  obtain ⟨A, rfl⟩ := Int.eq_ofNat_of_zero_le a0
  obtain ⟨B, rfl⟩ := Int.eq_ofNat_of_zero_le b0
  have hPQ : 2 ^ k * 2 ^ (64 - k) = 18446744073709551616 := by rw [← Nat.pow_add, show k + (64 - k) = 64 by omega]
  have hsh : shr ((A : Int) * 18446744073709551616 + B) k = (((A * 18446744073709551616 + B) / 2 ^ k : Nat) : Int) := by
    unfold shr
    rw [if_neg (by omega)]
    simp
  rw [hsh, IntKind.wrap_u64]
  generalize hP : 2 ^ k = P at *
  generalize hQ : 2 ^ (64 - k) = Q at *
  have eP : ((2 : Int) ^ k) = (P : Int) := by rw [← hP]; simp
  have eQ : ((2 : Int) ^ (64 - k)) = (Q : Int) := by rw [← hQ]; simp
  rw [eP, eQ]
  have hPpos : 0 < P := by rw [← hP]; exact Nat.pow_pos (by decide)
  have hQpos : 0 < Q := by rw [← hQ]; exact Nat.pow_pos (by decide)
  have e1 : (A : Int) * Q % 18446744073709551616 = ((A * Q % 18446744073709551616 : Nat) : Int) := by simp
  have e2 : (B : Int) / P = ((B / P : Nat) : Int) := by simp
  have hBP : B / P < Q := by rw [Nat.div_lt_iff_lt_mul hPpos, Nat.mul_comm, hPQ]; omega
  have hQle : Q ≤ 18446744073709551616 := by rw [← hPQ]; exact Nat.le_mul_of_pos_left _ hPpos
  rw [e1, e2, bits_or_u64_nat _ _ (by omega) (by omega), Nat.or_comm, nat_or_add Q P A (B / P) (64 - k) hQ.symm (by rw [Nat.mul_comm]; exact hPQ) hBP]
  have hlt : A * Q % 18446744073709551616 + B / P < 18446744073709551616 := by
    have e : A * Q % 18446744073709551616 = (A % P) * Q := by rw [← hPQ, Nat.mul_mod_mul_right]
    have h1 : A % P < P := Nat.mod_lt _ hPpos
    have h2 : (A % P + 1) * Q ≤ P * Q := Nat.mul_le_mul_right _ h1
    rw [hPQ, Nat.add_mul] at h2
    omega
  have hdiv : (A * 18446744073709551616 + B) / P = A * Q + B / P := by
    rw [← hPQ, show A * (P * Q) + B = B + P * (A * Q) by rw [Nat.mul_left_comm]; omega, Nat.add_mul_div_left _ _ hPpos]; omega
  have hAP : A * Q / 18446744073709551616 = A / P := by rw [← hPQ]; exact Nat.mul_div_mul_right _ _ hQpos
  rw [hdiv]
  have e3 : (A : Int) / P = ((A / P : Nat) : Int) := by simp
  rw [e3, ← hAP]
  clear hsh e2
  generalize A * Q = X at *
  generalize B / P = Z at *
  unfold hi lo
  omega
theorem shr_big (r : Int) (h : Two r) (k : Nat) (hk : 64 ≤ k) :
    hi r / 2 ^ (k - 64) = lo (shr r k) ∧ 0 = hi (shr r k) := by
  have hp := hi_lo r
  obtain ⟨a0, a1⟩ := word_hi h
  obtain ⟨b0, b1⟩ := word_lo h
  generalize hi r = a at *
  generalize lo r = b at *
  subst hp
  obtain ⟨A, rfl⟩ := Int.eq_ofNat_of_zero_le a0
  obtain ⟨B, rfl⟩ := Int.eq_ofNat_of_zero_le b0
  have hsh : shr ((A : Int) * 18446744073709551616 + B) k = (((A * 18446744073709551616 + B) / 2 ^ k : Nat) : Int) := by
    unfold shr
    rw [if_neg (by omega)]
    simp
  have hk2 : 2 ^ k = 18446744073709551616 * 2 ^ (k - 64) := by
    rw [show (18446744073709551616 : Nat) = 2 ^ 64 by rfl, ← Nat.pow_add, show 64 + (k - 64) = k by omega]
  have hd : (A * 18446744073709551616 + B) / 2 ^ k = A / 2 ^ (k - 64) := by
    rw [hk2, ← Nat.div_div_eq_div_mul]; congr 1; omega
  have e3 : (A : Int) / 2 ^ (k - 64) = ((A / 2 ^ (k - 64) : Nat) : Int) := by simp
  have hle : A / 2 ^ (k - 64) ≤ A := Nat.div_le_self _ _
  rw [hsh, hd, e3]
  generalize A / 2 ^ (k - 64) = Z at *
  unfold hi lo
  omega
theorem min_div (a : Int) (h : Word a) (k : Nat) : a / 2 ^ min k 64 = a / 2 ^ k := by
  by_cases hc : k ≤ 64
  · rw [Nat.min_eq_left hc]
  · rw [Nat.min_eq_right (by omega)]
    obtain ⟨h0, h1⟩ := h
    obtain ⟨A, rfl⟩ := Int.eq_ofNat_of_zero_le h0
    have e1 : A / 2 ^ 64 = 0 := Nat.div_eq_of_lt (by omega)
    have e2 : A / 2 ^ k = 0 := Nat.div_eq_of_lt (Nat.lt_of_lt_of_le (show A < 2 ^ 64 by omega) (Nat.pow_le_pow_right (by decide) (by omega)))
    have f1 : (A : Int) / 2 ^ 64 = ((A / 2 ^ 64 : Nat) : Int) := by simp
    have f2 : (A : Int) / 2 ^ k = ((A / 2 ^ k : Nat) : Int) := by simp
    rw [f1, f2, e1, e2]

/-- How many bits a number has. -/
def len2 (r : Int) : Int := if hi r = 0 then (Lib.bitLen (lo r).toNat : Int) else 64 + (Lib.bitLen (hi r).toNat : Int)
theorem bitLen_lt (x : Nat) (h : x < 18446744073709551616) : x < 2 ^ Lib.bitLen x ∧ (x ≠ 0 → 2 ^ (Lib.bitLen x - 1) ≤ x ∧ 1 ≤ Lib.bitLen x) ∧ (x = 0 → Lib.bitLen x = 0) := by
  by_cases h0 : x = 0
  · subst h0
    have : Lib.bitLen 0 = 0 := Lib.bitLenAux_zero 64
    rw [this]; simp
  · have := Lib.bitLenAux_bounds 64 x h h0
    exact ⟨this.2.2, fun _ => ⟨this.2.1, this.1⟩, fun e => absurd e h0⟩
theorem and_one (a : Int) (h : Word a) : bits .and .u64 a 1 = a % 2 := by
  obtain ⟨h0, h1⟩ := h
  obtain ⟨A, rfl⟩ := Int.eq_ofNat_of_zero_le h0
  have := bits_and_u64_nat A 1 (by omega) (by decide)
  simp only [Nat.and_one_is_mod] at this
  exact this
theorem or_bit (R b : Int) (h : Word R) (hb0 : 0 ≤ b) (hb1 : b ≤ 1) : bits .or .u64 (IntKind.u64.wrap (R * 2)) b = (R * 2 + b) % 18446744073709551616 := by
  obtain ⟨h0, h1⟩ := h
  obtain ⟨A, rfl⟩ := Int.eq_ofNat_of_zero_le h0
  obtain ⟨B, rfl⟩ := Int.eq_ofNat_of_zero_le hb0
  rw [IntKind.wrap_u64]
  have e1 : (A : Int) * 2 % 18446744073709551616 = ((A * 2 % 18446744073709551616 : Nat) : Int) := by simp
  rw [e1, bits_or_u64_nat _ _ (by omega) (by omega), nat_or_add 2 9223372036854775808 A B 1 rfl (by decide) (by omega)]
  omega
theorem or_one (a : Int) (h : Word a) (he : a % 2 = 0) : bits .or .u64 a 1 = a + 1 := by
  obtain ⟨h0, h1⟩ := h
  have := or_bit (a / 2) 1 ⟨by omega, by omega⟩ (by decide) (by decide)
  have e : IntKind.u64.wrap (a / 2 * 2) = a := by rw [IntKind.wrap_u64]; omega
  rw [e] at this
  rw [this]; omega
theorem len2_spec (r : Int) (h : Two r) : ∃ L : Nat, len2 r = L ∧ L ≤ 128 ∧ r / 2 ^ L = 0 ∧ (r ≠ 0 → 1 ≤ L ∧ 1 ≤ r / 2 ^ (L - 1)) ∧ (r = 0 → L = 0) := by
  have hp := hi_lo r
  obtain ⟨a0, a1⟩ := word_hi h
  obtain ⟨b0, b1⟩ := word_lo h
  unfold len2
  generalize hi r = a at *
  generalize lo r = b at *
  subst hp
  obtain ⟨A, rfl⟩ := Int.eq_ofNat_of_zero_le a0
  obtain ⟨B, rfl⟩ := Int.eq_ofNat_of_zero_le b0
  obtain ⟨hA1, hA2, hA3⟩ := bitLen_lt A (by omega)
  obtain ⟨hB1, hB2, hB3⟩ := bitLen_lt B (by omega)
  have lA := Lib.bitLen_le A 64 (by omega) (by omega)
  have lB := Lib.bitLen_le B 64 (by omega) (by omega)
  simp only [Int.toNat_natCast]
  have cast : ∀ k : Nat, ((A : Int) * 18446744073709551616 + B) / 2 ^ k = (((A * 18446744073709551616 + B) / 2 ^ k : Nat) : Int) := fun k => by simp
  simp only [cast]
  by_cases h0 : A = 0
  · subst h0
    refine ⟨Lib.bitLen B, by simp, by omega, ?_, ?_, ?_⟩
    · rw [Nat.div_eq_of_lt (by simpa using hB1)]; rfl
    · intro hne
      have hBne : B ≠ 0 := by omega
      refine ⟨(hB2 hBne).2, ?_⟩
      have : 1 ≤ (0 * 18446744073709551616 + B) / 2 ^ (Lib.bitLen B - 1) := by
        rw [Nat.le_div_iff_mul_le (Nat.pow_pos (by decide))]; have := (hB2 hBne).1; omega
      omega
    · intro he
      exact hB3 (by omega)
  · refine ⟨64 + Lib.bitLen A, by rw [if_neg (by omega)]; simp, by omega, ?_, ?_, ?_⟩
    · rw [Nat.div_eq_of_lt]; rfl
      rw [Nat.pow_add, show (2 : Nat) ^ 64 = 18446744073709551616 by rfl]
      have : (A + 1) * 18446744073709551616 ≤ 2 ^ Lib.bitLen A * 18446744073709551616 := Nat.mul_le_mul_right _ hA1
      rw [Nat.mul_comm 18446744073709551616]
      omega
    · intro _
      refine ⟨by omega, ?_⟩
      have h3 := hA2 h0
      have : 1 ≤ (A * 18446744073709551616 + B) / 2 ^ (64 + Lib.bitLen A - 1) := by
        rw [Nat.le_div_iff_mul_le (Nat.pow_pos (by decide)), show 64 + Lib.bitLen A - 1 = 64 + (Lib.bitLen A - 1) by omega, Nat.pow_add, show (2 : Nat) ^ 64 = 18446744073709551616 by rfl]
        have := Nat.mul_le_mul_left 18446744073709551616 h3.1
        omega
      omega
    · intro he; omega

/-! Division bit by bit: what one round does. -/
theorem step_bit (r : Int) (h : Two r) (j : Nat) : r / 2 ^ j = 2 * (r / 2 ^ (j + 1)) + lo (shr r j) % 2 := by
  obtain ⟨h0, h1⟩ := h
  obtain ⟨V, rfl⟩ := Int.eq_ofNat_of_zero_le h0
  unfold shr lo
  rw [if_neg (by omega)]
  simp only [Int.toNat_natCast]
  have e1 : (V : Int) / 2 ^ j = ((V / 2 ^ j : Nat) : Int) := by simp
  have e2 : (V : Int) / 2 ^ (j + 1) = ((V / 2 ^ (j + 1) : Nat) : Int) := by simp
  rw [e1, e2, Nat.pow_succ, ← Nat.div_div_eq_div_mul]
  omega
theorem div_nn (r : Int) (h : Two r) (j : Nat) : 0 ≤ r / 2 ^ j ∧ r / 2 ^ j ≤ r := ⟨Int.ediv_nonneg h.1 (Int.le_of_lt (pow_pos' j)), Int.ediv_le_self _ h.1⟩
theorem step_div (T T' d b : Int) (hd : 0 < d) (hT : T' = 2 * T + b) (_hb0 : 0 ≤ b) (_hb1 : b ≤ 1) :
    (2 * (T % d) + b < d → T' % d = 2 * (T % d) + b ∧ T' / d = 2 * (T / d)) ∧ (d ≤ 2 * (T % d) + b → T' % d = 2 * (T % d) + b - d ∧ T' / d = 2 * (T / d) + 1) := by
  have e := Int.mul_ediv_add_emod T d
  have m0 := Int.emod_nonneg T (show d ≠ 0 by omega)
  have m1 := Int.emod_lt_of_pos T hd
  generalize T % d = R at *
  generalize T / d = Q at *
  constructor
  · intro hlt
    have h2 : T' = (2 * R + b) + d * (2 * Q) := by rw [hT, ← e, Int.mul_add, show d * (2 * Q) = 2 * (d * Q) by rw [Int.mul_left_comm]]; omega
    rw [h2]
    exact ⟨by rw [Int.add_mul_emod_self_left]; exact Int.emod_eq_of_lt (by omega) hlt, by rw [Int.add_mul_ediv_left _ _ (by omega), Int.ediv_eq_zero_of_lt (by omega) hlt]; omega⟩
  · intro hge
    have h2 : T' = (2 * R + b - d) + d * (2 * Q + 1) := by rw [hT, ← e, Int.mul_add, Int.mul_add, show d * (2 * Q) = 2 * (d * Q) by rw [Int.mul_left_comm]]; omega
    rw [h2]
    exact ⟨by rw [Int.add_mul_emod_self_left]; exact Int.emod_eq_of_lt (by omega) (by omega), by rw [Int.add_mul_ediv_left _ _ (by omega), Int.ediv_eq_zero_of_lt (by omega) (by omega)]; omega⟩
theorem shl_one (Q : Int) (h0 : 0 ≤ Q) (h : 2 * Q < 340282366920938463463374607431768211456) : shl Q 1 = 2 * Q := by
  unfold shl
  rw [if_neg (by decide)]
  simp
  omega
theorem hi_odd (Q : Int) : hi (2 * Q + 1) = hi (2 * Q) ∧ lo (2 * Q + 1) = lo (2 * Q) + 1 ∧ lo (2 * Q) % 2 = 0 := by
  unfold hi lo; omega
end Go.Proofs.YtpadjlhleaboaaaGreatDoor
namespace Go.Proofs.YtpadjlhleaboaaaGreatDoor
open Go.RowKit Go.WideShapes Go.ChangeShapes
section
variable {H : Type} {enc : TypeId × Value → H} {P : Program}
theorem post_of_below {f : Func} {s : ChangeSpec} {apart fresh handsOn again : Bool} {W W' : World} {args : Array Value} {v : Value} {ds gs : List (DataW H)} {before pa pv : List MemPlace}
    (hW : DataW.Whole enc P f.params.toList s.vars apart W args.toList ds gs before)
    (hres : ∀ (b : Nat) (sp : Nat → Bool) (hd : Bool), DataW.TrodAll enc P W' b sp hd f.resultTypes.toList (v.resultList f.resultTypes.size) (s.fn H (ds ++ gs)).results [])
    (hargs : ∀ sp : Nat → Bool, (∀ p ∈ before, sp p.block = true) → DataW.TrodAll enc P W' 0 sp true f.params.toList args.toList (s.fn H (ds ++ gs)).args pa)
    (hvars : ∀ sp : Nat → Bool, (∀ p ∈ before, sp p.block = true) → DataW.TrodVars enc P W' sp s.vars (s.fn H (ds ++ gs)).vars pv)
    (hps : before = pa ++ pv) (hb : Below W.heap.size W W')
    (hok : ∀ (j : Nat) (t : TypeId) (r : Value), f.resultTypes[j]? = some t → (v.resultList f.resultTypes.size)[j]? = some r → Value.okWide P W' .any 0 t r) :
    s.post enc P f apart fresh handsOn again W args v W' := by
  have hlt : ∀ p ∈ before, p.block < W.heap.size := fun p hp => hW.lt p hp
  have hold : ∀ p ∈ before, (fun b => decide (b < W.heap.size)) p.block = true := fun p hp => by simpa using hlt p hp
  refine ⟨ds, gs, before, [], pa, pv, hW, hres _ _ _, hargs _ hold, hvars _ hold, World.keptBut_mono (fun p hp => ⟨hp, ?_⟩) (hb.frame (· ∈ before)), fun _ => ?_⟩
  · rw [hps, List.mem_append] at hp
    exact Or.inr hp
  · obtain ⟨_, _, _, _, _, hz, hn⟩ := hW
    refine ⟨hok, _, _, ([] ++ pa) ++ pv, ⟨[] ++ pa, pv, trodAll_append (hargs _ (fun _ _ => rfl)) (hres _ _ _), hvars _ (fun _ _ => rfl), rfl, ?_, ?_⟩, ?_⟩
    · intro b off hp
      have hin : MemPlace.cell b off ∈ before := by rw [hps]; simpa using hp
      rw [hb.frozen (hlt _ hin)]
      exact hz b off hin
    · intro ha
      have := hn ha
      rw [hps] at this
      simpa using this
    · intro p hp _
      rw [hps]
      simpa using hp
end
theorem word_of_wf {x : Int} (h : (Lit.int .u64 x).wf = true) : Word x := by
  simp [Lit.wf, IntKind.min, IntKind.max, IntKind.signed, IntKind.bits] at h
  exact ⟨by omega, by omega⟩
end Go.Proofs.YtpadjlhleaboaaaGreatDoor
namespace Go.Proofs.YtpadjlhleaboaaaGreatDoor
open Go.RowKit
def In64 (x : Int) : Prop := -9223372036854775808 ≤ x ∧ x < 9223372036854775808
theorem in64_of_wf {x : Int} (h : (Lit.int .i64 x).wf = true) : In64 x := by
  simp [Lit.wf, IntKind.min, IntKind.max, IntKind.signed, IntKind.bits] at h
  exact ⟨by omega, by omega⟩
end Go.Proofs.YtpadjlhleaboaaaGreatDoor
namespace Go.Proofs.YtpadjlhleaboaaaGreatDoor
open Go.RowKit
/-- Block g holds just these cells, of element type t; none is frozen. -/
def Blk (w : World) (g : Nat) (t : TypeId) (cs : Array Value) : Prop := w.heap[g]? = some (.cells cs t (0, 0))
theorem bcell {W w1 : World} {B : Nat} (hb : Below B W w1) : (∀ b o, b < B → w1.cell? ⟨b, o, none⟩ = W.cell? ⟨b, o, none⟩) ∧ (∀ b o, b < B → w1.frozen? ⟨b, o, none⟩ = W.frozen? ⟨b, o, none⟩) :=
  ⟨fun b o h => hb.cell (p := ⟨b, o, none⟩) h, fun b o h => hb.frozen (p := ⟨b, o, none⟩) h⟩
section
variable {w w' : World} {g : Nat} {t : TypeId} {cs : Array Value}
theorem Blk.lt (h : Blk w g t cs) : g < w.heap.size := by
  rcases Nat.lt_or_ge g w.heap.size with hlt | hge
  · exact hlt
  · unfold Blk at h; rw [Array.getElem?_eq_none hge] at h; cases h
theorem Blk.cell (h : Blk w g t cs) (i : Nat) : w.cell? ⟨g, i, none⟩ = cs[i]? := by unfold Blk at h; simp [World.cell?, h]
theorem Blk.cell_eq (h : Blk w g t cs) (i : Nat) (v : Value) (hv : cs[i]? = some v) : w.cell? ⟨g, i, none⟩ = some v := (h.cell i).trans hv
theorem Blk.free (h : Blk w g t cs) (i : Nat) : w.frozen? ⟨g, i, none⟩ = false := by unfold Blk at h; simp [World.frozen?, h]
theorem Blk.below {B : Nat} (h : Blk w g t cs) (hb : Below B w w') (hg : g < B) : Blk w' g t cs := (hb.block g hg).trans h
theorem Blk.new (w : World) (t : TypeId) (cs : Array Value) : Blk (w.alloc (.cells cs t)) w.heap.size t cs := heap_alloc_last w _
theorem Blk.new' {n : Nat} (hn : n = w.heap.size) : Blk (w.alloc (.cells cs t)) n t cs := by subst hn; exact Blk.new w t cs
theorem Blk.alloc (h : Blk w g t cs) (o : Obj) : Blk (w.alloc o) g t cs := (Below.heap_alloc w o g h.lt).trans h
theorem Blk.drew (h : Blk w g t cs) : Blk w.drew g t cs := h
theorem Blk.other (h : Blk w g t cs) {a : Addr} (ha : a.block ≠ g) (v : Value) : Blk (w.setCell a v) g t cs := (Below.heap_setCell w a v g (fun e => ha e.symm)).trans h
theorem Blk.set (h : Blk w g t cs) (i : Nat) (v : Value) : Blk (w.setCell ⟨g, i, none⟩ v) g t (cs.setIfInBounds i v) := by
  have hlt := h.lt
  unfold Blk at *
  simp only [World.setCell, Array.getElem?_modify, if_pos, h, Option.map_some, Option.isSome_none, Bool.false_eq_true, if_false]
theorem Blk.setRow (h : Blk w g t cs) (c' : Array Value) : Blk (w.setRow g c') g t c' := by
  unfold Blk at *
  simp only [World.setRow, Array.getElem?_modify, if_pos, h, Option.map_some]
theorem Blk.setRow_other (h : Blk w g t cs) {b : Nat} (hb : b ≠ g) (c' : Array Value) : Blk (w.setRow b c') g t cs := by
  unfold Blk at *
  simp only [World.setRow, Array.getElem?_modify, if_neg hb, h]
end
theorem Blk.set2 {w : World} {g : Nat} {t : TypeId} {x y : Value} (h : Blk w g t #[x, y]) (u v : Value) : Blk ((w.setCell ⟨g, 0, none⟩ u).setCell ⟨g, 1, none⟩ v) g t #[u, v] := (h.set 0 u).set 1 v
/-- Some blocks, each known whole, and all that was there at the beginning. -/
structure Mem (w0 : World) (l : List (Nat × TypeId × Array Value)) (w : World) : Prop where
  blks : ∀ p ∈ l, Blk w p.1 p.2.1 p.2.2
  below : Below w0.heap.size w0 w
section
variable {w0 w w' : World} {l : List (Nat × TypeId × Array Value)}
theorem Mem.start (w : World) : Mem w [] w := ⟨fun _ h => (by cases h), Below.refl _ _⟩
theorem Mem.blk (h : Mem w0 l w) (g : Nat) (t : TypeId) (cs : Array Value) (hp : (g, t, cs) ∈ l) : Blk w g t cs := h.blks _ hp
theorem Mem.keep (h : Mem w0 l w) (hb : Below w.heap.size w w') : Mem w0 l w' := ⟨fun p hp => (h.blks p hp).below hb (h.blks p hp).lt, h.below.trans (hb.mono h.below.size)⟩
theorem Mem.drew (h : Mem w0 l w) : Mem w0 l w.drew := ⟨fun p hp => (h.blks p hp).drew, h.below.drew⟩
theorem Mem.new (h : Mem w0 l w) (t : TypeId) (cs : Array Value) : Mem w0 ((w.heap.size, t, cs) :: l) (w.alloc (.cells cs t)) :=
  ⟨fun p hp => by
    rcases List.mem_cons.1 hp with rfl | hp
    · exact Blk.new _ _ _
    · exact (h.blks p hp).alloc _, h.below.alloc h.below.size _⟩
theorem Mem.row (h : Mem w0 l w) (t : TypeId) (Z cs : Array Value) : Mem w0 ((w.heap.size, t, cs) :: l) ((w.alloc (.cells Z t)).setRow w.heap.size cs) :=
  ⟨fun p hp => by
    rcases List.mem_cons.1 hp with rfl | hp
    · exact (Blk.new' rfl).setRow _
    · exact ((h.blks p hp).alloc _).setRow_other (fun e => by have := (h.blks p hp).lt; omega) _, ⟨h.below.os, h.below.tape, h.below.output, Nat.le_trans h.below.size (by simp [World.setRow]), fun k hk => by
      have hlt : k < w.heap.size := Nat.lt_of_lt_of_le hk h.below.size
      have e : ((w.alloc (.cells Z t)).setRow w.heap.size cs).heap[k]? = (w.alloc (.cells Z t)).heap[k]? := by
        simp only [World.setRow, Array.getElem?_modify]; rw [if_neg (by omega)]
      rw [e, Below.heap_alloc _ _ _ hlt]; exact h.below.block k hk⟩⟩
end
theorem below_setRow {B b : Nat} {a w : World} (h : Below B a w) (hb : B ≤ b) (c : Array Value) : Below B a (w.setRow b c) :=
  h.trans ⟨rfl, rfl, rfl, by simp [World.setRow], fun k hk => by simp only [World.setRow, Array.getElem?_modify]; rw [if_neg (by omega)]⟩
theorem Mem.new' {w0 w : World} {l : List (Nat × TypeId × Array Value)} {n : Nat} (h : Mem w0 l w) (t : TypeId) (cs : Array Value) (hn : n = w.heap.size) : Mem w0 ((n, t, cs) :: l) (w.alloc (.cells cs t)) := by subst hn; exact h.new t cs
theorem two_rows {w0 w : World} {l : List (Nat × TypeId × Array Value)} (h : Mem w0 l w) (t : TypeId) (Z cx cy : Array Value) :
    Mem w0 ((w.heap.size + 1, t, cy) :: (w.heap.size, t, cx) :: l) ((((w.alloc (.cells Z t)).alloc (.cells Z t)).setRow w.heap.size cx).setRow (w.heap.size + 1) cy) :=
  ⟨fun p hp => by
    rcases List.mem_cons.1 hp with rfl | hp
    · exact ((Blk.new' (by simp)).setRow_other (by omega) _).setRow _
    · rcases List.mem_cons.1 hp with rfl | hp
      · exact (((Blk.new' rfl).alloc _).setRow _).setRow_other (by show w.heap.size + 1 ≠ w.heap.size; omega) _
      · have hlt := (h.blks p hp).lt
        exact ((((h.blks p hp).alloc _).alloc _).setRow_other (by omega) _).setRow_other (by omega) _,
    below_setRow (below_setRow ((h.below.alloc h.below.size _).alloc (by have := h.below.size; simp; omega) _) h.below.size _) (by have := h.below.size; omega) _⟩
end Go.Proofs.YtpadjlhleaboaaaGreatDoor
namespace Go.Proofs.YtpadjlhleaboaaaGreatDoor
open Go.RowKit

/-- The cells of a list of bytes. -/
def vs (xs : List Nat) : List Value := xs.map fun (x : Nat) => Value.int .u8 (x : Int)
theorem vs_length (xs : List Nat) : (vs xs).length = xs.length := by simp [vs]
theorem vs_append (xs ys : List Nat) : vs (xs ++ ys) = vs xs ++ vs ys := by simp [vs]
theorem vs_get {xs : List Nat} {j : Nat} {v : Value} (h : (vs xs)[j]? = some v) : ∃ x, xs[j]? = some x ∧ v = .int .u8 (x : Int) := by
  simp only [vs, List.getElem?_map, Option.map_eq_some_iff] at h
  obtain ⟨x, h1, h2⟩ := h
  exact ⟨x, h1, h2.symm⟩
theorem vs_one {xs : List Nat} : ∀ u ∈ vs xs, u.oneCell' = true := by
  intro u hu
  simp only [vs, List.mem_map] at hu
  obtain ⟨x, _, rfl⟩ := hu
  rfl

/-- Of all that there is, only blocks of S are turned. -/
structure Frm (S : Nat → Prop) (w w' : World) : Prop where
  os : w'.os = w.os
  tape : w'.tape = w.tape
  output : w'.output = w.output
  size : w.heap.size ≤ w'.heap.size
  block : ∀ k, k < w.heap.size → ¬ S k → w'.heap[k]? = w.heap[k]?
section
variable {S T : Nat → Prop} {w w1 w2 : World}
theorem Frm.refl (S : Nat → Prop) (w : World) : Frm S w w := ⟨rfl, rfl, rfl, Nat.le_refl _, fun _ _ _ => rfl⟩
theorem Frm.trans (h : Frm S w w1) (k : Frm T w1 w2) (hT : ∀ k, T k → S k ∨ w.heap.size ≤ k) : Frm S w w2 :=
  ⟨k.os.trans h.os, k.tape.trans h.tape, k.output.trans h.output, Nat.le_trans h.size k.size, fun i hi hs =>
    (k.block i (Nat.lt_of_lt_of_le hi h.size) (fun ht => (hT i ht).elim hs (fun hge => by omega))).trans (h.block i hi hs)⟩
theorem Frm.mono (h : Frm S w w1) (hT : ∀ k, k < w.heap.size → S k → T k) : Frm T w w1 := ⟨h.os, h.tape, h.output, h.size, fun i hi hs => h.block i hi (fun s => hs (hT i hi s))⟩
theorem Frm.of_below (h : Below w.heap.size w w1) : Frm S w w1 := ⟨h.os, h.tape, h.output, h.size, fun i hi _ => h.block i hi⟩
theorem Frm.below {B : Nat} (h : Frm S w w1) (hB : B ≤ w.heap.size) (hS : ∀ k, S k → B ≤ k) : Below B w w1 :=
  ⟨h.os, h.tape, h.output, h.size, fun i hi => h.block i (by omega) (fun s => by have := hS i s; omega)⟩
theorem Frm.alloc (h : Frm S w w1) (o : Obj) : Frm S w (w1.alloc o) := h.trans (T := fun _ => False) ⟨rfl, rfl, rfl, by simp, fun k hk _ => Below.heap_alloc _ _ _ hk⟩ (fun _ f => f.elim)
theorem Frm.drew (h : Frm S w w1) : Frm S w w1.drew := ⟨h.os, h.tape, h.output, h.size, h.block⟩
theorem Frm.setCell (h : Frm S w w1) (a : Addr) (v : Value) (ha : S a.block ∨ w.heap.size ≤ a.block) : Frm S w (w1.setCell a v) :=
  h.trans (T := fun k => k = a.block) ⟨rfl, rfl, rfl, by simp [World.setCell], fun k _ hs => Below.heap_setCell _ _ _ _ hs⟩ (fun k hk => by rw [hk]; exact ha)
end

/-- A slice of bytes, to be read: its bytes are xs; where there are any, they lie in block k. -/
structure Bt (w : World) (k : Nat) (ao : Option Addr) (cap : Nat) (xs : List Nat) : Prop where
  len : xs.length ≤ cap
  top : cap ≤ maxLen
  bare : ao = none → cap = 0
  lt : ∀ x ∈ xs, x < 256
  at' : xs = [] ∨ ∃ off, ao = some ⟨k, off, none⟩ ∧ ∀ (j x : Nat), xs[j]? = some x → w.cell? ⟨k, off + j, none⟩ = some (.int .u8 (x : Int))
/-- A slice of bytes that owns its row, block k; or nil. -/
structure Ow (w : World) (k : Nat) (ao : Option Addr) (cap : Nat) (xs : List Nat) : Prop where
  len : xs.length ≤ cap
  top : cap ≤ maxLen
  lt : ∀ x ∈ xs, x < 256
  at' : (ao = none ∧ cap = 0) ∨ (ao = some ⟨k, 0, none⟩ ∧ ∃ cur, w.heap[k]? = some (.cells cur 5 (0, 0)) ∧ cur.size = cap ∧ cur.toList.take xs.length = vs xs)
section
variable {w w' : World} {k cap : Nat} {ao : Option Addr} {xs : List Nat}
theorem Bt.nil (w : World) (k : Nat) : Bt w k none 0 [] := ⟨Nat.le_refl _, Nat.zero_le _, fun _ => rfl, by simp, .inl rfl⟩
theorem Ow.nil (w : World) (k : Nat) : Ow w k none 0 [] := ⟨Nat.le_refl _, Nat.zero_le _, by simp, .inl ⟨rfl, rfl⟩⟩
theorem Bt.keep (h : Bt w k ao cap xs) (hk : xs ≠ [] → w'.heap[k]? = w.heap[k]?) : Bt w' k ao cap xs := by
  refine ⟨h.len, h.top, h.bare, h.lt, ?_⟩
  rcases h.at' with h0 | ⟨off, ha, hc⟩
  · exact .inl h0
  · by_cases hx : xs = []
    · exact .inl hx
    · exact .inr ⟨off, ha, fun j x hj => (World.cell?_of_block (a := ⟨k, off + j, none⟩) (hk hx)).trans (hc j x hj)⟩
theorem Bt.size (h : Bt w k ao cap xs) (hx : xs ≠ []) : k < w.heap.size := by
  rcases h.at' with h0 | ⟨off, ha, hc⟩
  · exact absurd h0 hx
  · match xs, hx with
    | x :: t, _ => exact World.block_lt_of_cell? w ⟨k, off + 0, none⟩ (hc 0 x rfl)
theorem Bt.frm {S : Nat → Prop} (h : Bt w k ao cap xs) (hf : Frm S w w') (hk : xs ≠ [] → ¬ S k) : Bt w' k ao cap xs := h.keep fun hx => hf.block k (h.size hx) (hk hx)
theorem Bt.below (h : Bt w k ao cap xs) (hf : Below w.heap.size w w') : Bt w' k ao cap xs := h.keep fun hx => hf.block k (h.size hx)
theorem Bt.alloc (h : Bt w k ao cap xs) (o : Obj) : Bt (w.alloc o) k ao cap xs := h.keep fun hx => Below.heap_alloc _ _ _ (h.size hx)
theorem Bt.drew (h : Bt w k ao cap xs) : Bt w.drew k ao cap xs := h.keep fun _ => rfl
theorem Ow.size (h : Ow w k ao cap xs) (hx : ao ≠ none) : k < w.heap.size := by
  rcases h.at' with ⟨h0, _⟩ | ⟨_, cur, hc, _⟩
  · exact absurd h0 hx
  · exact (Array.getElem?_eq_some_iff.1 hc).1
theorem Ow.keep (h : Ow w k ao cap xs) (hk : ao ≠ none → w'.heap[k]? = w.heap[k]?) : Ow w' k ao cap xs := by
  refine ⟨h.len, h.top, h.lt, ?_⟩
  rcases h.at' with h0 | ⟨ha, cur, hc, hr⟩
  · exact .inl h0
  · exact .inr ⟨ha, cur, (hk (by rw [ha]; simp)).trans hc, hr⟩
theorem Ow.frm {S : Nat → Prop} (h : Ow w k ao cap xs) (hf : Frm S w w') (hk : ao ≠ none → ¬ S k) : Ow w' k ao cap xs := h.keep fun hx => hf.block k (h.size hx) (hk hx)
theorem Ow.below (h : Ow w k ao cap xs) (hf : Below w.heap.size w w') : Ow w' k ao cap xs := h.keep fun hx => hf.block k (h.size hx)
theorem Ow.alloc (h : Ow w k ao cap xs) (o : Obj) : Ow (w.alloc o) k ao cap xs := h.keep fun hx => Below.heap_alloc _ _ _ (h.size hx)
theorem Ow.drew (h : Ow w k ao cap xs) : Ow w.drew k ao cap xs := h.keep fun _ => rfl
theorem Ow.bt (h : Ow w k ao cap xs) : Bt w k ao cap xs := by
  refine ⟨h.len, h.top, ?_, h.lt, ?_⟩
  · intro h0
    rcases h.at' with ⟨_, hc⟩ | ⟨ha, _⟩
    · exact hc
    · rw [ha] at h0; cases h0
  · rcases h.at' with ⟨_, hc⟩ | ⟨ha, cur, hc, hs, ht⟩
    · have := h.len
      exact .inl (List.eq_nil_of_length_eq_zero (by omega))
    · refine .inr ⟨0, ha, fun j x hj => ?_⟩
      rw [cell_of_row w k (0 + j) cur 5 (0, 0) hc]
      have h1 : (vs xs)[j]? = some (.int .u8 (x : Int)) := by simp [vs, hj]
      rw [← ht, List.getElem?_take] at h1
      split at h1
      · simpa using h1
      · cases h1
/-- A row that is laid whole. -/
theorem Ow.new (w : World) (cur : Array Value) (xs : List Nat) (hc : cur.toList.take xs.length = vs xs) (hl : xs.length ≤ cur.size) (hm : cur.size ≤ maxLen) (hx : ∀ x ∈ xs, x < 256) : Ow (w.alloc (.cells cur 5)) w.heap.size (some ⟨w.heap.size, 0, none⟩) cur.size xs :=
  ⟨hl, hm, hx, .inr ⟨rfl, cur, heap_alloc_new w _, rfl, hc⟩⟩
theorem Ow.one (w : World) (x : Nat) (hx : x < 256) : Ow (w.alloc (.cells #[.int .u8 (x : Int)] 5)) w.heap.size (some ⟨w.heap.size, 0, none⟩) 1 [x] :=
  Ow.new w #[.int .u8 (x : Int)] [x] rfl (Nat.le_refl 1) (by show 1 ≤ maxLen; unfold maxLen; omega) (by simpa using hx)
theorem Ow.zero (w : World) : Ow (w.alloc (.cells #[] 5)) w.heap.size (some ⟨w.heap.size, 0, none⟩) 0 [] :=
  Ow.new w #[] [] rfl (Nat.le_refl 0) (by simp [maxLen]) (by simp)
end
theorem infoU8 : (Tryz.prog.info? 5).map (fun i => (i.zero, i.size, i.bytes)) = some (some (Value.int .u8 0), 1, 1) := by kernel_rfl

end Go.Proofs.YtpadjlhleaboaaaGreatDoor
