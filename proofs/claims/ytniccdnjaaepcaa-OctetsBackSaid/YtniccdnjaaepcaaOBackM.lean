/-
  What is put is read as it was, and that of fewer bytes it is not: in plain arithmetic.
-/
import Derived.Test.YtniccdnjaaepcaaOReads
namespace Go.Proofs.Ytniccdnjaaepcaa
/-- A part that has an encoding. -/
structure Prt.Val (p : Prt) : Prop where
  k0 : 1 ≤ p.kind
  k1 : p.kind ≤ 4
  z0 : p.kind = 1 → 1 ≤ p.size
  z1 : p.kind = 1 → p.size ≤ 8
/-- The size by which it is read. -/
def sz (p : Prt) : Int := if p.kind = 4 then (p.raw.length : Int) else p.size
theorem back1 {k : Nat} (h1 : 1 ≤ k) (h8 : k ≤ 8) (n : Nat) (t : List Nat) : stepR 1 (k : Int) (be k n ++ t) 0 = ⟨n % 256 ^ k, 0, [], k, 0⟩ := by
  have hl : (be k n).length = k := be_length k n
  rw [step1, if_pos ⟨by omega, by omega⟩, Int.toNat_natCast, if_neg (by rw [List.length_append, hl]; omega)]
  have e : (be k n ++ t).take k = be k n := by
    conv => lhs; rw [← hl]
    rw [hl]
    exact List.take_left' hl
  rw [e, val_be]
theorem back2 (S s : Int) (h0 : -9223372036854775808 ≤ s) (h1 : s < 9223372036854775808) (t : List Nat) : stepR 2 S (be 8 (zig s) ++ t) 0 = ⟨0, s, [], 8, 0⟩ := by
  have hl : (be 8 (zig s)).length = 8 := be_length 8 _
  rw [step2, if_neg (by rw [List.length_append, hl]; omega), List.take_left' hl, val_be, Nat.mod_eq_of_lt (zig_lt h0 h1), unzig_zig]
theorem back3 (S : Int) {n : Nat} (h : n < 18446744073709551616) (t : List Nat) : stepR 3 S (num n ++ t) 0 = ⟨n, 0, [], (num n).length, 0⟩ := by
  have e : stepR 3 S (num n ++ t) 0 = ⟨(rn (num n ++ t) 10 0 0).1, 0, [], (rn (num n ++ t) 10 0 0).2.1, (rn (num n ++ t) 10 0 0).2.2⟩ := rfl
  rw [e, read_num (word_pow h)]
theorem back4 (raw t : List Nat) : stepR 4 (raw.length : Int) (raw ++ t) 0 = ⟨0, 0, raw, raw.length, 0⟩ := by
  rw [step4, if_neg (by omega), Int.toNat_natCast, if_neg (by rw [List.length_append]; omega), List.take_left]
theorem enc1 {p : Prt} (h : p.kind = 1) (h1 : 1 ≤ p.size) (h8 : p.size ≤ 8) : enc p = be p.size.toNat p.n := by unfold enc; rw [if_pos h, if_pos ⟨h1, h8⟩]
theorem enc2 {p : Prt} (h : p.kind = 2) : enc p = be 8 (zig p.s) := by unfold enc; rw [if_neg (by omega), if_pos h]
theorem enc3 {p : Prt} (h : p.kind = 3) : enc p = num p.n := by unfold enc; rw [if_neg (by omega), if_neg (by omega), if_pos h]
theorem enc4 {p : Prt} (h : p.kind = 4) : enc p = p.raw := by unfold enc; rw [if_neg (by omega), if_neg (by omega), if_neg (by omega), if_pos h]
theorem back_any {p : Prt} (hf : p.Fit) (hv : p.Val) (t : List Nat) : (stepR p.kind (sz p) (enc p ++ t) 0).size = (enc p).length ∧ (stepR p.kind (sz p) (enc p ++ t) 0).f = 0 := by
  have hk := hv.k0
  have hk1 := hv.k1
  have hcase : p.kind = 1 ∨ p.kind = 2 ∨ p.kind = 3 ∨ p.kind = 4 := by omega
  rcases hcase with h | h | h | h
  · obtain ⟨k, hk⟩ : ∃ k : Nat, p.size = (k : Int) := ⟨p.size.toNat, by have := hv.z0 h; omega⟩
    have h1 := hv.z0 h
    have h8 := hv.z1 h
    rw [enc1 h h1 h8, h]
    have e : sz p = (k : Int) := by unfold sz; rw [if_neg (by omega), hk]
    rw [e, hk, Int.toNat_natCast, back1 (by omega) (by omega), be_length]
    exact ⟨rfl, rfl⟩
  · rw [enc2 h, h, back2 _ _ hf.s0 hf.s1, be_length]; exact ⟨rfl, rfl⟩
  · rw [enc3 h, h, back3 _ hf.n]; exact ⟨rfl, rfl⟩
  · have e : sz p = (p.raw.length : Int) := if_pos h
    rw [enc4 h, h, e, back4]; exact ⟨rfl, rfl⟩
theorem cut_any {p : Prt} (hf : p.Fit) (hv : p.Val) {m : Nat} (hm : m < (enc p).length) : (stepR p.kind (sz p) ((enc p).take m) 0).f = 3 := by
  have hk := hv.k0
  have hk1 := hv.k1
  have hl : ((enc p).take m).length = m := by rw [List.length_take]; omega
  have hcase : p.kind = 1 ∨ p.kind = 2 ∨ p.kind = 3 ∨ p.kind = 4 := by omega
  rcases hcase with h | h | h | h
  · have h1 := hv.z0 h
    have h8 := hv.z1 h
    have e : sz p = p.size := by unfold sz; rw [if_neg (by omega)]
    have he := congrArg List.length (enc1 h h1 h8)
    rw [be_length] at he
    rw [h, e, step1, if_pos ⟨h1, h8⟩, if_pos (by omega)]
  · have he := congrArg List.length (enc2 h)
    rw [be_length] at he
    rw [h, step2, if_pos (by omega)]
  · have e : stepR 3 (sz p) ((enc p).take m) 0 = ⟨(rn ((enc p).take m) 10 0 0).1, 0, [], (rn ((enc p).take m) 10 0 0).2.1, (rn ((enc p).take m) 10 0 0).2.2⟩ := rfl
    rw [enc3 h] at e hm
    rw [h, enc3 h, e, cut_num hf.n hm]
  · have e : sz p = (p.raw.length : Int) := if_pos h
    have he := congrArg List.length (enc4 h)
    rw [h, e, step4, if_neg (by omega), Int.toNat_natCast, if_pos (by omega)]
/-- What is left of fewer bytes than were put. -/
def Cut (f : Nat) (rest all : List Nat) : Prop := f = 3 ∨ (f = 0 ∧ ∃ m, rest = all.take m ∧ m < all.length)
theorem Cut.step {p : Prt} (hf : p.Fit) (hv : p.Val) {f : Nat} {rest t : List Nat} (h : Cut f rest (enc p ++ t)) : Cut (stepR p.kind (sz p) rest f).f (rest.drop (stepR p.kind (sz p) rest f).size) t := by
  rcases h with rfl | ⟨rfl, m, rfl, hm⟩
  · rw [step_fault (by decide)]; exact .inl rfl
  · by_cases hle : (enc p).length ≤ m
    · have e : (enc p ++ t).take m = enc p ++ t.take (m - (enc p).length) := by
        rw [List.take_append, List.take_of_length_le hle]
      obtain ⟨h1, h2⟩ := back_any hf hv (t.take (m - (enc p).length))
      rw [e, h1, h2, List.drop_left]
      rw [List.length_append] at hm
      exact .inr ⟨rfl, _, rfl, by omega⟩
    · have e : (enc p ++ t).take m = (enc p).take m := by rw [List.take_append_of_le_length (by omega)]
      rw [e]
      exact .inl (cut_any hf hv (by omega))
theorem Cut.done {f : Nat} {rest : List Nat} (h : Cut f rest []) : f = 3 := by
  rcases h with h | ⟨_, m, _, hm⟩
  · exact h
  · simp at hm
theorem enc_drop {ps : List Prt} {q : Nat} {p : Prt} (h : ps[q]? = some p) : (ps.drop q).flatMap enc = enc p ++ (ps.drop (q + 1)).flatMap enc := by
  obtain ⟨hlt, he⟩ := List.getElem?_eq_some_iff.1 h
  rw [List.drop_eq_getElem_cons hlt, he]
  rfl
end Go.Proofs.Ytniccdnjaaepcaa
