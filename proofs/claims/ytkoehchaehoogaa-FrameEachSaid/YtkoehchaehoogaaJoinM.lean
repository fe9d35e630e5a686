/-
  A joiner's stream in plain arithmetic; lists that are the same; parts of slices.
-/
import Derived.Test.YtkoehchaehoogaaJoin
namespace Go.Proofs.Ytkoehchaehoogaa
open Go.RowKit

theorem left_ok {b : List Nat} (h : (allF b).2.2 ≠ 4) : left b = (b.drop (allF b).2.1, 0) := if_neg h
theorem left_more {b : List Nat} (t : List Nat) (h : (allF b).2.2 ≠ 4) : (allF (b ++ t)).1 = (allF b).1 ++ (allF ((left b).1 ++ t)).1 ∧ left (b ++ t) = left ((left b).1 ++ t) := by
  have e := (allF_more b t).2 h
  have hd : (b ++ t).drop (allF b).2.1 = b.drop (allF b).2.1 ++ t := List.drop_append_of_le_length (allF_size b).1
  rw [left_ok h]
  refine ⟨by rw [e], ?_⟩
  unfold left
  rw [e]
  simp only
  rw [← List.drop_drop, hd]
theorem no4 {S : List Nat} (h : (allF S).2.2 = 0) (s : Nat) : (allF (S.take s)).2.2 ≠ 4 := by
  intro e
  have h1 := (allF_more (S.take s) (S.drop s)).1 e
  rw [List.take_append_drop] at h1
  rw [h1, e] at h
  cases h
theorem frames_len (b : List Nat) : 2 * (allF b).1.length ≤ b.length := by
  have h1 := length_le_tot (allF b).1
  rw [tot_allF] at h1
  have h2 := (allF_size b).1
  omega
theorem left_len (b : List Nat) : (left b).1.length ≤ b.length := by
  unfold left
  split
  · simp
  · simp only [List.length_drop]; omega
theorem lists_same {ac bc n m : Nat} {ao bo : Option Addr} {us ts : List (List Nat)} (W : World) (hA : Lb W ao ac us) (hB : Lb W bo bc ts) (h : us = ts) (hn : n = us.length) (hm : m = ts.length) :
    Calls Try.prog 16 #[.slice ao n ac, .slice bo m bc] W fun e w' => e = .returned (.bool true) ∧ ∃ m, w' = W.drewN m := by
  subst hn hm
  exact (lists_any ac bc ao bo us ts W hA hB).mono fun e w' h2 => ⟨h2.1.trans (by rw [decide_eq_true h]), h2.2⟩
section
variable {w : World} {k cap n m : Nat} {ao : Option Addr} {xs zs : List Nat}
theorem Bt.cut0 (h : Bt w k ao cap xs) (hd : xs.drop n = zs) (hn : n = cap) (hx : n ≤ xs.length) : Bt w k ao 0 zs := by rw [← hd]; exact h.dropAll hn hx
theorem Bt.cutE (h : Bt w k ao cap xs) (hd : xs.drop n = zs) (hm : m = n) (hx : n ≤ xs.length) : Bt w k (Option.map (fun x => x.add m) ao) (cap - m) zs := by subst hm; rw [← hd]; exact h.drop hx
theorem Bt.cutN (h : Bt w k ao cap xs) (hd : xs.drop n = zs) (hn : n = 0) : Bt w k ao cap zs := by subst hn; rw [← hd]; simpa using h
end
end Go.Proofs.Ytkoehchaehoogaa
