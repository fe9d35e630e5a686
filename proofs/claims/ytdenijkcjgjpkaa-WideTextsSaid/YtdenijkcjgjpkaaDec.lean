/-
  Plain lists: the digits of a number in decimal, the highest first.
-/
import Derived.Test.YtdenijkcjgjpkaaNum
namespace Go.Proofs.Ytdenijkcjgjpkaa
def decsF : Nat → Nat → List Nat
  | 0, _ => []
  | f + 1, V => (if V / 10 = 0 then [] else decsF f (V / 10)) ++ [48 + V % 10]
def decs (V : Nat) : List Nat := decsF 41 V
theorem decsF_succ (f V : Nat) : decsF (f + 1) V = (if V / 10 = 0 then [] else decsF f (V / 10)) ++ [48 + V % 10] := rfl
theorem decsF_more : ∀ (f V : Nat), V < 10 ^ f → 1 ≤ f → decsF (f + 1) V = decsF f V := by
  intro f
  induction f with
  | zero => intro V _ h; omega
  | succ f ih =>
    intro V hV _
    rw [decsF_succ (f + 1) V, decsF_succ f V]
    by_cases h : V / 10 = 0
    · rw [if_pos h, if_pos h]
    · rw [if_neg h, if_neg h, ih (V / 10) (by rw [Nat.pow_succ] at hV; omega) (by
        cases f with
        | zero => exact absurd (by simp at hV; omega) h
        | succ f => omega)]
theorem decs_step (V : Nat) (h : V < 10 ^ 40) : decs V = (if V / 10 = 0 then [] else decs (V / 10)) ++ [48 + V % 10] := by
  unfold decs
  rw [decsF_succ 40]
  by_cases h0 : V / 10 = 0
  · rw [if_pos h0, if_pos h0]
  · rw [if_neg h0, if_neg h0, decsF_more 40 (V / 10) (by omega) (by decide)]
def text (V : Nat) : ByteArray := ⟨((decs V).map UInt8.ofNat).toArray⟩
end Go.Proofs.Ytdenijkcjgjpkaa
