/-
  Any number's digits: the statement's function, for every input.
-/
import Derived.Test.YtdenijkcjgjpkaaRefText
namespace Go.Proofs.Ytdenijkcjgjpkaa
open Go.RowKit
set_option maxRecDepth 100000 in
set_option maxHeartbeats 1000000 in
theorem texts_road (a b : Int) (X : Nat → Bool) (s : ByteArray) (w : World)
    (cT : ∀ W, Calls Try.prog 29 #[.agg #[.int .u64 a, .int .u64 b]] W fun e w' => e = .returned (.string s) ∧ Below W.heap.size W w')
    (cO : ∀ W, Calls Try.prog 13 #[.int .u64 a, .int .u64 b] W fun e w' => e = .returned (.agg (arr X)) ∧ Below W.heap.size W w')
    (cR : ∀ W, Calls Try.prog 30 #[.agg (arr X)] W fun e w' => e = .returned (.string s) ∧ Below W.heap.size W w') :
    Calls Try.prog 7 #[.int .u64 a, .int .u64 b] w fun e w' => e = .returned (.bool true) ∧ Below w.heap.size w w' := by
  have m0 := (Mem.start w).new 25 #[.int .u64 a, .int .u64 b]
  go_enter Try.func7, Try.ntmps7
  go_wp2_with (first
    | (go_at_call 29; (with_reducible refine (cT _).mono ?_); rintro e w2 ⟨rfl, hb1⟩; have m1 := m0.keep hb1; clear m0 hb1)
    | (go_at_call 13; (with_reducible refine (cO _).mono ?_); rintro e w3 ⟨rfl, hb2⟩; have m2 := m1.keep hb2; clear m1 hb2)
    | (go_at_call 30; (with_reducible refine (cR _).mono ?_); rintro e w4 ⟨rfl, hb3⟩; have m3 := m2.keep hb3; clear m2 hb3)
    | (go_at_call 12; (with_reducible refine (alive_any _).mono ?_); rintro e w5 ⟨rfl, hb4⟩; have m4 := m3.keep hb4))
  go_ret
  exact ⟨rfl, m4.below⟩
theorem texts_any (a b : Int) (ha : Word a) (hb : Word b) (w : World) :
    Calls Try.prog 7 #[.int .u64 a, .int .u64 b] w fun e w' => e = .returned (.bool true) ∧ Below w.heap.size w w' := by
  have hr := two_mk ha hb
  have cT := text_any _ hr
  rw [hi_mk hb, lo_mk hb] at cT
  have o1 := of_any a b ha hb
  obtain ⟨V, hV⟩ : ∃ V : Nat, a * 18446744073709551616 + b = V := ⟨(a * 18446744073709551616 + b).toNat, by have := hr.1; omega⟩
  have hVlt : V < 340282366920938463463374607431768211456 := by have := hr.2; omega
  rw [hV] at cT o1
  have e1 : BitVec.ofInt 128 (V : Int) = BitVec.ofNat 128 V := BitVec.ofInt_natCast _ _
  rw [e1] at o1
  rw [Int.toNat_natCast] at cT
  exact texts_road a b _ _ w cT o1 (rtext_any V hVlt)
end Go.Proofs.Ytdenijkcjgjpkaa
