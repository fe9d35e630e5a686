/-
  Arrays of 128 bools as numbers of 128 bits, and what reads and writes them whole. Plain facts on bits besides.
  The contracts of the document's answers Of and Halves: a number's 128 bits, and back.
  The contract of the document's answer Add: the sum of two numbers of 128 bits, bit by bit.
  The contract of the document's answer Halves: a number's two words.
  The contracts of package fix's Add, and of the document's Add of layer 2, for every two numbers.
-/
import Derived.Test.YtdmjcjheanedgaaDoorGA
import Derived.Test.YtdmjcjheanedgaaDoorProg
import Derived.WalkKit
import Derived.Outline
import Derived.Lib.Hide
import Derived.Deep.LoopGhost
import Derived.Deep.DeepMust
import Derived.Laws.BitsAllLaws
namespace Go.Proofs.YtdmjcjheanedgaaDoor
open Go.RowKit
/-- 128 cells, each a bool. -/
def arr (f : Nat → Bool) : Array Value := ((List.range 128).map fun i => Value.bool (f i)).toArray
/-- The bits of a number of 128 bits. -/
def bv (x : BitVec 128) : Array Value := arr fun i => x.getLsbD i
end Go.Proofs.YtdmjcjheanedgaaDoor
namespace Go.Proofs.YtdmjcjheanedgaaDoor
open Go.RowKit
end Go.Proofs.YtdmjcjheanedgaaDoor
namespace Go.Proofs.YtdmjcjheanedgaaDoor
open Go.RowKit
end Go.Proofs.YtdmjcjheanedgaaDoor
namespace Go.Proofs.YtdmjcjheanedgaaDoor
open Go.RowKit
end Go.Proofs.YtdmjcjheanedgaaDoor
namespace Go.Proofs.YtdmjcjheanedgaaDoor
open Go.RowKit
instance (x : Int) : Decidable (In64 x) := by unfold In64; exact inferInstance
/-- A number and whether it is an int64; 0 if it is none. -/
def fitT (v : Int) : Value := if In64 v then .tuple #[.int .i64 v, .bool true] else .tuple #[.int .i64 0, .bool false]
theorem fit_yes {v : Int} (h : In64 v) : fitT v = .tuple #[.int .i64 v, .bool true] := if_pos h
theorem fit_no {v : Int} (h : ¬ In64 v) : fitT v = .tuple #[.int .i64 0, .bool false] := if_neg h
/-- What has no sign. -/
def mag (n : Int) : Int := if n < 0 then -n else n
theorem fadd_any (a b : Int) (ha : In64 a) (hb : In64 b) (w : World) :
    Calls Tryd.prog 51 #[.int .i64 a, .int .i64 b] w fun e w' => e = .returned (fitT (a + b)) ∧ Below w.heap.size w w' := by
  obtain ⟨a0, a1⟩ := ha
  obtain ⟨b0, b1⟩ := hb
  by_cases hs : In64 (a + b)
  · rw [fit_yes hs]
    obtain ⟨s0, s1⟩ := hs
    go_enter Tryd.func51, Tryd.ntmps51
    go_wp2
    all_goals first | (exfalso; omega) | go_ret2
    all_goals exact ⟨rfl, Below.refl _ _⟩
  · rw [fit_no hs]
    unfold In64 at hs
    go_enter Tryd.func51, Tryd.ntmps51
    go_wp2
    all_goals first | (exfalso; omega) | go_ret2
    all_goals exact ⟨rfl, Below.refl _ _⟩
def nb (n : Nat) : Nat → Bool := fun i => (BitVec.ofNat 128 n).getLsbD i
end Go.Proofs.YtdmjcjheanedgaaDoor
