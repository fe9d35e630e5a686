/-
  The contract of the statements' helper Is: a number is these bits.
-/
import Derived.Test.YtdenijkcjgjpkaaRefHv
namespace Go.Proofs.Ytdenijkcjgjpkaa
open Go.RowKit
theorem two_blocks' (w : World) (c1 c2 : Array Value) (t1 t2 : TypeId) : Below w.heap.size w ((w.alloc (.cells c1 t1)).alloc (.cells c2 t2)) :=
  ((Below.refl _ _).alloc (Nat.le_refl _) _).alloc (by simp) _
set_option maxRecDepth 100000 in
set_option maxHeartbeats 1000000 in
theorem is_any (v : Int) (x : BitVec 128) (hv : v = x.toNat) (w : World) :
    Calls Try.prog 9 #[.agg #[.int .u64 (hi v), .int .u64 (lo v)], .agg (bv x)] w fun e w' => e = .returned (.bool true) ∧ Below w.heap.size w w' := by
  have e1 : hi v = (x.toNat / 18446744073709551616 : Nat) := by subst hv; unfold hi; omega
  have e2 : lo v = (x.toNat % 18446744073709551616 : Nat) := by subst hv; unfold lo; omega
  have hh := halves_any x
  generalize hA : x.toNat / 18446744073709551616 = A at *
  generalize hB : x.toNat % 18446744073709551616 = B at *
  rw [e1, e2]
  clear e1 e2 hv hA hB
  unfold bv at *
  have hx := (Blk.new' (w := w.alloc (.cells #[.int .u64 A, .int .u64 B] 25)) (t := 28) (n := w.heap.size + 1) (cs := arr fun i => x.getLsbD i) (by simp))
  have hw := (Blk.new' (w := w) (t := 25) (n := w.heap.size) (cs := #[.int .u64 A, .int .u64 B]) rfl).alloc (.cells (arr fun i => x.getLsbD i) 28)
  have hbl := two_blocks' w #[.int .u64 A, .int .u64 B] (arr fun i => x.getLsbD i) 25 28
  go_enter Try.func9, Try.ntmps9
  go_wp2_with (first
    | (refine ld28 rfl _ rfl (w.heap.size + 1) rfl (fun i => x.getLsbD i) hx ?_)
    | (go_at_call 28; refine (hh _).mono ?_; rintro e w2 ⟨rfl, hb⟩; have hw2 := hw.below hb hw.lt; have c0 := hw2.cell_eq 0 (.int .u64 A) rfl; have c1 := hw2.cell_eq 1 (.int .u64 B) rfl))
  go_ret
  exact ⟨rfl, hbl.trans (hb.mono (by simp; omega))⟩
end Go.Proofs.Ytdenijkcjgjpkaa
