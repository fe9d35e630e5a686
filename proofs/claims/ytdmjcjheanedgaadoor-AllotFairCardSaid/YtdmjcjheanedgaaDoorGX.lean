/-
  What nil queues answer; Each of the program: the function that it hands back, and what that yields.
  What the function that Each of package fifo hands back yields.
-/
import Derived.Test.YtdmjcjheanedgaaDoorFiaq
import Derived.Test.YtdmjcjheanedgaaDoorGM
import Derived.Shelf.Abstract
import Derived.WalkKit
import Derived.OwnWalkIn
import Derived.TacticsInMore
import Derived.LoopNIn
import Derived.LoopIn
import Derived.Stop.RegionWithIn
import Derived.Sort.QuietTacIn
import Derived.Great.BuildSlice
namespace Go.Proofs.YtdmjcjheanedgaaDoor
open Go.RowKit
attribute [local go_sem] Oper.semAt_some
section
variable (x : Int) (W : World)
end
set_option maxRecDepth 8000 in
set_option maxHeartbeats 1000000 in
/-- Each hands back a function that knows the pointer and the queue. -/
theorem each_any (p : Option Addr) (i : Int) (W : World) : Calls Tryd.prog 82 #[.pointer p, .int .i64 i] W fun e w' =>
    e = .returned (.func (.func 94) #[] #[.pointer (some ⟨W.heap.size, 0, none⟩), .pointer (some ⟨W.heap.size + 1, 0, none⟩)]) ∧ Below W.heap.size W w' ∧ ∃ T1 T3, Blk w' W.heap.size T1 #[.pointer p] ∧ Blk w' (W.heap.size + 1) T3 #[.int .i64 i] := by
  go_enter Tryd.func82, Tryd.ntmps82
  have hB : Blk ((W.alloc (.cells #[.pointer p] 75)).alloc (.cells #[.int .i64 i] 3)) (W.heap.size + 1) 3 #[.int .i64 i] := Blk.new' (by simp)
  have hA : Blk ((W.alloc (.cells #[.pointer p] 75)).alloc (.cells #[.int .i64 i] 3)) W.heap.size 75 #[.pointer p] := (Blk.new _ _ _).alloc _
  have hbel : Below W.heap.size W ((W.alloc (.cells #[.pointer p] 75)).alloc (.cells #[.int .i64 i] 3)) := ((Below.refl _ _).alloc (Nat.le_refl _) _).alloc (by simp) _
  go_wp2_with fail
  go_ret
  exact ⟨rfl, hbel, _, _, hA, hB⟩
end Go.Proofs.YtdmjcjheanedgaaDoor
namespace Go.Proofs.YtdmjcjheanedgaaDoor
open Go.RowKit
attribute [local go_sem] Oper.semAt_some
def encF (x : Nat) : Array Value := #[.int .i64 (x : Int)]
/-- What is handed to a round: the next one. -/
def goodF (q : List Nat) (pre : List Nat) (x : Nat) (_ : World) : Prop := q[pre.length]? = some x
theorem goodF_put (q : List Nat) (pre : List Nat) (x : Nat) (A : World) (l : Nat) (o o' : Obj) (h : goodF q pre x A) (_ : A.heap[l]? = some o) (_ : o.isCells = false) : goodF q pre x (A.putObj l o') := h
theorem fblk_frm {S : Nat → Prop} {w w' : World} {g : Nat} {t : TypeId} {cs : Array Value} (h : Blk w g t cs) (hf : Frm S w w') (hg : ¬ S g) : Blk w' g t cs := (hf.block g h.lt hg).trans h
theorem fwide_fn (f : FuncId) : Fence.wide.fn f = True := by simp [Fence.wide]
attribute [local go_sem] fwide_fn
theorem fmerge3 {e : Ending} {A B : Prop} (h : (e = .returned (.bool true) ∧ A) ∨ (e = .returned (.bool false) ∧ B)) : ∃ k, e = .returned (.bool k) ∧ ((k = true ∧ A) ∨ (k = false ∧ B)) := by
  rcases h with ⟨h1, h2⟩ | ⟨h1, h2⟩
  · exact ⟨true, h1, .inl ⟨rfl, h2⟩⟩
  · exact ⟨false, h1, .inr ⟨rfl, h2⟩⟩
end Go.Proofs.YtdmjcjheanedgaaDoor
