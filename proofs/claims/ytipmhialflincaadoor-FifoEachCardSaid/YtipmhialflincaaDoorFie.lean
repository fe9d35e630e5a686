/-
  What nil queues answer; Each of the program: the function that it hands back, and what that yields.
-/
import Derived.Test.YtipmhialflincaaDoorFia
import Derived.Test.YtipmhialflincaaDoorRangec
import Derived.Shelf.Abstract
import Derived.WalkKit
import Derived.OwnWalkIn
import Derived.TacticsInMore
import Derived.LoopNIn
import Derived.LoopIn
import Derived.Stop.RegionWithIn
import Derived.Sort.QuietTacIn
import Derived.Great.BuildSlice
namespace Go.Proofs.YtipmhialflincaaDoor
open Go.RowKit
attribute [local go_sem] Oper.semAt_some
section
variable (x : Int) (W : World)
theorem lenNil_any : Calls Tryd.prog 12 #[.pointer none, .int .i64 x] W fun e w' => e = .returned (.int .i64 0) ∧ w' = W := lenNo_any none x (hasQueueNil_any x W)
set_option maxRecDepth 8000 in
theorem frontNil_any : Calls Tryd.prog 17 #[.pointer none, .int .i64 x] W fun e w' => e = .returned (.tuple #[.int .i64 0, .bool false]) ∧ ∃ n, w' = W.drewN n := by
  have cH := fun w => hasQueueNil_any x w
  go_enter Tryd.func17, Tryd.ntmps17
  go_wp2_with fail
  go_quiet ((go_at_call 24; exact Calls.quiet_of_same (cH _)))
  go_wp2
  all_goals go_ret2
  all_goals exact ⟨rfl, _, rfl⟩
set_option maxRecDepth 8000 in
theorem ofNil_any : Calls Tryd.prog 18 #[.pointer none, .int .i64 x] W fun e w' => e = .returned (.tuple #[.int .i64 0, .bool false]) ∧ ∃ n, w' = W.drewN n := by
  have cH := fun w => hasNodeNil_any x w
  go_enter Tryd.func18, Tryd.ntmps18
  go_wp2_with fail
  go_quiet ((go_at_call 27; exact Calls.quiet_of_same (cH _)))
  go_wp2
  all_goals go_ret2
  all_goals exact ⟨rfl, _, rfl⟩
theorem removeNil_any : Calls Tryd.prog 15 #[.pointer none, .int .i64 x] W fun e w' => e = .returned (.tuple #[.int .i64 0, .bool false]) ∧ ∃ n, w' = W.drewN n := removeNo_any none x 0 W (ofNil_any x W)
theorem popNil_any : Calls Tryd.prog 16 #[.pointer none, .int .i64 x] W fun e w' => e = .returned (.tuple #[.int .i64 0, .bool false]) ∧ ∃ n, w' = W.drewN n := by
  have cF := frontNil_any x W
  go_enter Tryd.func16, Tryd.ntmps16
  go_wp2_with (go_at_call 17; (with_reducible refine cF.mono ?_); rintro e w1 ⟨rfl, n1, rfl⟩)
  go_ret2
  exact ⟨rfl, _, rfl⟩
set_option maxRecDepth 8000 in
theorem pushNil_any (y : Int) : Calls Tryd.prog 14 #[.pointer none, .int .i64 x, .int .i64 y] W fun e w' => e = .returned (.bool false) ∧ ∃ n, w' = W.drewN n := by
  have cH := fun w => hasQueueNil_any x w
  go_enter Tryd.func14, Tryd.ntmps14
  go_wp2_with fail
  go_quiet ((go_at_call 24; exact Calls.quiet_of_same (cH _)))
  go_wp2
  all_goals go_ret
  all_goals exact ⟨rfl, _, rfl⟩
set_option maxRecDepth 8000 in
set_option maxHeartbeats 1000000 in
theorem listNil_any : Calls Tryd.prog 26 #[.pointer none, .int .i64 x] W fun e w' => ∃ ao, e = .returned (.slice ao 0 0) ∧ Below W.heap.size W w' := by
  have cL := lenNil_any x W
  have cF := fun w => frontNil_any x w
  have mC : ∀ w, (Instr.makeSlice 36 (.int .i64 0) (.int .i64 0)).run Tryd.prog w = _ := make_cap 0 (by omega)
  generalize madeCells (cI 0) 0 = zi at *
  have hb0 := Below.refl W.heap.size W
  go_enter Tryd.func26, Tryd.ntmps26
  go_wp2_with (first
    | (go_at_call 12; (with_reducible refine cL.mono ?_); rintro e w1 ⟨rfl, rfl⟩; clear cL)
    | (go_at_call 17; (with_reducible refine (cF _).mono ?_); rintro e w2 ⟨rfl, n2, rfl⟩; clear cF))
  have hB : Below w1.heap.size w1 ((w1.alloc (Obj.cells zi 3)).drewN n2) := below_drewN (hb0.alloc (Nat.le_refl _) _) n2
  generalize (w1.alloc (Obj.cells zi 3)).drewN n2 = V at *
  generalize (some ⟨w1.heap.size, 0, none⟩ : Option Addr) = ao0 at *
  go_loopg [6, 7, 8] 0 (fun j p6 p7 p8 wr => p6 = .slice ao0 0 0 ∧ p7 = .int .i64 0 ∧ p8 = .bool false ∧ wr = V)
  case atStart => exact ⟨rfl, rfl, rfl, rfl⟩
  case round =>
    obtain ⟨rfl, rfl, rfl, rfl⟩ := hrel
    go_wp2_with fail
    go_ret
    exact ⟨ao0, rfl, hB⟩
end
set_option maxRecDepth 8000 in
set_option maxHeartbeats 1000000 in
/-- Each hands back a function that knows the pointer and the queue. -/
theorem each_any (p : Option Addr) (i : Int) (W : World) : Calls Tryd.prog 13 #[.pointer p, .int .i64 i] W fun e w' =>
    e = .returned (.func (.func 25) #[] #[.pointer (some ⟨W.heap.size, 0, none⟩), .pointer (some ⟨W.heap.size + 1, 0, none⟩)]) ∧ Below W.heap.size W w' ∧ ∃ T1 T3, Blk w' W.heap.size T1 #[.pointer p] ∧ Blk w' (W.heap.size + 1) T3 #[.int .i64 i] := by
  go_enter Tryd.func13, Tryd.ntmps13
  have hB : Blk ((W.alloc (.cells #[.pointer p] 24)).alloc (.cells #[.int .i64 i] 3)) (W.heap.size + 1) 3 #[.int .i64 i] := Blk.new' (by simp)
  have hA : Blk ((W.alloc (.cells #[.pointer p] 24)).alloc (.cells #[.int .i64 i] 3)) W.heap.size 24 #[.pointer p] := (Blk.new _ _ _).alloc _
  have hbel : Below W.heap.size W ((W.alloc (.cells #[.pointer p] 24)).alloc (.cells #[.int .i64 i] 3)) := ((Below.refl _ _).alloc (Nat.le_refl _) _).alloc (by simp) _
  go_wp2_with fail
  go_ret
  exact ⟨rfl, hbel, _, _, hA, hB⟩
end Go.Proofs.YtipmhialflincaaDoor
