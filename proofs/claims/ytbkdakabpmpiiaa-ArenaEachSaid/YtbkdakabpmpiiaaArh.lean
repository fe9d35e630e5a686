/-
  The contracts of package arena's methods that read: holds, Used, Room.
-/
import Derived.Test.YtbkdakabpmpiiaaAre
import Derived.Deep.QuietTactic
import Derived.BigQuiet
import Derived.IntWalk
import Derived.ProofKit
import Derived.OpenShut
namespace Go.Proofs.Ytbkdakabpmpiiaa
open Go.RowKit
set_option maxRecDepth 8000 in
set_option maxHeartbeats 1000000 in
theorem holds_any (g : Nat) (c : Array Value) (s : Ar) (x : Int) (W : World) (hB : Blk W g 58 c) (hA : Arn c s) :
    Calls Try.prog 25 #[.pointer (some ⟨g, 0, none⟩), .int .i64 x] W fun e w' => e = .returned (.bool (s.hasI x)) ∧ w' = W := by
  have c0 := hB.cell_eq 4000 _ hA.cn
  have hn := hA.small
  by_cases h0 : x < 0
  · rw [s.hasI_neg h0]
    go_enter Try.func25, Try.ntmps25
    go_wp2_with fail
    all_goals go_ret
    all_goals trivial
  · obtain ⟨i, rfl⟩ : ∃ i : Nat, x = (i : Int) := ⟨x.toNat, by omega⟩
    rw [s.hasI_nat]
    by_cases h1 : i < s.n
    · obtain ⟨y, hy, hk⟩ := hA.link h1
      have c1 := hB.cell_eq _ _ hy
      rw [← hk]
      generalize s.n = n at *
      clear hk hy hA
      go_enter Try.func25, Try.ntmps25
      go_wp2_with fail
      all_goals go_ret
      all_goals trivial
    · rw [Ar.has_ge hA.wf (by omega)]
      generalize s.n = n at *
      clear hA
      go_enter Try.func25, Try.ntmps25
      go_wp2_with fail
      all_goals go_ret
      all_goals trivial
set_option maxRecDepth 8000 in
set_option maxHeartbeats 1000000 in
theorem used_any (g : Nat) (c : Array Value) (s : Ar) (W : World) (hB : Blk W g 58 c) (hA : Arn c s) :
    Calls Try.prog 11 #[.pointer (some ⟨g, 0, none⟩)] W fun e w' => e = .returned (.int .i64 (s.used : Int)) ∧ w' = W := by
  have c1 := hB.cell_eq 4001 _ hA.cu
  generalize s.used = u at *
  clear hA
  go_enter Try.func11, Try.ntmps11
  go_wp2_with fail
  all_goals go_ret
  all_goals trivial
theorem usedNil_any (W : World) :
    Calls Try.prog 11 #[.pointer none] W fun e w' => e = .returned (.int .i64 0) ∧ w' = W := by
  go_enter Try.func11, Try.ntmps11
  go_wp2_with fail
  all_goals go_ret
  all_goals trivial
set_option maxRecDepth 8000 in
set_option maxHeartbeats 1000000 in
theorem room_any (g : Nat) (c : Array Value) (s : Ar) (W : World) (hB : Blk W g 58 c) (hA : Arn c s) :
    Calls Try.prog 13 #[.pointer (some ⟨g, 0, none⟩)] W fun e w' => e = .returned (.int .i64 (s.fr.length : Int)) ∧ ∃ n, w' = W.drewN n := by
  have c0 := hB.cell_eq 4000 _ hA.cn
  have c1 := hB.cell_eq 4001 _ hA.cu
  have h1 := hA.wf.cnt
  have h2 := hA.small
  have h3 : IntKind.i64.wrap ((s.n : Int) - s.used) = s.fr.length := by
    rw [IntWalk.i64_in _ (by omega)]; omega
  generalize s.used = u at *
  generalize s.fr.length = r at *
  generalize s.n = n at *
  clear hA h1
  go_enter Try.func13, Try.ntmps13
  go_wp2_with fail
  go_quiet (fail)
  go_wp2
  all_goals go_ret
  all_goals exact ⟨rfl, _, rfl⟩
theorem roomNil_any (W : World) :
    Calls Try.prog 13 #[.pointer none] W fun e w' => e = .returned (.int .i64 0) ∧ w' = W := by
  go_enter Try.func13, Try.ntmps13
  go_wp2_with fail
  all_goals go_ret
  all_goals trivial
end Go.Proofs.Ytbkdakabpmpiiaa
