/-
  A function value that is called as it stands.
-/
import Derived.Test.YteljjjdejjkgfaaProg
import Derived.WalkKit
import Derived.Laws.EntriesVeiled
namespace Go.Proofs.Yteljjjdejjkgfaa
open Go.RowKit
def Goes (fn : Nat) : Prop := ∀ (args : Array Value) (w : World), (callFunc fn args).run Try.prog w = .ok (.enter fn args) w
theorem goes_of {fn : Nat} {f : Func} (h : Try.prog.funcs[fn]? = some f) (h1 : (f.name == "runtime.NumGoroutine") = false) (h2 : f.body.isNone = false) : Goes fn := by
  intro args w
  unfold callFunc
  simp [go_sem, h]
  rw [if_neg (fun e => by rw [e] at h1; cases h1), if_neg (fun e => by rw [e] at h2; cases h2)]
end Go.Proofs.Yteljjjdejjkgfaa
