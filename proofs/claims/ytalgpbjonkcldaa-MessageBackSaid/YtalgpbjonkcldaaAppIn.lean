/-
  Append to what is owned (XApp), inside a fence.
-/
import Derived.Test.YtalgpbjonkcldaaApp
import Derived.OwnWalkIn
namespace Go.Proofs.Ytalgpbjonkcldaa
open Go.RowKit
theorem wpListIn_appG {F : Fence} {n0 : Nat} {P : Program} {w : World} {ops : Array Oper} {rest : List Oper} {o : Oper} {a : Act} {Q : Exit → Act → World → Prop} {ko : Option Nat} {ao bo : Option Addr} {cap n c m : Nat} {cs ns : List Value}
    (hgd : o.guard = none) (s x : Operand) (T E : TypeId) (i : TypeInfo) (z : Value) (sz by' : Nat) (hT : P.underlying T = some (.slice E)) (hi : P.info? E = some i) (hz : i.zero = some z) (hs : i.size = sz) (hby : i.bytes = by') (hzs : z.cells.size = sz) (hsz : 0 < sz)
    (ho : o.op = .call { callee := .builtin .append, args := #[s, x], argTypes := #[T, T] }) (how : OwG E sz w ko ao cap n cs) (hsrc : SrcG sz w bo c m ns)
    (hes : a.eval s = .slice ao n cap) (hex : a.eval x = .slice bo m c) (hsum : n + m ≤ 1073741824) (hbytes : (n + m) * by' ≤ 140737488355328)
    (h : ∀ ao' cap' ko' w', OwG E sz w' ko' ao' cap' (n + m) (cs ++ ns) → Frm (fun b => ko = some b) w w' → Moved w ko ko' → wpListIn F n0 P ops Q rest (a.put o.dst (.slice ao' (n + m) cap')) w') : wpListIn F n0 P ops Q (o :: rest) a w := by
  refine wpListIn_plain hgd fun K hK' => ?_
  obtain ⟨ao', cap', ko', w', hr, h2, h3, h4⟩ := run_appG hT hi hz hs hby hzs hsz o.type how hsrc hsum hbytes
  unfold Oper.wpIn
  refine ⟨?_, ?_⟩
  · simp [Oper.about, ho, resolve, Target.leads, Sem.run_pure]
  · rw [Oper.semAt_plain F _ _ (by rw [ho]; intro c hc'; cases hc')]
    simp [execOp, ho, resolve, invoke, builtin, hes, hex, hr, Result.andThen]
    exact hK' _ _ (h _ _ _ _ h2 h3 h4)
end Go.Proofs.Ytalgpbjonkcldaa
