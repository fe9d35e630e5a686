/-
  A statement whose order Go leaves open, within the body of a range over a function: where it only reads, one order is walked, as outside of such a body. (No Go text.)
  A statement whose order Go leaves open, within the body of a range over a function, by the law of XRegS: its calls may make memory. (No Go text.)
  Append to what is owned (XApp), inside a fence.
-/
import Derived.Sort.QuietTacIn
import Derived.RangeFuncCalls
import Derived.Test.YtdmjcjheanedgaaDoorGC
import Derived.Test.YtdmjcjheanedgaaDoorGB
import Derived.OwnWalkIn
namespace Go.Proofs.YtdmjcjheanedgaaDoor
section
variable {F : Fence} {n l : Nat} {P : Program} {ops : Array Oper} {Q : Exit → Act → World → Prop} {md : Region.Mode}
theorem oper_wpIn_round {o : Oper} (hd : ∀ c, o.op ≠ Op.defer c) (hF : F.round = none) {a : Act} {w : World} {K : Act → World → Prop} (h : o.wpIn F n P a w K Q) : o.wpIn (F.inRound l) n P a w K Q := by
  unfold Oper.wpIn at *
  rw [hF, Oper.semAt_none] at h
  rw [Fence.inRound_round, Oper.semAt_some l _ o hd]
  exact h
theorem wpOpIn_round (hd : ∀ (i : Nat) (o : Oper), ops[i]? = some o → ∀ c, o.op ≠ Op.defer c) (hF : F.round = none) {i : Nat} {a : Act} {w : World} {K : Act → World → Prop} (h : wpOpIn F n P ops Q i K a w) : wpOpIn (F.inRound l) n P ops Q i K a w := by
  unfold wpOpIn at *
  split
  · rename_i ho; simp only [ho] at h; exact h
  · rename_i o ho
    simp only [ho] at h
    split
    · rename_i hw; simp only [hw, if_true] at h; exact oper_wpIn_round (hd i o ho) hF h
    · rename_i hw; simp only [hw] at h; exact h
theorem wpAnyIn_round (hd : ∀ (i : Nat) (o : Oper), ops[i]? = some o → ∀ c, o.op ≠ Op.defer c) (hF : F.round = none) : ∀ (fuel : Nat) (listed : Array Bool) (a : Act) (w : World), wpAnyIn F n P md ops Q fuel listed a w → wpAnyIn (F.inRound l) n P md ops Q fuel listed a w
  | 0, _, _, _, h => h
  | fuel + 1, _, _, _, h => ⟨h.1, fun i hi => wpOpIn_round hd hF (wpOpIn_mono (fun a' w' => wpAnyIn_round hd hF fuel _ a' w') (h.2 i hi))⟩
/-- There is no defer among them. -/
def noDefer (ops : Array Oper) : Bool := ops.toList.all fun o => match o.op with
  | .defer _ => false
  | _ => true
theorem noDefer_spec (h : noDefer ops = true) : ∀ (i : Nat) (o : Oper), ops[i]? = some o → ∀ c, o.op ≠ Op.defer c := by
  intro i o ho c e
  unfold noDefer at h
  rw [List.all_eq_true] at h
  have h1 := h o (by rw [Array.mem_toList_iff]; exact Array.mem_of_getElem? ho)
  rw [e] at h1
  cases h1
end
end Go.Proofs.YtdmjcjheanedgaaDoor
namespace Go.Proofs.YtdmjcjheanedgaaDoor
section
variable {n l : Nat} {P : Program} {ops : Array Oper} {Q : Exit → Act → World → Prop} {md : Region.Mode} {S : Array Bool → World → Prop}
theorem YieldsS.wpOpIn {i : Nat} {o : Oper} {v : Value} {a : Act} (hi : ops[i]? = some o) (hy : YieldsS P md ops S i o v a)
    {K : Act → World → Prop} {L : Array Bool} {w : World} (hL : i ∈ Region.ready md ops L) (hS : S L w) (h : ∀ w', S (L.setIfInBounds i true) w' → K (a.put o.dst v) w') : wpOpIn Fence.wide n P ops Q i K a w := by
  unfold Go.wpOpIn
  simp only [hi]
  rcases hy with ⟨hw, hv⟩ | ⟨hw, rfl, hk⟩
  · simp only [hw, if_true]
    unfold Oper.wpIn
    refine ⟨fun _ _ => trivial, ?_⟩
    rw [show Fence.wide.round = none from rfl, Oper.semAt_none]
    rcases hv L w hL hS with ⟨w', hr, hS'⟩ | ⟨rfl, w', hr, hS'⟩ | ⟨f, args, hr, hc⟩
    · rw [hr]; exact h w' hS'
    · rw [hr]; exact h w' hS'
    · rw [hr]
      refine ⟨fun hd => by simp [Fence.wide] at hd, callsIn_wide.2 (hc.mono ?_)⟩
      rintro e w'' ⟨rfl, hS'⟩
      exact h w'' hS'
  · simp only [hw, Bool.false_eq_true, if_false]
    exact ⟨fun _ _ => trivial, h w (hk L w hS)⟩
theorem AllS.anyIn : ∀ (fuel : Nat) (listed : Array Bool) (a : Act), AllS P md ops Q S fuel listed a → ∀ w, S listed w → wpAnyIn Fence.wide n P md ops Q fuel listed a w
  | 0, _, _, h, w, hS => ⟨h.1, h.2 w hS⟩
  | fuel + 1, _, _, h, w, hS => ⟨fun e => h.1 e w hS, fun j hj => by
      obtain ⟨oj, vj, hoj, hy, hall⟩ := h.2 j hj
      exact hy.wpOpIn hoj hj hS fun w' hS' => AllS.anyIn fuel _ _ hall w' hS'⟩
/-- The beginning, in a round. -/
theorem wpIn_region_S_round {id : Nat} {a : Act} {w : World} (hd : noDefer ops = true) (hm : P.follows .mixedOrders = true) (hS : S (Array.replicate ops.size false) w.drew)
    (h : AllS P .any ops Q S ops.size (Array.replicate ops.size false) a) : (Code.region id ops true).wpIn (Fence.wide.inRound l) n P Q a w :=
  wpIn_region_any hm (wpAnyIn_round (noDefer_spec hd) rfl _ _ _ _ (AllS.anyIn _ _ _ h _ hS))
end
end Go.Proofs.YtdmjcjheanedgaaDoor
namespace Go.Proofs.YtdmjcjheanedgaaDoor
open Go.RowKit
theorem wpListIn_appG {F : Fence} {n0 : Nat} {P : Program} {w : World} {ops : Array Oper} {rest : List Oper} {o : Oper} {a : Act} {Q : Exit → Act → World → Prop} {ko : Option Nat} {ao bo : Option Addr} {cap n c m : Nat} {cs ns : List Value}
    (hgd : o.guard = none) (s x : Operand) (T E : TypeId) (i : TypeInfo) (z : Value) (sz by' : Nat) (hT : P.underlying T = some (.slice E)) (hi : P.info? E = some i) (hz : i.zero = some z) (hs : i.size = sz) (hby : i.bytes = by') (hzs : z.cells.size = sz) (hsz : 0 < sz)
    (ho : o.op = .call { callee := .builtin .append, args := #[s, x], argTypes := #[T, T] }) (how : OwG E sz w ko ao cap n cs) (hsrc : SrcG sz w bo c m ns)
    (hes : a.eval s = .slice ao n cap) (hex : a.eval x = .slice bo m c) (hsum : n + m ≤ 1073741824) (hbytes : (n + m) * by' ≤ 140737488355328)
    (h : ∀ ao' cap' ko' w', OwG E sz w' ko' ao' cap' (n + m) (cs ++ ns) → Frm (fun b => ko = some b) w w' → Moved w ko ko' → wpListIn F n0 P ops Q rest (a.put o.dst (.slice ao' (n + m) cap')) w') : wpListIn F n0 P ops Q (o :: rest) a w := by
  refine wpListIn_plain hgd fun K hK' => ?_
  obtain ⟨ao', cap', ko', w', hr, h2, h3, h4⟩ := run_appG hT hi hz hs hby hzs hsz o.type how hsrc hsum hbytes
  unfold Oper.wpIn
  refine ⟨?_, ?_⟩
  · simp [Oper.about, ho, resolve, Target.leads, Sem.run_pure]
  · rw [Oper.semAt_plain F _ _ (by rw [ho]; intro c hc'; cases hc')]
    simp [execOp, ho, resolve, invoke, builtin, hes, hex, hr, Result.andThen]
    exact hK' _ _ (h _ _ _ _ h2 h3 h4)
end Go.Proofs.YtdmjcjheanedgaaDoor
