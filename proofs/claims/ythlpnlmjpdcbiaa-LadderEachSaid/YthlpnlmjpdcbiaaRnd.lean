/-
  A statement whose order Go leaves open, within the body of a range over a function, by the law of XRegS: its calls may make memory. (No Go text.)
-/
import Derived.Test.YthlpnlmjpdcbiaaRegS
import Derived.Test.YthlpnlmjpdcbiaaQround
namespace Go.Proofs.Ythlpnlmjpdcbiaa
section
variable {n l : Nat} {P : Program} {ops : Array Oper} {Q : Exit → Act → World → Prop} {md : Region.Mode} {S : Array Bool → World → Prop}
theorem YieldsS.wpOpIn {i : Nat} {o : Oper} {v : Value} {a : Act} (hi : ops[i]? = some o) (hy : YieldsS P md ops S i o v a)
    {K : Act → World → Prop} {L : Array Bool} {w : World} (hL : i ∈ Region.ready md ops L) (hS : S L w) (h : ∀ w', S (L.setIfInBounds i true) w' → K (a.put o.dst v) w') : wpOpIn Fence.wide n P ops Q i K a w := by
  unfold Go.wpOpIn
  simp only [hi]
  rcases hy with ⟨hw, hv⟩ | ⟨hw, rfl, hk⟩
  · simp only [hw, if_true]
    unfold Oper.wpIn
    refine ⟨fun _ _ => trivial, ?_⟩
    rw [show Fence.wide.round = none from rfl, Oper.semAt_none]
    rcases hv L w hL hS with ⟨w', hr, hS'⟩ | ⟨rfl, w', hr, hS'⟩ | ⟨f, args, hr, hc⟩
    · rw [hr]; exact h w' hS'
    · rw [hr]; exact h w' hS'
    · rw [hr]
      refine ⟨fun hd => by simp [Fence.wide] at hd, callsIn_wide.2 (hc.mono ?_)⟩
      rintro e w'' ⟨rfl, hS'⟩
      exact h w'' hS'
  · simp only [hw, Bool.false_eq_true, if_false]
    exact ⟨fun _ _ => trivial, h w (hk L w hS)⟩
theorem AllS.anyIn : ∀ (fuel : Nat) (listed : Array Bool) (a : Act), AllS P md ops Q S fuel listed a → ∀ w, S listed w → wpAnyIn Fence.wide n P md ops Q fuel listed a w
  | 0, _, _, h, w, hS => ⟨h.1, h.2 w hS⟩
  | fuel + 1, _, _, h, w, hS => ⟨fun e => h.1 e w hS, fun j hj => by
      obtain ⟨oj, vj, hoj, hy, hall⟩ := h.2 j hj
      exact hy.wpOpIn hoj hj hS fun w' hS' => AllS.anyIn fuel _ _ hall w' hS'⟩
/-- The beginning, in a round. -/
theorem wpIn_region_S_round {id : Nat} {a : Act} {w : World} (hd : noDefer ops = true) (hm : P.follows .mixedOrders = true) (hS : S (Array.replicate ops.size false) w.drew)
    (h : AllS P .any ops Q S ops.size (Array.replicate ops.size false) a) : (Code.region id ops true).wpIn (Fence.wide.inRound l) n P Q a w :=
  wpIn_region_any hm (wpAnyIn_round (noDefer_spec hd) rfl _ _ _ _ (AllS.anyIn _ _ _ h _ hS))
end
end Go.Proofs.Ythlpnlmjpdcbiaa
