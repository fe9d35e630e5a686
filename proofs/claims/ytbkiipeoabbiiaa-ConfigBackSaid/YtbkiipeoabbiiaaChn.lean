/-
  Calls that write, one behind the other, in a statement whose order Go leaves open: how far they have come is told by which have come up (for any state J).
-/
import Derived.Test.YtbkiipeoabbiiaaChain
namespace Go.Proofs.Ytbkiipeoabbiiaa
open Go.RowKit
structure Chn (n : Nat) (l : List Nat) (J : Nat → World → Prop) (L : Array Bool) (w : World) : Prop where
  size : L.size = n
  flags : flg L l
  at' : J (stg L l) w
theorem Chn.start {w : World} {J : Nat → World → Prop} (n : Nat) (l : List Nat) (h : J 0 w) : Chn n l J (Array.replicate n false) w :=
  ⟨by simp, flg_none n l, by rw [stg_none]; exact h⟩
theorem Chn.other {w : World} {n i : Nat} {l : List Nat} {J : Nat → World → Prop} {L : Array Bool} (h : Chn n l J L w) (hi : i ∉ l) : Chn n l J (L.setIfInBounds i true) w :=
  ⟨by rw [Array.size_setIfInBounds]; exact h.size, flg_other l hi h.flags, by rw [stg_other l hi]; exact h.at'⟩
theorem Chn.call {w : World} {n p i : Nat} {l : List Nat} {J : Nat → World → Prop} {L : Array Bool} {md : Region.Mode} {ops : Array Oper} {P : Program} {f : FuncId} {args : Array Value} {v : Value}
    (h : Chn n l J L w) (hr : i ∈ Region.ready md ops L) (hp : l[p]? = some i) (hin : i < n) (hn : l.Nodup) (hwt : waits md ops l = true)
    (hc : ∀ w, J p w → Calls P f args w fun e w' => e = .returned v ∧ J (p + 1) w') :
    Calls P f args w fun e w' => e = .returned v ∧ Chn n l J (L.setIfInBounds i true) w' := by
  have h0 := ready_not hr
  have hb : ∀ q j, q < p → l[q]? = some j → L.getD j false = true := by
    cases p with
    | zero => intro q j hq; omega
    | succ p =>
      have hlt : p + 1 < l.length := (List.getElem?_eq_some_iff.1 hp).1
      have hj0 : l[p]? = some l[p] := List.getElem?_eq_getElem (by omega)
      have hd := ready_dep hr (waits_at l p _ i hwt hj0 hp)
      intro q j hq hj
      rcases Nat.lt_or_ge q p with h' | h'
      · exact flg_before l p _ h.flags hj0 hd q j h' hj
      · obtain rfl : q = p := by omega
        rw [hj0] at hj
        injection hj with e
        rw [← e]; exact hd
  obtain ⟨h1, h2, h3⟩ := stg_call l p i hp hn h.flags (by rw [h.size]; exact hin) h0 hb
  have hw := h.at'
  rw [h1] at hw
  refine (hc w hw).mono fun e w' h' => ⟨h'.1, by rw [Array.size_setIfInBounds]; exact h.size, h3, ?_⟩
  rw [h2]
  exact h'.2
end Go.Proofs.Ytbkiipeoabbiiaa
