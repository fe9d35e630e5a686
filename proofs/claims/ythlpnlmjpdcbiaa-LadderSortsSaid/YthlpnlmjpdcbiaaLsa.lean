/-
  What many orders, put one behind the other, make of a side; and what it is taken away level by level. (No Go text.)
-/
import Derived.Test.YthlpnlmjpdcbiaaLae
namespace Go.Proofs.Ythlpnlmjpdcbiaa
def sumO : List Lvl → Int
  | [] => 0
  | x :: t => x.orders + sumO t
theorem sumO_append (a b : List Lvl) : sumO (a ++ b) = sumO a + sumO b := by
  induction a with
  | nil => simp [sumO]
  | cons x t ih => simp only [List.cons_append, sumO, ih]; omega
theorem sumO_perm {a b : List Lvl} (h : a.Perm b) : sumO a = sumO b := by
  induction h with
  | nil => rfl
  | cons x _ ih => simp only [sumO, ih]
  | swap x y l => simp only [sumO]; omega
  | trans _ _ h1 h2 => exact h1.trans h2
theorem sumO_set {L : List Lvl} {i : Nat} {x y : Lvl} (h : L[i]? = some x) : sumO (L.set i y) = sumO L - x.orders + y.orders := by
  have h1 := sumO_perm (perm_set (y := y) h)
  have h2 := sumO_perm (perm_erase h)
  simp only [sumO] at h1 h2
  omega
/-- The side behind these orders of 3 each. -/
structure Fd (buy : Bool) (l : List Int) (s : Ld) : Prop where
  buy : s.buy = buy
  most : s.most = 40
  wf : s.Wf l.length
  lev : ∀ x ∈ s.L, x.orders = (l.count x.price : Nat) ∧ x.qty = 3 * ((l.count x.price : Nat) : Int)
  cov : ∀ p ∈ l, ∃ x ∈ s.L, x.price = p
  sum : sumO s.L = (l.length : Nat)
  len : s.L.length ≤ l.length
theorem Fd.new (buy : Bool) : Fd buy [] ⟨buy, 40, []⟩ :=
  ⟨rfl, rfl, Ld.new_wf buy 40, fun _ h => absurd h List.not_mem_nil, fun _ h => absurd h List.not_mem_nil, rfl, Nat.le_refl _⟩
theorem count_snoc (l : List Int) (p q : Int) : (l ++ [p]).count q = l.count q + if p = q then 1 else 0 := by
  rw [List.count_append, List.count_cons, List.count_nil]
  simp
theorem Fd.put {buy : Bool} {l : List Int} {s : Ld} (h : Fd buy l s) {p : Int} (h1 : 1 ≤ p) (h2 : p ≤ 4611686018427387904) (hl : l.length < 40) : (s.putR p 3).2 = 0 ∧ Fd buy (l ++ [p]) (s.putS p 3) := by
  have hw := h.wf.put (p := p) (q := 3) (by omega) (by omega)
  have hlen : (l ++ [p]).length = l.length + 1 := by simp
  have hpq : ¬ (p < 1 ∨ (3 : Int) < 1) := by omega
  cases hf : s.find p with
  | some i =>
    obtain ⟨x, hx, rfl, -⟩ := Ld.find_some hf
    have hxm := List.mem_of_getElem? hx
    obtain ⟨e1, e2⟩ := h.lev x hxm
    have hc := l.count_le_length (a := x.price)
    have hs : x.qty + 3 < 9223372036854775808 := by omega
    have eR : s.putR x.price 3 = (x.queue, 0) := by unfold Ld.putR; rw [if_neg hpq, hf]; simp only [Ld.at_eq hx]; rw [if_pos hs]
    have eS : s.putS x.price 3 = ⟨s.buy, s.most, s.L.set i (x.add 3)⟩ := by unfold Ld.putS; rw [if_neg hpq, hf]; simp only [Ld.at_eq hx]; rw [if_pos hs]
    rw [eS] at hw
    rw [eR, eS]
    refine ⟨rfl, h.buy, h.most, by rw [hlen]; exact hw, fun y hy => ?_, fun q hq => ?_, ?_, by simp; exact Nat.le_succ_of_le h.len⟩
    · obtain ⟨j, hj⟩ := List.mem_iff_getElem?.1 hy
      rw [List.getElem?_set] at hj
      split at hj
      · split at hj
        · cases hj
          simp only [Lvl.add, count_snoc, if_true, e1, e2]
          omega
        · cases hj
      · next hij =>
        have hne : x.price ≠ y.price := by
          intro e
          obtain ⟨li, rfl⟩ := List.getElem?_eq_some_iff.1 hx
          obtain ⟨lj, rfl⟩ := List.getElem?_eq_some_iff.1 hj
          rcases Nat.lt_trichotomy i j with g | g | g
          · exact List.pairwise_iff_getElem.1 h.wf.uniP i j li lj g e
          · exact hij g
          · exact List.pairwise_iff_getElem.1 h.wf.uniP j i lj li g e.symm
        have := h.lev y (List.mem_of_getElem? hj)
        rw [count_snoc, if_neg hne]
        exact this
    · rcases List.mem_append.1 hq with g | g
      · obtain ⟨y, hy, e⟩ := h.cov q g
        obtain ⟨j, hj⟩ := List.mem_iff_getElem?.1 hy
        by_cases hij : i = j
        · subst hij
          rw [hx] at hj
          cases hj
          exact ⟨_, List.mem_of_getElem? (i := i) (List.getElem?_set_self (List.getElem?_eq_some_iff.1 hx).1), e⟩
        · exact ⟨y, List.mem_of_getElem? (i := j) (by rw [List.getElem?_set, if_neg hij]; exact hj), e⟩
      · rw [List.mem_singleton.1 g]
        exact ⟨_, List.mem_of_getElem? (i := i) (List.getElem?_set_self (List.getElem?_eq_some_iff.1 hx).1), rfl⟩
    · rw [sumO_set hx, h.sum, hlen]
      simp only [Lvl.add]
      omega
  | none =>
    have hno := Ld.find_none hf
    have hm := h.most
    have hsl := h.len
    have hc0 : l.count p = 0 := by
      refine List.count_eq_zero.2 fun hp => ?_
      obtain ⟨x, hx, e⟩ := h.cov p hp
      exact hno x hx e
    have hs : s.L.length < s.most := by omega
    have eR : s.putR p 3 = (((freeQ s.L : Nat) : Int), 0) := by unfold Ld.putR; rw [if_neg hpq, hf]; simp only; rw [if_pos hs]
    have eS : s.putS p 3 = ⟨s.buy, s.most, s.L ++ [⟨p, 3, 1, (freeQ s.L : Nat)⟩]⟩ := by unfold Ld.putS; rw [if_neg hpq, hf]; simp only; rw [if_pos hs]
    rw [eS] at hw
    rw [eR, eS]
    refine ⟨rfl, h.buy, h.most, by rw [hlen]; exact hw, fun y hy => ?_, fun q hq => ?_, ?_, by simp; exact h.len⟩
    · rcases List.mem_append.1 hy with g | g
      · have := h.lev y g
        rw [count_snoc, if_neg (fun e => hno y g e.symm)]
        exact this
      · rw [List.mem_singleton.1 g]
        simp [count_snoc, hc0]
    · rcases List.mem_append.1 hq with g | g
      · obtain ⟨y, hy, e⟩ := h.cov q g
        exact ⟨y, List.mem_append.2 (.inl hy), e⟩
      · exact ⟨_, List.mem_append.2 (.inr (List.mem_singleton.2 rfl)), (List.mem_singleton.1 g).symm⟩
    · rw [sumO_append, h.sum, hlen]
      simp only [sumO]
      omega
/-- One order of 3 taken from the best level. -/
theorem take_best {s : Ld} {k : Nat} (hw : s.Wf k) {x : Lvl} {Q : List Lvl} (hO : Ord s.buy s.L (x :: Q)) (hq : 3 ≤ x.qty) :
    s.takeR x.price 3 = (x.queue, 0) ∧ (s.takeS x.price 3 true).buy = s.buy ∧ (s.takeS x.price 3 true).most = s.most ∧
      (x.orders = 1 → Ord s.buy (s.takeS x.price 3 true).L Q) ∧ (x.orders ≠ 1 → Ord s.buy (s.takeS x.price 3 true).L (x.sub 3 true :: Q)) := by
  have hxm : x ∈ s.L := hO.mem.1 (by simp)
  have hf : ∃ i, s.find x.price = some i := by
    cases h : s.find x.price with
    | none => exact absurd rfl (Ld.find_none h x hxm)
    | some i => exact ⟨i, rfl⟩
  obtain ⟨i, hf⟩ := hf
  have hpl : plc s.buy (x :: Q) x.price = 0 := hO.std.plc_of (k := 0) rfl
  have h1 := hO.takeSet 3 true hf
  have h2 := hO.takeDel hf
  obtain ⟨y, hy, -, hyP⟩ := hO.found hf
  rw [hpl] at h1 h2 hyP
  obtain rfl : x = y := by simpa using hyP
  rw [Ld.at_eq hy] at h1
  unfold Ld.takeR Ld.takeS
  rw [hf]
  simp only [Ld.at_eq hy]
  rw [if_neg (by omega), if_neg (by omega)]
  have hoo := hw.orders x hxm
  by_cases hz : x.orders = 1
  · rw [if_pos (by simp [Lvl.sub, hz])]
    exact ⟨rfl, rfl, rfl, fun _ => by simpa using h2, fun e => absurd hz e⟩
  · rw [if_neg (by simp [Lvl.sub]; omega)]
    exact ⟨rfl, rfl, rfl, fun e => absurd e hz, fun _ => by simpa using h1⟩
end Go.Proofs.Ythlpnlmjpdcbiaa
