/-
  The price of an auction: which are allowed, which one comes before, which one is chosen. (No Go text.)
  damper/damperref17.Price: a struct of 3 ints as Go's values: laid, read whole, compared, as an argument, in slices. (Written by gen/struct.py.)
  How the program compares two prices of an auction (the first answer that is not 0), and finds the least one. (No Go text.)
-/
import Derived.Test.YtohenmnpmgghhaaGreatDoorGCa
import Derived.Test.YtohenmnpmgghhaaGreatDoorGOa
import Derived.Test.YtohenmnpmgghhaaGreatDoorGB
import Derived.Laws.StructEq
import Derived.Lib.Hide
import Derived.ProofKit
import Derived.OpenShut
import Derived.Deep.Slices
import Derived.Test.YtohenmnpmgghhaaGreatDoorGCc
namespace Go.Proofs.YtohenmnpmgghhaaGreatDoor
structure Prc where
  price : Int
  volume : Int
  odds : Int
def Prc.zero : Prc := ⟨0, 0, 0⟩
structure Prc.Fit (m : Prc) : Prop where
  price : In64 m.price
  volume : In64 m.volume
  odds : In64 m.odds
def farI (a b : Int) : Int := if b < a then a - b else b - a
def lessP (a b : Prc) (r : Int) : Bool :=
  if a.volume ≠ b.volume then decide (b.volume < a.volume) else
  if a.odds ≠ b.odds then decide (a.odds < b.odds) else
  if farI a.price r ≠ farI b.price r then decide (farI a.price r < farI b.price r) else decide (a.price < b.price)
def prcOf (L : List Ord) (p : Int) : Prc := ⟨p, volP (catL L p), oddP (catL L p)⟩
/-- The price of a band that is nearest. -/
def nearI (r lo hi : Int) : Int := if (if r < hi then r else hi) < lo then lo else (if r < hi then r else hi)
def bLo (lo : Int) : Int := if lo < 1 then 1 else lo
def bHi (hi : Int) : Int := if hi < 1099511627776 then hi else 1099511627776
def alwL (L : List Ord) (r lo hi : Int) : List Int :=
  if bHi hi < bLo lo then [] else cins (nearI r (bLo lo) (bHi hi)) (nearI r (bLo lo) (bHi hi)) (cpr (bLo lo) (bHi hi) L) (nearI r (bLo lo) (bHi hi))
/-- The one that comes before all others. -/
def bestTo (L : List Ord) (r : Int) : List Int → Prc → Prc
  | [], z => z
  | p :: t, z => bestTo L r t (if lessP (prcOf L p) z r = true then prcOf L p else z)
def bestL (L : List Ord) (r : Int) : List Int → Prc
  | [] => .zero
  | p :: t => bestTo L r t (prcOf L p)
def chsL (L : List Ord) (r lo hi : Int) : Prc × Bool := if (bestL L r (alwL L r lo hi)).volume = 0 then (.zero, false) else (bestL L r (alwL L r lo hi), true)
section
variable {a b c z : Prc} {r : Int} {L : List Ord}
theorem lessP_irr (a : Prc) (r : Int) : lessP a a r = false := by simp [lessP]
theorem lessP_iff : lessP a b r = true ↔ b.volume < a.volume ∨ (a.volume = b.volume ∧ (a.odds < b.odds ∨ (a.odds = b.odds ∧ (farI a.price r < farI b.price r ∨ (farI a.price r = farI b.price r ∧ a.price < b.price))))) := by
  unfold lessP
  by_cases h1 : a.volume = b.volume
  · rw [if_neg (by simpa using h1)]
    by_cases h2 : a.odds = b.odds
    · rw [if_neg (by simpa using h2)]
      by_cases h3 : farI a.price r = farI b.price r
      · rw [if_neg (by simpa using h3)]
        simp only [decide_eq_true_eq]
        omega
      · rw [if_pos h3]
        simp only [decide_eq_true_eq]
        omega
    · rw [if_pos h2]
      simp only [decide_eq_true_eq]
      omega
  · rw [if_pos h1]
    simp only [decide_eq_true_eq]
    omega
theorem lessP_trans (h1 : lessP a b r = true) (h2 : lessP b c r = true) : lessP a c r = true := by
  rw [lessP_iff] at *
  omega
theorem lessP_tri (h : a.price ≠ b.price) : lessP a b r = true ∨ lessP b a r = true := by
  rw [lessP_iff, lessP_iff]
  omega
/-- What comes out: it is one of them, and none comes before it. -/
theorem bestTo_spec (q : List Int) : ∀ z, (bestTo L r q z = z ∨ ∃ p ∈ q, bestTo L r q z = prcOf L p) ∧ (∀ p ∈ q, lessP (prcOf L p) (bestTo L r q z) r = false) ∧ (lessP z (bestTo L r q z) r = false) := by
  induction q with
  | nil => exact fun z => ⟨.inl rfl, fun p h => (by cases h), lessP_irr _ _⟩
  | cons x t ih =>
    intro z
    obtain ⟨h1, h2, h3⟩ := ih (if lessP (prcOf L x) z r = true then prcOf L x else z)
    unfold bestTo
    by_cases hx : lessP (prcOf L x) z r = true
    · rw [if_pos hx] at h1 h2 h3 ⊢
      refine ⟨.inr ?_, fun p hp => ?_, ?_⟩
      · rcases h1 with h1 | ⟨p, hp, h1⟩
        · exact ⟨x, List.mem_cons_self, h1⟩
        · exact ⟨p, List.mem_cons_of_mem _ hp, h1⟩
      · rw [List.mem_cons] at hp
        rcases hp with rfl | hp
        · exact h3
        · exact h2 p hp
      · cases hg : lessP z (bestTo L r t (prcOf L x)) r with
        | false => rfl
        | true => rw [lessP_trans hx hg] at h3; cases h3
    · rw [if_neg hx] at h1 h2 h3 ⊢
      refine ⟨?_, fun p hp => ?_, h3⟩
      · rcases h1 with h1 | ⟨p, hp, h1⟩
        · exact .inl h1
        · exact .inr ⟨p, List.mem_cons_of_mem _ hp, h1⟩
      · rw [List.mem_cons] at hp
        rcases hp with rfl | hp
        · cases hg : lessP (prcOf L p) (bestTo L r t z) r with
          | false => rfl
          | true =>
            have hx' : lessP (prcOf L p) z r = false := by simpa using hx
            -- were it before the one that comes out, it would be before z, or z itself
            rcases h1 with h1 | ⟨y, hy, h1⟩
            · rw [h1, hx'] at hg; cases hg
            · by_cases hz : lessP (bestTo L r t z) z r = true
              · rw [lessP_trans hg hz] at hx'; cases hx'
              · have hz' : lessP (bestTo L r t z) z r = false := by simpa using hz
                exfalso
                rw [lessP_iff] at hg
                have g3 := h3
                have e3 : ¬ lessP z (bestTo L r t z) r = true := by rw [h3]; decide
                have e4 : ¬ lessP (bestTo L r t z) z r = true := hz
                have e5 : ¬ lessP (prcOf L p) z r = true := by rw [hx']; decide
                rw [lessP_iff] at e3 e4 e5
                omega
        · exact h2 p hp
theorem bestL_spec {q : List Int} (h : q ≠ []) : (∃ p ∈ q, bestL L r q = prcOf L p) ∧ ∀ p ∈ q, lessP (prcOf L p) (bestL L r q) r = false := by
  cases q with
  | nil => exact absurd rfl h
  | cons x t =>
    obtain ⟨h1, h2, h3⟩ := bestTo_spec (L := L) (r := r) t (prcOf L x)
    unfold bestL
    refine ⟨?_, fun p hp => ?_⟩
    · rcases h1 with h1 | ⟨p, hp, h1⟩
      · exact ⟨x, List.mem_cons_self, h1⟩
      · exact ⟨p, List.mem_cons_of_mem _ hp, h1⟩
    · rw [List.mem_cons] at hp
      rcases hp with rfl | hp
      · exact h3
      · exact h2 p hp
/-- It is known by that. -/
theorem best_unique {q : List Int} {x : Int} (hx : x ∈ q) (h : ∀ p ∈ q, lessP (prcOf L p) (prcOf L x) r = false) : bestL L r q = prcOf L x := by
  obtain ⟨⟨y, hy, e⟩, h2⟩ := bestL_spec (L := L) (r := r) (List.ne_nil_of_mem hx)
  rw [e]
  by_cases hxy : y = x
  · rw [hxy]
  · rcases lessP_tri (a := prcOf L y) (b := prcOf L x) (r := r) hxy with g | g
    · rw [h y hy] at g; cases g
    · have := h2 x hx
      rw [e, g] at this
      cases this
theorem near_in {lo hi : Int} (h : lo ≤ hi) : lo ≤ nearI r lo hi ∧ nearI r lo hi ≤ hi := by
  unfold nearI
  split <;> split <;> omega
theorem near_id {lo hi : Int} (h1 : lo ≤ r) (h2 : r ≤ hi) : nearI r lo hi = r := by
  unfold nearI
  split <;> split <;> omega
theorem alw_mem {lo hi x : Int} (h : bLo lo ≤ bHi hi) : x ∈ alwL L r lo hi ↔ ((∃ o ∈ L, o.price = x) ∧ bLo lo ≤ x ∧ x ≤ bHi hi) ∨ x = nearI r (bLo lo) (bHi hi) := by
  unfold alwL
  rw [if_neg (by omega), cins_mem, cpr_mem]
  constructor
  · rintro (h1 | ⟨h1, -⟩)
    · exact .inl h1
    · exact .inr h1
  · rintro (h1 | h1)
    · exact .inl h1
    · exact .inr ⟨h1, Int.le_refl _, Int.le_refl _⟩
theorem alw_ne {lo hi : Int} (h : bLo lo ≤ bHi hi) : alwL L r lo hi ≠ [] := List.ne_nil_of_mem ((alw_mem h).2 (.inr rfl))
theorem alw_nil {lo hi : Int} (h : bHi hi < bLo lo) : alwL L r lo hi = [] := by unfold alwL; rw [if_pos h]
theorem alw_len (L : List Ord) (r lo hi : Int) : (alwL L r lo hi).length ≤ L.length + 1 := by
  unfold alwL
  split
  · simp
  · have := cpr_len (bLo lo) (bHi hi) L
    have := cins_len (lo := nearI r (bLo lo) (bHi hi)) (hi := nearI r (bLo lo) (bHi hi)) (q := cpr (bLo lo) (bHi hi) L) (p := nearI r (bLo lo) (bHi hi))
    omega
theorem alw_in {lo hi x : Int} (hx : x ∈ alwL L r lo hi) : bLo lo ≤ x ∧ x ≤ bHi hi ∧ bLo lo ≤ bHi hi := by
  have h : bLo lo ≤ bHi hi := by
    refine Int.not_lt.1 fun h => ?_
    rw [alw_nil h] at hx
    cases hx
  rw [alw_mem h] at hx
  have := near_in (r := r) h
  rcases hx with ⟨-, h1, h2⟩ | rfl
  · exact ⟨h1, h2, h⟩
  · exact ⟨this.1, this.2, h⟩
theorem bLo_eq {lo : Int} (h : 1 ≤ lo) : bLo lo = lo := by unfold bLo; rw [if_neg (by omega)]
theorem bHi_eq {hi : Int} (h : hi ≤ 1099511627776) : bHi hi = hi := by unfold bHi; split <;> omega
end
/-! No price has more volume. -/
section
variable {L : List Ord} {r lo hi x : Int}
theorem vol_mono {m n : Pnt} (h1 : m.demand ≤ n.demand) (h2 : m.supply ≤ n.supply) : volP m ≤ volP n := by
  unfold volP
  split <;> split <;> omega
theorem dem_same {x y : Int} (h : ∀ o ∈ L, ¬ (x ≤ o.price ∧ o.price < y)) (hxy : x ≤ y) : (catL L x).demand = (catL L y).demand :=
  sumO_eq fun o ho => by
    have := h o ho
    unfold demS
    by_cases h1 : o.side = 0 ∧ x ≤ o.price
    · rw [if_pos h1, if_pos ⟨h1.1, by omega⟩]
    · rw [if_neg h1, if_neg (fun g => h1 ⟨g.1, by omega⟩)]
theorem sup_same {x y : Int} (h : ∀ o ∈ L, ¬ (y < o.price ∧ o.price ≤ x)) (hxy : y ≤ x) : (catL L x).supply = (catL L y).supply :=
  sumO_eq fun o ho => by
    have := h o ho
    unfold supS
    by_cases h1 : o.side = 1 ∧ o.price ≤ x
    · rw [if_pos h1, if_pos ⟨h1.1, by omega⟩]
    · rw [if_neg h1, if_neg (fun g => h1 ⟨g.1, by omega⟩)]
theorem alw_most (hq : ∀ o ∈ L, 0 ≤ o.qty) (h1 : bLo lo ≤ x) (h2 : x ≤ bHi hi) : ∃ y ∈ alwL L r lo hi, volP (catL L x) ≤ volP (catL L y) := by
  have hb : bLo lo ≤ bHi hi := by omega
  obtain ⟨q, hqq⟩ : ∃ q, q = cpr (bLo lo) (bHi hi) L := ⟨_, rfl⟩
  have hmem : ∀ z, z ∈ q ↔ (∃ o ∈ L, o.price = z) ∧ bLo lo ≤ z ∧ z ≤ bHi hi := fun z => by rw [hqq, cpr_mem]
  have hrise : Rise q := by rw [hqq]; exact cpr_rise _ _ _
  by_cases hc : cAt q x < q.length
  · obtain ⟨y, hy⟩ : ∃ y, q[cAt q x]? = some y := ⟨_, List.getElem?_eq_getElem hc⟩
    have hxy := cAt_at hy
    have hm := (hmem y).1 (List.mem_of_getElem? hy)
    refine ⟨y, (alw_mem hb).2 (.inl hm), vol_mono ?_ (catL_turns hq hxy).2⟩
    rw [dem_same (y := y) (fun o ho g => ?_) hxy]
    · exact Int.le_refl _
    obtain ⟨k, hk⟩ := List.mem_iff_getElem?.1 ((hmem o.price).2 ⟨⟨o, ho, rfl⟩, by omega, by omega⟩)
    rw [Rise, List.pairwise_iff_getElem] at hrise
    obtain ⟨a1, a2⟩ := List.getElem?_eq_some_iff.1 hy
    obtain ⟨b1, b2⟩ := List.getElem?_eq_some_iff.1 hk
    by_cases hkc : k < cAt q x
    · have := cAt_lt hk hkc
      omega
    · by_cases hke : k = cAt q x
      · subst hke
        rw [hy] at hk
        cases hk
        omega
      · have := hrise (cAt q x) k a1 b1 (by omega)
        rw [a2, b2] at this
        omega
  · have hce := cAt_le q x
    have hall : ∀ z ∈ q, z < x := fun z hz => by
      obtain ⟨k, hk⟩ := List.mem_iff_getElem?.1 hz
      have := (List.getElem?_eq_some_iff.1 hk).1
      exact cAt_lt hk (by omega)
    by_cases hn : q = []
    · refine ⟨nearI r (bLo lo) (bHi hi), (alw_mem hb).2 (.inr rfl), ?_⟩
      have hno : ∀ o ∈ L, ¬ (bLo lo ≤ o.price ∧ o.price ≤ bHi hi) := fun o ho g => by
        have := (hmem o.price).2 ⟨⟨o, ho, rfl⟩, g⟩
        rw [hn] at this
        cases this
      have hni := near_in (r := r) hb
      by_cases hx : x ≤ nearI r (bLo lo) (bHi hi)
      · refine vol_mono ?_ (catL_turns hq hx).2
        rw [dem_same (fun o ho g => hno o ho ⟨by omega, by omega⟩) hx]
        exact Int.le_refl _
      · refine vol_mono (catL_turns hq (by omega)).1 ?_
        rw [sup_same (fun o ho g => hno o ho ⟨by omega, by omega⟩) (by omega : nearI r (bLo lo) (bHi hi) ≤ x)]
        exact Int.le_refl _
    · obtain ⟨y, hy⟩ : ∃ y, q[q.length - 1]? = some y := ⟨_, List.getElem?_eq_getElem (by have := List.length_pos_iff.2 hn; omega)⟩
      have hyq := List.mem_of_getElem? hy
      have hyx := hall y hyq
      have hm := (hmem y).1 hyq
      refine ⟨y, (alw_mem hb).2 (.inl hm), vol_mono (catL_turns hq (by omega)).1 ?_⟩
      rw [sup_same (y := y) (fun o ho g => ?_) (by omega)]
      · exact Int.le_refl _
      obtain ⟨k, hk⟩ := List.mem_iff_getElem?.1 ((hmem o.price).2 ⟨⟨o, ho, rfl⟩, by omega, by omega⟩)
      rw [Rise, List.pairwise_iff_getElem] at hrise
      obtain ⟨a1, a2⟩ := List.getElem?_eq_some_iff.1 hy
      obtain ⟨b1, b2⟩ := List.getElem?_eq_some_iff.1 hk
      by_cases hke : k = q.length - 1
      · subst hke
        rw [hy] at hk
        cases hk
        omega
      · have := hrise k (q.length - 1) b1 a1 (by omega)
        rw [a2, b2] at this
        omega
theorem vol_nonneg (hq : ∀ o ∈ L, 0 ≤ o.qty) (x : Int) : 0 ≤ volP (catL L x) := by
  have h1 : 0 ≤ (catL L x).demand := by
    have := sumO_le (f := fun _ => 0) (g := demS x) (l := L) fun o ho => by have := hq o ho; unfold demS; split <;> omega
    have e : sumO (fun _ => 0) L = 0 := by
      clear hq this
      induction L with
      | nil => rfl
      | cons y t ih => simp only [sumO, ih]; omega
    rw [e] at this
    exact this
  have h2 : 0 ≤ (catL L x).supply := by
    have := sumO_le (f := fun _ => 0) (g := supS x) (l := L) fun o ho => by have := hq o ho; unfold supS; split <;> omega
    have e : sumO (fun _ => 0) L = 0 := by
      clear hq this h1
      induction L with
      | nil => rfl
      | cons y t ih => simp only [sumO, ih]; omega
    rw [e] at this
    exact this
  unfold volP
  split <;> omega
/-- What is promised of the price that is chosen. -/
theorem chs_most (hq : ∀ o ∈ L, 0 ≤ o.qty) (h1 : bLo lo ≤ x) (h2 : x ≤ bHi hi) :
    ((chsL L r lo hi).2 = false → (chsL L r lo hi).1 = .zero ∧ volP (catL L x) = 0) ∧
    ((chsL L r lo hi).2 = true → bLo lo ≤ (chsL L r lo hi).1.price ∧ (chsL L r lo hi).1.price ≤ bHi hi ∧ (chsL L r lo hi).1 = prcOf L (chsL L r lo hi).1.price ∧ volP (catL L x) ≤ (chsL L r lo hi).1.volume ∧ ((∃ o ∈ L, o.price = x) → volP (catL L x) = (chsL L r lo hi).1.volume → (chsL L r lo hi).1.odds ≤ oddP (catL L x))) := by
  have hb : bLo lo ≤ bHi hi := by omega
  obtain ⟨⟨p, hp, e⟩, hbest⟩ := bestL_spec (L := L) (r := r) (alw_ne (L := L) (r := r) hb)
  obtain ⟨y, hy, hv⟩ := alw_most (r := r) hq h1 h2
  have hvy : volP (catL L y) ≤ (bestL L r (alwL L r lo hi)).volume := by
    have := hbest y hy
    have g : ¬ lessP (prcOf L y) (bestL L r (alwL L r lo hi)) r = true := by rw [this]; decide
    rw [lessP_iff] at g
    have e1 : (prcOf L y).volume = volP (catL L y) := rfl
    omega
  have hv0 := vol_nonneg hq x
  unfold chsL
  by_cases h0 : (bestL L r (alwL L r lo hi)).volume = 0
  · rw [if_pos h0]
    exact ⟨fun _ => ⟨rfl, by omega⟩, fun h => (by cases h)⟩
  · rw [if_neg h0]
    refine ⟨fun h => (by cases h), fun _ => ?_⟩
    have hpp : (bestL L r (alwL L r lo hi)).price = p := by rw [e]; rfl
    have hin := alw_in hp
    refine ⟨by simp only [hpp]; exact hin.1, by simp only [hpp]; exact hin.2.1, by simp only [hpp]; exact e, by simp only; omega, fun ho hve => ?_⟩
    have hx : x ∈ alwL L r lo hi := (alw_mem hb).2 (.inl ⟨ho, h1, h2⟩)
    have g : ¬ lessP (prcOf L x) (bestL L r (alwL L r lo hi)) r = true := by rw [hbest x hx]; decide
    rw [lessP_iff] at g
    have e1 : (prcOf L x).volume = volP (catL L x) := rfl
    have e2 : (prcOf L x).odds = oddP (catL L x) := rfl
    simp only at hve ⊢
    omega
/-- The price that is chosen of all is chosen in a band in which it lies, with the reference. -/
theorem chs_stays (h1 : 1 ≤ lo) (h2 : hi ≤ 1099511627776) (h3 : lo ≤ r) (h4 : r ≤ hi) (hc : (chsL L r 1 1099511627776).2 = true) (h5 : lo ≤ (chsL L r 1 1099511627776).1.price) (h6 : (chsL L r 1 1099511627776).1.price ≤ hi) : chsL L r lo hi = chsL L r 1 1099511627776 := by
  have e1 : bLo 1 = 1 := bLo_eq (by omega)
  have e2 : bHi 1099511627776 = 1099511627776 := bHi_eq (by omega)
  have e3 := bLo_eq h1
  have e4 := bHi_eq h2
  have hbA : bLo 1 ≤ bHi 1099511627776 := by omega
  have hb : bLo lo ≤ bHi hi := by omega
  have n1 : nearI r (bLo 1) (bHi 1099511627776) = r := near_id (by omega) (by omega)
  have n2 : nearI r (bLo lo) (bHi hi) = r := near_id (by omega) (by omega)
  obtain ⟨⟨p, hp, e⟩, hbest⟩ := bestL_spec (L := L) (r := r) (alw_ne (L := L) (r := r) hbA)
  have hpp : (bestL L r (alwL L r 1 1099511627776)).price = p := by rw [e]; rfl
  unfold chsL at hc h5 h6 ⊢
  by_cases h0 : (bestL L r (alwL L r 1 1099511627776)).volume = 0
  · rw [if_pos h0] at hc
    cases hc
  rw [if_neg h0] at h5 h6
  simp only [hpp] at h5 h6
  have hpb : p ∈ alwL L r lo hi := by
    rw [alw_mem hbA] at hp
    refine (alw_mem hb).2 ?_
    rcases hp with ⟨ho, -⟩ | hp
    · exact .inl ⟨ho, by omega, by omega⟩
    · exact .inr (by rw [n2, hp, n1])
  have hb2 : bestL L r (alwL L r lo hi) = bestL L r (alwL L r 1 1099511627776) := by
    rw [e]
    refine best_unique hpb fun y hy => ?_
    rw [← e]
    refine hbest y ?_
    rw [alw_mem hb] at hy
    refine (alw_mem hbA).2 ?_
    rcases hy with ⟨ho, h7, h8⟩ | hy
    · exact .inl ⟨ho, by omega, by omega⟩
    · exact .inr (by rw [n1, hy, n2])
  rw [hb2]
end
end Go.Proofs.YtohenmnpmgghhaaGreatDoor
namespace Go.Proofs.YtohenmnpmgghhaaGreatDoor
open Go.RowKit
abbrev cPrc (m : Prc) : Array Value := #[.int .i64 m.price, .int .i64 m.volume, .int .i64 m.odds]
abbrev vPrc (m : Prc) : Value := .agg (cPrc m)
/-- Whether two are the same. -/
def eqPrc (a b : Prc) : Bool := a.price == b.price && a.volume == b.volume && a.odds == b.odds
theorem eqPrc_true {a b : Prc} : eqPrc a b = true ↔ a = b := by
  cases a; cases b; simp [eqPrc, and_assoc]
theorem eqPrc_self (a : Prc) : eqPrc a a = true := eqPrc_true.2 rfl
theorem eqPrc_step (p : Prop) [Decidable p] (q : Bool) (w : World) {X : Result Bool} (h : X = Result.ok q w) : (if p then X else Result.ok false w) = Result.ok (decide p && q) w := by
  subst h
  by_cases hp : p <;> simp [hp]
theorem eqPrc_last (p : Prop) [Decidable p] (w : World) : (if p then Result.ok true w else Result.ok false w) = Result.ok (decide p) w := by
  by_cases hp : p <;> simp [hp]
theorem Prc.cells {w : World} {b : Nat} {T : TypeId} {m : Prc} (h : Blk w b T (cPrc m)) : w.cell? ⟨b, 0, none⟩ = some (.int .i64 m.price) ∧ w.cell? ⟨b, 1, none⟩ = some (.int .i64 m.volume) ∧ w.cell? ⟨b, 2, none⟩ = some (.int .i64 m.odds) :=
  ⟨h.cell_eq 0 _ rfl, h.cell_eq 1 _ rfl, h.cell_eq 2 _ rfl⟩
theorem Prc.below {B : Nat} {W w : World} {b : Nat} (h : Below B W w) (hb : B ≤ b) (v0 v1 v2 : Value) : Below B W (((w.setCell ⟨b, 0, none⟩ v0).setCell ⟨b, 1, none⟩ v1).setCell ⟨b, 2, none⟩ v2) := by
  have h0 := h.setCell (p := ⟨b, 0, none⟩) hb v0
  have h1 := h0.setCell (p := ⟨b, 1, none⟩) hb v1
  have h2 := h1.setCell (p := ⟨b, 2, none⟩) hb v2
  exact h2
theorem Prc.frm {S : Nat → Prop} {W w : World} {b : Nat} (h : Frm S W w) (hb : S b ∨ W.heap.size ≤ b) (v0 v1 v2 : Value) : Frm S W (((w.setCell ⟨b, 0, none⟩ v0).setCell ⟨b, 1, none⟩ v1).setCell ⟨b, 2, none⟩ v2) := by
  have h0 := h.setCell ⟨b, 0, none⟩ v0 hb
  have h1 := h0.setCell ⟨b, 1, none⟩ v1 hb
  have h2 := h1.setCell ⟨b, 2, none⟩ v2 hb
  exact h2
theorem Prc.lay {w : World} {b : Nat} {T : TypeId} {m : Prc} (h : Blk w b T (cPrc m)) (v0 v1 v2 : Int) : Blk (((w.setCell ⟨b, 0, none⟩ (.int .i64 v0)).setCell ⟨b, 1, none⟩ (.int .i64 v1)).setCell ⟨b, 2, none⟩ (.int .i64 v2)) b T (cPrc ⟨v0, v1, v2⟩) := by
  have h0 : Blk _ b T (cPrc ⟨v0, m.volume, m.odds⟩) := h.set 0 (.int .i64 v0)
  have h1 : Blk _ b T (cPrc ⟨v0, v1, m.odds⟩) := h0.set 1 (.int .i64 v1)
  have h2 : Blk _ b T (cPrc ⟨v0, v1, v2⟩) := h1.set 2 (.int .i64 v2)
  exact h2
theorem cells_Prc : Tryz.prog.cellsOf 35 = 3 := by kernel_rfl
theorem cells_Prc_int64 : Tryz.prog.cellsOf 2 = 1 := by kernel_rfl
section
open Go.ChangeShapes Go.WideShapes Go.ChangeAt Go.Deep
variable {H : Type} {enc' : TypeId × Value → H} {w : World} {base : Nat} {spare : Nat → Bool} {held : Bool}
set_option maxRecDepth 8000 in
/-- One that came in. -/
theorem open_Prc {fuel : Nat} {cs : List Value} {x : DataW H × List MemPlace} (h : DataW.trod enc' Tryz.prog w base spare held fuel 35 cs = some x) : ∃ m : Prc, m.Fit ∧ cs = (cPrc m).toList := by
  obtain ⟨xs, n, _, _, hl, hlen, hf⟩ := DataW.trod_struct Tryz.underlying35 h
  rw [cells_Prc] at hl
  match cs, hl, xs, hlen with
  | [v0, v1, v2], _, [y0, y1, y2], _ =>
    have f0 : DataW.trod enc' Tryz.prog w base spare held n 2 [v0] = some y0 := by
      have h0 : DataW.trod enc' Tryz.prog w base spare held n 2 (([v0, v1, v2].drop 0).take (Tryz.prog.cellsOf 2)) = some y0 := hf 0 _ rfl
      rw [cells_Prc_int64] at h0
      exact h0
    have f1 : DataW.trod enc' Tryz.prog w base spare held n 2 [v1] = some y1 := by
      have h0 : DataW.trod enc' Tryz.prog w base spare held n 2 (([v0, v1, v2].drop 1).take (Tryz.prog.cellsOf 2)) = some y1 := hf 1 _ rfl
      rw [cells_Prc_int64] at h0
      exact h0
    have f2 : DataW.trod enc' Tryz.prog w base spare held n 2 [v2] = some y2 := by
      have h0 : DataW.trod enc' Tryz.prog w base spare held n 2 (([v0, v1, v2].drop 2).take (Tryz.prog.cellsOf 2)) = some y2 := hf 2 _ rfl
      rw [cells_Prc_int64] at h0
      exact h0
    obtain ⟨a0, e0, _, w0⟩ := DataW.trod_int Tryz.underlying2 f0
    obtain ⟨a1, e1, _, w1⟩ := DataW.trod_int Tryz.underlying2 f1
    obtain ⟨a2, e2, _, w2⟩ := DataW.trod_int Tryz.underlying2 f2
    simp only [List.cons.injEq, and_true] at e0 e1 e2
    subst e0 e1 e2
    exact ⟨⟨a0, a1, a2⟩, ⟨in64_of_wf w0, in64_of_wf w1, in64_of_wf w2⟩, rfl⟩
end
/-- A slice of them, to be read. -/
structure Prcs (w : World) (ao : Option Addr) (cap : Nat) (l : List Prc) : Prop where
  len : l.length ≤ cap
  top : cap ≤ maxLen
  at' : l = [] ∨ ∃ b off, ao = some ⟨b, off, none⟩ ∧ ∀ (i : Nat) (m : Prc), l[i]? = some m → ∀ (j : Nat) (v : Value), (cPrc m)[j]? = some v → w.cell? ⟨b, off + i * 3 + j, none⟩ = some v
theorem Prcs.nil (w : World) : Prcs w none 0 [] := ⟨Nat.le_refl _, Nat.zero_le _, .inl rfl⟩
theorem Prcs.below {w w' : World} {ao : Option Addr} {cap : Nat} {l : List Prc} (h : Prcs w ao cap l) (hb : Below w.heap.size w w') : Prcs w' ao cap l := by
  refine ⟨h.len, h.top, ?_⟩
  rcases h.at' with h0 | ⟨b, off, ha, hl⟩
  · exact .inl h0
  · refine .inr ⟨b, off, ha, fun i m hi j v hj => ?_⟩
    have hc := hl i m hi j v hj
    have hlt : b < w.heap.size := World.block_lt_of_cell? w ⟨b, off + i * 3 + j, none⟩ hc
    exact (World.cell?_of_block (a := ⟨b, off + i * 3 + j, none⟩) (hb.block b hlt)).trans hc
/-- One of them. -/
theorem Prcs.get {w : World} {ao : Option Addr} {cap : Nat} {l : List Prc} (h : Prcs w ao cap l) {i : Nat} {m : Prc} (hi : l[i]? = some m) :
    ∃ b off, ao = some ⟨b, off, none⟩ ∧ w.cell? ⟨b, off + i * 3 + 0, none⟩ = some (.int .i64 m.price) ∧ w.cell? ⟨b, off + i * 3 + 1, none⟩ = some (.int .i64 m.volume) ∧ w.cell? ⟨b, off + i * 3 + 2, none⟩ = some (.int .i64 m.odds) := by
  rcases h.at' with h0 | ⟨b, off, ha, hl⟩
  · subst h0; simp at hi
  · exact ⟨b, off, ha, hl i m hi 0 _ rfl, hl i m hi 1 _ rfl, hl i m hi 2 _ rfl⟩
/-- What is owned is read. -/
theorem Prcs.of_own {E : TypeId} {w : World} {ko : Option Nat} {ao : Option Addr} {cap : Nat} {l : List Prc} (h : OwG E 3 w ko ao cap l.length (l.flatMap fun m => (cPrc m).toList)) : Prcs w ao cap l := by
  refine ⟨h.len, h.top, ?_⟩
  by_cases h0 : l = []
  · exact .inl h0
  · have hcell := fun j v hj => h.cell j v hj
    have at1 : ∀ (l : List Prc) (i : Nat) (m : Prc), l[i]? = some m → ∀ (j : Nat) (v : Value), (cPrc m)[j]? = some v → (l.flatMap fun m => (cPrc m).toList)[i * 3 + j]? = some v := by
      intro l
      induction l with
      | nil => intro i m hi; simp at hi
      | cons x t ih =>
        intro i m hi j v hj
        have hx : ((cPrc x).toList).length = 3 := rfl
        rw [List.flatMap_cons]
        cases i with
        | zero =>
          obtain rfl : x = m := by simpa using hi
          have hlt : j < 3 := by
            have := (Array.getElem?_eq_some_iff.1 hj).1
            simpa using this
          rw [List.getElem?_append_left (by rw [hx]; omega), Nat.zero_mul, Nat.zero_add]
          simpa using hj
        | succ i =>
          rw [List.getElem?_append_right (by rw [hx]; omega), hx, show (i + 1) * 3 + j - 3 = i * 3 + j by omega]
          exact ih i m (by simpa using hi) j v hj
    cases l with
    | nil => exact absurd rfl h0
    | cons x t =>
      obtain ⟨k, _, hao, _, _⟩ := hcell 0 (.int .i64 x.price) rfl
      refine .inr ⟨k, 0, hao, fun i m hi j v hj => ?_⟩
      obtain ⟨k2, _, hao2, hc, _⟩ := hcell _ _ (at1 _ i m hi j v hj)
      rw [hao] at hao2
      cases hao2
      rw [Nat.zero_add]
      exact hc
section
open Go.ChangeShapes Go.WideShapes Go.ChangeAt Go.Deep
variable {H : Type} {enc' : TypeId × Value → H} {w : World} {base : Nat} {spare : Nat → Bool} {held : Bool}
end
end Go.Proofs.YtohenmnpmgghhaaGreatDoor
namespace Go.Proofs.YtohenmnpmgghhaaGreatDoor
def firstNZ : List Int → Int
  | [] => 0
  | x :: t => if x = 0 then firstNZ t else x
theorem firstNZ_drop {l : List Int} {i : Nat} {x : Int} (h : l[i]? = some x) : firstNZ (l.drop i) = if x = 0 then firstNZ (l.drop (i + 1)) else x := by
  obtain ⟨h1, h2⟩ := List.getElem?_eq_some_iff.1 h
  rw [List.drop_eq_getElem_cons h1, h2]
  rfl
def cmpP (a b : Prc) (r : Int) : Int := firstNZ [cmpI b.volume a.volume, cmpI a.odds b.odds, cmpI (farI a.price r) (farI b.price r), cmpI a.price b.price]
theorem cmpI_cases (x y : Int) : (x < y ∧ cmpI x y = -1) ∨ (y < x ∧ cmpI x y = 1) ∨ (x = y ∧ cmpI x y = 0) := by
  unfold cmpI
  by_cases h : x < y
  · exact .inl ⟨h, if_pos h⟩
  · rw [if_neg h]
    by_cases g : y < x
    · exact .inr (.inl ⟨g, if_pos g⟩)
    · exact .inr (.inr ⟨by omega, if_neg g⟩)
theorem cmpP_lt (a b : Prc) (r : Int) : decide (cmpP a b r < 0) = lessP a b r := by
  have key : cmpP a b r < 0 ↔ lessP a b r = true := by
    rw [lessP_iff]
    unfold cmpP firstNZ firstNZ firstNZ firstNZ firstNZ
    rcases cmpI_cases b.volume a.volume with ⟨h1, e1⟩ | ⟨h1, e1⟩ | ⟨h1, e1⟩
    · rw [e1, if_neg (by omega)]; omega
    · rw [e1, if_neg (by omega)]; omega
    · rw [e1, if_pos rfl]
      rcases cmpI_cases a.odds b.odds with ⟨h2, e2⟩ | ⟨h2, e2⟩ | ⟨h2, e2⟩
      · rw [e2, if_neg (by omega)]; omega
      · rw [e2, if_neg (by omega)]; omega
      · rw [e2, if_pos rfl]
        rcases cmpI_cases (farI a.price r) (farI b.price r) with ⟨h3, e3⟩ | ⟨h3, e3⟩ | ⟨h3, e3⟩
        · rw [e3, if_neg (by omega)]; omega
        · rw [e3, if_neg (by omega)]; omega
        · rw [e3, if_pos rfl]
          rcases cmpI_cases a.price b.price with ⟨h4, e4⟩ | ⟨h4, e4⟩ | ⟨h4, e4⟩
          · rw [e4, if_neg (by omega)]; omega
          · rw [e4, if_neg (by omega)]; omega
          · rw [e4, if_pos rfl]; omega
  cases h : lessP a b r with
  | true => exact decide_eq_true (key.2 h)
  | false => exact decide_eq_false fun g => by rw [key.1 g] at h; cases h
/-- The least one of a list, from one on. -/
def minTo (r : Int) : List Prc → Prc → Prc
  | [], z => z
  | p :: t, z => minTo r t (if lessP p z r = true then p else z)
theorem minTo_map (L : List Ord) (r : Int) (t : List Int) : ∀ z, bestTo L r t z = minTo r (t.map (prcOf L)) z := by
  induction t with
  | nil => intro z; rfl
  | cons x t ih => intro z; exact ih _
theorem minTo_snoc (r : Int) (t : List Prc) (p : Prc) : ∀ z, minTo r (t ++ [p]) z = if lessP p (minTo r t z) r = true then p else minTo r t z := by
  induction t with
  | nil => intro z; rfl
  | cons x t ih => intro z; exact ih _
theorem minTo_of (r : Int) (q : List Prc) : ∀ z, minTo r q z = z ∨ minTo r q z ∈ q := by
  induction q with
  | nil => exact fun z => .inl rfl
  | cons x t ih =>
    intro z
    rcases ih (if lessP x z r = true then x else z) with h | h
    · show minTo r t _ = z ∨ minTo r t _ ∈ x :: t
      rw [h]
      split
      · exact .inr List.mem_cons_self
      · exact .inl rfl
    · exact .inr (List.mem_cons_of_mem _ h)
/-- The least one of the first i of them. -/
def mnI (r : Int) (q : List Prc) (i : Nat) : Prc := match q with
  | [] => .zero
  | x :: t => minTo r (t.take (i - 1)) x
theorem mnI_one {r : Int} {q : List Prc} {x : Prc} (h : q[0]? = some x) : mnI r q 1 = x := by
  cases q with
  | nil => simp at h
  | cons y t => simp at h; subst h; rfl
theorem mnI_succ {r : Int} {q : List Prc} {i : Nat} {p : Prc} (hi : 1 ≤ i) (h : q[i]? = some p) : mnI r q (i + 1) = if lessP p (mnI r q i) r = true then p else mnI r q i := by
  cases q with
  | nil => simp at h
  | cons y t =>
    obtain ⟨j, rfl⟩ : ∃ j, i = j + 1 := ⟨i - 1, by omega⟩
    have h' : t[j]? = some p := by simpa using h
    show minTo r (t.take (j + 1)) y = if lessP p (minTo r (t.take j) y) r = true then p else minTo r (t.take j) y
    rw [List.take_add_one, h']
    exact minTo_snoc r _ p y
theorem mnI_all (L : List Ord) (r : Int) (l : List Int) : mnI r (l.map (prcOf L)) l.length = bestL L r l := by
  cases l with
  | nil => rfl
  | cons x t =>
    show minTo r ((t.map (prcOf L)).take t.length) (prcOf L x) = bestTo L r t (prcOf L x)
    rw [minTo_map, List.take_of_length_le (by simp)]
theorem mnI_mem {r : Int} {q : List Prc} {i : Nat} (hq : q ≠ []) : mnI r q i ∈ q := by
  cases q with
  | nil => exact absurd rfl hq
  | cons y t =>
    show minTo r (t.take (i - 1)) y ∈ y :: t
    rcases minTo_of r (t.take (i - 1)) y with h | h
    · rw [h]; exact List.mem_cons_self
    · exact List.mem_cons_of_mem _ (List.mem_of_mem_take h)
end Go.Proofs.YtohenmnpmgghhaaGreatDoor
