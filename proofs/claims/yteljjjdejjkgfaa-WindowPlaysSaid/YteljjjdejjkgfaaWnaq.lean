/-
  A window of trades: its mean, when its reference moves. (No Go text.)
-/
import Derived.Test.YteljjjdejjkgfaaIn64q
namespace Go.Proofs.Yteljjjdejjkgfaa
structure Trd where
  tick : Int
  price : Int
  qty : Int
def Trd.zero : Trd := ⟨0, 0, 0⟩
structure Trd.Fit (m : Trd) : Prop where
  tick : In64 m.tick
  price : In64 m.price
  qty : In64 m.qty
structure Trd.Ok (m : Trd) : Prop where
  t : 0 ≤ m.tick ∧ m.tick ≤ 1152921504606846976
  p : 1 ≤ m.price ∧ m.price ≤ 1099511627776
  q : 1 ≤ m.qty ∧ m.qty ≤ 4294967296
/-- An act of the law. -/
structure Wat where
  kind : Int
  tick : Int
  price : Int
  qty : Int
  bps : Int
def Wat.zero : Wat := ⟨0, 0, 0, 0, 0⟩
structure Wat.Fit (m : Wat) : Prop where
  kind : In64 m.kind
  tick : In64 m.tick
  price : In64 m.price
  qty : In64 m.qty
  bps : In64 m.bps
structure Wn where
  span : Int
  grid : Int
  ref : Int
  last : Int
  L : List Trd
abbrev tickOk (last t : Int) : Prop := 0 ≤ t ∧ t ≤ 1152921504606846976 ∧ last ≤ t
abbrev tradeOk (p q : Int) : Prop := 1 ≤ p ∧ p ≤ 1099511627776 ∧ 1 ≤ q ∧ q ≤ 4294967296
abbrev refOk (r g : Int) : Prop := 1 ≤ r ∧ r ≤ 1099511627776 ∧ r % g = 0
def wnNew (span grid ref : Int) : Option Wn :=
  if 1 ≤ span ∧ span ≤ 1099511627776 ∧ 1 ≤ grid ∧ grid ≤ 1099511627776 ∧ refOk ref grid then some ⟨span, grid, ref, 0, []⟩ else none
def Wn.add (w : Wn) (t p q : Int) : Int × Wn :=
  if tickOk w.last t ∧ tradeOk p q then (0, { w with last := t, L := w.L ++ [⟨t, p, q⟩] }) else (9, w)
def pqs : List Trd → Int
  | [] => 0
  | t :: l => t.price * t.qty + pqs l
def qqs : List Trd → Int
  | [] => 0
  | t :: l => t.qty + qqs l
/-- A mean on the grid. -/
def gridM (n g : Int) : Int := if n - n % g < g then g else n - n % g
def Wn.inW (w : Wn) (t : Int) : List Trd := w.L.filter fun x => decide (t - w.span < x.tick)
def Wn.mean (w : Wn) (t : Int) : (Int × Bool) × Wn :=
  if tickOk w.last t then
    if w.inW t = [] then ((0, false), { w with last := t, L := [] })
    else ((gridM (pqs (w.inW t) / qqs (w.inW t)) w.grid, true), { w with last := t, L := w.inW t })
  else ((0, false), w)
def movedB (a b bps : Int) : Bool :=
  decide (1 ≤ a ∧ a ≤ 1099511627776 ∧ 1 ≤ b ∧ b ≤ 1099511627776 ∧ 0 ≤ bps ∧ bps ≤ 9999 ∧ a ≠ b ∧ a * bps ≤ ((if a < b then b else a) - (if b < a then b else a)) * 10000)
def Wn.roll (w : Wn) (t bps : Int) : (Int × Bool) × Wn :=
  if (w.mean t).1.2 = true ∧ movedB w.ref (w.mean t).1.1 bps = true then (((w.mean t).1.1, true), { (w.mean t).2 with ref := (w.mean t).1.1 }) else ((w.ref, false), (w.mean t).2)
def Wn.reset (w : Wn) (r : Int) : Int × Wn := if refOk r w.grid then (0, { w with ref := r, L := [] }) else (9, w)
/-- What is left behind an act. -/
def Wn.act (w : Wn) (a : Wat) : Wn :=
  if a.kind = 0 then (w.add a.tick a.price a.qty).2 else if a.kind = 1 then (w.mean a.tick).2 else if a.kind = 2 then (w.roll a.tick a.bps).2 else (w.reset a.price).2
structure Wn.Ok (w : Wn) : Prop where
  s : 1 ≤ w.span ∧ w.span ≤ 1099511627776
  g : 1 ≤ w.grid ∧ w.grid ≤ 1099511627776
  r : 1 ≤ w.ref ∧ w.ref ≤ 1099511627776
  l : 0 ≤ w.last ∧ w.last ≤ 1152921504606846976
  ok : ∀ x ∈ w.L, x.Ok ∧ x.tick ≤ w.last
  srt : w.L.Pairwise fun x y => x.tick ≤ y.tick
section
variable {w : Wn} {l k : List Trd} {t p q g n lo hi : Int}
theorem wnNew_ok {span grid ref : Int} (h : wnNew span grid ref = some w) : w.Ok := by
  unfold wnNew at h
  split at h
  · cases h
    exact ⟨by simp only; omega, by simp only; omega, by simp only; omega, by simp, (fun x hx => by cases hx), List.Pairwise.nil⟩
  · cases h
theorem Wn.Ok.add (h : w.Ok) (t p q : Int) : (w.add t p q).2.Ok := by
  unfold Wn.add
  split
  · next h1 =>
    obtain ⟨h1, h2⟩ := h1
    unfold tickOk at h1
    unfold tradeOk at h2
    refine ⟨h.s, h.g, h.r, by simp only; omega, fun x hx => ?_, List.pairwise_append.2 ⟨h.srt, List.pairwise_singleton _ _, fun x hx y hy => ?_⟩⟩
    rotate_left
    · rw [List.mem_singleton] at hy
      subst hy
      have := (h.ok x hx).2
      simp only
      omega
    simp only [List.mem_append, List.mem_singleton] at hx
    rcases hx with hx | rfl
    · obtain ⟨h3, h4⟩ := h.ok x hx
      exact ⟨h3, by simp only; omega⟩
    · exact ⟨⟨by simp only; omega, by simp only; omega, by simp only; omega⟩, by simp only; omega⟩
  · exact h
theorem pqs_append (l k : List Trd) : pqs (l ++ k) = pqs l + pqs k := by
  induction l with
  | nil => simp [pqs]
  | cons x l ih => simp only [List.cons_append, pqs, ih]; omega
theorem qqs_append (l k : List Trd) : qqs (l ++ k) = qqs l + qqs k := by
  induction l with
  | nil => simp [qqs]
  | cons x l ih => simp only [List.cons_append, qqs, ih]; omega
theorem qqs_pos (h : ∀ x ∈ l, x.Ok) : (l.length : Int) ≤ qqs l ∧ qqs l ≤ 4294967296 * l.length := by
  induction l with
  | nil => simp [qqs]
  | cons x l ih =>
    have h1 := (h x List.mem_cons_self).q
    have h2 := ih fun y hy => h y (List.mem_cons_of_mem _ hy)
    simp only [qqs, List.length_cons]
    push_cast
    omega
/-- The mean lies between. -/
theorem pqs_between (h : ∀ x ∈ l, x.Ok) (hp : ∀ x ∈ l, lo ≤ x.price ∧ x.price ≤ hi) : lo * qqs l ≤ pqs l ∧ pqs l ≤ hi * qqs l := by
  induction l with
  | nil => simp [pqs, qqs]
  | cons x l ih =>
    have h1 := (h x List.mem_cons_self).q
    have h2 := ih (fun y hy => h y (List.mem_cons_of_mem _ hy)) (fun y hy => hp y (List.mem_cons_of_mem _ hy))
    obtain ⟨h3, h4⟩ := hp x List.mem_cons_self
    have h5 := Int.mul_le_mul_of_nonneg_right h3 (show 0 ≤ x.qty by omega)
    have h6 := Int.mul_le_mul_of_nonneg_right h4 (show 0 ≤ x.qty by omega)
    simp only [pqs, qqs, Int.mul_add]
    omega
theorem mean_between (h : ∀ x ∈ l, x.Ok) (hp : ∀ x ∈ l, lo ≤ x.price ∧ x.price ≤ hi) (hne : l ≠ []) : lo ≤ pqs l / qqs l ∧ pqs l / qqs l ≤ hi := by
  obtain ⟨h1, h2⟩ := pqs_between h hp
  have h3 := (qqs_pos h).1
  have h4 : 0 < qqs l := by
    have := List.length_pos_iff.2 hne
    omega
  exact ⟨(Int.le_ediv_iff_mul_le h4).2 h1, Int.ediv_le_of_le_mul h4 h2⟩
theorem gridM_facts (hg : 1 ≤ g) (hn : 0 ≤ n) (hlo : lo ≤ n) (hhi : n ≤ hi) : gridM n g % g = 0 ∧ gridM n g ≤ max hi g ∧ lo < gridM n g + g ∧ g ≤ gridM n g := by
  have m0 := Int.emod_nonneg n (show g ≠ 0 by omega)
  have m1 := Int.emod_lt_of_pos n (show 0 < g by omega)
  unfold gridM
  split
  · exact ⟨Int.emod_self, by omega, by omega, by omega⟩
  · refine ⟨?_, by omega, by omega, by omega⟩
    rw [Int.sub_emod, Int.emod_emod_of_dvd _ (Int.dvd_refl g), Int.sub_self, Int.zero_emod]
theorem Wn.Ok.mean (h : w.Ok) (t : Int) : (w.mean t).2.Ok := by
  unfold Wn.mean
  split
  · next h1 =>
    unfold tickOk at h1
    split
    · exact ⟨h.s, h.g, h.r, by simp only; omega, (fun x hx => by cases hx), List.Pairwise.nil⟩
    · refine ⟨h.s, h.g, h.r, by simp only; omega, fun x hx => ?_, h.srt.filter _⟩
      obtain ⟨h3, h4⟩ := h.ok x (List.mem_filter.1 hx).1
      exact ⟨h3, by simp only; omega⟩
  · exact h
theorem Wn.mean_range (h : w.Ok) (t : Int) (hm : (w.mean t).1.2 = true) : 1 ≤ (w.mean t).1.1 ∧ (w.mean t).1.1 ≤ 1099511627776 := by
  unfold Wn.mean at hm ⊢
  split
  · next h1 =>
    rw [if_pos h1] at hm
    split
    · next h2 => rw [if_pos h2] at hm; cases hm
    · next h2 =>
      have hg := h.g
      have ho : ∀ x ∈ w.inW t, x.Ok := fun x hx => (h.ok x (List.mem_filter.1 hx).1).1
      have h3 := mean_between (lo := 1) (hi := 1099511627776) ho (fun x hx => (ho x hx).p) h2
      have h4 := gridM_facts (lo := 1) (hi := 1099511627776) hg.1 (by omega) h3.1 h3.2
      simp only
      omega
  · next h1 => rw [if_neg h1] at hm; cases hm
theorem Wn.Ok.roll (h : w.Ok) (t bps : Int) : (w.roll t bps).2.Ok := by
  unfold Wn.roll
  split
  · next h1 =>
    have h2 := h.mean t
    exact ⟨h2.s, h2.g, Wn.mean_range h t h1.1, h2.l, h2.ok, h2.srt⟩
  · exact h.mean t
theorem Wn.Ok.reset (h : w.Ok) (r : Int) : (w.reset r).2.Ok := by
  unfold Wn.reset
  split
  · next h1 =>
    unfold refOk at h1
    exact ⟨h.s, h.g, by simp only; omega, h.l, (fun x hx => by cases hx), List.Pairwise.nil⟩
  · exact h
theorem Wn.mean_len (w : Wn) (t : Int) : (w.mean t).2.L.length ≤ w.L.length := by
  unfold Wn.mean
  split
  · split
    · simp
    · exact List.length_filter_le _ _
  · exact Nat.le_refl _
theorem Wn.act_len (w : Wn) (a : Wat) : (w.act a).L.length ≤ w.L.length + 1 := by
  unfold Wn.act
  split
  · unfold Wn.add
    split
    · simp
    · simp
  split
  · have := w.mean_len a.tick
    omega
  split
  · have := w.mean_len a.tick
    unfold Wn.roll
    split
    · simp only; omega
    · simp only; omega
  · unfold Wn.reset
    split <;> simp
theorem Wn.Ok.act (h : w.Ok) (a : Wat) : (w.act a).Ok := by
  unfold Wn.act
  split
  · exact h.add _ _ _
  split
  · exact h.mean _
  split
  · exact h.roll _ _
  · exact h.reset _
end
end Go.Proofs.Yteljjjdejjkgfaa
