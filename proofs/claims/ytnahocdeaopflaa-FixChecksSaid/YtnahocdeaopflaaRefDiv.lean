/-
  The contract of the document's answer Div: a number divided, bit by bit, and what is left.
-/
import Derived.Test.YtnahocdeaopflaaRefSub
import Derived.Test.YtnahocdeaopflaaRefMv
namespace Go.Proofs.Ytnahocdeaopflaa
open Go.RowKit
/-- What the loop of Div keeps. -/
structure DM (w0 : World) (b g : Nat) (X D L Q R1 R2 : Nat → Bool) (w : World) : Prop where
  bx : Blk w b 45 (arr X)
  b1 : Blk w (b + 1) 45 (arr R1)
  b2 : Blk w (b + 1 + 1) 45 (arr R2)
  bq : Blk w (b + 1 + 1 + 1) 45 (arr Q)
  bl : Blk w (b + 1 + 1 + 1 + 1) 45 (arr L)
  bd : Blk w g 45 (arr D)
  hg : b + 1 + 1 + 1 + 1 < g
  hb : w0.heap.size ≤ b
  below : Below w0.heap.size w0 w
section
variable {w0 w w' : World} {b g : Nat} {X D L Q R1 R2 : Nat → Bool}
theorem DM.keep (h : DM w0 b g X D L Q R1 R2 w) (hb : Below w.heap.size w w') : DM w0 b g X D L Q R1 R2 w' :=
  ⟨h.bx.below hb h.bx.lt, h.b1.below hb h.b1.lt, h.b2.below hb h.b2.lt, h.bq.below hb h.bq.lt, h.bl.below hb h.bl.lt, h.bd.below hb h.bd.lt, h.hg, h.hb, h.below.trans (hb.mono h.below.size)⟩
theorem DM.drew (h : DM w0 b g X D L Q R1 R2 w) : DM w0 b g X D L Q R1 R2 w.drew := ⟨h.bx, h.b1, h.b2, h.bq, h.bl, h.bd, h.hg, h.hb, h.below.drew⟩
theorem DM.setL (h : DM w0 b g X D L Q R1 R2 w) (f : Nat → Bool) : DM w0 b g X D f Q R1 R2 (w.setRow (b + 1 + 1 + 1 + 1) (arr f)) := by
  have := h.hg; have := h.hb
  exact ⟨h.bx.setRow_other (by omega) _, h.b1.setRow_other (by omega) _, h.b2.setRow_other (by omega) _, h.bq.setRow_other (by omega) _, h.bl.setRow _, h.bd.setRow_other (by omega) _, h.hg, h.hb, below_setRow h.below (by omega) _⟩
theorem DM.bitL (h : DM w0 b g X D L Q R1 R2 w) (v : Bool) : DM w0 b g X D (fun i => if i = 0 then v else L i) Q R1 R2 (w.setCell ⟨b + 1 + 1 + 1 + 1, 0, none⟩ (.bool v)) := by
  have := h.hg; have := h.hb
  exact ⟨h.bx.other (by simp; omega) _, h.b1.other (by simp; omega) _, h.b2.other (by simp; omega) _, h.bq.other (by simp) _, h.bl.putBit _ _, h.bd.other (by simp; omega) _, h.hg, h.hb, h.below.setCell (by simp; omega) _⟩
theorem DM.bitQ (h : DM w0 b g X D L Q R1 R2 w) (j : Nat) (v : Bool) : DM w0 b g X D L (fun i => if i = j then v else Q i) R1 R2 (w.setCell ⟨b + 1 + 1 + 1, j, none⟩ (.bool v)) := by
  have := h.hg; have := h.hb
  exact ⟨h.bx.other (by simp; omega) _, h.b1.other (by simp; omega) _, h.b2.other (by simp) _, h.bq.putBit _ _, h.bl.other (by simp) _, h.bd.other (by simp; omega) _, h.hg, h.hb, h.below.setCell (by simp; omega) _⟩
theorem DM.set1 (h : DM w0 b g X D L Q R1 R2 w) (f : Nat → Bool) : DM w0 b g X D L Q f R2 (w.setRow (b + 1) (arr f)) := by
  have := h.hg; have := h.hb
  exact ⟨h.bx.setRow_other (by omega) _, h.b1.setRow _, h.b2.setRow_other (by omega) _, h.bq.setRow_other (by omega) _, h.bl.setRow_other (by omega) _, h.bd.setRow_other (by omega) _, h.hg, h.hb, below_setRow h.below (by omega) _⟩
theorem DM.set2 (h : DM w0 b g X D L Q R1 R2 w) (f : Nat → Bool) : DM w0 b g X D L Q R1 f (w.setRow (b + 1 + 1) (arr f)) := by
  have := h.hg; have := h.hb
  exact ⟨h.bx.setRow_other (by omega) _, h.b1.setRow_other (by omega) _, h.b2.setRow _, h.bq.setRow_other (by omega) _, h.bl.setRow_other (by omega) _, h.bd.setRow_other (by omega) _, h.hg, h.hb, below_setRow h.below (by omega) _⟩
theorem DM.congr (h : DM w0 b g X D L Q R1 R2 w) {L' Q' : Nat → Bool} (hl : ∀ i, i < 128 → L i = L' i) (hq : ∀ i, i < 128 → Q i = Q' i) : DM w0 b g X D L' Q' R1 R2 w :=
  ⟨h.bx, h.b1, h.b2, arr_congr hq ▸ h.bq, arr_congr hl ▸ h.bl, h.bd, h.hg, h.hb, h.below⟩
end
/-- The bits of n. -/
def nb (n : Nat) : Nat → Bool := fun i => (BitVec.ofNat 128 n).getLsbD i
theorem nb_eq (n i : Nat) (hi : i < 128) : nb n i = n.testBit i := by unfold nb; rw [BitVec.getLsbD_ofNat]; simp [hi]
/-- The quotient's bits, as far as they are laid. -/
def qb (q k : Nat) : Nat → Bool := fun i => decide (k ≤ i) && q.testBit (i - k)
theorem left_step (R : Nat) (b : Bool) (i : Nat) (hi : i < 128) : (if i = 0 then b else (shlB (BitVec.ofNat 128 R) 1).getLsbD i) = nb (2 * R + b.toNat) i := by
  rw [nb_eq _ _ hi]
  have es : shlB (BitVec.ofNat 128 R) 1 = BitVec.ofNat 128 R <<< 1 := by unfold shlB; rw [if_neg (by decide)]; rfl
  rw [es]
  cases i with
  | zero => rw [if_pos rfl, Nat.testBit_zero]; cases b <;> simp <;> omega
  | succ i =>
    rw [if_neg (by omega), BitVec.getLsbD_shiftLeft, BitVec.getLsbD_ofNat, Nat.testBit_succ]
    have : (2 * R + b.toNat) / 2 = R := by cases b <;> simp <;> omega
    rw [this]
    have h1 : i < 128 := by omega
    simp [hi, h1]
theorem q_step0 (q j i : Nat) : qb q (j + 1) i = qb (2 * q) j i := by
  unfold qb
  by_cases h : j + 1 ≤ i
  · have e : i - j = (i - (j + 1)) + 1 := by omega
    have h2 : j ≤ i := by omega
    rw [e, Nat.testBit_succ, show 2 * q / 2 = q by omega]; simp [h, h2]
  · by_cases h2 : i = j
    · subst h2
      have h3 : ¬ i + 1 ≤ i := by omega
      rw [decide_eq_false h3, Nat.sub_self, Nat.testBit_zero]; simp
    · have h3 : ¬ j ≤ i := by omega
      simp [h, h3]
theorem q_step1 (q j i : Nat) : (if i = j then true else qb q (j + 1) i) = qb (2 * q + 1) j i := by
  unfold qb
  by_cases h2 : i = j
  · subst h2; simp
  · rw [if_neg h2]
    by_cases h : j + 1 ≤ i
    · have e : i - j = (i - (j + 1)) + 1 := by omega
      have h3 : j ≤ i := by omega
      rw [e, Nat.testBit_succ, show (2 * q + 1) / 2 = q by omega]; simp [h, h3]
    · have h3 : ¬ j ≤ i := by omega
      simp [h, h3]
theorem nat_step (V d j : Nat) (hd : 0 < d) : (2 * (V / 2 ^ (j + 1) % d) + (V.testBit j).toNat < d → V / 2 ^ j % d = 2 * (V / 2 ^ (j + 1) % d) + (V.testBit j).toNat ∧ V / 2 ^ j / d = 2 * (V / 2 ^ (j + 1) / d)) ∧
    (d ≤ 2 * (V / 2 ^ (j + 1) % d) + (V.testBit j).toNat → V / 2 ^ j % d = 2 * (V / 2 ^ (j + 1) % d) + (V.testBit j).toNat - d ∧ V / 2 ^ j / d = 2 * (V / 2 ^ (j + 1) / d) + 1) := by
  have hT : V / 2 ^ j = 2 * (V / 2 ^ (j + 1)) + (V.testBit j).toNat := by
    rw [Nat.pow_succ, ← Nat.div_div_eq_div_mul, Nat.testBit_eq_decide_div_mod_eq]
    have := Nat.mod_two_eq_zero_or_one (V / 2 ^ j)
    rcases this with h | h <;> simp [h] <;> omega
  have hb : (V.testBit j).toNat ≤ 1 := by cases V.testBit j <;> simp
  have s := step_div ((V / 2 ^ (j + 1) : Nat) : Int) ((V / 2 ^ j : Nat) : Int) d (((V.testBit j).toNat : Nat) : Int) (by omega) (by omega) (by omega) (by omega)
  have c1 : ((V / 2 ^ (j + 1) : Nat) : Int) % d = ((V / 2 ^ (j + 1) % d : Nat) : Int) := by simp
  have c2 : ((V / 2 ^ (j + 1) : Nat) : Int) / d = ((V / 2 ^ (j + 1) / d : Nat) : Int) := by simp
  have c3 : ((V / 2 ^ j : Nat) : Int) % d = ((V / 2 ^ j % d : Nat) : Int) := by simp
  have c4 : ((V / 2 ^ j : Nat) : Int) / d = ((V / 2 ^ j / d : Nat) : Int) := by simp
  rw [c1, c2, c3, c4] at s
  generalize V / 2 ^ (j + 1) % d = r at *
  generalize V / 2 ^ (j + 1) / d = q at *
  generalize V / 2 ^ j % d = r' at *
  generalize V / 2 ^ j / d = q' at *
  clear c1 c2 c3 c4 hT
  constructor
  · intro h; have := s.1 (by omega); omega
  · intro h; have := s.2 (by omega); omega
end Go.Proofs.Ytnahocdeaopflaa
