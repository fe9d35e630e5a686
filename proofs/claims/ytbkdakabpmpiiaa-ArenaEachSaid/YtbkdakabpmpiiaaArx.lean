/-
  The program's arena and the document's, side by side: what each method's call does to the pair.
-/
import Derived.Test.YtbkdakabpmpiiaaRau
import Derived.Test.YtbkdakabpmpiiaaArz
namespace Go.Proofs.Ytbkdakabpmpiiaa
open Go.RowKit
def Ar.tN (s : Ar) : Int := match s.next with
  | some i => i
  | none => 0
def Ar.tF (s : Ar) : Int := if s.next = none then 7 else 0
def Ar.takeS (s : Ar) (o : Ord) : Ar := match s.next with
  | some i => s.put i o
  | none => s
def Ar.dropS (s : Ar) (x : Int) : Ar := if s.hasI x = true then s.drop x.toNat else s
def Ar.setS (s : Ar) (x : Int) (o : Ord) : Ar := if s.hasI x = true then s.set x.toNat o else s
def Ar.getO (s : Ar) (x : Int) : Ord := if s.hasI x = true then s.O[x.toNat]?.getD Ord.zero else Ord.zero
theorem Ar.takeS_n (s : Ar) (o : Ord) : (s.takeS o).n = s.n := by unfold Ar.takeS; split <;> rfl
theorem Ar.dropS_n (s : Ar) (x : Int) : (s.dropS x).n = s.n := by unfold Ar.dropS; split <;> rfl
theorem Ar.setS_n (s : Ar) (x : Int) (o : Ord) : (s.setS x o).n = s.n := by unfold Ar.setS; split <;> rfl
/-- The two: the program's in block g, the document's at r; of what was there at w0 only g and S0 have turned. -/
structure Bo (w0 : World) (S0 : Nat → Prop) (g r : Nat) (s t : Ar) (w : World) : Prop where
  frm : Frm (fun b => b = g ∨ S0 b) w0 w
  arn : ∃ c, Blk w g 58 c ∧ Arn c s
  ref : ∃ S, RA w r S t ∧ ¬ S g ∧ ∀ b, S b → S0 b ∨ w0.heap.size ≤ b
section
variable {w0 w w' : World} {S0 : Nat → Prop} {g r : Nat} {s s' t t' : Ar}
theorem Bo.below (h : Bo w0 S0 g r s t w) (hb : Below w.heap.size w w') : Bo w0 S0 g r s t w' := by
  obtain ⟨c, h1, h2⟩ := h.arn
  obtain ⟨S, h3, h4, h5⟩ := h.ref
  exact ⟨h.frm.trans (Frm.of_below (S := fun _ => False) hb) (fun _ f => f.elim), ⟨c, h1.below hb h1.lt, h2⟩, S, h3.below hb, h4, h5⟩
theorem Bo.prog (h : Bo w0 S0 g r s t w) (hf : Frm (fun b => b = g) w w') (ha : ∃ c, Blk w' g 58 c ∧ Arn c s') : Bo w0 S0 g r s' t w' := by
  obtain ⟨S, h3, h4, h5⟩ := h.ref
  exact ⟨h.frm.trans hf (fun b e => .inl (.inl e)), ha, S, h3.frm hf (fun b e => by rw [e]; exact h4), h4, h5⟩
theorem Bo.doc (h : Bo w0 S0 g r s t w) {S S' : Nat → Prop} (h4 : ¬ S g) (h5 : ∀ b, S b → S0 b ∨ w0.heap.size ≤ b) (hf : Frm S w w') (hr : RA w' r S' t') (hS : ∀ b, S' b → S b ∨ w.heap.size ≤ b) : Bo w0 S0 g r s t' w' := by
  obtain ⟨c, h1, h2⟩ := h.arn
  refine ⟨h.frm.trans hf (fun b e => (h5 b e).imp .inr id), ⟨c, (hf.block g h1.lt h4).trans h1, h2⟩, S', hr, fun e => ?_, fun b e => ?_⟩
  · rcases hS g e with e | e
    · exact h4 e
    · have := h1.lt; omega
  · rcases hS b e with e | e
    · exact h5 b e
    · have := h.frm.size; exact .inr (by omega)
/-- Seen from a later world. -/
theorem Bo.sub {W1 : World} {S : Nat → Prop} (h : Frm (fun b => b = g ∨ S0 b) w0 W1) (h5 : ∀ b, S b → S0 b ∨ w0.heap.size ≤ b) (k : Bo W1 S g r s t w) : Bo w0 S0 g r s t w := by
  obtain ⟨S', h3, h4, h6⟩ := k.ref
  refine ⟨h.trans k.frm (fun b e => ?_), k.arn, S', h3, h4, fun b e => ?_⟩
  · rcases e with e | e
    · exact .inl (.inl e)
    · exact (h5 b e).imp .inr id
  · rcases h6 b e with e | e
    · exact h5 b e
    · have := h.size; exact .inr (by omega)
theorem Bo.blk (h : Bo w0 S0 g r s t w) {b : Nat} {T : TypeId} {cs : Array Value} (hb : Blk w0 b T cs) (h1 : b ≠ g) (h2 : ¬ S0 b) : Blk w b T cs := (h.frm.block b hb.lt (by rintro (e | e); exact h1 e; exact h2 e)).trans hb
theorem bTake (h : Bo w0 S0 g r s t w) (o : Ord) : Calls Try.prog 16 #[.pointer (some ⟨g, 0, none⟩), vOrd o] w fun e w' => e = .returned (.tuple #[.int .i64 s.tN, .int .i64 s.tF]) ∧ Bo w0 S0 g r (s.takeS o) t w' := by
  obtain ⟨c, h1, h2⟩ := h.arn
  unfold Ar.tN Ar.tF Ar.takeS
  cases hn : s.next with
  | none => exact (takeFull_any g c s o w h1 h2 hn).mono fun e w' ⟨he, hb⟩ => ⟨he, h.below hb⟩
  | some i => exact (take_any g c s o i w h1 h2 hn).mono fun e w' ⟨he, hf, ha⟩ => ⟨he, h.prog hf ha⟩
theorem bTakeR (h : Bo w0 S0 g r s t w) (o : Ord) : Calls Try.prog 20 #[.pointer (some ⟨r, 0, none⟩), vOrd o] w fun e w' => e = .returned (.tuple #[.int .i64 t.tN, .int .i64 t.tF]) ∧ Bo w0 S0 g r s (t.takeS o) w' := by
  obtain ⟨S, h3, h4, h5⟩ := h.ref
  unfold Ar.tN Ar.tF Ar.takeS
  cases hn : t.next with
  | none => exact (rtakeFull_any r S t o w h3 hn).mono fun e w' ⟨he, hb⟩ => ⟨he, h.below hb⟩
  | some i =>
    by_cases hD : t.D = []
    · exact (rtakeN_any r S t o i w h3 hn hD).mono fun e w' ⟨he, S', ha, hf, hS⟩ => ⟨he, h.doc h4 h5 hf ha hS⟩
    · exact (rtakeD_any r S t o i w h3 hn hD).mono fun e w' ⟨he, S', ha, hf, hS⟩ => ⟨he, h.doc h4 h5 hf ha hS⟩
theorem bDrop (h : Bo w0 S0 g r s t w) (x : Int) : Calls Try.prog 18 #[.pointer (some ⟨g, 0, none⟩), .int .i64 x] w fun e w' => e = .returned (.bool (s.hasI x)) ∧ Bo w0 S0 g r (s.dropS x) t w' := by
  obtain ⟨c, h1, h2⟩ := h.arn
  exact (drop_any g c s x w h1 h2).mono fun e w' ⟨he, hf, ha⟩ => ⟨he, h.prog hf ha⟩
theorem bDropR (h : Bo w0 S0 g r s t w) (x : Int) : Calls Try.prog 21 #[.pointer (some ⟨r, 0, none⟩), .int .i64 x] w fun e w' => e = .returned (.bool (t.hasI x)) ∧ Bo w0 S0 g r s (t.dropS x) w' := by
  obtain ⟨S, h3, h4, h5⟩ := h.ref
  exact (rdrop_any r S t x w h3).mono fun e w' ⟨he, S', ha, hf, hS⟩ => ⟨he, h.doc h4 h5 hf ha hS⟩
theorem bSet (h : Bo w0 S0 g r s t w) (x : Int) (o : Ord) : Calls Try.prog 19 #[.pointer (some ⟨g, 0, none⟩), .int .i64 x, vOrd o] w fun e w' => e = .returned (.bool (s.hasI x)) ∧ Bo w0 S0 g r (s.setS x o) t w' := by
  obtain ⟨c, h1, h2⟩ := h.arn
  exact (set_any g c s x o w h1 h2).mono fun e w' ⟨he, hf, ha⟩ => ⟨he, h.prog hf ha⟩
theorem bSetR (h : Bo w0 S0 g r s t w) (x : Int) (o : Ord) : Calls Try.prog 22 #[.pointer (some ⟨r, 0, none⟩), .int .i64 x, vOrd o] w fun e w' => e = .returned (.bool (t.hasI x)) ∧ Bo w0 S0 g r s (t.setS x o) w' := by
  obtain ⟨S, h3, h4, h5⟩ := h.ref
  exact (rset_any r S t x o w h3).mono fun e w' ⟨he, ha, hf⟩ => ⟨he, h.doc h4 h5 hf ha (fun b hb => .inl hb)⟩
theorem bGet (h : Bo w0 S0 g r s t w) (x : Int) : Calls Try.prog 17 #[.pointer (some ⟨g, 0, none⟩), .int .i64 x] w fun e w' => e = .returned (.tuple #[vOrd (s.getO x), .bool (s.hasI x)]) ∧ Below w.heap.size w w' := by
  obtain ⟨c, h1, h2⟩ := h.arn
  unfold Ar.getO
  by_cases hx : s.hasI x = true
  · rw [if_pos hx, hx]
    obtain ⟨i, rfl, hi⟩ := hasI_pos hx
    obtain ⟨o, ho⟩ := Ar.get_some h2.wf (Ar.has_lt h2.wf hi)
    rw [Int.toNat_natCast, ho]
    exact get_yes g c s i o w h1 h2 hi ho
  · rw [if_neg hx]
    obtain hx : s.hasI x = false := by simpa using hx
    rw [hx]
    refine get_no _ x w fun w2 hb => ?_
    have := holds_any g c s x w2 (h1.below hb h1.lt) h2
    rwa [hx] at this
theorem bGetR (h : Bo w0 S0 g r s t w) (x : Int) : Calls Try.prog 23 #[.pointer (some ⟨r, 0, none⟩), .int .i64 x] w fun e w' => e = .returned (.tuple #[vOrd (t.getO x), .bool (t.hasI x)]) ∧ Below w.heap.size w w' := by
  obtain ⟨S, h3, h4, h5⟩ := h.ref
  unfold Ar.getO
  by_cases hx : t.hasI x = true
  · rw [if_pos hx, hx]
    obtain ⟨i, rfl, hi⟩ := hasI_pos hx
    have h3' := h3
    obtain ⟨_, _, _, _, _, _, k⟩ := h3
    obtain ⟨o, ho⟩ := Ar.get_some k.wf (Ar.has_lt k.wf hi)
    rw [Int.toNat_natCast, ho]
    exact rget_yes r S t i o w h3' hi ho
  · rw [if_neg hx]
    obtain hx : t.hasI x = false := by simpa using hx
    rw [hx]
    exact rget_no r S t x w h3 hx
theorem bUsed (h : Bo w0 S0 g r s t w) : Calls Try.prog 11 #[.pointer (some ⟨g, 0, none⟩)] w fun e w' => e = .returned (.int .i64 (s.used : Int)) ∧ w' = w := by
  obtain ⟨c, h1, h2⟩ := h.arn
  exact used_any g c s w h1 h2
theorem bRoom (h : Bo w0 S0 g r s t w) : Calls Try.prog 13 #[.pointer (some ⟨g, 0, none⟩)] w fun e w' => e = .returned (.int .i64 (s.fr.length : Int)) ∧ ∃ n, w' = w.drewN n := by
  obtain ⟨c, h1, h2⟩ := h.arn
  exact room_any g c s w h1 h2
theorem bUsedR (h : Bo w0 S0 g r s t w) : Calls Try.prog 12 #[.pointer (some ⟨r, 0, none⟩)] w fun e w' => e = .returned (.int .i64 (t.used : Int)) ∧ w' = w := by
  obtain ⟨S, h3, -⟩ := h.ref
  exact rused_any r S t w h3
end
end Go.Proofs.Ytbkdakabpmpiiaa
