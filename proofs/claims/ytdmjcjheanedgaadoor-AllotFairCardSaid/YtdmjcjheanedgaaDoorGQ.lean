/-
  An arena, queues, an index and two ladders of the program side by side in memory: what one act on one of them leaves of all.
  The contracts of the program's arena, queues, index and ladders, of all side by side.
-/
import Derived.Test.YtdmjcjheanedgaaDoorGD
import Derived.Test.YtdmjcjheanedgaaDoorFiaq
import Derived.Test.YtdmjcjheanedgaaDoorGN
import Derived.Test.YtdmjcjheanedgaaDoorPxaq
import Derived.Test.YtdmjcjheanedgaaDoorGP
import Derived.Test.YtdmjcjheanedgaaDoorGX
namespace Go.Proofs.YtdmjcjheanedgaaDoor
open Go.RowKit
/-- The blocks of each: 0 the arena's, 1 the queues', 2 the index's, 3 and 4 the ladders'. -/
def own5 (ga : Nat) (Sf Sx S0 S1 : Nat → Prop) (i c : Nat) : Prop := (i = 0 ∧ c = ga) ∨ (i = 1 ∧ Sf c) ∨ (i = 2 ∧ Sx c) ∨ (i = 3 ∧ S0 c) ∨ (i = 4 ∧ S1 c)
def PAr (w : World) (g : Nat) (a : Ar) : Prop := ∃ c, Blk w g 112 c ∧ Arn c a
def PFi (w : World) (g : Nat) (S : Nat → Prop) (f : Fq) : Prop := ∃ bl be bs K E Z, PM w g bl be bs K E Z ∧ Fqp K E Z f ∧ S = Qb g bl be bs
structure P5 (w : World) (ga gf gx g0 g1 : Nat) (Sf Sx S0 S1 : Nat → Prop) (k : Nat) (a : Ar) (x : List Ixr) (f : Fq) (d : Int → Ld) : Prop where
  ar : PAr w ga a
  fi : PFi w gf Sf f
  ix : PX w gx Sx k x
  l0 : PL w g0 S0 (d 0)
  l1 : PL w g1 S1 (d 1)
  dj : ∀ i j c, own5 ga Sf Sx S0 S1 i c → own5 ga Sf Sx S0 S1 j c → i = j
  two : ∀ i c, own5 ga Sf Sx S0 S1 i c → 2 ≤ c
section
variable {w w' W : World} {ga gf gx g0 g1 g k : Nat} {Sf Sx S0 S1 T S : Nat → Prop} {a a' : Ar} {x x' : List Ixr} {f f' : Fq} {d : Int → Ld} {v : Ld}
theorem PAr.frm (h : PAr w g a) (hf : Frm T w w') (hT : ¬ T g) : PAr w' g a := by
  obtain ⟨c, h1, h2⟩ := h
  exact ⟨c, (hf.block g h1.lt hT).trans h1, h2⟩
theorem PAr.lt (h : PAr w g a) : g < w.heap.size := by
  obtain ⟨c, h1, h2⟩ := h
  exact h1.lt
theorem PFi.frm (h : PFi w g S f) (hf : Frm T w w') (hT : ∀ c, T c → 2 ≤ c ∧ ¬ S c) : PFi w' g S f := by
  obtain ⟨bl, be, bs, K, E, Z, h1, h2, rfl⟩ := h
  exact ⟨bl, be, bs, K, E, Z, h1.frm hf hT, h2, rfl⟩
theorem PFi.lt (h : PFi w g S f) : ∀ c, S c → c < w.heap.size := by
  obtain ⟨bl, be, bs, K, E, Z, h1, h2, rfl⟩ := h
  exact h1.lt
theorem PFi.gl (h : PFi w g S f) : Gl w := by
  obtain ⟨bl, be, bs, K, E, Z, h1, h2, rfl⟩ := h
  exact h1.gl
theorem PX.frmT (h : PX w g S k x) (hf : Frm T w w') (hT : ∀ c, T c → ¬ S c) : PX w' g S k x := h.frm hf hT
theorem P5.lt (h : P5 w ga gf gx g0 g1 Sf Sx S0 S1 k a x f d) : ∀ i c, own5 ga Sf Sx S0 S1 i c → c < w.heap.size := by
  rintro i c (⟨-, rfl⟩ | ⟨-, e⟩ | ⟨-, e⟩ | ⟨-, e⟩ | ⟨-, e⟩)
  · exact h.ar.lt
  · exact h.fi.lt c e
  · exact h.ix.lt c e
  · exact h.l0.lt c e
  · exact h.l1.lt c e
theorem P5.gl (h : P5 w ga gf gx g0 g1 Sf Sx S0 S1 k a x f d) : Gl w := h.fi.gl
/-- What turns none of their blocks leaves them. -/
theorem P5.frm (h : P5 w ga gf gx g0 g1 Sf Sx S0 S1 k a x f d) (hf : Frm T w w') (hT : ∀ c, T c → 2 ≤ c ∧ ∀ i, ¬ own5 ga Sf Sx S0 S1 i c) : P5 w' ga gf gx g0 g1 Sf Sx S0 S1 k a x f d :=
  ⟨h.ar.frm hf (fun e => (hT _ e).2 0 (.inl ⟨rfl, rfl⟩)), h.fi.frm hf (fun c e => ⟨(hT c e).1, fun e' => (hT c e).2 1 (.inr (.inl ⟨rfl, e'⟩))⟩), h.ix.frmT hf (fun c e e' => (hT c e).2 2 (.inr (.inr (.inl ⟨rfl, e'⟩)))),
    h.l0.frm hf (fun c e e' => (hT c e).2 3 (.inr (.inr (.inr (.inl ⟨rfl, e'⟩))))), h.l1.frm hf (fun c e e' => (hT c e).2 4 (.inr (.inr (.inr (.inr ⟨rfl, e'⟩))))), h.dj, h.two⟩
theorem P5.below (h : P5 w ga gf gx g0 g1 Sf Sx S0 S1 k a x f d) (hb : Below w.heap.size w w') : P5 w' ga gf gx g0 g1 Sf Sx S0 S1 k a x f d :=
  h.frm (Frm.of_below (S := fun _ => False) hb) (fun _ e => e.elim)
/-- A set that has grown keeps them apart. -/
theorem own5_grow {Sf' Sx' S0' S1' : Nat → Prop} (hlt : ∀ i c, own5 ga Sf Sx S0 S1 i c → c < w.heap.size) (hdj : ∀ i j c, own5 ga Sf Sx S0 S1 i c → own5 ga Sf Sx S0 S1 j c → i = j) (m : Nat)
    (h : ∀ i c, own5 ga Sf' Sx' S0' S1' i c → own5 ga Sf Sx S0 S1 i c ∨ (i = m ∧ w.heap.size ≤ c)) : ∀ i j c, own5 ga Sf' Sx' S0' S1' i c → own5 ga Sf' Sx' S0' S1' j c → i = j := by
  intro i j c hi hj
  rcases h i c hi with g1 | ⟨g1, g2⟩ <;> rcases h j c hj with g3 | ⟨g3, g4⟩
  · exact hdj i j c g1 g3
  · have := hlt i c g1; omega
  · have := hlt j c g3; omega
  · omega
theorem P5.step0 (h : P5 w ga gf gx g0 g1 Sf Sx S0 S1 k a x f d) (hf : Frm (fun c => c = ga) w w') (ha : PAr w' ga a') : P5 w' ga gf gx g0 g1 Sf Sx S0 S1 k a' x f d := by
  have hn : ∀ i c, own5 ga Sf Sx S0 S1 i c → c = ga → i = 0 := fun i c hi e => h.dj i 0 c hi (.inl ⟨rfl, e⟩)
  have h2 := h.two 0 ga (.inl ⟨rfl, rfl⟩)
  refine ⟨ha, h.fi.frm hf (fun c e => ⟨by subst e; exact h2, fun e' => ?_⟩), h.ix.frmT hf (fun c e e' => ?_), h.l0.frm hf (fun c e e' => ?_), h.l1.frm hf (fun c e e' => ?_), h.dj, h.two⟩
  · have := hn 1 c (.inr (.inl ⟨rfl, e'⟩)) e; omega
  · have := hn 2 c (.inr (.inr (.inl ⟨rfl, e'⟩))) e; omega
  · have := hn 3 c (.inr (.inr (.inr (.inl ⟨rfl, e'⟩)))) e; omega
  · have := hn 4 c (.inr (.inr (.inr (.inr ⟨rfl, e'⟩)))) e; omega
theorem P5.step1 (h : P5 w ga gf gx g0 g1 Sf Sx S0 S1 k a x f d) (hf : Frm Sf w w') (ha : PFi w' gf Sf f') : P5 w' ga gf gx g0 g1 Sf Sx S0 S1 k a x f' d := by
  have hn : ∀ i c, own5 ga Sf Sx S0 S1 i c → Sf c → i = 1 := fun i c hi e => h.dj i 1 c hi (.inr (.inl ⟨rfl, e⟩))
  refine ⟨h.ar.frm hf (fun e => ?_), ha, h.ix.frmT hf (fun c e e' => ?_), h.l0.frm hf (fun c e e' => ?_), h.l1.frm hf (fun c e e' => ?_), h.dj, h.two⟩
  · have := hn 0 ga (.inl ⟨rfl, rfl⟩) e; omega
  · have := hn 2 c (.inr (.inr (.inl ⟨rfl, e'⟩))) e; omega
  · have := hn 3 c (.inr (.inr (.inr (.inl ⟨rfl, e'⟩)))) e; omega
  · have := hn 4 c (.inr (.inr (.inr (.inr ⟨rfl, e'⟩)))) e; omega
theorem P5.step2 {n : Nat} {Sx' : Nat → Prop} (h : P5 w ga gf gx g0 g1 Sf Sx S0 S1 k a x f d) (hf : Frm Sx w w') (ha : PX w' gx Sx' n x') (hS : ∀ c, Sx' c → Sx c ∨ w.heap.size ≤ c) : P5 w' ga gf gx g0 g1 Sf Sx' S0 S1 n a x' f d := by
  have hn : ∀ i c, own5 ga Sf Sx S0 S1 i c → Sx c → i = 2 := fun i c hi e => h.dj i 2 c hi (.inr (.inr (.inl ⟨rfl, e⟩)))
  have h2 := h.gl.two
  have hg : ∀ i c, own5 ga Sf Sx' S0 S1 i c → own5 ga Sf Sx S0 S1 i c ∨ (i = 2 ∧ w.heap.size ≤ c) := by
    rintro i c (e | e | ⟨e, e'⟩ | e | e)
    · exact .inl (.inl e)
    · exact .inl (.inr (.inl e))
    · rcases hS c e' with e' | e'
      · exact .inl (.inr (.inr (.inl ⟨e, e'⟩)))
      · exact .inr ⟨e, e'⟩
    · exact .inl (.inr (.inr (.inr (.inl e))))
    · exact .inl (.inr (.inr (.inr (.inr e))))
  refine ⟨h.ar.frm hf (fun e => ?_), h.fi.frm hf (fun c e => ⟨h.two 2 c (.inr (.inr (.inl ⟨rfl, e⟩))), fun e' => ?_⟩), ha, h.l0.frm hf (fun c e e' => ?_), h.l1.frm hf (fun c e e' => ?_), own5_grow h.lt h.dj 2 hg, fun i c hi => ?_⟩
  · have := hn 0 ga (.inl ⟨rfl, rfl⟩) e; omega
  · have := hn 1 c (.inr (.inl ⟨rfl, e'⟩)) e; omega
  · have := hn 3 c (.inr (.inr (.inr (.inl ⟨rfl, e'⟩)))) e; omega
  · have := hn 4 c (.inr (.inr (.inr (.inr ⟨rfl, e'⟩)))) e; omega
  · rcases hg i c hi with e | ⟨-, e⟩
    · exact h.two i c e
    · omega
theorem P5.step3 {S0' : Nat → Prop} (h : P5 w ga gf gx g0 g1 Sf Sx S0 S1 k a x f d) (hf : Frm S0 w w') (ha : PL w' g0 S0' v) (hS : ∀ c, S0' c → S0 c ∨ w.heap.size ≤ c) : P5 w' ga gf gx g0 g1 Sf Sx S0' S1 k a x f (upd d 0 v) := by
  have hn : ∀ i c, own5 ga Sf Sx S0 S1 i c → S0 c → i = 3 := fun i c hi e => h.dj i 3 c hi (.inr (.inr (.inr (.inl ⟨rfl, e⟩))))
  have h2 := h.gl.two
  have hg : ∀ i c, own5 ga Sf Sx S0' S1 i c → own5 ga Sf Sx S0 S1 i c ∨ (i = 3 ∧ w.heap.size ≤ c) := by
    rintro i c (e | e | e | ⟨e, e'⟩ | e)
    · exact .inl (.inl e)
    · exact .inl (.inr (.inl e))
    · exact .inl (.inr (.inr (.inl e)))
    · rcases hS c e' with e' | e'
      · exact .inl (.inr (.inr (.inr (.inl ⟨e, e'⟩))))
      · exact .inr ⟨e, e'⟩
    · exact .inl (.inr (.inr (.inr (.inr e))))
  refine ⟨h.ar.frm hf (fun e => ?_), h.fi.frm hf (fun c e => ⟨h.two 3 c (.inr (.inr (.inr (.inl ⟨rfl, e⟩)))), fun e' => ?_⟩), h.ix.frmT hf (fun c e e' => ?_), by rw [upd_self]; exact ha, by rw [upd_ne (by omega)]; exact h.l1.frm hf (fun c e e' => by have := hn 4 c (.inr (.inr (.inr (.inr ⟨rfl, e'⟩)))) e; omega), own5_grow h.lt h.dj 3 hg, fun i c hi => ?_⟩
  · have := hn 0 ga (.inl ⟨rfl, rfl⟩) e; omega
  · have := hn 1 c (.inr (.inl ⟨rfl, e'⟩)) e; omega
  · have := hn 2 c (.inr (.inr (.inl ⟨rfl, e'⟩))) e; omega
  · rcases hg i c hi with e | ⟨-, e⟩
    · exact h.two i c e
    · omega
theorem P5.step4 {S1' : Nat → Prop} (h : P5 w ga gf gx g0 g1 Sf Sx S0 S1 k a x f d) (hf : Frm S1 w w') (ha : PL w' g1 S1' v) (hS : ∀ c, S1' c → S1 c ∨ w.heap.size ≤ c) : P5 w' ga gf gx g0 g1 Sf Sx S0 S1' k a x f (upd d 1 v) := by
  have hn : ∀ i c, own5 ga Sf Sx S0 S1 i c → S1 c → i = 4 := fun i c hi e => h.dj i 4 c hi (.inr (.inr (.inr (.inr ⟨rfl, e⟩))))
  have h2 := h.gl.two
  have hg : ∀ i c, own5 ga Sf Sx S0 S1' i c → own5 ga Sf Sx S0 S1 i c ∨ (i = 4 ∧ w.heap.size ≤ c) := by
    rintro i c (e | e | e | e | ⟨e, e'⟩)
    · exact .inl (.inl e)
    · exact .inl (.inr (.inl e))
    · exact .inl (.inr (.inr (.inl e)))
    · exact .inl (.inr (.inr (.inr (.inl e))))
    · rcases hS c e' with e' | e'
      · exact .inl (.inr (.inr (.inr (.inr ⟨e, e'⟩))))
      · exact .inr ⟨e, e'⟩
  refine ⟨h.ar.frm hf (fun e => ?_), h.fi.frm hf (fun c e => ⟨h.two 4 c (.inr (.inr (.inr (.inr ⟨rfl, e⟩)))), fun e' => ?_⟩), h.ix.frmT hf (fun c e e' => ?_), by rw [upd_ne (by omega)]; exact h.l0.frm hf (fun c e e' => by have := hn 3 c (.inr (.inr (.inr (.inl ⟨rfl, e'⟩)))) e; omega), by rw [upd_self]; exact ha, own5_grow h.lt h.dj 4 hg, fun i c hi => ?_⟩
  · have := hn 0 ga (.inl ⟨rfl, rfl⟩) e; omega
  · have := hn 1 c (.inr (.inl ⟨rfl, e'⟩)) e; omega
  · have := hn 2 c (.inr (.inr (.inl ⟨rfl, e'⟩))) e; omega
  · rcases hg i c hi with e | ⟨-, e⟩
    · exact h.two i c e
    · omega
end
end Go.Proofs.YtdmjcjheanedgaaDoor
namespace Go.Proofs.YtdmjcjheanedgaaDoor
open Go.RowKit
/-- The five, as they have come to be since W0: of what was there only S0 has turned. -/
structure Bs (W0 : World) (S0 : Nat → Prop) (ga gf gx g0 g1 k : Nat) (a : Ar) (x : List Ixr) (f : Fq) (d : Int → Ld) (w : World) : Prop where
  frm : Frm S0 W0 w
  p : ∃ Sf Sx S1 S2, P5 w ga gf gx g0 g1 Sf Sx S1 S2 k a x f d ∧ ∀ i c, own5 ga Sf Sx S1 S2 i c → S0 c ∨ W0.heap.size ≤ c
def gsd (g0 g1 : Nat) (s : Int) : Nat := if s = 0 then g0 else g1
section
variable {W0 w w' : World} {S0 : Nat → Prop} {ga gf gx g0 g1 k : Nat} {a : Ar} {x : List Ixr} {f : Fq} {d : Int → Ld} {i : Nat} {o : Ord} {s : Int}
theorem Bs.below (h : Bs W0 S0 ga gf gx g0 g1 k a x f d w) (hb : Below w.heap.size w w') : Bs W0 S0 ga gf gx g0 g1 k a x f d w' := by
  obtain ⟨Sf, Sx, S1, S2, h1, h2⟩ := h.p
  exact ⟨h.frm.trans (Frm.of_below (S := fun _ => False) hb) (fun _ e => e.elim), Sf, Sx, S1, S2, h1.below hb, h2⟩
theorem Bs.gl (h : Bs W0 S0 ga gf gx g0 g1 k a x f d w) : Gl w := by
  obtain ⟨Sf, Sx, S1, S2, h1, h2⟩ := h.p
  exact h1.gl
theorem Bs.take (h : Bs W0 S0 ga gf gx g0 g1 k a x f d w) (hi : a.next = some i) (o : Ord) : Calls Tryd.prog 37 #[.pointer (some ⟨ga, 0, none⟩), vOrd o] w fun e w' => e = .returned (.tuple #[.int .i64 (i : Int), .int .i64 0]) ∧ Bs W0 S0 ga gf gx g0 g1 k (a.put i o) x f d w' := by
  obtain ⟨Sf, Sx, S1, S2, h1, h2⟩ := h.p
  obtain ⟨c, hB, hA⟩ := h1.ar
  refine (take_any ga c a o i w hB hA hi).mono ?_
  rintro e w' ⟨he, hf, hc⟩
  exact ⟨he, h.frm.trans hf (fun c e => e ▸ h2 0 ga (.inl ⟨rfl, rfl⟩)), Sf, Sx, S1, S2, h1.step0 hf hc, h2⟩
theorem Bs.drop (h : Bs W0 S0 ga gf gx g0 g1 k a x f d w) (hi : a.has i = true) : Calls Tryd.prog 71 #[.pointer (some ⟨ga, 0, none⟩), .int .i64 (i : Int)] w fun e w' => e = .returned (.bool true) ∧ Bs W0 S0 ga gf gx g0 g1 k (a.drop i) x f d w' := by
  obtain ⟨Sf, Sx, S1, S2, h1, h2⟩ := h.p
  obtain ⟨c, hB, hA⟩ := h1.ar
  refine (drop_any ga c a (i : Int) w hB hA).mono ?_
  rw [Ar.hasI_nat, hi, if_pos rfl, Int.toNat_natCast]
  rintro e w' ⟨he, hf, hc⟩
  exact ⟨he, h.frm.trans hf (fun c e => e ▸ h2 0 ga (.inl ⟨rfl, rfl⟩)), Sf, Sx, S1, S2, h1.step0 hf hc, h2⟩
theorem Bs.set (h : Bs W0 S0 ga gf gx g0 g1 k a x f d w) (hi : a.has i = true) (o : Ord) : Calls Tryd.prog 72 #[.pointer (some ⟨ga, 0, none⟩), .int .i64 (i : Int), vOrd o] w fun e w' => e = .returned (.bool true) ∧ Bs W0 S0 ga gf gx g0 g1 k (a.set i o) x f d w' := by
  obtain ⟨Sf, Sx, S1, S2, h1, h2⟩ := h.p
  obtain ⟨c, hB, hA⟩ := h1.ar
  refine (set_any ga c a (i : Int) o w hB hA).mono ?_
  rw [Ar.hasI_nat, hi, if_pos rfl, Int.toNat_natCast]
  rintro e w' ⟨he, hf, hc⟩
  exact ⟨he, h.frm.trans hf (fun c e => e ▸ h2 0 ga (.inl ⟨rfl, rfl⟩)), Sf, Sx, S1, S2, h1.step0 hf hc, h2⟩
theorem Bs.get (h : Bs W0 S0 ga gf gx g0 g1 k a x f d w) (hi : a.has i = true) (ho : a.O[i]? = some o) : Calls Tryd.prog 67 #[.pointer (some ⟨ga, 0, none⟩), .int .i64 (i : Int)] w fun e w' => e = .returned (.tuple #[vOrd o, .bool true]) ∧ Below w.heap.size w w' := by
  obtain ⟨Sf, Sx, S1, S2, h1, h2⟩ := h.p
  obtain ⟨c, hB, hA⟩ := h1.ar
  exact (get_yes ga c a i o w hB hA hi ho).mono fun e w' ⟨he, hb⟩ => ⟨he, hb⟩
theorem Bs.used (h : Bs W0 S0 ga gf gx g0 g1 k a x f d w) : Calls Tryd.prog 49 #[.pointer (some ⟨ga, 0, none⟩)] w fun e w' => e = .returned (.int .i64 (a.used : Int)) ∧ w' = w := by
  obtain ⟨Sf, Sx, S1, S2, h1, h2⟩ := h.p
  obtain ⟨c, hB, hA⟩ := h1.ar
  exact used_any ga c a w hB hA
theorem Bs.room (h : Bs W0 S0 ga gf gx g0 g1 k a x f d w) : Calls Tryd.prog 56 #[.pointer (some ⟨ga, 0, none⟩)] w fun e w' => e = .returned (.int .i64 (a.fr.length : Int)) ∧ ∃ n, w' = w.drewN n := by
  obtain ⟨Sf, Sx, S1, S2, h1, h2⟩ := h.p
  obtain ⟨c, hB, hA⟩ := h1.ar
  exact room_any ga c a w hB hA
/-! The queues. -/
theorem Bs.push (h : Bs W0 S0 ga gf gx g0 g1 k a x f d w) (q n : Int) : Calls Tryd.prog 40 #[.pointer (some ⟨gf, 0, none⟩), .int .i64 q, .int .i64 n] w fun e w' => e = .returned (.bool (f.pushB q n)) ∧ Bs W0 S0 ga gf gx g0 g1 k a x (f.pushS q n) d w' := by
  obtain ⟨Sf, Sx, S1, S2, h1, h2⟩ := h.p
  obtain ⟨bl, be, bs, K, E, Z, hM, hF, e0⟩ := h1.fi
  refine (push_any q n hF hM).mono ?_
  rintro e w' ⟨he, hf, K', E', Z', hF', hM'⟩
  rw [← e0] at hf
  exact ⟨he, h.frm.trans hf (fun c e => h2 1 c (.inr (.inl ⟨rfl, e⟩))), Sf, Sx, S1, S2, h1.step1 hf ⟨bl, be, bs, K', E', Z', hM', hF', e0⟩, h2⟩
theorem Bs.remove (h : Bs W0 S0 ga gf gx g0 g1 k a x f d w) (n : Int) : Calls Tryd.prog 69 #[.pointer (some ⟨gf, 0, none⟩), .int .i64 n] w fun e w' => e = .returned (.tuple #[.int .i64 (f.ofV n), .bool (f.ofB n)]) ∧ Bs W0 S0 ga gf gx g0 g1 k a x (f.remS n) d w' := by
  obtain ⟨Sf, Sx, S1, S2, h1, h2⟩ := h.p
  obtain ⟨bl, be, bs, K, E, Z, hM, hF, e0⟩ := h1.fi
  refine (remove_any n hF hM).mono ?_
  rintro e w' ⟨he, hf, K', E', Z', hF', hM'⟩
  rw [← e0] at hf
  exact ⟨he, h.frm.trans hf (fun c e => h2 1 c (.inr (.inl ⟨rfl, e⟩))), Sf, Sx, S1, S2, h1.step1 hf ⟨bl, be, bs, K', E', Z', hM', hF', e0⟩, h2⟩
theorem Bs.front (h : Bs W0 S0 ga gf gx g0 g1 k a x f d w) (q : Int) : Calls Tryd.prog 101 #[.pointer (some ⟨gf, 0, none⟩), .int .i64 q] w fun e w' => e = .returned (.tuple #[.int .i64 (f.frontV q), .bool (f.frontB q)]) ∧ ∃ n, w' = w.drewN n := by
  obtain ⟨Sf, Sx, S1, S2, h1, h2⟩ := h.p
  obtain ⟨bl, be, bs, K, E, Z, hM, hF, e0⟩ := h1.fi
  exact front_any q hF hM
/-! The index. -/
theorem Bs.xget (h : Bs W0 S0 ga gf gx g0 g1 k a x f d w) {y z : Int} (hy : In64 y) (hz : In64 z) : Calls Tryd.prog 66 #[.pointer (some ⟨gx, 0, none⟩), vKey y z] w fun e w' => e = .returned (.tuple #[.int .i64 ((ixg x y z).getD 0), .bool (ixg x y z).isSome]) ∧ Below w.heap.size w w' := by
  obtain ⟨Sf, Sx, S1, S2, h1, h2⟩ := h.p
  exact (xget_any y z hy hz h1.ix).mono fun e w' ⟨he, hb⟩ => ⟨he, hb⟩
theorem Bs.xput (h : Bs W0 S0 ga gf gx g0 g1 k a x f d w) (hk : k < 100000) {y z t : Int} (hy : In64 y) (hz : In64 z) (ht : In64 t) : Calls Tryd.prog 41 #[.pointer (some ⟨gx, 0, none⟩), vKey y z, .int .i64 t] w fun e w' => e = .returned (.bool (ixg x y z).isNone) ∧ Bs W0 S0 ga gf gx g0 g1 (k + 1) a (ixPut x y z t) f d w' := by
  obtain ⟨Sf, Sx, S1, S2, h1, h2⟩ := h.p
  refine (xput_any y z t hy hz ht h1.ix hk).mono ?_
  rintro e w' ⟨he, ⟨Sx', h3, h4⟩, hf⟩
  refine ⟨he, h.frm.trans hf (fun c e => h2 2 c (.inr (.inr (.inl ⟨rfl, e⟩)))), Sf, Sx', S1, S2, h1.step2 hf h3 h4, ?_⟩
  rintro i c (e | e | ⟨e, e'⟩ | e | e)
  · exact h2 i c (.inl e)
  · exact h2 i c (.inr (.inl e))
  · rcases h4 c e' with e' | e'
    · exact h2 i c (.inr (.inr (.inl ⟨e, e'⟩)))
    · have := h.frm.size; exact .inr (by omega)
  · exact h2 i c (.inr (.inr (.inr (.inl e))))
  · exact h2 i c (.inr (.inr (.inr (.inr e))))
theorem Bs.xdrop (h : Bs W0 S0 ga gf gx g0 g1 k a x f d w) {y z : Int} (hy : In64 y) (hz : In64 z) : Calls Tryd.prog 70 #[.pointer (some ⟨gx, 0, none⟩), vKey y z] w fun e w' => e = .returned (.bool (ixg x y z).isSome) ∧ Bs W0 S0 ga gf gx g0 g1 k a (ixDrop x y z) f d w' := by
  obtain ⟨Sf, Sx, S1, S2, h1, h2⟩ := h.p
  refine (xdrop_any y z hy hz h1.ix).mono ?_
  rintro e w' ⟨he, h3, hf⟩
  exact ⟨he, h.frm.trans hf (fun c e => h2 2 c (.inr (.inr (.inl ⟨rfl, e⟩)))), Sf, Sx, S1, S2, h1.step2 hf h3 (fun c e => .inl e), h2⟩
/-! The ladders. -/
theorem Bs.lad (h : Bs W0 S0 ga gf gx g0 g1 k a x f d w) (hs : s = 0 ∨ s = 1) : ∃ S, PL w (gsd g0 g1 s) S (d s) ∧ ∀ v w' S', PL w' (gsd g0 g1 s) S' v → (∀ c, S' c → S c ∨ w.heap.size ≤ c) → Frm S w w' → Bs W0 S0 ga gf gx g0 g1 k a x f (upd d s v) w' := by
  obtain ⟨Sf, Sx, S1, S2, h1, h2⟩ := h.p
  have hz := h.frm.size
  rcases hs with rfl | rfl
  · refine ⟨S1, h1.l0, fun v w' S' h3 h4 hf => ⟨h.frm.trans hf (fun c e => h2 3 c (.inr (.inr (.inr (.inl ⟨rfl, e⟩))))), Sf, Sx, S', S2, h1.step3 hf h3 h4, ?_⟩⟩
    rintro i c (e | e | e | ⟨e, e'⟩ | e)
    · exact h2 i c (.inl e)
    · exact h2 i c (.inr (.inl e))
    · exact h2 i c (.inr (.inr (.inl e)))
    · rcases h4 c e' with e' | e'
      · exact h2 i c (.inr (.inr (.inr (.inl ⟨e, e'⟩))))
      · exact .inr (by omega)
    · exact h2 i c (.inr (.inr (.inr (.inr e))))
  · refine ⟨S2, h1.l1, fun v w' S' h3 h4 hf => ⟨h.frm.trans hf (fun c e => h2 4 c (.inr (.inr (.inr (.inr ⟨rfl, e⟩))))), Sf, Sx, S1, S', h1.step4 hf h3 h4, ?_⟩⟩
    rintro i c (e | e | e | e | ⟨e, e'⟩)
    · exact h2 i c (.inl e)
    · exact h2 i c (.inr (.inl e))
    · exact h2 i c (.inr (.inr (.inl e)))
    · exact h2 i c (.inr (.inr (.inr (.inl e))))
    · rcases h4 c e' with e' | e'
      · exact h2 i c (.inr (.inr (.inr (.inr ⟨e, e'⟩))))
      · exact .inr (by omega)
theorem Bs.lput (h : Bs W0 S0 ga gf gx g0 g1 k a x f d w) (hs : s = 0 ∨ s = 1) (hw : (d s).Wf 500) (p q : Int) (hq : In64 q) : Calls Tryd.prog 39 #[.pointer (some ⟨gsd g0 g1 s, 0, none⟩), .int .i64 p, .int .i64 q] w fun e w' => e = .returned (.tuple #[.int .i64 ((d s).putR p q).1, .int .i64 ((d s).putR p q).2]) ∧ Bs W0 S0 ga gf gx g0 g1 k a x f (upd d s ((d s).putS p q)) w' := by
  obtain ⟨S, h1, h2⟩ := h.lad hs
  exact (pput_any p q h1 hw (by omega) hq).mono fun e w' ⟨he, ⟨S', h3, h4⟩, hf⟩ => ⟨he, h2 _ _ S' h3 h4 hf⟩
theorem Bs.ltake (h : Bs W0 S0 ga gf gx g0 g1 k a x f d w) (hs : s = 0 ∨ s = 1) (hw : (d s).Wf 500) (p q : Int) (gone : Bool) : Calls Tryd.prog 68 #[.pointer (some ⟨gsd g0 g1 s, 0, none⟩), .int .i64 p, .int .i64 q, .bool gone] w fun e w' => e = .returned (.tuple #[.int .i64 ((d s).takeR p q).1, .int .i64 ((d s).takeR p q).2]) ∧ Bs W0 S0 ga gf gx g0 g1 k a x f (upd d s ((d s).takeS p q gone)) w' := by
  obtain ⟨S, h1, h2⟩ := h.lad hs
  exact (ptake_any p q gone h1 hw (by omega)).mono fun e w' ⟨he, ⟨S', h3, h4⟩, hf⟩ => ⟨he, h2 _ _ S' h3 h4 hf⟩
theorem Bs.lfits (h : Bs W0 S0 ga gf gx g0 g1 k a x f d w) (hs : s = 0 ∨ s = 1) (hw : (d s).Wf 500) (p : Int) : Calls Tryd.prog 88 #[.pointer (some ⟨gsd g0 g1 s, 0, none⟩), .int .i64 p] w fun e w' => e = .returned (.bool ((d s).fits p)) ∧ Below w.heap.size w w' := by
  obtain ⟨S, h1, -⟩ := h.lad hs
  exact (pfits2_any p h1 hw).mono fun e w' ⟨he, hb⟩ => ⟨he, hb⟩
end
end Go.Proofs.YtdmjcjheanedgaaDoor
