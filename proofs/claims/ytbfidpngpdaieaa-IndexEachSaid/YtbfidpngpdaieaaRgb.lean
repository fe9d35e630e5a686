/-
  Ranging over a map of keys of two numbers: the rows that are still to come.
-/
import Derived.Test.YtbfidpngpdaieaaMpb
namespace Go.Proofs.Ytbfidpngpdaieaa
open Go.RowKit Go.WideMaps Go.WideElems
/-- A range (its iterator in block r) over the map in block b, which reads as l; q: the rows still to come. -/
def RgB (w : World) (b r k : Nat) (l q : List Ixr) : Prop := ∃ D left cnt, w.ranges Try.prog 43 (plainElem (H := Unit) Try.prog 3) b r k D left cnt ∧ Agr D l ∧ Ixu l ∧ Ixt l ∧ Ixu q ∧ ∀ x : Ixr, x ∈ q ↔ x ∈ l ∧ left (kl x.sym x.id) = true
section
variable {w w' W : World} {b r k : Nat} {l l' q : List Ixr} {S : Nat → Prop}
theorem RgB.map (h : RgB w b r k l q) : MpB w b k l := by
  obtain ⟨D, left, cnt, h1, h2, h3, h4, -⟩ := h
  exact ⟨D, h1.owns, h2, h3, h4⟩
theorem RgB.lt (h : RgB w b r k l q) : r < w.heap.size := by
  obtain ⟨D, left, cnt, h1, -⟩ := h
  exact h1.lt
theorem RgB.ne (h : RgB w b r k l q) : r ≠ b := by
  obtain ⟨D, left, cnt, h1, -⟩ := h
  exact h1.ne
theorem RgB.keep (h : RgB w b r k l q) (e : w'.heap[b]? = w.heap[b]?) (e2 : w'.heap[r]? = w.heap[r]?) : RgB w' b r k l q := by
  obtain ⟨D, left, cnt, ⟨es, clock, since, seen, c0, hb, h1, h2, h3, hr, h4⟩, h5⟩ := h
  exact ⟨D, left, cnt, ⟨es, clock, since, seen, c0, e.trans hb, h1, h2, h3, e2.trans hr, h4⟩, h5⟩
theorem RgB.below (h : RgB w b r k l q) (hb : Below w.heap.size w w') : RgB w' b r k l q := h.keep (hb.block b h.map.lt) (hb.block r h.lt)
theorem RgB.frm (h : RgB w b r k l q) (hf : Frm S w w') (h1 : ¬ S b) (h2 : ¬ S r) : RgB w' b r k l q := h.keep (hf.block b h.map.lt h1) (hf.block r h.lt h2)
theorem frm_grown {row : Nat} (g : w.grownBy w' (some row)) : Frm (fun c => c = row) w w' :=
  ⟨g.os, g.tape, g.output, g.size, fun c hc hn => g.block c hc (fun e => hn (Option.some.inj e))⟩
theorem below_grown (g : w.grownBy w' none) : Below w.heap.size w w' := ⟨g.os, g.tape, g.output, g.size, fun c hc => g.block c hc (by simp)⟩
theorem MpB.range (h : MpB w b k l) : ∃ w', (Instr.range 49 (.map (some b))).run Try.prog w = .ok (.pointer (some ⟨w.heap.size, 0, none⟩)) w' ∧ RgB w' b w.heap.size k l l ∧ Below w.heap.size w w' ∧ w'.heap.size = w.heap.size + 1 := by
  obtain ⟨D, h1, h2, h3, h4⟩ := h
  obtain ⟨w', e, h5, h6, h7⟩ := h1.range key_law Try.underlying49
  refine ⟨w', e, ⟨D, _, _, h5, h2, h3, h4, h3, fun x => ?_⟩, below_grown h6, h7⟩
  refine ⟨fun hx => ⟨hx, ?_⟩, fun hx => hx.1⟩
  obtain ⟨e1, e2⟩ := h4 x hx
  rw [(h2 _ _ e1 e2).1, h3.mem.1 hx]
  rfl
theorem RgB.next (h : RgB w b r k l q) (ty : TypeId) :
    (q = [] ∧ (Instr.next (.pointer (some ⟨r, 0, none⟩)) false ty).run Try.prog w = .ok (.tuple #[.bool false]) w) ∨
    ∃ x q' w', q.Perm (x :: q') ∧ x ∈ l ∧ (Instr.next (.pointer (some ⟨r, 0, none⟩)) false ty).run Try.prog w = .ok (.tuple #[.bool true, vKey x.sym x.id, .int .i64 x.slot]) w' ∧ RgB w' b r k l q' ∧
      (Instr.entry (.pointer (some ⟨r, 0, none⟩))).run Try.prog w' = .ok (.tuple #[vKey x.sym x.id, .int .i64 x.slot]) w' ∧ Frm (fun c => c = r) w w' ∧ w'.heap.size = w.heap.size := by
  obtain ⟨D, left, cnt, h1, h2, h3, h4, h5, h6⟩ := h
  rcases h1.next key_law ty with ⟨-, h0, hrun⟩ | ⟨key, v, kl', y, w', cnt', hkey, hleft, hv, hat, hrun, hrg, -, hg, hsz, hen⟩
  · left
    refine ⟨List.eq_nil_iff_forall_not_mem.2 fun x hx => ?_, hrun⟩
    have := ((h6 x).1 hx).2
    rw [h0] at this
    cases this
  · right
    obtain ⟨s, d, hs, hd, rfl, rfl⟩ := keyOf_inv hkey
    obtain ⟨c, rfl, rfl, -⟩ := plainElem_int_inv Try.underlying3 hv
    have hhas : Maps.has D (kl s d) = true := Maps.has_true_of_atKey hat
    obtain ⟨e1, e2⟩ := h2 s d hs hd
    rw [hhas] at e1
    obtain ⟨t, ht⟩ := Option.isSome_iff_exists.1 e1.symm
    have e3 := e2 t ht
    rw [hat] at e3
    cases e3
    have hx : (⟨s, d, c⟩ : Ixr) ∈ l := (ixg_key h3).1 ht
    have hxq : (⟨s, d, c⟩ : Ixr) ∈ q := (h6 _).2 ⟨hx, hleft⟩
    have hperm := List.perm_cons_erase hxq
    have hu' : Ixu (⟨s, d, c⟩ :: q.erase ⟨s, d, c⟩) := (hperm.pairwise_iff (fun {a b} e g => e ⟨g.1.symm, g.2.symm⟩)).1 h5
    have hu2 := List.pairwise_cons.1 hu'
    refine ⟨⟨s, d, c⟩, q.erase ⟨s, d, c⟩, w', hperm, hx, hrun, ⟨D, _, _, hrg, h2, h3, h4, hu2.2, fun z => ?_⟩, hen, frm_grown hg, hsz⟩
    constructor
    · intro hz
      obtain ⟨g1, g2⟩ := (h6 z).1 (List.mem_of_mem_erase hz)
      refine ⟨g1, ?_⟩
      have hne : kl z.sym z.id ≠ kl s d := fun e => by
        obtain ⟨e1, e2⟩ := kl_inj (h4 z g1).1 (h4 z g1).2 hs hd e
        exact hu2.1 z hz ⟨e1.symm, e2.symm⟩
      rw [g2, Maps.sameKey_ne hne]
      rfl
    · rintro ⟨g1, g2⟩
      simp only [Bool.and_eq_true, Bool.not_eq_true'] at g2
      have hzq := (h6 z).2 ⟨g1, g2.1⟩
      rcases List.mem_cons.1 (hperm.mem_iff.1 hzq) with rfl | g
      · have := WideAt.sameKey_self (kl_key s d)
        rw [this] at g2
        cases g2.2
      · exact g
theorem MpB.congr (h : MpB w b k l) (hu : Ixu l') (e : ∀ x, x ∈ l' ↔ x ∈ l) : MpB w b k l' := by
  obtain ⟨D, h1, h2, h3, h4⟩ := h
  refine ⟨D, h1, fun s d hs hd => ?_, hu, fun x hx => h4 x ((e x).1 hx)⟩
  rw [ixg_congr hu h3 fun t => e _]
  exact h2 s d hs hd
theorem RgB.drop (h : RgB w b r k l q) {x : Ixr} (hs : In64 x.sym) (hd : In64 x.id) (hq : ∀ y ∈ q, ¬ (y.sym = x.sym ∧ y.id = x.id)) (hu : Ixu l') (e : ∀ y, y ∈ l' ↔ y ∈ l ∧ ¬ (y.sym = x.sym ∧ y.id = x.id)) :
    ∃ w', (∀ ty, (Builtin.delete_ #[49, 43] ty #[.map (some b), vKey x.sym x.id]).run Try.prog w = .ok (.tuple #[]) w') ∧ RgB w' b r k l' q ∧ Frm (fun c => c = b) w w' := by
  obtain ⟨D, left, cnt, h1, h2, h3, h4, h5, h6⟩ := h
  obtain ⟨w', cnt', hrun, hrg, -, htn⟩ := h1.drop key_law Try.underlying49 (keyOf_mk hs hd) 0
  refine ⟨w', fun ty => hrun, ⟨D.del (kl x.sym x.id), _, _, hrg, h2.del h3 hu hs hd e, hu, fun y hy => h4 y ((e y).1 hy).1, h5, fun z => ?_⟩, frm_turned htn⟩
  constructor
  · intro hz
    obtain ⟨g1, g2⟩ := (h6 z).1 hz
    have hn := hq z hz
    have hne : kl z.sym z.id ≠ kl x.sym x.id := fun g => hn (kl_inj (h4 z g1).1 (h4 z g1).2 hs hd g)
    refine ⟨(e z).2 ⟨g1, hn⟩, ?_⟩
    rw [g2, Maps.sameKey_ne hne]
    rfl
  · rintro ⟨g1, g2⟩
    simp only [Bool.and_eq_true, Bool.not_eq_true'] at g2
    exact (h6 z).2 ⟨((e z).1 g1).1, g2.1⟩
end
end Go.Proofs.Ytbfidpngpdaieaa
