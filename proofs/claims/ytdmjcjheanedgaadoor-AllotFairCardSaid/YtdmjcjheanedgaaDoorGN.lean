/-
  The contract of the program's Worth.
  The program's levels, whole: what it is asked, and what becomes of it, in plain lists.
  What a nil ladder answers to what only asks.
-/
import Derived.Test.YtdmjcjheanedgaaDoorLeaq
import Derived.Test.YtdmjcjheanedgaaDoorGM
import Derived.Test.YtdmjcjheanedgaaDoorGB
import Derived.Test.YtdmjcjheanedgaaDoorGK
import Derived.RangeFuncCalls
import Derived.Shelf.RegionOpen
import Derived.Test.YtdmjcjheanedgaaDoorGL
namespace Go.Proofs.YtdmjcjheanedgaaDoor
open Go.RowKit
set_option linter.unusedSimpArgs false
attribute [local go_sem] Oper.semAt_some
attribute [local go_sem] wide_fn
section
variable {W : World} {g : Nat} {S T : Nat → Prop} {ko : Option Nat} {ao : Option Addr} {cap : Nat} {buy : Bool} {P : List Lvl} {F : List Nat}
end
end Go.Proofs.YtdmjcjheanedgaaDoor
namespace Go.Proofs.YtdmjcjheanedgaaDoor
open Go.RowKit
/-- The program's ladder, which has these levels. -/
structure PlB (w : World) (g : Nat) (S : Nat → Prop) (s : Ld) (ko : Option Nat) (ao : Option Addr) (cap : Nat) (P : List Lvl) (F : List Nat) : Prop where
  mem : PmB w g S ko ao cap s.buy P F
  ord : Sord s.buy s.L P
  bits : Bits F (frb s.most s.L)
  most : s.most ≤ 200
def PL (w : World) (g : Nat) (S : Nat → Prop) (s : Ld) : Prop := ∃ ko ao cap P F, PlB w g S s ko ao cap P F
section
variable {w w' W : World} {g : Nat} {S T : Nat → Prop} {s : Ld}
theorem PL.frm (h : PL w g S s) (hf : Frm T w w') (hT : ∀ b, T b → ¬ S b) : PL w' g S s := by
  obtain ⟨ko, ao, cap, P, F, h⟩ := h
  exact ⟨ko, ao, cap, P, F, ⟨h.mem.frm hf hT, h.ord, h.bits, h.most⟩⟩
theorem PL.below (h : PL w g S s) (hb : Below w.heap.size w w') : PL w' g S s := h.frm (Frm.of_below (S := fun _ => False) hb) (fun _ f => f.elim)
theorem PL.lt (h : PL w g S s) : ∀ b, S b → b < w.heap.size := by
  obtain ⟨ko, ao, cap, P, F, h⟩ := h
  exact h.mem.lt
theorem ath_find {P : List Lvl} (h : Sord s.buy s.L P) (p : Int) : ath s.buy P p = (s.find p).isSome := by
  unfold ath
  cases hf : s.find p with
  | some i =>
    obtain ⟨x, -, rfl, hk⟩ := h.found hf
    rw [hk]
    simp
  | none =>
    cases hx : P[plc s.buy P p]? with
    | none => rfl
    | some x => simpa using h.unfound hf x hx
theorem pfull_any (h : PL W g S s) {k : Nat} (hw : s.Wf k) : ∃ (q : Int), ∀ V, PL V g S s → Calls Tryd.prog 77 #[.pointer (some ⟨g, 0, none⟩)] V fun e w' => e = .returned (.tuple #[.int .i64 q, .bool (decide (s.L.length < s.most))]) ∧ w' = V := by
  by_cases hr : s.L.length < s.most
  · obtain ⟨h1, h2, h3⟩ := frb_room hr
    refine ⟨(freeQ s.L : Nat), fun V hV => ?_⟩
    obtain ⟨ko, ao, cap, P, F, hV⟩ := hV
    have := hV.most
    rw [decide_eq_true hr]
    exact punused_some hV.mem hV.bits (by omega) h2 h3
  · refine ⟨0, fun V hV => ?_⟩
    obtain ⟨ko, ao, cap, P, F, hV⟩ := hV
    rw [decide_eq_false hr]
    exact punused_none hV.mem hV.bits fun q _ => frb_full hw hr q
theorem pput_any (p q : Int) (h : PL W g S s) {k : Nat} (hw : s.Wf k) (hk : k ≤ 1000000) (hq : In64 q) :
    Calls Tryd.prog 39 #[.pointer (some ⟨g, 0, none⟩), .int .i64 p, .int .i64 q] W fun e w' => e = .returned (.tuple #[.int .i64 (s.putR p q).1, .int .i64 (s.putR p q).2]) ∧ (∃ S', PL w' g S' (s.putS p q) ∧ ∀ b, S' b → S b ∨ W.heap.size ≤ b) ∧ Frm S W w' := by
  have h' := h
  obtain ⟨ko, ao, cap, P, F, h⟩ := h
  unfold Ld.putR Ld.putS
  by_cases hpq : p < 1 ∨ q < 1
  · rw [if_pos hpq, if_pos hpq]
    refine (pputRange_any p q hpq W).mono ?_
    rintro e w' ⟨rfl, hw'⟩
    subst hw'
    exact ⟨rfl, ⟨S, h', fun b hb => .inl hb⟩, Frm.refl _ _⟩
  · rw [if_neg hpq, if_neg hpq]
    cases hf : s.find p with
    | some i =>
      obtain ⟨hP, hxp, hO⟩ := h.ord.putOld (q := q) hf
      obtain ⟨x, hx, -, -⟩ := Ld.find_some hf
      have hxm := List.mem_of_getElem? hx
      have hxq := hw.qty x hxm
      have hxo := hw.orders x hxm
      simp only
      rw [Ld.at_eq hx] at hP hxp hO ⊢
      by_cases hs : x.qty + q < 9223372036854775808
      · rw [if_pos hs, if_pos hs]
        refine (pputOld_any p q h.mem h.ord.std (by omega) (by omega) hP hxp ⟨by omega, by omega⟩ hq ⟨by omega, hs⟩ ⟨by omega, by omega⟩).mono ?_
        rintro e w' ⟨rfl, h1, h2⟩
        exact ⟨rfl, ⟨S, ⟨ko, ao, cap, _, F, h1, hO, h.bits.congr fun u _ => (frb_set (y := x.add q) hx rfl u).symm, h.most⟩, fun b hb => .inl hb⟩, h2⟩
      · rw [if_neg hs, if_neg hs]
        refine (pputOver_any p q h.mem h.ord.std (by omega) (by omega) hP hxp ⟨by omega, by omega⟩ hq (fun e => hs e.2)).mono ?_
        rintro e w' ⟨rfl, h1⟩
        exact ⟨rfl, ⟨S, h'.below h1, fun b hb => .inl hb⟩, Frm.of_below h1⟩
    | none =>
      simp only
      have ha : ath s.buy P p = false := by rw [ath_find h.ord, hf]; rfl
      have hPl := h.ord.len
      have hm := h.most
      have hlen := hw.len
      have hple := plc_le s.buy P p
      by_cases hr : s.L.length < s.most
      · rw [if_pos hr, if_pos hr]
        obtain ⟨hf1, hf2, hf3⟩ := frb_room hr
        refine (pputOpen_any p q h.mem h.ord.std (by omega) (by omega) ha (r := (freeQ s.L : Nat)) (f := 0) (Q := fun w' => (∃ S', PL w' g S' ⟨s.buy, s.most, s.L ++ [⟨p, q, 1, (freeQ s.L : Nat)⟩]⟩ ∧ ∀ b, S' b → S b ∨ W.heap.size ≤ b) ∧ Frm S W w') (fun w hb => ?_)).mono (fun e w' hQ => hQ)
        have hmw := h.mem.below hb
        refine (popen_new (plc s.buy P p) p q hmw h.bits.lt hple (by omega) (u := freeQ s.L) (by omega) (punused_some hmw h.bits (by omega) hf2 hf3)).mono ?_
        rintro e w' ⟨rfl, S', ko', ao', cap', h1, h2, h3⟩
        refine ⟨rfl, ⟨S', ⟨ko', ao', cap', _, _, h1, h.ord.putNew hf rfl, (h.bits.flip (by omega)).congr fun u _ => ?_, h.most⟩, fun b hb' => ?_⟩, ((Frm.of_below (S := S) hb)).trans h2 (fun b e => .inl e)⟩
        · exact (frb_app (x := ⟨p, q, 1, (freeQ s.L : Nat)⟩) rfl hf2 u).symm
        · rcases h3 b hb' with e | e
          · exact .inl e
          · right; have := hb.size; omega
      · rw [if_neg hr, if_neg hr]
        refine (pputOpen_any p q h.mem h.ord.std (by omega) (by omega) ha (r := 0) (f := 7) (Q := fun w' => (∃ S', PL w' g S' s ∧ ∀ b, S' b → S b ∨ W.heap.size ≤ b) ∧ Frm S W w') (fun w hb => ?_)).mono (fun e w' hQ => hQ)
        refine (popen_full _ p q (punused_none (h.mem.below hb) h.bits fun u _ => frb_full hw hr u)).mono ?_
        rintro e w' ⟨rfl, hw'⟩
        subst hw'
        exact ⟨rfl, ⟨S, h'.below hb, fun b hb => .inl hb⟩, Frm.of_below hb⟩
theorem ptake_any (p q : Int) (gone : Bool) (h : PL W g S s) {k : Nat} (hw : s.Wf k) (hk : k ≤ 1000000) :
    Calls Tryd.prog 68 #[.pointer (some ⟨g, 0, none⟩), .int .i64 p, .int .i64 q, .bool gone] W fun e w' => e = .returned (.tuple #[.int .i64 (s.takeR p q).1, .int .i64 (s.takeR p q).2]) ∧ (∃ S', PL w' g S' (s.takeS p q gone) ∧ ∀ b, S' b → S b ∨ W.heap.size ≤ b) ∧ Frm S W w' := by
  have h' := h
  obtain ⟨ko, ao, cap, P, F, h⟩ := h
  unfold Ld.takeR Ld.takeS
  cases hf : s.find p with
  | none =>
    refine (ptakeNo_any p q gone h.mem h.ord.std (by rw [ath_find h.ord, hf]; rfl)).mono ?_
    rintro e w' ⟨rfl, h1⟩
    exact ⟨rfl, ⟨S, h'.below h1, fun b hb => .inl hb⟩, Frm.of_below h1⟩
  | some i =>
    obtain ⟨x, hx, hxp, hP⟩ := h.ord.found hf
    have hxm := List.mem_of_getElem? hx
    have hxq := hw.qty x hxm
    have hxo := hw.orders x hxm
    have hO1 := h.ord.takeSet q gone hf
    have hO2 := h.ord.takeDel hf
    simp only [Ld.at_eq hx] at hO1 ⊢
    by_cases hq : q < 0 ∨ x.qty < q
    · rw [if_pos hq, if_pos hq]
      refine (ptakeRange_any p q gone h.mem h.ord.std hP hxp hq).mono ?_
      rintro e w' ⟨rfl, h1⟩
      exact ⟨rfl, ⟨S, h'.below h1, fun b hb => .inl hb⟩, Frm.of_below h1⟩
    · rw [if_neg hq, if_neg hq]
      by_cases hz : (x.sub q gone).orders = 0
      · rw [if_pos hz]
        obtain ⟨rfl, ho⟩ : gone = true ∧ x.orders = 1 := by
          cases gone with
          | false => simp [Lvl.sub] at hz; omega
          | true => simp [Lvl.sub] at hz; exact ⟨rfl, by omega⟩
        have hqu := hw.queue x hxm
        have hm := h.most
        obtain ⟨u, hu⟩ : ∃ u : Nat, x.queue = (u : Int) := ⟨x.queue.toNat, by omega⟩
        refine (ptakeDel_any p q h.mem h.bits.lt h.ord.std hP hxp hq (by omega) ho (u := u) (by omega) hu).mono ?_
        rintro e w' ⟨rfl, h1, h2⟩
        exact ⟨by rw [hu], ⟨S, ⟨ko, ao, cap, _, _, h1, hO2, (h.bits.flip (by omega)).congr fun v _ => (frb_erase hw hx u hu v).symm, h.most⟩, fun b hb => .inl hb⟩, h2⟩
      · rw [if_neg hz]
        refine (ptakeSet_any p q gone h.mem h.ord.std hP hxp hq (by omega) ⟨by omega, by omega⟩ hz).mono ?_
        rintro e w' ⟨rfl, h1, h2⟩
        exact ⟨rfl, ⟨S, ⟨ko, ao, cap, _, F, h1, hO1, h.bits.congr fun u _ => (frb_set (y := x.sub q gone) hx rfl u).symm, h.most⟩, fun b hb => .inl hb⟩, h2⟩
theorem pfits2_any (p : Int) (h : PL W g S s) {k : Nat} (hw : s.Wf k) :
    Calls Tryd.prog 88 #[.pointer (some ⟨g, 0, none⟩), .int .i64 p] W fun e w' => e = .returned (.bool (s.fits p)) ∧ Below W.heap.size W w' := by
  obtain ⟨q, cU⟩ := pfull_any h hw
  obtain ⟨ko, ao, cap, P, F, h⟩ := h
  have := pfits_any p h.mem h.ord.std (q := q) (room := decide (s.L.length < s.most)) fun w hm => cU w ⟨ko, ao, cap, P, F, hm, h.ord, h.bits, h.most⟩
  rwa [ath_find h.ord] at this
end
end Go.Proofs.YtdmjcjheanedgaaDoor
namespace Go.Proofs.YtdmjcjheanedgaaDoor
open Go.RowKit
set_option linter.unusedSimpArgs false
attribute [local go_sem] Oper.semAt_some
attribute [local go_sem] wide_fn
theorem lgoodNo_put (pre : List Lvl) (x : Lvl) (A : World) (l : Nat) (o o' : Obj) (h : (fun (_ : List Lvl) (_ : Lvl) (_ : World) => False) pre x A) (_ : A.heap[l]? = some o) (_ : o.isCells = false) : (fun (_ : List Lvl) (_ : Lvl) (_ : World) => False) pre x (A.putObj l o') := h
section
variable (x y : Int) (W : World)
theorem lfitsNil_any : Calls Tryd.prog 88 #[.pointer none, .int .i64 x] W fun e w' => e = .returned (.bool false) ∧ w' = W := by
  go_enter Tryd.func88, Tryd.ntmps88
  go_wp2_with fail
  all_goals go_ret
  all_goals exact ⟨rfl, rfl⟩
end
end Go.Proofs.YtdmjcjheanedgaaDoor
