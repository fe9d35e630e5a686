/-
  What stage 18's laws call beside: alive; '==' of the program's pairs.
-/
import Derived.Test.YtdmjcjheanedgaaDoorGHc
import Derived.Test.YtdmjcjheanedgaaDoorGCg
namespace Go.Proofs.YtdmjcjheanedgaaDoor
open Go.RowKit
set_option linter.unusedSimpArgs false
theorem eqIn_Pca (a b : Pr) (w : World) : (Op.equalIn 10000 50 (vPr a) (vPr b)).run Tryd.prog w = .ok (eqPr a b) w := by
  have hu := Tryd.underlying50
  have hf : Tryd.prog.underlying 50 = some (.struct (Tryd.prog.fieldsOf 50)) := by rw [Program.fieldsOf, hu]
  have uint64 := Tryd.underlying2
  rw [show (10000 : Nat) = 9999 + 1 from rfl, run_equalIn_agg w 9999 _ _ _ hf (by kernel_rfl), Program.fieldsOf, hu]
  simp only [Op.eqFields]
  unfold eqPr
  simp [go_sem, part]
  clear hu hf uint64
  simp only [Bool.and_assoc]
  exact eqPr_step _ _ w (eqPr_step _ _ w (eqPr_last _ w))
theorem eql_Pca (a b : Pr) (w : World) : (binOp .eql 50 (vPr a) (vPr b)).run Tryd.prog w = .ok (.bool (eqPr a b)) w := by
  rw [run_eql_struct, eqIn_Pca]; rfl
def oa1 : Ord := ⟨1, 0, 0, 10, 3, 0, 0⟩
def oa2 : Ord := ⟨2, 0, 0, 9, 2, 0, 0⟩
def oa3 : Ord := ⟨3, 0, 1, 8, 4, 0, 0⟩
theorem oa_fit : oa1.Fit ∧ oa2.Fit ∧ oa3.Fit := by
  refine ⟨⟨?_, ?_, ?_, ?_, ?_, ?_, ?_⟩, ⟨?_, ?_, ?_, ?_, ?_, ?_, ?_⟩, ⟨?_, ?_, ?_, ?_, ?_, ?_, ?_⟩⟩ <;> (unfold In64; simp only [oa1, oa2, oa3]; omega)
theorem prs_ex : prsL (bks [oa1, oa2, oa3]).L 9 = [⟨1, 3, 3⟩, ⟨2, 3, 1⟩] := rfl
theorem bbPairs {w0 w : World} {S0 : Nat → Prop} {g r k : Nat} {b t : Bk} (price : Int) (h : Bb w0 S0 g r k b t w) : Calls Tryd.prog 10 #[.pointer (some ⟨g, 0, none⟩), .int .i64 price] w fun e w' => ∃ ao cap, e = .returned (.slice ao (prsL b.L price).length cap) ∧ Prs w' ao cap (prsL b.L price) ∧ Bb w0 S0 g r k b t w' ∧ Below w.heap.size w w' := by
  obtain ⟨Sp, Sr, h1, -⟩ := h.both
  refine (al_pairs price h1).mono ?_
  rintro e w' ⟨ao, cap, he, hP, hb⟩
  exact ⟨ao, cap, he, hP, h.below hb, hb⟩
theorem bbPairs2 {W w : World} {g r k : Nat} {b t : Bk} (price : Int) (h : Bb W (fun _ => False) g r k b t w) : Calls Tryd.prog 10 #[.pointer (some ⟨g, 0, none⟩), .int .i64 price] w fun e w' => ∃ ao cap, e = .returned (.slice ao (prsL b.L price).length cap) ∧ Prs w' ao cap (prsL b.L price) ∧ Bb W (fun _ => False) g r k b t w' ∧ ApB W g k b ao w' := by
  obtain ⟨Sp, Sr, h1, -, -, h4⟩ := h.both
  refine (al_pairsq price h1).mono ?_
  rintro e w' ⟨ao, cap, he, hP, hc, hb⟩
  refine ⟨ao, cap, he, hP, h.below hb, (h.frm.below (Nat.le_refl _) (fun _ f => f.elim)).trans (hb.mono (h.frm.below (Nat.le_refl _) (fun _ f => f.elim)).size), Sp, h1.below hb, fun c e => (h4 c (.inl e)).elim (fun f => f.elim) id, fun c off s e e' => ?_⟩
  have := h1.lt c e'
  have := hc c off s e
  omega
set_option maxRecDepth 8000 in
set_option maxHeartbeats 4000000 in
theorem alive18_any (W : World) (hG : Gl W) : Calls Tryd.prog 6 #[] W fun e w' => e = .returned (.bool true) ∧ Below W.heap.size W w' := by
  obtain ⟨f1, f2, f3⟩ := oa_fit
  obtain ⟨W1, hW1⟩ : ∃ W1, W1 = W.alloc (.cells #[.int .i64 1, .int .i64 0, .int .i64 0, .int .i64 10, .int .i64 3, .int .i64 0, .int .i64 0, .int .i64 2, .int .i64 0, .int .i64 0, .int .i64 9, .int .i64 2, .int .i64 0, .int .i64 0, .int .i64 3, .int .i64 0, .int .i64 1, .int .i64 8, .int .i64 4, .int .i64 0, .int .i64 0] 44) := ⟨_, rfl⟩
  have hb1 : Below W.heap.size W W1 := by rw [hW1]; exact (Below.refl _ _).alloc (Nat.le_refl _) _
  have hB1 : Blk W1 W.heap.size 44 #[.int .i64 1, .int .i64 0, .int .i64 0, .int .i64 10, .int .i64 3, .int .i64 0, .int .i64 0, .int .i64 2, .int .i64 0, .int .i64 0, .int .i64 9, .int .i64 2, .int .i64 0, .int .i64 0, .int .i64 3, .int .i64 0, .int .i64 1, .int .i64 8, .int .i64 4, .int .i64 0, .int .i64 0] := by rw [hW1]; exact Blk.new _ _ _
  have hL : Ords W1 (some ⟨W.heap.size, 0, none⟩) 3 [oa1, oa2, oa3] := by
    refine ⟨by simp, by simp [maxLen], .inr ⟨_, _, rfl, fun i m hi j v hj => ?_⟩⟩
    rcases i with _ | _ | _ | i
    · cases hi
      have hlt : j < 7 := (Array.getElem?_eq_some_iff.1 hj).1
      refine hB1.cell_eq _ _ ?_
      rcases j with _ | _ | _ | _ | _ | _ | _ | j <;> first | exact hj | omega
    · cases hi
      have hlt : j < 7 := (Array.getElem?_eq_some_iff.1 hj).1
      refine hB1.cell_eq _ _ ?_
      rcases j with _ | _ | _ | _ | _ | _ | _ | j <;> first | exact hj | omega
    · cases hi
      have hlt : j < 7 := (Array.getElem?_eq_some_iff.1 hj).1
      refine hB1.cell_eq _ _ ?_
      rcases j with _ | _ | _ | _ | _ | _ | _ | j <;> first | exact hj | omega
    · simp at hi
  have hFF : ∀ m ∈ [oa1, oa2, oa3], m.Fit := by
    intro m hm
    simp only [List.mem_cons, List.not_mem_nil, or_false] at hm
    rcases hm with rfl | rfl | rfl
    · exact f1
    · exact f2
    · exact f3
  have cB : Calls Tryd.prog 7 #[.slice (some ⟨W.heap.size, 0, none⟩) 3 3] W1 _ := books_any _ _ [oa1, oa2, oa3] W1 (hG.below hb1) hL hFF (by simp)
  have cP : ∀ g r w, Bb W1 (fun _ => False) g r 3 (bks [oa1, oa2, oa3]) (bks [oa1, oa2, oa3]) w → Calls Tryd.prog 10 #[.pointer (some ⟨g, 0, none⟩), .int .i64 9] w fun e w' => ∃ b o cap, e = .returned (.slice (some ⟨b, o, none⟩) 2 cap) ∧ 2 ≤ cap ∧ Prs w' (some ⟨b, o, none⟩) cap [⟨1, 3, 3⟩, ⟨2, 3, 1⟩] ∧ Below W.heap.size W w' ∧ w'.cell? ⟨b, o, none⟩ = some (.int .i64 1) ∧ w'.cell? ⟨b, o + 1, none⟩ = some (.int .i64 3) ∧ w'.cell? ⟨b, o + 2, none⟩ = some (.int .i64 3) ∧ w'.cell? ⟨b, o + 1 * 3 + 2, none⟩ = some (.int .i64 1) := by
    intro g r w h
    refine (bbPairs 9 h).mono ?_
    rw [prs_ex]
    rintro e w' ⟨ao, cap, he, hP, -, hb⟩
    obtain ⟨b, o, rfl, y0, y1, y2⟩ := hP.get (i := 0) rfl
    obtain ⟨b', o', e', -, -, u2⟩ := hP.get (i := 1) rfl
    cases e'
    have hbw := hb1.trans ((h.frm.below (Nat.le_refl _) (fun _ f => f.elim)).mono hb1.size)
    have hl := hP.len
    rw [Nat.zero_mul, Nat.add_zero] at y0 y1 y2
    exact ⟨b, o, cap, he, hl, hP, hbw.trans (hb.mono hbw.size), y0, y1, y2, u2⟩
  have q9 := fun w => eql_Pca ⟨1, 3, 3⟩ ⟨1, 3, 3⟩ w
  rw [eqPr_self] at q9
  simp only [vPr, cPr] at q9
  have cT : ∀ (ao : Option Addr) (cap : Nat) (w : World), Prs w ao cap [⟨1, 3, 3⟩, ⟨2, 3, 1⟩] → Calls Tryd.prog 13 #[.slice ao 2 cap] w fun e w' => e = .returned (.int .i64 4) ∧ Below w.heap.size w w' := fun ao cap w h => al_total [⟨1, 3, 3⟩, ⟨2, 3, 1⟩] (by simp) (by simp [totP]) h
  have cO : ∀ (ao : Option Addr) (cap : Nat) (w : World), Prs w ao cap [⟨1, 3, 3⟩, ⟨2, 3, 1⟩] → Calls Tryd.prog 16 #[.slice ao 2 cap, .int .i64 3] w fun e w' => e = .returned (.int .i64 4) ∧ Below w.heap.size w w' := fun ao cap w h => al_of [⟨1, 3, 3⟩, ⟨2, 3, 1⟩] (by simp) (by simp [totP]) 3 h
  clear hB1 hL hFF f1 f2 f3
  go_enter Tryd.func6, Tryd.ntmps6
  go_wp2_with (first
    | (go_at_call 7; rw [← hW1]; refine cB.mono ?_; rintro e w2 ⟨g, r, rfl, k2⟩; clear cB hW1)
    | (go_at_call 10; (with_reducible refine (cP _ _ _ k2).mono ?_); rintro e w3 ⟨b, o, cap, rfl, hcap, hP3, hb3, y0, y1, y2, u2⟩; clear cP)
    | (go_at_call 13; (with_reducible refine (cT _ _ _ hP3).mono ?_); rintro e w4 ⟨rfl, hb4⟩; clear cT; have hP4 := hP3.below hb4; replace hb3 := hb3.trans (hb4.mono hb3.size))
    | (go_at_call 16; (with_reducible refine (cO _ _ _ hP4).mono ?_); rintro e w5 ⟨rfl, hb5⟩; clear cO; replace hb3 := hb3.trans (hb5.mono hb3.size))
    | fail)
  go_ret
  exact ⟨rfl, hb3⟩
end Go.Proofs.YtdmjcjheanedgaaDoor
