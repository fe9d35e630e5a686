/-
  The chapter's example comes out.
-/
import Derived.Test.YthlpnlmjpdcbiaaLpl
namespace Go.Proofs.Ythlpnlmjpdcbiaa
open Go.RowKit
theorem eqIn_Lv (a b : Lvl) (w : World) : (Op.equalIn 10000 40 (vLvl a) (vLvl b)).run Try.prog w = .ok (eqLvl a b) w := by
  have hu := Try.underlying40
  have hf : Try.prog.underlying 40 = some (.struct (Try.prog.fieldsOf 40)) := by rw [Program.fieldsOf, hu]
  have uint := Try.underlying3
  have uint64 := Try.underlying2
  rw [show (10000 : Nat) = 9999 + 1 from rfl, run_equalIn_agg w 9999 _ _ _ hf (by kernel_rfl), Program.fieldsOf, hu]
  simp only [Op.eqFields]
  unfold eqLvl
  simp [go_sem, part]
  clear hu hf uint uint64
  simp only [Bool.and_assoc]
  exact eqLvl_step _ _ w (eqLvl_step _ _ w (eqLvl_step _ _ w (eqLvl_last _ w)))
theorem eql_Lv (a b : Lvl) (w : World) : (binOp .eql 40 (vLvl a) (vLvl b)).run Try.prog w = .ok (.bool (eqLvl a b)) w := by
  rw [run_eql_struct, eqIn_Lv]; rfl
/-- The example's states. -/
theorem al_one : (Ld.mk false 4 []).putR 10 5 = (0, 0) ∧ (Ld.mk false 4 []).putS 10 5 = Ld.mk false 4 [⟨10, 5, 1, 0⟩] := by
  have hf : freeQ [] = 0 := Free.eq ⟨(fun x h => by cases h), fun p h => absurd h (Nat.not_lt_zero p)⟩
  unfold Ld.putR Ld.putS
  simp [Ld.find, hf]
theorem al_two : (Ld.mk false 4 [⟨10, 5, 1, 0⟩]).putR 8 1 = (1, 0) ∧ (Ld.mk false 4 [⟨10, 5, 1, 0⟩]).putS 8 1 = Ld.mk false 4 [⟨10, 5, 1, 0⟩, ⟨8, 1, 1, 1⟩] := by
  have hf : freeQ [⟨10, 5, 1, 0⟩] = 1 := Free.eq ⟨(fun x h => by rw [List.mem_singleton.1 h]; decide), fun p h => ⟨_, List.mem_singleton.2 rfl, by simp; omega⟩⟩
  unfold Ld.putR Ld.putS
  simp [Ld.find, List.findIdx?_cons, hf]
theorem al_ord : Ord false [⟨10, 5, 1, 0⟩, ⟨8, 1, 1, 1⟩] [⟨8, 1, 1, 1⟩, ⟨10, 5, 1, 0⟩] := by
  refine ⟨List.Perm.swap _ _ _, ?_⟩
  simp [btr]
theorem al_worth : (Ld.mk false 4 [⟨10, 5, 1, 0⟩, ⟨8, 1, 1, 1⟩]).worth 10 = 6 := by decide
theorem new_pl {w : World} {g : Nat} {S : Nat → Prop} {buy : Bool} {n : Nat} {F : List Nat} (h : PmB w g S none none 0 buy [] F) (hB : Bits F fun q => decide (q < n)) (hn : n ≤ 200) : PL w g S ⟨buy, n, []⟩ :=
  ⟨none, none, 0, [], F, h, Ord.nil buy, hB.congr fun q _ => (frb_nil n q).symm, hn⟩
set_option maxRecDepth 8000 in
set_option maxHeartbeats 2000000 in
theorem alive_any (W : World) : Calls Try.prog 8 #[] W fun e w' => e = .returned (.bool true) ∧ Below W.heap.size W w' := by
  have c1 : Calls Try.prog 9 #[.int .i64 1, .int .i64 4] W fun e w' => ∃ g S, e = .returned (.tuple #[.pointer (some ⟨g, 0, none⟩), .int .i64 0]) ∧ PL w' g S ⟨false, 4, []⟩ ∧ Below W.heap.size W w' ∧ ∀ b, S b → W.heap.size ≤ b :=
    (pnew_any false 4 (by omega) (by omega) W).mono fun e w' ⟨g, S, F, he, h1, h2, h3, h4⟩ => ⟨g, S, he, new_pl h1 h2 (by omega), h3, h4⟩
  have w0 : (Ld.mk false 4 []).Wf 0 := Ld.new_wf false 4
  have w1 : (Ld.mk false 4 [⟨10, 5, 1, 0⟩]).Wf 1 := by have := w0.put (p := 10) (q := 5) (by omega) (by omega); rwa [al_one.2] at this
  have w2 : (Ld.mk false 4 [⟨10, 5, 1, 0⟩, ⟨8, 1, 1, 1⟩]).Wf 2 := by have := w1.put (p := 8) (q := 1) (by omega) (by omega); rwa [al_two.2] at this
  have c2 : ∀ w g S, PL w g S ⟨false, 4, []⟩ → Calls Try.prog 17 #[.pointer (some ⟨g, 0, none⟩), .int .i64 10, .int .i64 5] w fun e w' => e = .returned (.tuple #[.int .i64 0, .int .i64 0]) ∧ (∃ S', PL w' g S' (Ld.mk false 4 [⟨10, 5, 1, 0⟩]) ∧ ∀ b, S' b → S b ∨ w.heap.size ≤ b) ∧ Frm S w w' := fun w g S h => by
    have := pput_any 10 5 h w0 (by omega) ⟨by omega, by omega⟩
    rwa [al_one.1, al_one.2] at this
  have c3 : ∀ w g S, PL w g S (Ld.mk false 4 [⟨10, 5, 1, 0⟩]) → Calls Try.prog 17 #[.pointer (some ⟨g, 0, none⟩), .int .i64 8, .int .i64 1] w fun e w' => e = .returned (.tuple #[.int .i64 1, .int .i64 0]) ∧ (∃ S', PL w' g S' (Ld.mk false 4 [⟨10, 5, 1, 0⟩, ⟨8, 1, 1, 1⟩]) ∧ ∀ b, S' b → S b ∨ w.heap.size ≤ b) ∧ Frm S w w' := fun w g S h => by
    have := pput_any 8 1 h w1 (by omega) ⟨by omega, by omega⟩
    rwa [al_two.1, al_two.2] at this
  have c4 : ∀ w g S, PL w g S (Ld.mk false 4 [⟨10, 5, 1, 0⟩, ⟨8, 1, 1, 1⟩]) → Calls Try.prog 13 #[.pointer (some ⟨g, 0, none⟩)] w fun e w' => e = .returned (.tuple #[.agg #[.int .i64 8, .int .i64 1, .int .i64 1, .int .i64 1], .bool true]) ∧ Below w.heap.size w w' := fun w g S h => pbest2_any (s := Ld.mk false 4 [⟨10, 5, 1, 0⟩, ⟨8, 1, 1, 1⟩]) (P := [⟨8, 1, 1, 1⟩, ⟨10, 5, 1, 0⟩]) al_ord h
  have c5 : ∀ w g S, PL w g S (Ld.mk false 4 [⟨10, 5, 1, 0⟩, ⟨8, 1, 1, 1⟩]) → Calls Try.prog 22 #[.pointer (some ⟨g, 0, none⟩), .int .i64 10] w fun e w' => e = .returned (.int .i64 6) ∧ Below w.heap.size w w' := fun w g S h => by
    have := pworth2_any 10 h w2
    rwa [al_worth] at this
  have eA : ∀ w, (binOp .eql 40 (.agg #[.int .i64 8, .int .i64 1, .int .i64 1, .int .i64 1]) (.agg #[.int .i64 8, .int .i64 1, .int .i64 1, .int .i64 1])).run Try.prog w = .ok (.bool true) w := fun w => eql_Lv ⟨8, 1, 1, 1⟩ ⟨8, 1, 1, 1⟩ w
  clear w0 w1 w2
  generalize Ld.mk false 4 [⟨10, 5, 1, 0⟩, ⟨8, 1, 1, 1⟩] = s2 at *
  generalize Ld.mk false 4 [⟨10, 5, 1, 0⟩] = s1 at *
  generalize Ld.mk false 4 [] = s0 at *
  go_enter Try.func8, Try.ntmps8
  go_wp2_with (first
    | (go_at_call 9; (with_reducible refine c1.mono ?_); rintro e v1 ⟨g, S, rfl, h1, hb1, hs1⟩; clear c1)
    | (go_at_call 17; (with_reducible refine (c2 _ _ _ h1).mono ?_); rintro e v2 ⟨rfl, ⟨S2, h2, hs2⟩, hf2⟩; clear c2; have hb2 := hb1.trans (hf2.below hb1.size hs1); replace hs2 : ∀ b, S2 b → W.heap.size ≤ b := (fun b hb => by rcases hs2 b hb with e | e; exact hs1 b e; (have := hb1.size; omega)); clear h1 hf2 hb1 hs1)
    | (go_at_call 17; (with_reducible refine (c3 _ _ _ h2).mono ?_); rintro e v3 ⟨rfl, ⟨S3, h3, hs3⟩, hf3⟩; clear c3; have hb3 := hb2.trans (hf3.below hb2.size hs2); clear h2 hf3 hb2 hs2 hs3)
    | (go_at_call 13; (with_reducible refine (c4 _ _ _ h3).mono ?_); rintro e v4 ⟨rfl, hb4⟩; clear c4; have h4 := (h3.below hb4).below ((Below.refl _ v4).alloc (Nat.le_refl _) (.cells #[.int .i64 8, .int .i64 1, .int .i64 1, .int .i64 1] 40)); have hb5 := (hb3.trans (hb4.mono hb3.size)); have hb6 := hb5.alloc hb5.size (.cells #[.int .i64 8, .int .i64 1, .int .i64 1, .int .i64 1] 40); clear h3 hb3 hb4 hb5)
    | (go_at_call 22; (with_reducible refine (c5 _ _ _ h4).mono ?_); rintro e v5 ⟨rfl, hb7⟩; clear c5)
    | fail)
  all_goals go_ret
  all_goals exact ⟨rfl, hb6.trans (hb7.mono hb6.size)⟩
end Go.Proofs.Ythlpnlmjpdcbiaa
