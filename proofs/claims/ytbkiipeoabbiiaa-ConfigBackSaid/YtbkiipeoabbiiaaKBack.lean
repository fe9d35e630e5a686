/-
  The walk of ConfigBack.
-/
import Derived.Test.YtbkiipeoabbiiaaCfgD
import Derived.Test.YtbkiipeoabbiiaaCfgF
import Derived.Test.YtbkiipeoabbiiaaCfgM
import Derived.Test.YtbkiipeoabbiiaaCfgW
import Derived.Test.YtbkiipeoabbiiaaOctB
import Derived.Test.YtbkiipeoabbiiaaPost
namespace Go.Proofs.Ytbkiipeoabbiiaa
open Go.RowKit
theorem flat10 : ∀ (l : List Nat), (∀ n ∈ l, n ≤ 4611686018427387904) → (l.flatMap num).length ≤ 10 * l.length
  | [], _ => by simp
  | n :: t, h => by
    have h1 := flat10 t (fun x hx => h x (List.mem_cons_of_mem _ hx))
    have h2 := num10 n (by have := h n (by simp); omega)
    rw [List.flatMap_cons, List.length_append, List.length_cons]
    omega
theorem formK_len {c : Cfg} (h : (checkF c).1 = 0) : (formK c).length ≤ 2000 := by
  have hR := checkF_right h
  obtain ⟨s1, s2, s3⟩ := parts_small hR
  have hn := hR.n1
  have hm := hR.n2
  have a1 := flat10 [c.syms.length] (fun n hn' => by simp at hn'; omega)
  have a2 := flat10 _ s1
  have a3 := flat10 [c.rows.length] (fun n hn' => by simp at hn'; omega)
  have a4 := flat10 _ s2
  have a5 := flat10 _ s3
  have l1 := flat_length 16 symN symN_length c.syms
  have l2 := flat_length 2 rowN rowN_length c.rows
  have l5 : (tailN c).length = 6 := rfl
  rw [formK_parts]
  simp only [List.length_append, List.length_cons, List.length_nil] at *
  omega
set_option maxRecDepth 8000 in
set_option maxHeartbeats 4000000 in
theorem kback_any (sa : Option Addr) (sc : Nat) (ra : Option Addr) (rc : Nat) (c : Cfg) (hF : c.Fit) (k cap : Nat) (ao : Option Addr) (b : List Nat) (W : World) (hH : Holds W sa sc ra rc c) (hB : Bt W k ao cap b) :
    Calls Try.prog 6 #[vCfg sa sc ra rc c, .slice ao b.length cap] W fun e w' => e = .returned (.bool true) ∧ Below W.heap.size W w' := by
  have hb0 := fun o => Below.alK (Below.refl W.heap.size W) o
  have hBox : Blk (W.alloc (.cells (cCfg sa sc ra rc c) 27)) W.heap.size 27 (cCfg sa sc ra rc c) := Blk.new _ _ _
  have hlb := hB.len
  have hmb := hB.top
  have hby := hB.lt
  unfold maxLen at hmb
  have cLi := fun w => light7_any sa sc ra rc c w
  cases hlt : (decide (c.syms.length ≤ 20) && decide (c.rows.length ≤ 40)) with
  | false =>
    rw [hlt] at cLi
    go_enter Try.func6, Try.ntmps6
    obtain ⟨x0, x1, x2, x3, x4, x5, x6, x7⟩ := Cfg.cells hBox
    go_wp2_with (first
      | (go_at_call 7; (with_reducible refine (cLi _).mono ?_); rintro e w1 ⟨rfl, hb1⟩; have hB1 := (hb0 _).trans (hb1.mono (by simp)); have hk1 := hBox.below hb1 (by simp))
      | (go_at_call 8; (with_reducible refine (alive7_any _).mono ?_); rintro e w9 ⟨rfl, hb9⟩))
    go_ret
    exact ⟨rfl, hB1.trans (hb9.mono hB1.size)⟩
  | true =>
    rw [hlt] at cLi
    clear hlt
    by_cases h15 : b.length ≤ 1500
    rotate_left
    · go_enter Try.func6, Try.ntmps6
      obtain ⟨x0, x1, x2, x3, x4, x5, x6, x7⟩ := Cfg.cells hBox
      go_wp2_with (first
        | (go_at_call 7; (with_reducible refine (cLi _).mono ?_); rintro e w1 ⟨rfl, hb1⟩; have hB1 := (hb0 _).trans (hb1.mono (by simp)); have hk1 := hBox.below hb1 (by simp))
        | (go_at_call 8; (with_reducible refine (alive7_any _).mono ?_); rintro e w9 ⟨rfl, hb9⟩))
      go_ret
      exact ⟨rfl, hB1.trans (hb9.mono hB1.size)⟩
    have cE := fun w h => cencode_any sa sc ra rc c hF w h
    have cK := fun w h => check_any sa sc ra rc c hF w h
    unfold Checked at cK
    have cR2 := fun w (h : Bt w k ao cap b) => cread_any k cap ao b (by omega) w h
    have cS := fun sa2 sc2 ra2 rc2 w h g => csame_any sa sc ra rc c sa2 sc2 ra2 rc2 c w h g
    rw [sameC_self] at cS
    have cE2 : ∀ d, readC b = (d, 0) → ∀ ta tc ua uc w, Holds w ta tc ua uc d → Calls Try.prog 15 #[vCfg ta tc ua uc d] w fun e w' => ∃ ao cap k, e = .returned (.tuple #[.slice ao b.length cap, .int .i64 0]) ∧ Bt w' k ao cap b ∧ Below w.heap.size w w' := fun d hd ta tc ua uc w h => by
      obtain ⟨g1, g2, g3⟩ := readC_back hby hd
      have := cencode_any ta tc ua uc d g3 w h
      unfold encK at this
      rw [if_neg (fun q => q g1), g2] at this
      exact this
    have hz := readC_zero b
    obtain ⟨r, hr⟩ : ∃ r, readC b = r := ⟨_, rfl⟩
    rw [hr] at cR2 hz
    obtain ⟨d, h⟩ := r
    simp only at cR2 hz
    by_cases hc : (checkF c).1 = 0
    · have hcr : ∀ k cap ao w, Bt w k ao cap (formK c) → Calls Try.prog 20 #[.slice ao (formK c).length cap] w fun e w' => ∃ sa sc ra rc, e = .returned (.tuple #[vCfg sa sc ra rc c, .int .i64 0]) ∧ Holds w' sa sc ra rc c ∧ Below w.heap.size w w' := fun k cap ao w hb => by
        have := cread_any k cap ao (formK c) (by have := formK_len hc; omega) w hb
        rw [readC_form hc] at this
        exact this
      have cR1 := fun k cap ao w hb => hcr k cap ao w hb
      unfold encK at cE
      rw [if_neg (fun q => q hc)] at cE
      rw [checkF_ok hc] at cK
      simp only at cE cK
      generalize formK c = X at cE cR1
      clear hcr hc
      by_cases h0 : h = 0
      · subst h0
        replace cE2 := cE2 d hr
        clear hr hz
        go_enter Try.func6, Try.ntmps6
        obtain ⟨x0, x1, x2, x3, x4, x5, x6, x7⟩ := Cfg.cells hBox
        go_wp2_with (first
          | (go_at_call 7; (with_reducible refine (cLi _).mono ?_); rintro e w1 ⟨rfl, hb1⟩; have hB1 := (hb0 _).trans (hb1.mono (by simp)); have hk1 := hBox.below hb1 (by simp); obtain ⟨x0, x1, x2, x3, x4, x5, x6, x7⟩ := Cfg.cells hk1; have hl1 := hk1.lt)
          | (go_at_call 15; (with_reducible refine (cE _ (hH.below hB1)).mono ?_); rintro e w2 ⟨eo, ec, ek, rfl, hX2, hb2⟩; have hB2 := hB1.trans (hb2.mono hB1.size); have hk2 := hk1.below hb2 hk1.lt; obtain ⟨y0, y1, y2, y3, y4, y5, y6, y7⟩ := Cfg.cells hk2; have hl2 := hk2.lt)
          | (go_at_call 9; (with_reducible refine (cK _ (hH.below hB2)).mono ?_); rintro e w3 ⟨rfl, hb3⟩; have hB3 := hB2.trans (hb3.mono hB2.size); have hk3 := hk2.below hb3 hk2.lt; have hX3 := hX2.below hb3)
          | (go_at_call 20; (with_reducible refine (cR1 _ _ _ _ hX3).mono ?_); rintro e w4 ⟨sa2, sc2, ra2, rc2, rfl, hH4, hb4⟩; have hB4 := hB3.trans (hb4.mono hB3.size); have hk4 := hk3.below hb4 hk3.lt; obtain ⟨z0, z1, z2, z3, z4, z5, z6, z7⟩ := Cfg.cells hk4; have hl4 := hk4.lt; have ha4 : Below w4.heap.size w4 (w4.alloc (.cells (cCfg sa2 sc2 ra2 rc2 c) 27)) := (Below.refl _ w4).alloc (Nat.le_refl _) _; have hB4' := hB4.trans (ha4.mono hB4.size))
          | (go_at_call 18; (with_reducible refine (cS _ _ _ _ _ (hH.below hB4') (hH4.below ha4)).mono ?_); rintro e w5 ⟨rfl, hb5⟩; have hB5 := hB4'.trans (hb5.mono hB4'.size))
          | (go_at_call 20; (with_reducible refine (cR2 _ (hB.below hB5)).mono ?_); rintro e w6 ⟨ta, tc, ua, uc, rfl, hG6, hb6⟩; have hB6 := hB5.trans (hb6.mono hB5.size))
          | (go_at_call 15; (with_reducible refine (cE2 _ _ _ _ _ (hG6.below ((Below.refl _ w6).alloc (Nat.le_refl _) _))).mono ?_); rintro e w7 ⟨fo, fc, fk, rfl, hY7, hb7⟩; have hB6' := hB6.alloc hB6.size (.cells (cCfg ta tc ua uc d) 27); have hB7 := hB6'.trans (hb7.mono hB6'.size))
          | (go_at_call 17; (with_reducible refine (same_true _ hY7 (hB.below hB7) rfl rfl).mono ?_); rintro e w8 ⟨rfl, rfl⟩)
          | (go_at_call 8; (with_reducible refine (alive7_any _).mono ?_); rintro e w9 ⟨rfl, hb9⟩))
        go_ret
        exact ⟨rfl, hB7.trans (hb9.mono hB7.size)⟩
      · have hd : ((h : Int) != 0) = true := by simp; omega
        obtain rfl := hz h0
        have cR3 := fun w (hw : Bt w k ao cap b) => (cR2 w hw).mono (R' := fun e w' => ∃ ta tc ua uc, e = .returned (.tuple #[.agg #[.slice ta 0 tc, .slice ua 0 uc, .int .i64 0, .int .i64 0, .int .i64 0, .int .i64 0, .int .i64 0, .int .i64 0], .int .i64 (h : Int)]) ∧ Below w.heap.size w w') (fun e w' g => by obtain ⟨ta, tc, ua, uc, g1, -, g2⟩ := g; exact ⟨ta, tc, ua, uc, g1, g2⟩)
        clear hr hz cE2 cR2
        go_enter Try.func6, Try.ntmps6
        obtain ⟨x0, x1, x2, x3, x4, x5, x6, x7⟩ := Cfg.cells hBox
        go_wp2_with (first
          | (go_at_call 7; (with_reducible refine (cLi _).mono ?_); rintro e w1 ⟨rfl, hb1⟩; have hB1 := (hb0 _).trans (hb1.mono (by simp)); have hk1 := hBox.below hb1 (by simp); obtain ⟨x0, x1, x2, x3, x4, x5, x6, x7⟩ := Cfg.cells hk1; have hl1 := hk1.lt)
          | (go_at_call 15; (with_reducible refine (cE _ (hH.below hB1)).mono ?_); rintro e w2 ⟨eo, ec, ek, rfl, hX2, hb2⟩; have hB2 := hB1.trans (hb2.mono hB1.size); have hk2 := hk1.below hb2 hk1.lt; obtain ⟨y0, y1, y2, y3, y4, y5, y6, y7⟩ := Cfg.cells hk2; have hl2 := hk2.lt)
          | (go_at_call 9; (with_reducible refine (cK _ (hH.below hB2)).mono ?_); rintro e w3 ⟨rfl, hb3⟩; have hB3 := hB2.trans (hb3.mono hB2.size); have hk3 := hk2.below hb3 hk2.lt; have hX3 := hX2.below hb3)
          | (go_at_call 20; (with_reducible refine (cR1 _ _ _ _ hX3).mono ?_); rintro e w4 ⟨sa2, sc2, ra2, rc2, rfl, hH4, hb4⟩; have hB4 := hB3.trans (hb4.mono hB3.size); have hk4 := hk3.below hb4 hk3.lt; obtain ⟨z0, z1, z2, z3, z4, z5, z6, z7⟩ := Cfg.cells hk4; have hl4 := hk4.lt; have ha4 : Below w4.heap.size w4 (w4.alloc (.cells (cCfg sa2 sc2 ra2 rc2 c) 27)) := (Below.refl _ w4).alloc (Nat.le_refl _) _; have hB4' := hB4.trans (ha4.mono hB4.size))
          | (go_at_call 18; (with_reducible refine (cS _ _ _ _ _ (hH.below hB4') (hH4.below ha4)).mono ?_); rintro e w5 ⟨rfl, hb5⟩; have hB5 := hB4'.trans (hb5.mono hB4'.size))
          | (go_at_call 20; (with_reducible refine (cR3 _ (hB.below hB5)).mono ?_); rintro e w6 ⟨ta, tc, ua, uc, rfl, hb6⟩; have hB6 := hB5.trans (hb6.mono hB5.size))
          | (go_at_call 8; (with_reducible refine (alive7_any _).mono ?_); rintro e w9 ⟨rfl, hb9⟩))
        go_ret
        have hB6' := hB6.alloc hB6.size (.cells #[.slice ta 0 tc, .slice ua 0 uc, .int .i64 0, .int .i64 0, .int .i64 0, .int .i64 0, .int .i64 0, .int .i64 0] 27)
        exact ⟨rfl, hB6'.trans (hb9.mono hB6'.size)⟩
    · unfold encK at cE
      rw [if_pos hc] at cE
      obtain ⟨ff, fi⟩ : ∃ ff, ff = checkF c := ⟨_, rfl⟩
      rw [← fi] at cE cK hc
      clear fi
      obtain ⟨g1, g2⟩ := ff
      simp only at cE cK hc
      have hg : ((g1 : Int) == 0) = false := by simp; omega
      clear hc
      by_cases h0 : h = 0
      · subst h0
        replace cE2 := cE2 d hr
        clear hr hz
        go_enter Try.func6, Try.ntmps6
        obtain ⟨x0, x1, x2, x3, x4, x5, x6, x7⟩ := Cfg.cells hBox
        go_wp2_with (first
          | (go_at_call 7; (with_reducible refine (cLi _).mono ?_); rintro e w1 ⟨rfl, hb1⟩; have hB1 := (hb0 _).trans (hb1.mono (by simp)); have hk1 := hBox.below hb1 (by simp); obtain ⟨x0, x1, x2, x3, x4, x5, x6, x7⟩ := Cfg.cells hk1; have hl1 := hk1.lt)
          | (go_at_call 15; (with_reducible refine (cE _ (hH.below hB1)).mono ?_); rintro e w2 ⟨eo, ec, ek, rfl, hX2, hb2⟩; have hB2 := hB1.trans (hb2.mono hB1.size); have hk2 := hk1.below hb2 hk1.lt; obtain ⟨y0, y1, y2, y3, y4, y5, y6, y7⟩ := Cfg.cells hk2; have hl2 := hk2.lt)
          | (go_at_call 9; (with_reducible refine (cK _ (hH.below hB2)).mono ?_); rintro e w3 ⟨rfl, hb3⟩; have hB3 := hB2.trans (hb3.mono hB2.size); have hk3 := hk2.below hb3 hk2.lt; have hX3 := hX2.below hb3)
          | (go_at_call 20; (with_reducible refine (cR2 _ (hB.below hB3)).mono ?_); rintro e w6 ⟨ta, tc, ua, uc, rfl, hG6, hb6⟩; have hB6 := hB3.trans (hb6.mono hB3.size))
          | (go_at_call 15; (with_reducible refine (cE2 _ _ _ _ _ (hG6.below ((Below.refl _ w6).alloc (Nat.le_refl _) _))).mono ?_); rintro e w7 ⟨fo, fc, fk, rfl, hY7, hb7⟩; have hB6' := hB6.alloc hB6.size (.cells (cCfg ta tc ua uc d) 27); have hB7 := hB6'.trans (hb7.mono hB6'.size))
          | (go_at_call 17; (with_reducible refine (same_true _ hY7 (hB.below hB7) rfl rfl).mono ?_); rintro e w8 ⟨rfl, rfl⟩)
          | (go_at_call 8; (with_reducible refine (alive7_any _).mono ?_); rintro e w9 ⟨rfl, hb9⟩))
        go_ret
        exact ⟨rfl, hB7.trans (hb9.mono hB7.size)⟩
      · have hd : ((h : Int) != 0) = true := by simp; omega
        obtain rfl := hz h0
        have cR3 := fun w (hw : Bt w k ao cap b) => (cR2 w hw).mono (R' := fun e w' => ∃ ta tc ua uc, e = .returned (.tuple #[.agg #[.slice ta 0 tc, .slice ua 0 uc, .int .i64 0, .int .i64 0, .int .i64 0, .int .i64 0, .int .i64 0, .int .i64 0], .int .i64 (h : Int)]) ∧ Below w.heap.size w w') (fun e w' g => by obtain ⟨ta, tc, ua, uc, g1, -, g2⟩ := g; exact ⟨ta, tc, ua, uc, g1, g2⟩)
        clear hr hz cE2 cR2
        go_enter Try.func6, Try.ntmps6
        obtain ⟨x0, x1, x2, x3, x4, x5, x6, x7⟩ := Cfg.cells hBox
        go_wp2_with (first
          | (go_at_call 7; (with_reducible refine (cLi _).mono ?_); rintro e w1 ⟨rfl, hb1⟩; have hB1 := (hb0 _).trans (hb1.mono (by simp)); have hk1 := hBox.below hb1 (by simp); obtain ⟨x0, x1, x2, x3, x4, x5, x6, x7⟩ := Cfg.cells hk1; have hl1 := hk1.lt)
          | (go_at_call 15; (with_reducible refine (cE _ (hH.below hB1)).mono ?_); rintro e w2 ⟨eo, ec, ek, rfl, hX2, hb2⟩; have hB2 := hB1.trans (hb2.mono hB1.size); have hk2 := hk1.below hb2 hk1.lt; obtain ⟨y0, y1, y2, y3, y4, y5, y6, y7⟩ := Cfg.cells hk2; have hl2 := hk2.lt)
          | (go_at_call 9; (with_reducible refine (cK _ (hH.below hB2)).mono ?_); rintro e w3 ⟨rfl, hb3⟩; have hB3 := hB2.trans (hb3.mono hB2.size); have hk3 := hk2.below hb3 hk2.lt; have hX3 := hX2.below hb3)
          | (go_at_call 20; (with_reducible refine (cR3 _ (hB.below hB3)).mono ?_); rintro e w6 ⟨ta, tc, ua, uc, rfl, hb6⟩; have hB6 := hB3.trans (hb6.mono hB3.size))
          | (go_at_call 8; (with_reducible refine (alive7_any _).mono ?_); rintro e w9 ⟨rfl, hb9⟩))
        go_ret
        have hB6' := hB6.alloc hB6.size (.cells #[.slice ta 0 tc, .slice ua 0 uc, .int .i64 0, .int .i64 0, .int .i64 0, .int .i64 0, .int .i64 0, .int .i64 0] 27)
        exact ⟨rfl, hB6'.trans (hb9.mono hB6'.size)⟩
end Go.Proofs.Ytbkiipeoabbiiaa
