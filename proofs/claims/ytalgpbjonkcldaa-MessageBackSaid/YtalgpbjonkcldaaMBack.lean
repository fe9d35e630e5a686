/-
  MessageBack, for all messages and bytes.
-/
import Derived.Test.YtalgpbjonkcldaaMStreams
namespace Go.Proofs.Ytalgpbjonkcldaa
open Go.RowKit
set_option maxRecDepth 16000 in
set_option maxHeartbeats 4000000 in
theorem mback_any (c0 : Nat) (o0 : Option Addr) (l : List Msg) (hF : ∀ m ∈ l, m.Fit) (kb cb : Nat) (ob : Option Addr) (xs : List Nat) (W : World) (hL : Msgs W o0 c0 l) (hB : Bt W kb ob cb xs) :
    Calls Try.prog 6 #[.slice o0 l.length c0, .slice ob xs.length cb] W fun e w' => e = .returned (.bool true) ∧ Below W.heap.size W w' := by
  have h1 := hL.len
  have h2 := hL.top
  have h3 := hB.len
  have h4 := hB.top
  unfold maxLen at h2 h4
  have cA := fun w => alive6_any w
  by_cases hs : l.length ≤ 60 ∧ xs.length ≤ 200
  · obtain ⟨hs1, hs2⟩ := hs
    go_enter Try.func6, Try.ntmps6
    go_wp2_with fail
    go_loopg [5] l.length (fun j p5 wr => ∃ q : Nat, q + j = l.length ∧ p5 = .int .i64 (q : Int) ∧ Below W.heap.size W wr ∧ Hid ((l.take q).all rightM = true))
    case atStart => exact ⟨0, by omega, rfl, Below.refl _ _, by simp [Hid]⟩
    case round =>
      obtain ⟨q, hq, rfl, hbel, hR⟩ := hrel
      have hLr := hL.below (hbel.mono (Nat.le_refl _))
      have hBr := hB.below (hbel.mono (Nat.le_refl _))
      by_cases hj : q < l.length
      · obtain ⟨m, hm⟩ : ∃ m, l[q]? = some m := ⟨l[q], List.getElem?_eq_getElem hj⟩
        have hfm := hF m (List.mem_of_getElem? hm)
        cases hr : rightM m with
        | true =>
          have cE := fun w => mencode_any m hfm w
          rw [encMB_right hr, encMF_right hr] at cE
          have cG := fun w => mright_true hr w
          have hlen := formM_len m ((rightM_iff m).1 hr)
          have hR2 := Lib.hid (all_snoc hm hR.out hr).1
          generalize formM m = X at cE hlen
          obtain ⟨b, off, rfl, x0, x1, x2, x3, x4, x5, x6, x7, x8⟩ := hLr.get hm
          replace x0 : wr.cell? ⟨b, off + q * 9, none⟩ = some (.int .i64 m.kind) := x0
          have hget := fun (w1 : World) (hb : Below wr.heap.size wr w1) => (hLr.below hb).get hm
          clear hr hfm hm hF hB hL hBr hR cA
          obtain ⟨kind, sym, seq, tick, id, other, price, qty, code⟩ := m
          simp only at hget
          go_wp2_with (first
            | (go_at_call 7; refine (cE _).mono ?_; rintro e w1 ⟨a1, p1, k1, rfl, hX1, hb1⟩; obtain ⟨b', off', hbo, y0, y1, y2, y3, y4, y5, y6, y7, y8⟩ := hget w1 hb1; cases hbo; replace y0 : w1.cell? ⟨b, off + q * 9, none⟩ = some (.int .i64 kind) := y0; have hb01 := hbel.trans (hb1.mono hbel.size))
            | (go_at_call 10; refine (cG _).mono ?_; rintro e w2 ⟨rfl, hb2⟩; have hb02 := hb01.trans (hb2.mono hb01.size)))
          all_goals first
            | (exfalso; omega)
            | (go_roundg (l.length - (q + 1))
               case measure => omega
               case rel => exact ⟨q + 1, by omega, by go_num, hb02, hR2⟩)
        | false =>
          have cE := fun w => mencode_any m hfm w
          rw [encMB_wrong hr, encMF_wrong hr] at cE
          have cG := fun w => mright_false hr w
          obtain ⟨b, off, rfl, x0, x1, x2, x3, x4, x5, x6, x7, x8⟩ := hLr.get hm
          replace x0 : wr.cell? ⟨b, off + q * 9, none⟩ = some (.int .i64 m.kind) := x0
          have hget := fun (w1 : World) (hb : Below wr.heap.size wr w1) => (hLr.below hb).get hm
          clear hr hfm hm hF hB hL hBr hR
          obtain ⟨kind, sym, seq, tick, id, other, price, qty, code⟩ := m
          simp only at hget
          go_wp2_with (first
            | (go_at_call 7; refine (cE _).mono ?_; rintro e w1 ⟨a1, p1, k1, rfl, hX1, hb1⟩; obtain ⟨b', off', hbo, y0, y1, y2, y3, y4, y5, y6, y7, y8⟩ := hget w1 hb1; cases hbo; replace y0 : w1.cell? ⟨b, off + q * 9, none⟩ = some (.int .i64 kind) := y0; have hb01 := hbel.trans (hb1.mono hbel.size))
            | (go_at_call 10; refine (cG _).mono ?_; rintro e w2 ⟨rfl, hb2⟩; have hb02 := hb01.trans (hb2.mono hb01.size))
            | (go_at_call 13; refine (cA _).mono ?_; rintro e w3 ⟨rfl, hb3⟩))
          go_ret
          exact ⟨rfl, hb02.trans (hb3.mono hb02.size)⟩
      · have hqe : q = l.length := by omega
        have hR2 := hR.out
        rw [hqe, List.take_length] at hR2
        have hRF : ∀ m ∈ l, RightM m ∧ m.Fit := fun m hm => ⟨(rightM_iff m).1 (List.all_eq_true.1 hR2 m hm), hF m hm⟩
        have hsl := strM_len l (fun m hm => (hRF m hm).1)
        have cP := fun w h => stream_any c0 o0 l (by omega) hF w h
        rw [strF_right hR2] at cP
        have cU := fun k c a w h => mall_any k c a (strM l) (by omega) w h
        unfold AllM at cU
        rw [allM_str l hRF] at cU
        have cL := fun w ax ay bx bt (hA : Msgs w ax bx l) (hC : Msgs w ay bt l) => mlists_true w hA hC rfl rfl
        have cD := fun w h => mdecode_any kb cb ob xs (by omega) w h
        clear hR hR2 hRF hsl hqe
        generalize strM l = S at cP cU
        simp only at cP cU
        have hz := decM_zero xs
        have hbk := fun d (h : decM xs = (d, 0)) => decM_back hB.lt h
        generalize decM xs = d at cD hz hbk
        obtain ⟨d, f⟩ := d
        simp only at cD hz hbk
        by_cases hf : f = 0
        · subst hf
          obtain ⟨hdr, hde, hdf⟩ := hbk d rfl
          have cE := fun w => mencode_any d hdf w
          rw [encMB_right ((rightM_iff d).2 hdr), encMF_right ((rightM_iff d).2 hdr), hde] at cE
          have cS := fun w kx ky ax ay bx bt (hA : Bt w kx ax bx xs) (hC : Bt w ky ay bt xs) => same_true w hA hC rfl rfl
          clear hz hbk hdr hde hdf hF hL hB
          obtain ⟨kind, sym, seq, tick, id, other, price, qty, code⟩ := d
          go_wp2_with (first
            | (go_at_call 16; refine (cP _ hLr).mono ?_; rintro e w1 ⟨a1, p1, k1, rfl, hX1, hb1⟩; have hL1 := hLr.below hb1; have hB1 := hBr.below hb1; have g1 := hbel.trans (hb1.mono hbel.size))
            | (go_at_call 18; refine (cU _ _ _ _ hX1).mono ?_; rintro e w2 ⟨a2, p2, rfl, hM2, hb2⟩; have hL2 := hL1.below hb2; have hB2 := hB1.below hb2; have g2 := g1.trans (hb2.mono g1.size))
            | (go_at_call 20; refine (cL _ _ _ _ _ hM2 hL2).mono ?_; rintro e w3 ⟨rfl, hb3⟩; have hB3 := hB2.below hb3; have g3 := g2.trans (hb3.mono g2.size))
            | (go_at_call 14; refine (cD _ hB3).mono ?_; rintro e w4 ⟨rfl, hb4⟩; have hB4 := (hB3.below hb4).alloc (.cells (cMsg ⟨kind, sym, seq, tick, id, other, price, qty, code⟩) 23); have g4 := Below.al (g3.trans (hb4.mono g3.size)) (.cells (cMsg ⟨kind, sym, seq, tick, id, other, price, qty, code⟩) 23))
            | (go_at_call 7; refine (cE _).mono ?_; rintro e w5 ⟨a5, p5, k5, rfl, hX5, hb5⟩; have hB5 := hB4.below hb5; have g5 := g4.trans (hb5.mono g4.size))
            | (go_at_call 9; refine (cS _ _ _ _ _ _ _ hX5 hB5).mono ?_; rintro e w6 ⟨rfl, rfl⟩)
            | (go_at_call 13; refine (cA _).mono ?_; rintro e w7 ⟨rfl, hb7⟩))
          go_ret
          exact ⟨rfl, g5.trans (hb7.mono g5.size)⟩
        · have hdz := hz hf
          subst hdz
          have hE := fun w => eql_Msg Msg.zero Msg.zero w
          rw [eqMsg_self] at hE
          simp only [vMsg, cMsg, Msg.zero] at cD hE
          have q1 : ((f : Int) != 0) = true := by simp; omega
          clear hf hz hbk hF hL hB
          go_wp2_with (first
            | (go_at_call 16; refine (cP _ hLr).mono ?_; rintro e w1 ⟨a1, p1, k1, rfl, hX1, hb1⟩; have hL1 := hLr.below hb1; have hB1 := hBr.below hb1; have g1 := hbel.trans (hb1.mono hbel.size))
            | (go_at_call 18; refine (cU _ _ _ _ hX1).mono ?_; rintro e w2 ⟨a2, p2, rfl, hM2, hb2⟩; have hL2 := hL1.below hb2; have hB2 := hB1.below hb2; have g2 := g1.trans (hb2.mono g1.size))
            | (go_at_call 20; refine (cL _ _ _ _ _ hM2 hL2).mono ?_; rintro e w3 ⟨rfl, hb3⟩; have hB3 := hB2.below hb3; have g3 := g2.trans (hb3.mono g2.size))
            | (go_at_call 14; refine (cD _ hB3).mono ?_; rintro e w4 ⟨rfl, hb4⟩; have g4 := Below.al (g3.trans (hb4.mono g3.size)) (.cells (cMsg Msg.zero) 23))
            | (go_at_call 13; refine (cA _).mono ?_; rintro e w7 ⟨rfl, hb7⟩))
          go_ret
          exact ⟨rfl, g4.trans (hb7.mono g4.size)⟩
  · go_enter Try.func6, Try.ntmps6
    go_wp2_with (go_at_call 13; refine (cA _).mono ?_; rintro e w7 ⟨rfl, hb7⟩)
    all_goals first
      | (exfalso; omega)
      | (go_ret; exact ⟨rfl, hb7⟩)
end Go.Proofs.Ytalgpbjonkcldaa
