/-
  The walk of the document's answer Div.
-/
import Derived.Test.YtnahocdeaopflaaRefDiv
namespace Go.Proofs.Ytnahocdeaopflaa
open Go.RowKit
theorem dm_start {w w2 : World} {X D : Nat → Bool} (Z : Array Value) (z : Nat → Bool)
    (hb : Below (((((w.alloc (.cells (arr X) 45)).alloc (.cells (arr z) 45)).alloc (.cells (arr z) 45)).alloc (.cells (arr z) 45)).alloc (.cells (arr z) 45)).heap.size
      (((((w.alloc (.cells (arr X) 45)).alloc (.cells (arr z) 45)).alloc (.cells (arr z) 45)).alloc (.cells (arr z) 45)).alloc (.cells (arr z) 45)) w2) :
    DM w w.heap.size w2.heap.size X D z z z z ((w2.alloc (.cells Z 45)).setRow w2.heap.size (arr D)) := by
  have m := (((((Mem.start w).new 45 (arr X)).new 45 (arr z)).new 45 (arr z)).new 45 (arr z)).new 45 (arr z)
  simp only [World.size_alloc] at m
  have m2 := m.keep hb
  have m3 := m2.row 45 Z (arr D)
  exact ⟨m3.blk _ _ _ (by simp), m3.blk _ _ _ (by simp), m3.blk _ _ _ (by simp), m3.blk _ _ _ (by simp), m3.blk _ _ _ (by simp), m3.blk _ _ _ (by simp),
    (m2.blk (w.heap.size + 1 + 1 + 1 + 1) 45 (arr z) (by simp)).lt, Nat.le_refl _, m3.below⟩
set_option maxRecDepth 100000 in
set_option maxHeartbeats 8000000 in
theorem rdiv_any (V d : Nat) (hV : V < 340282366920938463463374607431768211456) (hd : 0 < d) (hd2 : d < 18446744073709551616) (w : World) :
    Calls Try.prog 43 #[.agg (arr (nb V)), .int .u64 d] w fun e w' => e = .returned (.tuple #[.agg (arr (nb (V / d))), .agg (arr (nb (V % d)))]) ∧ Below w.heap.size w w' := by
  have zv := zero28
  have cO : ∀ W, Calls Try.prog 46 #[.int .u64 0, .int .u64 d] W fun e w' => e = .returned (.agg (arr (nb d))) ∧ Below W.heap.size W w' := fun W => by
    have := of_any 0 d ⟨by decide, by decide⟩ ⟨by omega, by omega⟩ W
    have e1 : BitVec.ofInt 128 (0 * 18446744073709551616 + (d : Int)) = BitVec.ofNat 128 d := by rw [Int.zero_mul, Int.zero_add, BitVec.ofInt_natCast]
    rw [e1] at this
    exact this
  have HV := Lib.hid hV
  have Hd := Lib.hid hd
  have Hd2 := Lib.hid hd2
  clear hV hd hd2
  go_enter Try.func43, Try.ntmps43
  go_wp2_with (first
    | (go_at_call 46; (with_reducible refine (cO _).mono ?_); rintro e w2 ⟨rfl, hb1⟩)
    | (refine st28 rfl (.tmp 8) (.tmp 11) rfl w2.heap.size (nb d) (fun _ => false) rfl rfl (Blk.new' rfl) ?_; have h0 := dm_start (D := nb d) (arr fun _ => false) (fun _ => false) hb1; generalize (w2.alloc (.cells (arr fun _ => false) 45)).setRow w2.heap.size (arr (nb d)) = W3 at *; generalize w2.heap.size = g at *; clear hb1))
  clear cO zv
  go_loopg [9] 128 (fun n s9 wr => ∃ (k : Nat), n = k ∧ k ≤ 128 ∧ s9 = .int .i64 ((k : Int) - 1) ∧ DM w w.heap.size g (nb V) (nb d) (nb (V / 2 ^ k % d)) (qb (V / 2 ^ k / d) k) (fun _ => false) (fun _ => false) wr)
  case atStart =>
    have e0 : V / 2 ^ 128 = 0 := Nat.div_eq_of_lt HV.out
    exact ⟨128, rfl, by omega, rfl, h0.congr (fun i _ => by rw [e0]; simp [nb]) (fun i _ => by rw [e0]; simp [qb])⟩
  case round =>
    obtain ⟨k, rfl, hk, rfl, hm⟩ := hrel
    clear h0
    by_cases hk0 : gk = 0
    · subst hk0
      have hf := hm.congr (L' := nb (V % d)) (Q' := nb (V / d)) (fun i _ => by rw [Nat.pow_zero, Nat.div_one]) (fun i hi => by rw [Nat.pow_zero, Nat.div_one, nb_eq _ _ hi]; simp [qb])
      clear hm
      generalize hF : nb (V / d) = F at *
      generalize hG : nb (V % d) = G at *
      have HF := Lib.hid hF
      have HG := Lib.hid hG
      generalize hb : w.heap.size = b at *
      have Hb := Lib.hid hb
      clear hF hG hb
      go_wp2
      refine wp_region_S (S := fun L w' => L.size = 4 ∧ DM w b g (nb V) (nb d) G F (if L.getD 2 false = true then F else fun _ => false) (if L.getD 3 false = true then G else fun _ => false) w') (by kernel_rfl) ⟨rfl, hf.drew⟩ ?_
      refine AllS.next (v := .agg (arr F)) rfl rfl rfl (by kernel_rfl) ?_ ?_
      · exact yieldsS_load28 (fun L wx h => ⟨by simpa using h.1, by rw [getD_next (by decide), getD_next (by decide)]; exact h.2⟩) (by rfl) rfl rfl fun L wx hS => hS.2.bq
      simp only [Act.put, List.setIfInBounds_toArray, List.set_cons_zero, List.set_cons_succ, List.getElem_toArray, List.getElem_cons_zero]
      refine AllS.next (v := .agg (arr G)) rfl rfl rfl (by kernel_rfl) ?_ ?_
      · exact yieldsS_load28 (fun L wx h => ⟨by simpa using h.1, by rw [getD_next (by decide), getD_next (by decide)]; exact h.2⟩) (by rfl) rfl rfl fun L wx hS => hS.2.bl
      simp only [Act.put, List.setIfInBounds_toArray, List.set_cons_zero, List.set_cons_succ, List.getElem_toArray, List.getElem_cons_zero, List.getElem_cons_succ]
      refine AllS.next (v := undef) rfl rfl rfl (by kernel_rfl) ?_ ?_
      · exact yieldsS_store28 (by rfl) rfl rfl rfl fun L wx _ hS => ⟨⟨_, hS.2.b1⟩, by simpa using hS.1, by rw [getD_self (by rw [hS.1]; decide), getD_next (by decide), if_pos rfl]; exact hS.2.set1 _⟩
      simp only [Act.put, List.getElem_toArray, List.getElem_cons_zero, List.getElem_cons_succ]
      refine AllS.next (v := undef) rfl rfl rfl (by kernel_rfl) ?_ ?_
      · exact yieldsS_store28 (by rfl) rfl rfl rfl fun L wx _ hS => ⟨⟨_, hS.2.b2⟩, by simpa using hS.1, by rw [getD_self (by rw [hS.1]; decide), getD_next (by decide), if_pos rfl]; exact hS.2.set2 _⟩
      simp only [Act.put, List.getElem_toArray, List.getElem_cons_zero, List.getElem_cons_succ]
      refine AllS.done (by kernel_rfl) ?_
      intro wx hS
      have hz := hS.2
      rw [if_pos (by rfl), if_pos (by rfl)] at hz
      clear hS hf
      go_wp2
      have hr1 := res28 _ _ _ hz.b1
      have hr2 := res28 _ _ _ hz.b2
      refine bodyPost_ret (v := .tuple #[.agg (arr F), .agg (arr G)]) ?_ rfl ⟨by rw [HF.out, HG.out], by rw [← Hb.out] at hz; exact hz.below⟩
      simp [results, Try.results43, asAddr, hr1, hr2]
    · obtain ⟨j, rfl⟩ : ∃ j, gk = j + 1 := ⟨gk - 1, by omega⟩
      have hst := nat_step V d j Hd.out
      have hvj : nb V j = V.testBit j := nb_eq V j (by omega)
      rw [← hvj] at hst
      have hRlt := Nat.mod_lt (V / 2 ^ (j + 1)) Hd.out
      generalize hR : V / 2 ^ (j + 1) % d = R at *
      generalize hQ : V / 2 ^ (j + 1) / d = q at *
      have cL : ∀ W, Calls Try.prog 51 #[.agg (arr (nb R)), .int .i64 1] W fun e w' => e = .returned (.agg (arr fun i => (shlB (BitVec.ofNat 128 R) 1).getLsbD i)) ∧ Below W.heap.size W w' := rleft_any (BitVec.ofNat 128 R) 1 (by decide)
      generalize hv : nb V j = v at *
      have hN := left_step R v
      generalize hS1 : (fun i => (shlB (BitVec.ofNat 128 R) 1).getLsbD i) = S1 at *
      have hvle : v.toNat ≤ 1 := by cases v <;> simp
      obtain ⟨N, hNe⟩ : ∃ N, 2 * R + v.toNat = N := ⟨_, rfl⟩
      have hN' : ∀ i, i < 128 → (if i = 0 then v else S1 i) = nb N i := by rw [← hNe]; subst hS1; exact hN
      rw [hNe] at hst
      have hNlt : N < 340282366920938463463374607431768211456 := by have := Hd2.out; omega
      have hNm : (BitVec.ofNat 128 N).toNat = N := by rw [BitVec.toNat_ofNat]; exact Nat.mod_eq_of_lt hNlt
      have hdm : (BitVec.ofNat 128 d).toNat = d := by rw [BitVec.toNat_ofNat]; exact Nat.mod_eq_of_lt (by have := Hd2.out; omega)
      have cC : ∀ W, Calls Try.prog 55 #[.agg (arr (nb N)), .agg (arr (nb d))] W fun e w' => e = .returned (.int .i64 (cmpN N d)) ∧ Below W.heap.size W w' := fun W => by
        have := rcmp_any (BitVec.ofNat 128 N) (BitVec.ofNat 128 d) W
        rw [hNm, hdm] at this
        exact this
      have HN := Lib.hid hN'
      have Hv := Lib.hid hv
      have hj0 : (0 : Int) ≤ ((j + 1 : Nat) : Int) - 1 := by omega
      have hj1 : j < 128 := by omega
      generalize hb : w.heap.size = b at *
      have Hb := Lib.hid hb
      clear hR hQ hN hN' hNe hvle hRlt hS1 hNm hvj hv hb
      by_cases hlt : N < d
      · have hc : cmpN N d = -1 := by unfold cmpN; rw [if_neg (by omega), if_pos hlt]
        have Hst := Lib.hid (hst.1 hlt)
        rw [hc] at cC
        clear hc hst hdm hNlt
        go_wp2_with (first
          | (refine ld28 rfl (.tmp 7) rfl (b + 1 + 1 + 1 + 1) rfl (nb R) hm.bl ?_)
          | (go_at_call 51; (with_reducible refine (cL _).mono ?_); rintro e w5 ⟨rfl, hb5⟩; have h1 := hm.keep hb5; clear hm hb5)
          | (refine st28 rfl (.tmp 7) (.tmp 17) rfl (b + 1 + 1 + 1 + 1) S1 (nb R) rfl rfl h1.bl ?_; have h2 := h1.setL S1; generalize w5.setRow (b + 1 + 1 + 1 + 1) (arr S1) = W5 at *; clear h1; have x0 := h2.bx.bit j hj1; have l0 := h2.bl.bit 0 (by decide); have l1 := h2.bl.free 0; rw [Hv.out] at x0; have h3 := (h2.bitL v).congr HN.out (fun _ _ => rfl); clear h2)
          | (refine ld28 rfl (.tmp 7) rfl (b + 1 + 1 + 1 + 1) rfl (nb N) h3.bl ?_)
          | (refine ld28 rfl (.tmp 8) rfl g rfl (nb d) h3.bd ?_)
          | (go_at_call 55; (with_reducible refine (cC _).mono ?_); rintro e w6 ⟨rfl, hb6⟩; have h4 := h3.keep hb6; clear h3 hb6))
        go_roundg j
        case measure => omega
        case rel => exact ⟨j, rfl, by omega, by go_num, by rw [Hst.out.1, Hst.out.2]; exact h4.congr (fun _ _ => rfl) (fun i _ => q_step0 q j i)⟩
      · have hge : d ≤ N := by omega
        have Hst := Lib.hid (hst.2 hge)
        obtain ⟨bo, cS⟩ : ∃ bo, ∀ W, Calls Try.prog 56 #[.agg (arr (nb N)), .agg (arr (nb d))] W fun e w' => e = .returned (.tuple #[.agg (arr (nb (N - d))), .bool bo]) ∧ Below W.heap.size W w' := by
          refine ⟨decide (0 ≤ cmpN (BitVec.ofNat 128 N).toNat (BitVec.ofNat 128 d).toNat), fun W => ?_⟩
          have := rsub_any (BitVec.ofNat 128 N) (BitVec.ofNat 128 d) W
          have e1 : BitVec.ofNat 128 N - BitVec.ofNat 128 d = BitVec.ofNat 128 (N - d) := by
            apply BitVec.eq_of_toNat_eq
            rw [BitVec.toNat_sub, BitVec.toNat_ofNat, BitVec.toNat_ofNat, BitVec.toNat_ofNat, Nat.mod_eq_of_lt hNlt, Nat.mod_eq_of_lt (show d < 2 ^ 128 by omega), Nat.mod_eq_of_lt (show N - d < 2 ^ 128 by omega)]
            omega
          rw [e1] at this
          exact this
        have hc : 0 ≤ cmpN N d := by
          unfold cmpN
          by_cases h1 : N = d
          · rw [if_pos h1]; decide
          · rw [if_neg h1, if_neg (by omega)]; decide
        generalize cmpN N d = c at *
        clear hst hdm hNlt hlt hge
        go_wp2_with (first
          | (refine ld28 rfl (.tmp 7) rfl (b + 1 + 1 + 1 + 1) rfl (nb R) hm.bl ?_)
          | (go_at_call 51; (with_reducible refine (cL _).mono ?_); rintro e w5 ⟨rfl, hb5⟩; have h1 := hm.keep hb5; clear hm hb5)
          | (refine st28 rfl (.tmp 7) (.tmp 17) rfl (b + 1 + 1 + 1 + 1) S1 (nb R) rfl rfl h1.bl ?_; have h2 := h1.setL S1; generalize w5.setRow (b + 1 + 1 + 1 + 1) (arr S1) = W5 at *; clear h1; have x0 := h2.bx.bit j hj1; have l0 := h2.bl.bit 0 (by decide); have l1 := h2.bl.free 0; rw [Hv.out] at x0; have h3 := (h2.bitL v).congr HN.out (fun _ _ => rfl); clear h2)
          | (refine ld28 rfl (.tmp 7) rfl (b + 1 + 1 + 1 + 1) rfl (nb N) h3.bl ?_)
          | (refine ld28 rfl (.tmp 8) rfl g rfl (nb d) h3.bd ?_)
          | (go_at_call 55; (with_reducible refine (cC _).mono ?_); rintro e w6 ⟨rfl, hb6⟩; have h4 := h3.keep hb6; clear h3 hb6)
          | (refine ld28 rfl (.tmp 7) rfl (b + 1 + 1 + 1 + 1) rfl (nb N) h4.bl ?_)
          | (refine ld28 rfl (.tmp 8) rfl g rfl (nb d) h4.bd ?_)
          | (go_at_call 56; (with_reducible refine (cS _).mono ?_); rintro e w7 ⟨rfl, hb7⟩; have h5 := h4.keep hb7; clear h4 hb7)
          | (refine st28 rfl (.tmp 7) (.tmp 30) rfl (b + 1 + 1 + 1 + 1) (nb (N - d)) (nb N) rfl rfl h5.bl ?_; have h6 := h5.setL (nb (N - d)); generalize w7.setRow (b + 1 + 1 + 1 + 1) (arr (nb (N - d))) = W7 at *; clear h5; have q0 := h6.bq.bit j hj1; have q1 := h6.bq.free j))
        go_roundg j
        case measure => omega
        case rel => exact ⟨j, rfl, by omega, by go_num, by rw [Hst.out.1, Hst.out.2]; exact (h6.bitQ j true).congr (fun _ _ => rfl) (fun i _ => q_step1 q j i)⟩
end Go.Proofs.Ytnahocdeaopflaa
