/-
  OctetsBack: what is put is read as it was, and that of fewer bytes it is not.
-/
import Derived.Test.YtniccdnjaaepcaaOBackM
namespace Go.Proofs.Ytniccdnjaaepcaa
open Go.RowKit

set_option maxRecDepth 100000 in
set_option maxHeartbeats 4000000 in
theorem back_walk (ao : Option Addr) (cap : Nat) (ps : List Prt) (less : Int) (hl0 : -9223372036854775808 ≤ less) (hl1 : less < 9223372036854775808) (W : World) (hP : Pl W ao cap ps) :
    Calls Try.prog 5 #[.slice ao ps.length cap, .int .i64 less] W fun e w' => e = .returned (.bool true) ∧ Below W.heap.size W w' := by
  have hlen := hP.len
  have hmax := hP.top
  unfold maxLen at hmax
  have cL := light_any ao cap ps W hP
  have cA := alive3_any
  by_cases h00 : ps.length = 0
  · have t0 : ((ps.length : Int) == 0) = true := by rw [h00]; rfl
    clear h00
    go_enter Try.func5, Try.ntmps5
    go_wp2_with (first | (go_at_call 7; refine cL.mono ?_; rintro e w1 ⟨⟨r, rfl, hr⟩, rfl⟩; cases r) | (go_at_call 8; refine (cA _).mono ?_; rintro e w2 ⟨rfl, hb⟩))
    all_goals go_ret
    all_goals exact ⟨rfl, hb⟩
  have t0 : ((ps.length : Int) == 0) = false := beq_false_of_ne (by omega)
  have hpos : 0 < ps.length := by omega
  clear h00
  go_enter Try.func5, Try.ntmps5
  go_wp2_with (first | (go_at_call 7; refine cL.mono ?_; rintro e w1 ⟨⟨r, rfl, hr⟩, rfl⟩; cases r) | (go_at_call 8; refine (cA _).mono ?_; rintro e w2 ⟨rfl, hb⟩))
  · go_ret
    exact ⟨rfl, hb⟩
  obtain ⟨h40, h60⟩ : Light ps := by simpa using hr
  clear cL hr t0
  have hst0 : St W (W.alloc (.cells #[.slice none 0 0] 27)) W.heap.size none none none 0 [] [] :=
    ⟨⟨none, 0, Blk.new _ _ _, ⟨rfl, rfl, rfl⟩, by simp⟩, ⟨rfl, rfl, rfl⟩, by simp, by simp, by simp, (Below.refl _ W).alloc (Nat.le_refl _) _⟩
  go_loopg [6] ps.length (fun j p6 wr => ∃ (q : Nat) (kW : Option Nat) (zs : List Nat), q + j = ps.length ∧ p6 = .int .i64 (q : Int) ∧ Hid (zs = (ps.take q).flatMap enc) ∧ zs.length ≤ 60 * q ∧ St W wr W.heap.size kW none none 0 zs [] ∧ Hid (∀ (i : Nat) (p : Prt), i < q → ps[i]? = some p → p.Val))
  case atStart => exact ⟨0, none, [], by omega, rfl, by simp [Hid], by simp, hst0, fun i p h => by omega⟩
  case round =>
    obtain ⟨q, kW, zs, hq, rfl, hz, hzl, hst, hall⟩ := hrel
    by_cases hj : q < ps.length
    · obtain ⟨p, hp⟩ : ∃ p, ps[q]? = some p := ⟨ps[q], List.getElem?_eq_getElem hj⟩
      obtain ⟨b, off, k, ro, rc, rfl, hfit, hget⟩ := hP.get hp
      have hr60 := h60 p (List.mem_of_getElem? hp)
      have hel := enc_len hfit hr60
      have hz2 : Hid (zs ++ enc p = (ps.take (q + 1)).flatMap enc) := by
        show _ = _
        rw [enc_take hp, hz.out]
      have cP := fun w kW h hB => put2_any p hfit hr60 k ro rc W.heap.size kW zs (by omega) w h hB
      obtain ⟨-, c0, c1, c2, c3, c4⟩ := hget _ hst.bel
      unfold pv at cP
      have HP : Hid (ps[q]? = some p) := hp
      clear hp hz hfit hst0
      generalize enc p = en at hel hz2 cP
      have hcase : p.kind < 1 ∨ 4 < p.kind ∨ ((p.kind == 1) = true ∧ p.kind = 1 ∧ (p.size < 1 ∨ 8 < p.size)) ∨ ((p.kind == 1) = true ∧ p.kind = 1 ∧ 1 ≤ p.size ∧ p.size ≤ 8) ∨ ((p.kind == 1) = false ∧ 2 ≤ p.kind ∧ p.kind ≤ 4) := by
        simp
        omega
      rcases hcase with h1 | h1 | ⟨t1, h1, h2⟩ | ⟨t1, h1, h2, h3⟩ | ⟨t1, h2, h3⟩
      · go_wp2_with (go_at_call 8; refine (cA _).mono ?_; rintro e w2 ⟨rfl, hb⟩)
        go_ret
        exact ⟨rfl, hst.bel.trans (hb.mono (Nat.le_of_lt hst.wr.g))⟩
      · go_wp2_with (go_at_call 8; refine (cA _).mono ?_; rintro e w2 ⟨rfl, hb⟩)
        go_ret
        exact ⟨rfl, hst.bel.trans (hb.mono (Nat.le_of_lt hst.wr.g))⟩
      · have h0 : 1 ≤ p.kind ∧ p.kind ≤ 4 := by omega
        obtain ⟨h5, h6⟩ := h0
        clear h1
        rcases h2 with h2 | h2
        all_goals go_wp2_with (go_at_call 8; refine (cA _).mono ?_; rintro e w2 ⟨rfl, hb⟩)
        all_goals go_ret
        all_goals exact ⟨rfl, hst.bel.trans (hb.mono (Nat.le_of_lt hst.wr.g))⟩
      · have hv : p.Val := ⟨by omega, by omega, fun _ => h2, fun _ => h3⟩
        have h0 : 1 ≤ p.kind ∧ p.kind ≤ 4 := by omega
        obtain ⟨h5, h6⟩ := h0
        clear h1
        go_wp2_with (go_at_call 10; refine (cP _ _ hst.wr (hget _ hst.bel).1).mono ?_; rintro e w3 ⟨rfl, kW3, hw3, hf3, hm3⟩; have h3' := hst.put hw3 hf3 hm3)
        go_roundg (ps.length - (q + 1))
        case measure => omega
        case rel =>
          refine ⟨q + 1, kW3, zs ++ en, by omega, by go_num, hz2, by simp; omega, h3', fun i p' hi hp' => ?_⟩
          by_cases hiq : i = q
          · subst hiq
            rw [HP.out] at hp'
            cases hp'
            exact hv
          · exact hall.out i p' (by omega) hp'
      · have hv : p.Val := ⟨by omega, by omega, fun h => by rw [h] at t1; simp at t1, fun h => by rw [h] at t1; simp at t1⟩
        go_wp2_with (go_at_call 10; refine (cP _ _ hst.wr (hget _ hst.bel).1).mono ?_; rintro e w3 ⟨rfl, kW3, hw3, hf3, hm3⟩; have h3' := hst.put hw3 hf3 hm3)
        go_roundg (ps.length - (q + 1))
        case measure => omega
        case rel =>
          refine ⟨q + 1, kW3, zs ++ en, by omega, by go_num, hz2, by simp; omega, h3', fun i p' hi hp' => ?_⟩
          by_cases hiq : i = q
          · subst hiq
            rw [HP.out] at hp'
            cases hp'
            exact hv
          · exact hall.out i p' (by omega) hp'
    · have hqe : q = ps.length := by omega
      subst hqe
      rw [List.take_length] at hz
      have hval : Hid (∀ (i : Nat) (p : Prt), ps[i]? = some p → p.Val) := fun i p hp => hall.out i p (List.getElem?_eq_some_iff.1 hp).1 hp
      have hbel0 := hst.bel
      have hg0 := hst.wr.g
      have hwr := hst.wr
      clear hall hst0 hst
      go_wp2_with (first
        | (go_at_call 12; refine (bytes2_any _ kW zs (by omega) _ hwr).mono ?_; rintro e w1 ⟨v, rfl, a7, c7, k7, rfl, hB1, hb1, hk7⟩; have hbel1 := hbel0.trans (hb1.mono (Nat.le_of_lt hg0)))
        | (go_at_call 13; refine (newReader_any k7 c7 a7 zs (by omega) _ hB1).mono ?_; rintro e w2 ⟨g, rfl, hR2, hb2, hg⟩; have hB2 := hB1.below hb2; have hbel2 := hbel1.trans (hb2.mono hbel1.size); have hgW : W.heap.size ≤ g := Nat.le_trans hbel1.size hg))
      have hlz := hB1.len
      have hmz := hB1.top
      unfold maxLen at hmz
      clear hwr hB1 hb1 hb2 hbel0 hbel1
      go_loopg [9, 10, 11] ps.length (fun j p9 _ _ wr => ∃ (q : Nat) (bs : List Nat), q + j = ps.length ∧ p9 = .int .i64 (q : Int) ∧ Hid (bs = (ps.drop q).flatMap enc) ∧ bs.length ≤ 2400 ∧ Rr wr g bs 0 ∧ Bt wr k7 a7 c7 zs ∧ Below W.heap.size W wr)
      case atStart => exact ⟨0, zs, by omega, rfl, hz, by omega, hR2, hB2, hbel2⟩
      case round =>
        obtain ⟨q, bs, hq, rfl, hbs, hbl, hR, hB, hbel⟩ := hrel
        by_cases hj : q < ps.length
        · obtain ⟨p, hp⟩ : ∃ p, ps[q]? = some p := ⟨ps[q], List.getElem?_eq_getElem hj⟩
          obtain ⟨b, off, k, ro, rc, rfl, hfit, hget⟩ := hP.get hp
          have hr60 := h60 p (List.mem_of_getElem? hp)
          have hv := hval.out q p hp
          obtain ⟨t, ht⟩ : ∃ t, Hid (t = (ps.drop (q + 1)).flatMap enc) := ⟨_, rfl⟩
          have hbt : bs = enc p ++ t := by rw [hbs.out, enc_drop hp, ht.out]
          have htl : t.length ≤ 2400 := by rw [hbt, List.length_append] at hbl; omega
          obtain ⟨-, c0, c1, c2, c3, c4⟩ := hget _ hbel
          have hgl := hR.lt
          have hwl := hbel.size
          have hgs : g ≠ wr.heap.size := by omega
          clear hp hbs
          obtain ⟨K, S, n, s, raw⟩ := p
          obtain ⟨hn, hs0, hs1, hz1⟩ := hfit
          obtain ⟨hk0, hk1, hv0, hv1⟩ := hv
          simp only at hn hs0 hs1 hz1 hk0 hk1 hv0 hv1 hr60 c0 c1 c2 c3 c4
          have hcase : K = 1 ∨ K = 2 ∨ K = 3 ∨ K = 4 := by omega
          rcases hcase with rfl | rfl | rfl | rfl
          · obtain ⟨k1, rfl⟩ : ∃ k1 : Nat, S = (k1 : Int) := ⟨S.toNat, by have := hv0 rfl; omega⟩
            have hk1a : 1 ≤ k1 := by have := hv0 rfl; omega
            have hk1b : k1 ≤ 8 := by have := hv1 rfl; omega
            have e : enc ⟨1, (k1 : Int), n, s, raw⟩ = be k1 n := (enc1 (p := ⟨1, (k1 : Int), n, s, raw⟩) rfl (by show 1 ≤ (k1 : Int); omega) (by show (k1 : Int) ≤ 8; omega)).trans (by show be (k1 : Int).toNat n = be k1 n; rw [Int.toNat_natCast])
            subst hbt
            obtain ⟨n', hn'⟩ : ∃ n', n' = n % 256 ^ k1 := ⟨_, rfl⟩
            have cG := fun w h => got_any ⟨1, (k1 : Int), n', s, raw⟩ (by show (k1 : Int) < _; omega) ro rc g 0 (enc ⟨1, (k1 : Int), n, s, raw⟩ ++ t) (by omega) w h
            have hdr : (be k1 n ++ t).drop k1 = t := List.drop_left' (be_length k1 n)
            simp only [e, back1 hk1a hk1b n t, hdr, ← hn'] at cG
            rw [e] at hR
            unfold pv gv at cG
            generalize be k1 n ++ t = bs at cG hR
            clear hdr e hv0 hv1 hz1 hs0 hs1
            have HNN : Hid (n < 18446744073709551616) := hn
            clear hn
            by_cases h8 : k1 < 8
            · obtain ⟨M, hM⟩ : ∃ M, M = 256 ^ k1 := ⟨_, rfl⟩
              have hM1 : 1 ≤ M := by rw [hM]; exact Nat.pow_pos (by decide)
              have hM7 : M ≤ 256 ^ 7 := by rw [hM]; exact Nat.pow_le_pow_right (by decide) (by omega)
              have eM : IntKind.u64.wrap ((2 : Int) ^ (8 * k1)) = (M : Int) := by
                have e2 : (2 : Int) ^ (8 * k1) = ((256 ^ k1 : Nat) : Int) := by rw [Int.pow_mul]; simp
                rw [e2, ← hM, IntKind.wrap_u64]
                omega
              have tM : ((M : Int) == 0) = false := beq_false_of_ne (by omega)
              have eN : (n : Int) % (M : Int) = (n' : Int) := by rw [hn', ← hM]; omega
              clear hn' hM hM7
              go_wp2_with (first
                | (go_at_call 15; refine (cG _ (hR.alloc _)).mono ?_; rintro e w3 ⟨ax, cx, kx, rfl, hBx, hR3, hF3⟩; have m3 := (Blk.new wr 32 #[.int .i64 1, .int .i64 (k1 : Int), .int .u64 (n' : Int), .int .i64 s, .slice ro raw.length rc]).frm hF3 (by omega); have hB3 := (hB.alloc (.cells #[.int .i64 1, .int .i64 (k1 : Int), .int .u64 (n' : Int), .int .i64 s, .slice ro raw.length rc] 32)).past (hR.alloc _) hF3; have hbel3 := (hbel.alloc hwl (.cells #[.int .i64 1, .int .i64 (k1 : Int), .int .u64 (n' : Int), .int .i64 s, .slice ro raw.length rc] 32)).trans (hF3.below (by simp; omega) (by rintro b rfl; exact hgW)); obtain ⟨y0, y1, y2, y3, y4, y5⟩ := five_alloc m3))
              go_roundg (ps.length - (q + 1))
              case measure => omega
              case rel => exact ⟨q + 1, t, by omega, by go_num, ht, htl, hR3.alloc _, hB3.alloc _, hbel3.alloc hbel3.size _⟩
            · have hnn : n' = n := by
                have : k1 = 8 := by omega
                have h := HNN.out
                rw [hn', this]
                exact Nat.mod_eq_of_lt h
              subst hnn
              clear hn'
              go_wp2_with (first
                | (go_at_call 15; refine (cG _ (hR.alloc _)).mono ?_; rintro e w3 ⟨ax, cx, kx, rfl, hBx, hR3, hF3⟩; have m3 := (Blk.new wr 32 #[.int .i64 1, .int .i64 (k1 : Int), .int .u64 (n' : Int), .int .i64 s, .slice ro raw.length rc]).frm hF3 (by omega); have hB3 := (hB.alloc (.cells #[.int .i64 1, .int .i64 (k1 : Int), .int .u64 (n' : Int), .int .i64 s, .slice ro raw.length rc] 32)).past (hR.alloc _) hF3; have hbel3 := (hbel.alloc hwl (.cells #[.int .i64 1, .int .i64 (k1 : Int), .int .u64 (n' : Int), .int .i64 s, .slice ro raw.length rc] 32)).trans (hF3.below (by simp; omega) (by rintro b rfl; exact hgW)); obtain ⟨y0, y1, y2, y3, y4, y5⟩ := five_alloc m3))
              go_roundg (ps.length - (q + 1))
              case measure => omega
              case rel => exact ⟨q + 1, t, by omega, by go_num, ht, htl, hR3.alloc _, hB3.alloc _, hbel3.alloc hbel3.size _⟩
          · subst hbt
            have cG := fun w h => got_any ⟨2, S, n, s, raw⟩ hz1 ro rc g 0 (enc ⟨2, S, n, s, raw⟩ ++ t) (by omega) w h
            have e : enc ⟨2, S, n, s, raw⟩ = be 8 (zig s) := rfl
            simp only [e, back2 S s hs0 hs1 t] at cG
            rw [e] at hR
            have hdr : (be 8 (zig s) ++ t).drop 8 = t := List.drop_left' (be_length 8 _)
            rw [hdr] at cG
            unfold pv gv at cG
            generalize be 8 (zig s) ++ t = bs at cG hR
            clear hdr e hv0 hv1
            go_wp2_with (go_at_call 15; refine (cG _ (hR.alloc _)).mono ?_; rintro e w3 ⟨ax, cx, kx, rfl, hBx, hR3, hF3⟩; have m3 := (Blk.new wr 32 #[.int .i64 2, .int .i64 S, .int .u64 (n : Int), .int .i64 s, .slice ro raw.length rc]).frm hF3 (by omega); have hB3 := (hB.alloc (.cells #[.int .i64 2, .int .i64 S, .int .u64 (n : Int), .int .i64 s, .slice ro raw.length rc] 32)).past (hR.alloc _) hF3; have hbel3 := (hbel.alloc hwl (.cells #[.int .i64 2, .int .i64 S, .int .u64 (n : Int), .int .i64 s, .slice ro raw.length rc] 32)).trans (hF3.below (by simp; omega) (by rintro b rfl; exact hgW)); obtain ⟨y0, y1, y2, y3, y4, y5⟩ := five_alloc m3)
            go_roundg (ps.length - (q + 1))
            case measure => omega
            case rel => exact ⟨q + 1, t, by omega, by go_num, ht, htl, hR3.alloc _, hB3.alloc _, hbel3.alloc hbel3.size _⟩
          · subst hbt
            have cG := fun w h => got_any ⟨3, S, n, s, raw⟩ hz1 ro rc g 0 (enc ⟨3, S, n, s, raw⟩ ++ t) (by omega) w h
            have e : enc ⟨3, S, n, s, raw⟩ = num n := rfl
            simp only [e, back3 S hn t, List.drop_left] at cG
            rw [e] at hR
            unfold pv gv at cG
            generalize num n ++ t = bs at cG hR
            clear e hv0 hv1
            go_wp2_with (first
              | (go_at_call 15; refine (cG _ (hR.alloc _)).mono ?_; rintro e w3 ⟨ax, cx, kx, rfl, hBx, hR3, hF3⟩; have m3 := (Blk.new wr 32 #[.int .i64 3, .int .i64 S, .int .u64 (n : Int), .int .i64 s, .slice ro raw.length rc]).frm hF3 (by omega); have hB3 := (hB.alloc (.cells #[.int .i64 3, .int .i64 S, .int .u64 (n : Int), .int .i64 s, .slice ro raw.length rc] 32)).past (hR.alloc _) hF3; have hbel3 := (hbel.alloc hwl (.cells #[.int .i64 3, .int .i64 S, .int .u64 (n : Int), .int .i64 s, .slice ro raw.length rc] 32)).trans (hF3.below (by simp; omega) (by rintro b rfl; exact hgW)); obtain ⟨y0, y1, y2, y3, y4, y5⟩ := five_alloc m3))
            go_roundg (ps.length - (q + 1))
            case measure => omega
            case rel => exact ⟨q + 1, t, by omega, by go_num, ht, htl, hR3.alloc _, hB3.alloc _, hbel3.alloc hbel3.size _⟩
          · subst hbt
            have cG := fun w h => got_any ⟨4, (raw.length : Int), n, s, raw⟩ (by show (raw.length : Int) < _; omega) ro rc g 0 (enc ⟨4, S, n, s, raw⟩ ++ t) (by omega) w h
            have e : enc ⟨4, S, n, s, raw⟩ = raw := rfl
            simp only [e, back4 raw t, List.drop_left] at cG
            rw [e] at hR
            unfold pv gv at cG
            have hgr := fun w h => (hget w h).1
            simp only at hgr
            generalize raw ++ t = bs at cG hR
            clear e hv0 hv1 hget
            go_wp2_with (first
              | (go_at_call 15; refine (cG _ (hR.alloc _)).mono ?_; rintro e w3 ⟨ax, cx, kx, rfl, hBx, hR3, hF3⟩; have m3 := (Blk.new wr 32 #[.int .i64 4, .int .i64 (raw.length : Int), .int .u64 (n : Int), .int .i64 s, .slice ro raw.length rc]).frm hF3 (by omega); have hB3 := (hB.alloc (.cells #[.int .i64 4, .int .i64 (raw.length : Int), .int .u64 (n : Int), .int .i64 s, .slice ro raw.length rc] 32)).past (hR.alloc _) hF3; have hbel3 := (hbel.alloc hwl (.cells #[.int .i64 4, .int .i64 (raw.length : Int), .int .u64 (n : Int), .int .i64 s, .slice ro raw.length rc] 32)).trans (hF3.below (by simp; omega) (by rintro b rfl; exact hgW)); obtain ⟨y0, y1, y2, y3, y4, y5⟩ := five_alloc m3; have hBr := hgr _ (hbel3.alloc hbel3.size (.cells #[.int .u64 0, .int .i64 0, .slice ax raw.length cx, .int .i64 0, .int .i64 0] 40)); have hBx' := hBx.alloc (.cells #[.int .u64 0, .int .i64 0, .slice ax raw.length cx, .int .i64 0, .int .i64 0] 40))
              | (go_at_call 11; refine (same_len rfl rfl _ hBx' hBr).mono ?_; rintro e w5 ⟨rfl, rfl⟩))
            go_roundg (ps.length - (q + 1))
            case measure => omega
            case rel => exact ⟨q + 1, t, by omega, by go_num, ht, htl, hR3.alloc _, hB3.alloc _, hbel3.alloc hbel3.size _⟩
        · have hqe : q = ps.length := by omega
          subst hqe
          have hb0 : bs = [] := by rw [hbs.out, List.drop_length]; rfl
          subst hb0
          clear hbs
          have cLe := left_any g 0 [] wr hR
          have cFa := fault_any g 0 [] wr hR
          simp only [List.length_nil] at cLe
          by_cases hle : 1 ≤ less ∧ less ≤ (zs.length : Int)
          · obtain ⟨hle1, hle2⟩ := hle
            obtain ⟨m, hm⟩ : ∃ m : Nat, (zs.length : Int) - less = (m : Int) := ⟨((zs.length : Int) - less).toNat, by omega⟩
            have hmz' : m < zs.length := by omega
            have hmt : (zs.take m).length = m := by rw [List.length_take]; omega
            have cNr := newReader_any k7 c7 a7 (zs.take m) (by omega) wr (hB.take (by omega))
            rw [hmt] at cNr
            have hcut0 : Hid (Cut 0 (zs.take m) (ps.flatMap enc)) := .inr ⟨rfl, m, by rw [hz.out], by rw [← hz.out]; exact hmz'⟩
            have hmtl : (zs.take m).length ≤ 2400 := by omega
            generalize zs.take m = rest0 at cNr hcut0 hmtl
            clear hmt hR hB hR2 hB2 hz hbl
            go_wp2_with (first
              | (go_at_call 17; refine cLe.mono ?_; rintro e w5 ⟨rfl, rfl⟩)
              | (go_at_call 16; refine cFa.mono ?_; rintro e w5 ⟨rfl, rfl⟩)
              | (go_at_call 13; refine cNr.mono ?_; rintro e w6 ⟨g2, rfl, hR6, hb6, hg6⟩; have hbel6 := hbel.trans (hb6.mono hbel.size); have hg2W : W.heap.size ≤ g2 := Nat.le_trans hbel.size hg6))
            go_loopg [12, 13] ps.length (fun j p12 _ wx => ∃ (q : Nat) (rest : List Nat) (f : Nat), q + j = ps.length ∧ p12 = .int .i64 (q : Int) ∧ Hid (Cut f rest ((ps.drop q).flatMap enc)) ∧ rest.length ≤ 2400 ∧ Rr wx g2 rest f ∧ Below W.heap.size W wx)
            case atStart => exact ⟨0, rest0, 0, by omega, rfl, hcut0, hmtl, hR6, hbel6⟩
            case round =>
              obtain ⟨q, rest, f, hq3, rfl, hcut, hrl, hR7, hbel7⟩ := hrel
              by_cases hj : q < ps.length
              · obtain ⟨p, hp⟩ : ∃ p, ps[q]? = some p := ⟨ps[q], List.getElem?_eq_getElem hj⟩
                obtain ⟨b, off, k, ro, rc, rfl, hfit, hget⟩ := hP.get hp
                have hr60 := h60 p (List.mem_of_getElem? hp)
                have hv := hval.out q p hp
                have hcut2 : Hid (Cut (stepR p.kind (sz p) rest f).f (rest.drop (stepR p.kind (sz p) rest f).size) ((ps.drop (q + 1)).flatMap enc)) := by
                  have h := hcut.out
                  rw [enc_drop hp] at h
                  exact h.step hfit hv
                obtain ⟨-, c0, c1, c2, c3, c4⟩ := hget _ hbel7
                clear hp hcut hget hv
                obtain ⟨K, S, n, s, raw⟩ := p
                obtain ⟨hn, hs0, hs1, hz1⟩ := hfit
                simp only at hn hs0 hs1 hz1 hr60 c0 c1 c2 c3 c4 hcut2
                by_cases hK : K = 4
                · subst hK
                  have esz : sz ⟨4, S, n, s, raw⟩ = (raw.length : Int) := rfl
                  rw [esz] at hcut2
                  have cG := fun w h => got_any ⟨4, (raw.length : Int), n, s, raw⟩ (by show (raw.length : Int) < _; omega) ro rc g2 f rest (by omega) w h
                  simp only at cG
                  unfold pv gv at cG
                  clear esz hn hs0 hs1 hz1
                  generalize stepR 4 (raw.length : Int) rest f = r at cG hcut2
                  go_wp2_with (go_at_call 15; refine (cG _ (hR7.alloc _)).mono ?_; rintro e w8 ⟨ax, cx, kx, rfl, hBx, hR8, hF8⟩; have hbel8 := (hbel7.alloc hbel7.size (.cells #[.int .i64 4, .int .i64 (raw.length : Int), .int .u64 (n : Int), .int .i64 s, .slice ro raw.length rc] 32)).trans (hF8.below (by have := hbel7.size; simp; omega) (by rintro b rfl; exact hg2W)))
                  go_roundg (ps.length - (q + 1))
                  case measure => omega
                  case rel => exact ⟨q + 1, _, _, by omega, by go_num, hcut2, by rw [List.length_drop]; omega, hR8, hbel8⟩
                · have esz : sz ⟨K, S, n, s, raw⟩ = S := if_neg hK
                  rw [esz] at hcut2
                  have cG := fun w h => got_any ⟨K, S, n, s, raw⟩ hz1 ro rc g2 f rest (by omega) w h
                  simp only at cG
                  unfold pv gv at cG
                  have tK : (K == 4) = false := beq_false_of_ne hK
                  clear esz hn hs0 hs1 hz1 hK
                  generalize stepR K S rest f = r at cG hcut2
                  go_wp2_with (go_at_call 15; refine (cG _ (hR7.alloc _)).mono ?_; rintro e w8 ⟨ax, cx, kx, rfl, hBx, hR8, hF8⟩; have hbel8 := (hbel7.alloc hbel7.size (.cells #[.int .i64 K, .int .i64 S, .int .u64 (n : Int), .int .i64 s, .slice ro raw.length rc] 32)).trans (hF8.below (by have := hbel7.size; simp; omega) (by rintro b rfl; exact hg2W)))
                  go_roundg (ps.length - (q + 1))
                  case measure => omega
                  case rel => exact ⟨q + 1, _, _, by omega, by go_num, hcut2, by rw [List.length_drop]; omega, hR8, hbel8⟩
              · have hqe : q = ps.length := by omega
                subst hqe
                have hf3 : f = 3 := by
                  have h := hcut.out
                  rw [List.drop_length] at h
                  exact h.done
                subst hf3
                have cF3 := fault_any g2 3 rest wr hR7
                clear hcut hcut0 hR7 hR6
                go_wp2_with (first
                  | (go_at_call 16; refine cF3.mono ?_; rintro e w8 ⟨rfl, rfl⟩)
                  | (go_at_call 8; refine (cA _).mono ?_; rintro e w9 ⟨rfl, hb9⟩; have hbel9 := hbel7.trans (hb9.mono hbel7.size)))
                go_ret
                exact ⟨rfl, hbel9⟩
          · have hor : less < 1 ∨ (zs.length : Int) < less := by omega
            clear hle hR hB hR2 hB2 hz
            rcases hor with hor | hor
            all_goals go_wp2_with (first
              | (go_at_call 17; refine cLe.mono ?_; rintro e w5 ⟨rfl, rfl⟩)
              | (go_at_call 16; refine cFa.mono ?_; rintro e w5 ⟨rfl, rfl⟩)
              | (go_at_call 8; refine (cA _).mono ?_; rintro e w6 ⟨rfl, hb6⟩; have hbel6 := hbel.trans (hb6.mono hbel.size)))
            all_goals go_ret
            all_goals exact ⟨rfl, hbel6⟩
end Go.Proofs.Ytniccdnjaaepcaa
