/-
  CurveAts.
-/
import Derived.Test.YtpadjlhleaboaaaGreatDoorGCg
namespace Go.Proofs.YtpadjlhleaboaaaGreatDoor
open Go.RowKit
set_option linter.unusedSimpArgs false
theorem wf_i64 {x : Int} (h : In64 x) : (Lit.int .i64 x).wf = true := by
  obtain ⟨h1, h2⟩ := h
  simp [Lit.wf]
  exact ⟨by show (-9223372036854775808 : Int) ≤ x; omega, by omega⟩
set_option maxRecDepth 8000 in
set_option maxHeartbeats 8000000 in
theorem cats_any (ao : Option Addr) (cap : Nat) (l : List Ord) (x lo hi : Int) (W : World) (hG : Gl W) (hL : Ords W ao cap l) (hF : ∀ m ∈ l, m.Fit) :
    Calls Tryz.prog 3 #[.slice ao l.length cap, .int .i64 x, .int .i64 lo, .int .i64 hi] W fun e w' => e = .returned (.bool true) ∧ Below W.heap.size W w' := by
  have hl1 := hL.len
  have hl2 := hL.top
  unfold maxLen at hl2
  have hl3 : l.length ≤ 9223372036854775807 := by omega
  clear hl1 hl2
  have cA := fun w (h : Gl w) => alive16_any w h
  by_cases h60 : 60 < l.length
  · have d60 : decide ((60 : Int) < (l.length : Int)) = true := decide_eq_true (by omega)
    go_enter Tryz.func3, Tryz.ntmps3
    go_wp2_with (first
      | (go_at_call 7; refine (cA _ hG).mono ?_; rintro e w2 ⟨rfl, hb2⟩; clear cA)
      | fail)
    go_ret
    exact ⟨rfl, hb2⟩
  have d60 : decide ((60 : Int) < (l.length : Int)) = false := decide_eq_false (by omega)
  have cB := books_any ao cap l W hG hL hF (by omega)
  have hok := bks_ok hF
  clear hL hF h60 hl3
  generalize bks l = b at *
  have hlen : b.L.length ≤ 500 := by
    have := hok.len
    have := hok.s2
    omega
  have hwf : ∀ z ∈ cpr lo hi b.L, (Lit.int .i64 z).wf = true := fun z hz => by
    obtain ⟨⟨o, h1, h2⟩, -⟩ := cpr_mem.1 hz
    have := hok.ok o h1
    have h3 := this.p1
    have h4 := this.p2
    exact wf_i64 ⟨by omega, by omega⟩
  have cO : ∀ g r w, Bb W (fun _ => False) g r l.length b b w → Calls Tryz.prog 9 #[.pointer (some ⟨g, 0, none⟩)] w fun e w' => ∃ p S, e = .returned (.pointer p) ∧ CvP w.heap.size w' p b.L ∧ RK w' r S b ∧ Below W.heap.size W w' := by
    intro g r w h
    refine (bbOf h).mono ?_
    rintro e w' ⟨p, he, hc, h', -⟩
    obtain ⟨Sp, Sr, -, h2, -⟩ := h'.both
    exact ⟨p, Sr, he, hc, h2, h'.frm.below (Nat.le_refl _) (fun _ f => f.elim)⟩
  have cAt := fun (B : Nat) (p : Option Addr) (w : World) (h : CvP B w p b.L) => cv_at x h
  have cAr := fun (r : Nat) (S : Nat → Prop) (w : World) (h : RK w r S b) => rat_any x hok h
  have cW := fun w => own16_any (catL b.L x) w
  have qE := fun w => eql_Pnc (catL b.L x) (catL b.L x) w
  rw [eqPnt_self] at qE
  have cP := fun (B : Nat) (p : Option Addr) (w : World) (h : CvP B w p b.L) => cv_prices lo hi h
  have cR : ∀ (r : Nat) (S : Nat → Prop) (w : World), RK w r S b → Calls Tryz.prog 15 #[.pointer (some ⟨r, 0, none⟩), .int .i64 lo, .int .i64 hi] w fun e w' => ∃ cap ao, e = .returned (.slice ao (cpr lo hi b.L).length cap) ∧ It .i64 w' ao cap (cpr lo hi b.L) ∧ Below w.heap.size w w' := by
    intro r S w h
    refine (rprices_any lo hi h (by omega)).mono ?_
    rintro e w' ⟨ko, cap, ao, he, hg⟩
    have how : OwG 2 1 w' ko ao cap (cpr lo hi b.L).length (ics (cpr lo hi b.L)) := hg.ow
    rw [ics_map] at how
    exact ⟨cap, ao, he, It.of_own hwf how, hg.bel⟩
  have cS := fun (ao ao' : Option Addr) (cap cap' : Nat) (w : World) (h1 : It .i64 w ao cap (cpr lo hi b.L)) (h2 : It .i64 w ao' cap' (cpr lo hi b.L)) => same16_any (cpr lo hi b.L) w h1 h2
  clear hwf hlen
  generalize cpr lo hi b.L = q at *
  generalize hc : catL b.L x = c at *
  clear hc
  obtain ⟨c1, c2, c3⟩ := c
  simp only [vPnt, cPnt] at cAt cAr cW qE
  go_enter Tryz.func3, Tryz.ntmps3
  go_wp2_with (first
    | (go_at_call 8; refine cB.mono ?_; rintro e w1 ⟨g, r, rfl, k1⟩; clear cB)
    | (go_at_call 9; refine (cO _ _ _ k1).mono ?_; rintro e w2 ⟨p, S, rfl, hc, hr, hb⟩; clear cO k1)
    | (go_at_call 10; refine (cAt _ _ _ hc).mono ?_; rintro e w3 ⟨rfl, hb3⟩; clear cAt; replace hc := hc.below hb3; replace hr := hr.below hb3; replace hb := hb.trans (hb3.mono hb.size); clear hb3)
    | (go_at_call 12; refine (cAr _ _ _ hr).mono ?_; rintro e w4 ⟨rfl, hb4⟩; clear cAr; replace hc := hc.below hb4; replace hr := hr.below hb4; replace hb := hb.trans (hb4.mono hb.size); clear hb4)
    | (go_at_call 11; refine (cW _).mono ?_; rintro e w5 ⟨rfl, hb5⟩; clear cW; replace hc := hc.below hb5; replace hr := hr.below hb5; replace hb := hb.trans (hb5.mono hb.size); clear hb5)
    | (go_at_call 14; refine (cP _ _ _ hc).mono ?_; rintro e w6 ⟨ao1, cap1, rfl, hI1, hb6⟩; clear cP hc; replace hr := hr.below hb6; replace hb := hb.trans (hb6.mono hb.size); clear hb6)
    | (go_at_call 15; refine (cR _ _ _ hr).mono ?_; rintro e w7 ⟨cap2, ao2, rfl, hI2, hb7⟩; clear cR hr; replace hI1 := hI1.below hb7; replace hb := hb.trans (hb7.mono hb.size); clear hb7)
    | (go_at_call 13; refine (cS _ _ _ _ _ hI1 hI2).mono ?_; rintro e w8 ⟨rfl, hb8⟩; clear cS hI1 hI2; replace hb := hb.trans (hb8.mono hb.size); clear hb8)
    | (go_at_call 7; refine (cA _ (hG.below hb)).mono ?_; rintro e w9 ⟨rfl, hb9⟩; clear cA; replace hb := hb.trans (hb9.mono hb.size))
    | fail)
  go_ret
  exact ⟨rfl, hb⟩
end Go.Proofs.YtpadjlhleaboaaaGreatDoor
