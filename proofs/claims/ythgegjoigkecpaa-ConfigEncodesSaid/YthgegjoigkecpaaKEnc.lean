/-
  ConfigEncodes, for every two configurations.
-/
import Derived.Test.YthgegjoigkecpaaCfgM
import Derived.Test.YthgegjoigkecpaaCfgW
import Derived.Test.YthgegjoigkecpaaCfgG
import Derived.Test.YthgegjoigkecpaaCfgH
import Derived.Test.YthgegjoigkecpaaRegS
import Derived.Test.YthgegjoigkecpaaPost
namespace Go.Proofs.Ythgegjoigkecpaa
open Go.RowKit
/-- Two configurations in their boxes, what their slices hold, and two slices of the same bytes. -/
structure EK (W : World) (sa : Option Addr) (sc : Nat) (ra : Option Addr) (rc : Nat) (c : Cfg) (ta : Option Addr) (tc : Nat) (ua : Option Addr) (uc : Nat) (d : Cfg) (w : World) : Prop where
  blkc : Blk w W.heap.size 27 (cCfg sa sc ra rc c)
  blkd : Blk w (W.heap.size + 1) 27 (cCfg ta tc ua uc d)
  hc : Holds w sa sc ra rc c
  hd : Holds w ta tc ua uc d
  bel : Below W.heap.size W w
structure EL (W : World) (sa : Option Addr) (sc : Nat) (ra : Option Addr) (rc : Nat) (c : Cfg) (ta : Option Addr) (tc : Nat) (ua : Option Addr) (uc : Nat) (d : Cfg) (k1 : Nat) (a1 : Option Addr) (p1 : Nat) (k2 : Nat) (a2 : Option Addr) (p2 : Nat) (X : List Nat) (w : World) : Prop extends EK W sa sc ra rc c ta tc ua uc d w where
  b1 : Bt w k1 a1 p1 X
  b2 : Bt w k2 a2 p2 X
section
variable {W w w' : World} {sa ra ta ua a1 a2 : Option Addr} {sc rc tc uc k1 k2 p1 p2 : Nat} {c d : Cfg} {X : List Nat}
theorem EK.keep (h : EK W sa sc ra rc c ta tc ua uc d w) (hb : Below w.heap.size w w') : EK W sa sc ra rc c ta tc ua uc d w' :=
  ⟨h.blkc.below hb h.blkc.lt, h.blkd.below hb h.blkd.lt, h.hc.below hb, h.hd.below hb, h.bel.trans (hb.mono h.bel.size)⟩
theorem EL.keep (h : EL W sa sc ra rc c ta tc ua uc d k1 a1 p1 k2 a2 p2 X w) (hb : Below w.heap.size w w') : EL W sa sc ra rc c ta tc ua uc d k1 a1 p1 k2 a2 p2 X w' :=
  ⟨h.toEK.keep hb, h.b1.below hb, h.b2.below hb⟩
theorem EL.drew (h : EL W sa sc ra rc c ta tc ua uc d k1 a1 p1 k2 a2 p2 X w) : EL W sa sc ra rc c ta tc ua uc d k1 a1 p1 k2 a2 p2 X w.drew := h.keep (Below.refl _ _).drew
theorem EK.start (h : Holds W sa sc ra rc c) (g : Holds W ta tc ua uc d) : EK W sa sc ra rc c ta tc ua uc d ((W.alloc (.cells (cCfg sa sc ra rc c) 27)).alloc (.cells (cCfg ta tc ua uc d) 27)) := by
  have hb : Below W.heap.size W ((W.alloc (.cells (cCfg sa sc ra rc c) 27)).alloc (.cells (cCfg ta tc ua uc d) 27)) := ((Below.refl W.heap.size W).alloc (Nat.le_refl _) _).alloc (by simp) _
  exact ⟨(Blk.new _ _ _).alloc _, Blk.new' (by simp), h.below hb, g.below hb, hb⟩
end
set_option maxRecDepth 8000 in
set_option maxHeartbeats 4000000 in
theorem kencodes_any (sa : Option Addr) (sc : Nat) (ra : Option Addr) (rc : Nat) (c : Cfg) (hF : c.Fit) (ta : Option Addr) (tc : Nat) (ua : Option Addr) (uc : Nat) (d : Cfg) (W : World) (hH : Holds W sa sc ra rc c) (hG : Holds W ta tc ua uc d) :
    Calls Try.prog 4 #[vCfg sa sc ra rc c, vCfg ta tc ua uc d] W fun e w' => e = .returned (.bool true) ∧ Below W.heap.size W w' := by
  have cA := fun w => alive7_any w
  have cL1 := fun w => light7_any sa sc ra rc c w
  have cL2 := fun w => light7_any ta tc ua uc d w
  have cE := fun w h => cencode_any sa sc ra rc c hF w h
  have cR := fun w h => refcencode_any sa sc ra rc c w h
  unfold Coded at cR
  have cG := fun w h1 h2 => csame_any sa sc ra rc c ta tc ua uc d w h1 h2
  have cH := fun w h1 h2 => rcsame_any sa sc ra rc c ta tc ua uc d w h1 h2
  have cS := fun w kx ky ax ay bx bt (hA : Bt w kx ax bx (encK c).1) (hC : Bt w ky ay bt (encK c).1) => same_true w hA hC rfl rfl
  have hS := EK.start hH hG
  generalize (decide (c.syms.length ≤ 20) && decide (c.rows.length ≤ 40)) = q1 at cL1
  generalize (decide (d.syms.length ≤ 20) && decide (d.rows.length ≤ 40)) = q2 at cL2
  generalize sameC c d = b at cG cH
  generalize (encK c).1 = X at cE cR cS
  generalize (encK c).2 = f at cE cR
  obtain ⟨x0, x1, x2, x3, x4, x5, x6, x7⟩ := Cfg.cells hS.blkc
  obtain ⟨y0, y1, y2, y3, y4, y5, y6, y7⟩ := Cfg.cells hS.blkd
  clear hF hH hG
  cases q1 with
  | false =>
    go_enter Try.func4, Try.ntmps4
    go_wp2_with (first
      | (go_at_call 7; (with_reducible refine (cL1 _).mono ?_); rintro e w1 ⟨rfl, hb1⟩; replace hS := hS.keep hb1)
      | (go_at_call 8; refine (cA _).mono ?_; rintro e w4 ⟨rfl, hb4⟩))
    go_ret
    exact ⟨rfl, (hS.keep hb4).bel⟩
  | true =>
    cases q2 with
    | false =>
      go_enter Try.func4, Try.ntmps4
      go_wp2_with (first
        | (go_at_call 7; (with_reducible refine (cL1 _).mono ?_); rintro e w1 ⟨rfl, hb1⟩; replace hS := hS.keep hb1; clear cL1; obtain ⟨y0, y1, y2, y3, y4, y5, y6, y7⟩ := Cfg.cells hS.blkd)
        | (go_at_call 7; (with_reducible refine (cL2 _).mono ?_); rintro e w2 ⟨rfl, hb2⟩; replace hS := hS.keep hb2; clear cL2)
        | (go_at_call 8; refine (cA _).mono ?_; rintro e w4 ⟨rfl, hb4⟩))
      go_ret
      exact ⟨rfl, (hS.keep hb4).bel⟩
    | true =>
      go_enter Try.func4, Try.ntmps4
      go_wp2_with (first
        | (go_at_call 7; (with_reducible refine (cL1 _).mono ?_); rintro e w1 ⟨rfl, hb1⟩; replace hS := hS.keep hb1; clear cL1; obtain ⟨y0, y1, y2, y3, y4, y5, y6, y7⟩ := Cfg.cells hS.blkd)
        | (go_at_call 7; (with_reducible refine (cL2 _).mono ?_); rintro e w2 ⟨rfl, hb2⟩; replace hS := hS.keep hb2; clear cL2; obtain ⟨x0, x1, x2, x3, x4, x5, x6, x7⟩ := Cfg.cells hS.blkc)
        | (go_at_call 15; refine (cE _ hS.hc).mono ?_; rintro e w3 ⟨a1, p1, k1, rfl, hX1, hb3⟩; replace hS := hS.keep hb3; clear cE; obtain ⟨x0, x1, x2, x3, x4, x5, x6, x7⟩ := Cfg.cells hS.blkc)
        | (go_at_call 16; refine (cR _ hS.hc).mono ?_; rintro e w5 ⟨a2, p2, k2, rfl, hX2, hb5⟩; replace hS := hS.keep hb5; replace hX1 := hX1.below hb5; clear cR))
      have hES : EL W sa sc ra rc c ta tc ua uc d k1 a1 p1 k2 a2 p2 X w5 := ⟨hS, hX1, hX2⟩
      clear hX1 hX2 hS hb1 hb2 hb3 hb5
      clear x0 x1 x2 x3 x4 x5 x6 x7
      clear y0 y1 y2 y3 y4 y5 y6 y7
      refine wp_region_S (S := fun _ w' => EL W sa sc ra rc c ta tc ua uc d k1 a1 p1 k2 a2 p2 X w') (by kernel_rfl) hES.drew ?_
      refine AllS.next (v := ?_) rfl rfl rfl (by kernel_rfl) ?_ ?_
      rotate_left
      · refine yieldsS_run (fun _ _ h => h) (by rfl) ?_
        intro L wx hS
        go_simp
        try with_reducible rfl
      simp only [Act.put, List.setIfInBounds_toArray, List.set_cons_zero, List.set_cons_succ, List.getElem_toArray, List.getElem_cons_zero]
      refine AllS.next (v := ?_) rfl rfl rfl (by kernel_rfl) ?_ ?_
      rotate_left
      · refine yieldsS_run (fun _ _ h => h) (by rfl) ?_
        intro L wx hS
        go_simp
        try with_reducible rfl
      simp only [Act.put, List.setIfInBounds_toArray, List.set_cons_zero, List.set_cons_succ, List.getElem_toArray, List.getElem_cons_zero, List.getElem_cons_succ]
      refine AllS.next (v := .bool true) rfl rfl rfl (by kernel_rfl) ?_ ?_
      · refine yieldsS_call (f := 17) (args := #[.slice a1 X.length p1, .slice a2 X.length p2]) (by rfl) ?_ ?_
        · intro wx
          go_simp
          try with_reducible rfl
        · intro L wx hS
          exact (cS wx _ _ _ _ _ _ hS.b1 hS.b2).mono fun e w' h => ⟨h.1, h.2 ▸ hS⟩
      simp only [Act.put, List.setIfInBounds_toArray, List.set_cons_zero, List.set_cons_succ, List.getElem_toArray, List.getElem_cons_zero, List.getElem_cons_succ]
      refine AllS.next (v := ?_) rfl rfl rfl (by kernel_rfl) ?_ ?_
      rotate_left
      · refine yieldsS_run (fun _ _ h => h) (by rfl) ?_
        intro L wx hS
        go_simp
        try with_reducible rfl
      simp only [Act.put, List.setIfInBounds_toArray, List.set_cons_zero, List.set_cons_succ, List.getElem_toArray, List.getElem_cons_zero, List.getElem_cons_succ]
      refine AllS.next (v := ?_) rfl rfl rfl (by kernel_rfl) ?_ ?_
      rotate_left
      · refine yieldsS_run (fun _ _ h => h) (by rfl) ?_
        intro L wx hS
        go_simp
        try with_reducible rfl
      simp only [Act.put, List.setIfInBounds_toArray, List.set_cons_zero, List.set_cons_succ, List.getElem_toArray, List.getElem_cons_zero, List.getElem_cons_succ]
      refine AllS.next (v := ?_) rfl rfl rfl (by kernel_rfl) ?_ ?_
      rotate_left
      · refine yieldsS_run (fun _ _ h => h) (by rfl) ?_
        intro L wx hS
        go_simp
        try with_reducible rfl
      simp only [Act.put, List.setIfInBounds_toArray, List.set_cons_zero, List.set_cons_succ, List.getElem_toArray, List.getElem_cons_zero, List.getElem_cons_succ]
      refine AllS.next (v := ?_) rfl rfl rfl (by kernel_rfl) ?_ ?_
      rotate_left
      · refine yieldsS_run (fun _ _ h => h) (by rfl) ?_
        intro L wx hS
        go_simp
        try with_reducible rfl
      simp only [Act.put, List.setIfInBounds_toArray, List.set_cons_zero, List.set_cons_succ, List.getElem_toArray, List.getElem_cons_zero, List.getElem_cons_succ]
      refine AllS.next (v := ?_) rfl rfl rfl (by kernel_rfl) ?_ ?_
      rotate_left
      · refine yieldsS_run (fun _ _ h => h) (by rfl) ?_
        intro L wx hS
        go_simp
        try with_reducible rfl
      simp only [Act.put, List.setIfInBounds_toArray, List.set_cons_zero, List.set_cons_succ, List.getElem_toArray, List.getElem_cons_zero, List.getElem_cons_succ]
      refine AllS.next (v := ?_) rfl rfl rfl (by kernel_rfl) ?_ ?_
      rotate_left
      · refine yieldsS_run (fun _ _ h => h) (by rfl) ?_
        intro L wx hS
        go_simp
        try with_reducible rfl
      simp only [Act.put, List.setIfInBounds_toArray, List.set_cons_zero, List.set_cons_succ, List.getElem_toArray, List.getElem_cons_zero, List.getElem_cons_succ]
      refine AllS.next (v := ?_) rfl rfl rfl (by kernel_rfl) ?_ ?_
      rotate_left
      · refine yieldsS_run (fun _ _ h => h) (by rfl) ?_
        intro L wx hS
        obtain ⟨x0, x1, x2, x3, x4, x5, x6, x7⟩ := Cfg.cells hS.blkc
        go_simp
        try with_reducible rfl
      simp only [Act.put, List.setIfInBounds_toArray, List.set_cons_zero, List.set_cons_succ, List.getElem_toArray, List.getElem_cons_zero, List.getElem_cons_succ]
      refine AllS.next (v := ?_) rfl rfl rfl (by kernel_rfl) ?_ ?_
      rotate_left
      · refine yieldsS_run (fun _ _ h => h) (by rfl) ?_
        intro L wx hS
        obtain ⟨x0, x1, x2, x3, x4, x5, x6, x7⟩ := Cfg.cells hS.blkd
        go_simp
        try with_reducible rfl
      simp only [Act.put, List.setIfInBounds_toArray, List.set_cons_zero, List.set_cons_succ, List.getElem_toArray, List.getElem_cons_zero, List.getElem_cons_succ]
      refine AllS.next (v := .bool b) rfl rfl rfl (by kernel_rfl) ?_ ?_
      · refine yieldsS_call (f := 18) (args := #[vCfg sa sc ra rc c, vCfg ta tc ua uc d]) (by rfl) ?_ ?_
        · intro wx
          go_simp
          try with_reducible rfl
        · intro L wx hS
          exact (cG wx hS.hc hS.hd).mono fun e w' h => ⟨h.1, hS.keep h.2⟩
      simp only [Act.put, List.setIfInBounds_toArray, List.set_cons_zero, List.set_cons_succ, List.getElem_toArray, List.getElem_cons_zero, List.getElem_cons_succ]
      refine AllS.next (v := ?_) rfl rfl rfl (by kernel_rfl) ?_ ?_
      rotate_left
      · refine yieldsS_run (fun _ _ h => h) (by rfl) ?_
        intro L wx hS
        obtain ⟨x0, x1, x2, x3, x4, x5, x6, x7⟩ := Cfg.cells hS.blkc
        go_simp
        try with_reducible rfl
      simp only [Act.put, List.setIfInBounds_toArray, List.set_cons_zero, List.set_cons_succ, List.getElem_toArray, List.getElem_cons_zero, List.getElem_cons_succ]
      refine AllS.next (v := ?_) rfl rfl rfl (by kernel_rfl) ?_ ?_
      rotate_left
      · refine yieldsS_run (fun _ _ h => h) (by rfl) ?_
        intro L wx hS
        obtain ⟨x0, x1, x2, x3, x4, x5, x6, x7⟩ := Cfg.cells hS.blkd
        go_simp
        try with_reducible rfl
      simp only [Act.put, List.setIfInBounds_toArray, List.set_cons_zero, List.set_cons_succ, List.getElem_toArray, List.getElem_cons_zero, List.getElem_cons_succ]
      refine AllS.next (v := .bool b) rfl rfl rfl (by kernel_rfl) ?_ ?_
      · refine yieldsS_call (f := 19) (args := #[vCfg sa sc ra rc c, vCfg ta tc ua uc d]) (by rfl) ?_ ?_
        · intro wx
          go_simp
          try with_reducible rfl
        · intro L wx hS
          exact (cH wx hS.hc hS.hd).mono fun e w' h => ⟨h.1, hS.keep h.2⟩
      simp only [Act.put, List.setIfInBounds_toArray, List.set_cons_zero, List.set_cons_succ, List.getElem_toArray, List.getElem_cons_zero, List.getElem_cons_succ]
      refine AllS.next (v := ?_) rfl rfl rfl (by kernel_rfl) ?_ ?_
      rotate_left
      · refine yieldsS_run (fun _ _ h => h) (by rfl) ?_
        intro L wx hS
        go_simp
        try with_reducible rfl
      simp only [Act.put, List.setIfInBounds_toArray, List.set_cons_zero, List.set_cons_succ, List.getElem_toArray, List.getElem_cons_zero, List.getElem_cons_succ]
      refine AllS.next (v := ?_) rfl rfl rfl (by kernel_rfl) ?_ ?_
      rotate_left
      · refine yieldsS_run (fun _ _ h => h) (by rfl) ?_
        intro L wx hS
        go_simp
        try with_reducible rfl
      simp only [Act.put, List.setIfInBounds_toArray, List.set_cons_zero, List.set_cons_succ, List.getElem_toArray, List.getElem_cons_zero, List.getElem_cons_succ]
      refine AllS.next (v := ?_) rfl rfl rfl (by kernel_rfl) ?_ ?_
      rotate_left
      · refine yieldsS_run (fun _ _ h => h) (by rfl) ?_
        intro L wx hS
        go_simp
        try with_reducible rfl
      simp only [Act.put, List.setIfInBounds_toArray, List.set_cons_zero, List.set_cons_succ, List.getElem_toArray, List.getElem_cons_zero, List.getElem_cons_succ]
      refine AllS.next (v := .bool true) rfl rfl rfl (by kernel_rfl) ?_ ?_
      · refine yieldsS_call (f := 8) (args := #[]) (by rfl) ?_ ?_
        · intro wx
          go_simp
          try with_reducible rfl
        · intro L wx hS
          exact (cA wx).mono fun e w' h => ⟨h.1, hS.keep h.2⟩
      simp only [Act.put, List.setIfInBounds_toArray, List.set_cons_zero, List.set_cons_succ, List.getElem_toArray, List.getElem_cons_zero, List.getElem_cons_succ]
      refine AllS.next (v := ?_) rfl rfl rfl (by kernel_rfl) ?_ ?_
      rotate_left
      · refine yieldsS_run (fun _ _ h => h) (by rfl) ?_
        intro L wx hS
        go_simp
        try with_reducible rfl
      simp only [Act.put, List.setIfInBounds_toArray, List.set_cons_zero, List.set_cons_succ, List.getElem_toArray, List.getElem_cons_zero, List.getElem_cons_succ]
      refine AllS.next (v := ?_) rfl rfl rfl (by kernel_rfl) ?_ ?_
      rotate_left
      · refine yieldsS_run (fun _ _ h => h) (by rfl) ?_
        intro L wx hS
        go_simp
        try with_reducible rfl
      simp only [Act.put, List.setIfInBounds_toArray, List.set_cons_zero, List.set_cons_succ, List.getElem_toArray, List.getElem_cons_zero, List.getElem_cons_succ]
      refine AllS.done rfl ?_
      intro w9 hS
      go_wp2
      go_ret
      exact ⟨rfl, hS.bel⟩
end Go.Proofs.Ythgegjoigkecpaa
