/-
  MessageStreams, for all messages and bytes.
-/
import Derived.Test.YtalgpbjonkcldaaMsgK
import Derived.Test.YtalgpbjonkcldaaMsgS
import Derived.Test.YtalgpbjonkcldaaMsgL
import Derived.Test.YtalgpbjonkcldaaMsgX
import Derived.Test.YtalgpbjonkcldaaPost
namespace Go.Proofs.Ytalgpbjonkcldaa
open Go.RowKit
theorem mlists_true {us : List Msg} {ac bc n m : Nat} {ao bo : Option Addr} (W : World) (hA : Msgs W ao ac us) (hB : Msgs W bo bc us) (hn : n = us.length) (hm : m = us.length) :
    Calls Try.prog 20 #[.slice ao n ac, .slice bo m bc] W fun e w' => e = .returned (.bool true) ∧ Below W.heap.size W w' := by
  subst hn
  subst hm
  refine (mlists_any ac bc ao bo us us W hA hB).mono ?_
  rintro e w' ⟨rfl, m, rfl⟩
  exact ⟨by simp, Below.drewN (Below.refl _ _) m⟩
set_option maxRecDepth 8000 in
set_option maxHeartbeats 2000000 in
theorem mstreams_any (c0 : Nat) (o0 : Option Addr) (l : List Msg) (hF : ∀ m ∈ l, m.Fit) (kb cb : Nat) (ob : Option Addr) (xs : List Nat) (W : World) (hL : Msgs W o0 c0 l) (hB : Bt W kb ob cb xs) :
    Calls Try.prog 5 #[.slice o0 l.length c0, .slice ob xs.length cb] W fun e w' => e = .returned (.bool true) ∧ Below W.heap.size W w' := by
  have h1 := hL.len
  have h2 := hL.top
  have h3 := hB.len
  have h4 := hB.top
  unfold maxLen at h2 h4
  have cA := fun w => alive6_any w
  by_cases hs : l.length ≤ 60 ∧ xs.length ≤ 3000
  · obtain ⟨hs1, hs2⟩ := hs
    have cP := fun w h => stream_any c0 o0 l (by omega) hF w h
    have cQ := fun w h => rstream_any c0 o0 l (by omega) hF w h
    have cU := fun w h => mall_any kb cb ob xs (by omega) w h
    have cV := fun w h => rall_any kb cb ob xs (by omega) w h
    unfold AllM at cU cV
    generalize strF l = p at cP cQ
    generalize allM xs = q at cU cV
    obtain ⟨X, f⟩ := p
    obtain ⟨ms, g⟩ := q
    simp only at cP cQ cU cV
    have cS := fun w kx ky ax ay bx bt (hA : Bt w kx ax bx X) (hC : Bt w ky ay bt X) => same_true w hA hC rfl rfl
    have cL := fun w ax ay bx bt (hA : Msgs w ax bx ms) (hC : Msgs w ay bt ms) => mlists_true w hA hC rfl rfl
    clear hF
    go_enter Try.func5, Try.ntmps5
    go_wp2_with (first
      | (go_at_call 16; refine (cP _ hL).mono ?_; rintro e w1 ⟨a1, p1, k1, rfl, hX1, hb1⟩; have hL1 := hL.below hb1; have hB1 := hB.below hb1)
      | (go_at_call 17; refine (cQ _ hL1).mono ?_; rintro e w2 ⟨a2, p2, k2, rfl, hX2, hb2⟩; have hB2 := hB1.below hb2; replace hX1 := hX1.below hb2; have hb12 := hb1.trans (hb2.mono hb1.size))
      | (go_at_call 18; refine (cU _ hB2).mono ?_; rintro e w3 ⟨a3, p3, rfl, hM1, hb3⟩; have hB3 := hB2.below hb3; replace hX1 := hX1.below hb3; replace hX2 := hX2.below hb3; have hb13 := hb12.trans (hb3.mono hb12.size))
      | (go_at_call 19; refine (cV _ hB3).mono ?_; rintro e w4 ⟨a4, p4, rfl, hM2, hb4⟩; replace hX1 := hX1.below hb4; replace hX2 := hX2.below hb4; replace hM1 := hM1.below hb4; have hb14 := hb13.trans (hb4.mono hb13.size))
      | (go_at_call 9; refine (cS _ _ _ _ _ _ _ hX1 hX2).mono ?_; rintro e w5 ⟨rfl, rfl⟩)
      | (go_at_call 20; refine (cL _ _ _ _ _ hM1 hM2).mono ?_; rintro e w6 ⟨rfl, hb6⟩; have hb16 := hb14.trans (hb6.mono hb14.size))
      | (go_at_call 13; refine (cA _).mono ?_; rintro e w7 ⟨rfl, hb7⟩))
    go_ret
    exact ⟨rfl, hb16.trans (hb7.mono hb16.size)⟩
  · go_enter Try.func5, Try.ntmps5
    go_wp2_with (go_at_call 13; refine (cA _).mono ?_; rintro e w7 ⟨rfl, hb7⟩)
    all_goals first
      | (exfalso; omega)
      | (go_ret; exact ⟨rfl, hb7⟩)
end Go.Proofs.Ytalgpbjonkcldaa
