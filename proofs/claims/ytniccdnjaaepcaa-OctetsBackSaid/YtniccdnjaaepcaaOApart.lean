/-
  OctetsApart: Nums and Ints of unlike numbers are unlike, and no Num is the begin of another one.
-/
import Derived.Test.YtniccdnjaaepcaaOctA
import Derived.Test.YtniccdnjaaepcaaPost
import Derived.Test.YtniccdnjaaepcaaNum
import Derived.Test.YtniccdnjaaepcaaIn64
namespace Go.Proofs.Ytniccdnjaaepcaa
open Go.RowKit

theorem Blk.frm {S : Nat → Prop} {w w' : World} {g : Nat} {t : TypeId} {cs : Array Value} (h : Blk w g t cs) (hf : Frm S w w') (hg : ¬ S g) : Blk w' g t cs := (hf.block g h.lt hg).trans h
theorem Bt.stay {S : Nat → Prop} {w w' : World} {k cap : Nat} {ao : Option Addr} {xs : List Nat} (h : Bt w k ao cap xs) (hf : Frm S w w') (hk : ¬ S k) : Bt w' k ao cap xs := h.frm hf fun _ => hk
theorem nilWriter {w : World} {g k : Nat} (hb : Blk w g 27 #[.slice none 0 0]) (hk : g ≠ k) : Wr w g k [] := ⟨none, 0, hb, Ow.nil _ _, hk⟩
theorem same_len {k cap j bcap n m : Nat} {ao bo : Option Addr} {xs ys : List Nat} (hn : n = xs.length) (hm : m = ys.length) (W : World) (hA : Bt W k ao cap xs) (hB : Bt W j bo bcap ys) :
    Calls Try.prog 11 #[.slice ao n cap, .slice bo m bcap] W fun e w' => e = .returned (.bool (decide (xs = ys))) ∧ W = w' := by
  subst hn hm
  exact same_any W hA hB
/-- The four writers, as they are made. -/
theorem four (W : World) : Blk ((((W.alloc (.cells #[.slice none 0 0] 27)).alloc (.cells #[.slice none 0 0] 27)).alloc (.cells #[.slice none 0 0] 27)).alloc (.cells #[.slice none 0 0] 27)) W.heap.size 27 #[.slice none 0 0] ∧
    Blk ((((W.alloc (.cells #[.slice none 0 0] 27)).alloc (.cells #[.slice none 0 0] 27)).alloc (.cells #[.slice none 0 0] 27)).alloc (.cells #[.slice none 0 0] 27)) (W.heap.size + 1) 27 #[.slice none 0 0] ∧
    Blk ((((W.alloc (.cells #[.slice none 0 0] 27)).alloc (.cells #[.slice none 0 0] 27)).alloc (.cells #[.slice none 0 0] 27)).alloc (.cells #[.slice none 0 0] 27)) (W.heap.size + 1 + 1) 27 #[.slice none 0 0] ∧
    Blk ((((W.alloc (.cells #[.slice none 0 0] 27)).alloc (.cells #[.slice none 0 0] 27)).alloc (.cells #[.slice none 0 0] 27)).alloc (.cells #[.slice none 0 0] 27)) (W.heap.size + 1 + 1 + 1) 27 #[.slice none 0 0] ∧
    Below W.heap.size W ((((W.alloc (.cells #[.slice none 0 0] 27)).alloc (.cells #[.slice none 0 0] 27)).alloc (.cells #[.slice none 0 0] 27)).alloc (.cells #[.slice none 0 0] 27)) ∧
    W.heap.size + 4 ≤ ((((W.alloc (.cells #[.slice none 0 0] 27)).alloc (.cells #[.slice none 0 0] 27)).alloc (.cells #[.slice none 0 0] 27)).alloc (.cells #[.slice none 0 0] 27)).heap.size :=
  ⟨(((Blk.new _ _ _).alloc _).alloc _).alloc _, ((Blk.new' (by simp)).alloc _).alloc _, (Blk.new' (by simp)).alloc _, Blk.new' (by simp),
    ((((Below.refl _ W).alloc (Nat.le_refl _) _).alloc (by simp) _).alloc (by simp; omega) _).alloc (by simp; omega) _, by simp⟩
/-- A writer's step: what it leaves. -/
theorem step_w {W w w1 : World} {B g k : Nat} {zs : List Nat} (hB : Below B W w) (hs : B + 4 ≤ w.heap.size) (h : Wrote w g k w1 zs) (hg : B ≤ g) (hk : B ≤ k) :
    ∃ k1, Wr w1 g k1 zs ∧ Frm (fun b => b = g ∨ b = k) w w1 ∧ Below B W w1 ∧ B + 4 ≤ w1.heap.size := by
  obtain ⟨k1, h1, h2, _⟩ := h
  exact ⟨k1, h1, h2, hB.trans (h2.below (by omega) fun b hb => by rcases hb with rfl | rfl <;> assumption), Nat.le_trans hs h2.size⟩
theorem step_b {W w w1 : World} {B : Nat} {v : Value} {xs : List Nat} (hB : Below B W w) (hs : B + 4 ≤ w.heap.size) (h : Fresh w w1 v xs) :
    ∃ ao cap k, v = .slice ao xs.length cap ∧ Bt w1 k ao cap xs ∧ Below w.heap.size w w1 ∧ Below B W w1 ∧ B + 4 ≤ w1.heap.size ∧ B + 4 ≤ k := by
  obtain ⟨ao, cap, k, h1, h2, h3, h4⟩ := h
  exact ⟨ao, cap, k, h1, h2, h3, hB.trans (h3.mono (by omega)), Nat.le_trans hs h3.size, by omega⟩
set_option maxRecDepth 4000 in
set_option maxHeartbeats 1000000 in
theorem apart_road (a b c d : Int) (xa xb yc yd : List Nat) (ba bc : Bool) (tab : (a == b) = ba) (tcd : (c == d) = bc) (hla : xa.length ≤ 10) (hlb : xb.length ≤ 10) (hlc : yc.length ≤ 8) (hld : yd.length ≤ 8)
    (hin : xa.length ≤ xb.length → decide (xa = xb.take xa.length) = ba) (hout : ¬ xa.length ≤ xb.length → ba = false) (hcd : decide (yc = yd) = bc)
    (W : World)
    (cNa : ∀ w g k, Wr w g k [] → Calls Try.prog 18 #[.pointer (some ⟨g, 0, none⟩), .int .u64 a] w fun e w' => e = .returned (.pointer (some ⟨g, 0, none⟩)) ∧ Wrote w g k w' xa)
    (cNb : ∀ w g k, Wr w g k [] → Calls Try.prog 18 #[.pointer (some ⟨g, 0, none⟩), .int .u64 b] w fun e w' => e = .returned (.pointer (some ⟨g, 0, none⟩)) ∧ Wrote w g k w' xb)
    (cIc : ∀ w g k, Wr w g k [] → Calls Try.prog 19 #[.pointer (some ⟨g, 0, none⟩), .int .i64 c] w fun e w' => e = .returned (.pointer (some ⟨g, 0, none⟩)) ∧ Wrote w g k w' yc)
    (cId : ∀ w g k, Wr w g k [] → Calls Try.prog 19 #[.pointer (some ⟨g, 0, none⟩), .int .i64 d] w fun e w' => e = .returned (.pointer (some ⟨g, 0, none⟩)) ∧ Wrote w g k w' yd)
    (cB : ∀ w g k xs, xs.length ≤ 2000000 → Wr w g k xs → Calls Try.prog 12 #[.pointer (some ⟨g, 0, none⟩)] w fun e w' => ∃ v, e = .returned v ∧ Fresh w w' v xs)
    (cA : ∀ w, Calls Try.prog 8 #[] w fun e w' => e = .returned (.bool true) ∧ Below w.heap.size w w') :
    Calls Try.prog 6 #[.int .u64 a, .int .u64 b, .int .i64 c, .int .i64 d] W fun e w' => e = .returned (.bool true) ∧ Below W.heap.size W w' := by
  obtain ⟨b0, b1, b2, b3, hB0, hs0⟩ := four W
  by_cases hle : xa.length ≤ xb.length
  · have hin' := hin hle
    have htk : (xb.take xa.length).length = xa.length := by rw [List.length_take]; omega
    clear hin hout
    go_enter Try.func6, Try.ntmps6
    go_wp2_with (first
      | (go_at_call 18; refine (cNa _ _ (W.heap.size + 4) (nilWriter b0 (by omega))).mono ?_; rintro e w1 ⟨rfl, hw1⟩; obtain ⟨k1, hr1, hf1, hB1, hs1⟩ := step_w hB0 hs0 hw1 (by omega) (by omega); replace b1 := b1.frm hf1 (by omega); replace b2 := b2.frm hf1 (by omega); replace b3 := b3.frm hf1 (by omega); clear b0 hB0 hs0 hf1 hw1)
      | (go_at_call 12; refine (cB _ _ _ _ (by omega) hr1).mono ?_; rintro e w2 ⟨v, rfl, hw2⟩; obtain ⟨ap, cp, kp, rfl, hP, hb2, hB2, hs2, hkp⟩ := step_b hB1 hs1 hw2; replace b1 := b1.below hb2 b1.lt; replace b2 := b2.below hb2 b2.lt; replace b3 := b3.below hb2 b3.lt; clear hr1 hB1 hs1 hb2 hw2)
      | (go_at_call 18; refine (cNb _ _ W.heap.size (nilWriter b1 (by omega))).mono ?_; rintro e w3 ⟨rfl, hw3⟩; obtain ⟨k3, hr3, hf3, hB3, hs3⟩ := step_w hB2 hs2 hw3 (by omega) (by omega); replace hP := hP.stay hf3 (by omega); replace b2 := b2.frm hf3 (by omega); replace b3 := b3.frm hf3 (by omega); clear b1 hB2 hs2 hf3 hw3)
      | (go_at_call 12; refine (cB _ _ _ _ (by omega) hr3).mono ?_; rintro e w4 ⟨v, rfl, hw4⟩; obtain ⟨aq, cq, kq, rfl, hQ, hb4, hB4, hs4, hkq⟩ := step_b hB3 hs3 hw4; replace hP := hP.below hb4; replace b2 := b2.below hb4 b2.lt; replace b3 := b3.below hb4 b3.lt; clear hr3 hB3 hs3 hb4 hw4)
      | (go_at_call 19; refine (cIc _ _ W.heap.size (nilWriter b2 (by omega))).mono ?_; rintro e w5 ⟨rfl, hw5⟩; obtain ⟨k5, hr5, hf5, hB5, hs5⟩ := step_w hB4 hs4 hw5 (by omega) (by omega); replace hP := hP.stay hf5 (by omega); replace hQ := hQ.stay hf5 (by omega); replace b3 := b3.frm hf5 (by omega); clear b2 hB4 hs4 hf5 hw5)
      | (go_at_call 12; refine (cB _ _ _ _ (by omega) hr5).mono ?_; rintro e w6 ⟨v, rfl, hw6⟩; obtain ⟨aS, cs, ks, rfl, hS, hb6, hB6, hs6, hks⟩ := step_b hB5 hs5 hw6; replace hP := hP.below hb6; replace hQ := hQ.below hb6; replace b3 := b3.below hb6 b3.lt; clear hr5 hB5 hs5 hb6 hw6)
      | (go_at_call 19; refine (cId _ _ W.heap.size (nilWriter b3 (by omega))).mono ?_; rintro e w7 ⟨rfl, hw7⟩; obtain ⟨k7, hr7, hf7, hB7, hs7⟩ := step_w hB6 hs6 hw7 (by omega) (by omega); replace hP := hP.stay hf7 (by omega); replace hQ := hQ.stay hf7 (by omega); replace hS := hS.stay hf7 (by omega); clear b3 hB6 hs6 hf7 hw7)
      | (go_at_call 12; refine (cB _ _ _ _ (by omega) hr7).mono ?_; rintro e w8 ⟨v, rfl, hw8⟩; obtain ⟨at', ct, kt, rfl, hT, hb8, hB8, hs8, hkt⟩ := step_b hB7 hs7 hw8; replace hP := hP.below hb8; replace hQ := hQ.below hb8; replace hS := hS.below hb8; have hl8 := hQ.len; have hm8 := hQ.top; unfold maxLen at hm8; clear hr7 hB7 hs7 hb8 hw8)
      | (go_at_call 11; refine (same_len rfl htk.symm _ hP (hQ.take hle)).mono ?_; rintro e w9 ⟨rfl, rfl⟩; rw [hin']; clear hP)
      | (go_at_call 11; refine (same_len rfl rfl _ hS hT).mono ?_; rintro e w9 ⟨rfl, rfl⟩; rw [hcd]; clear hS)
      | (go_at_call 8; refine (cA _).mono ?_; rintro e w10 ⟨rfl, hbA⟩; replace hB8 := hB8.trans (hbA.mono (by omega))))
    go_ret
    exact ⟨rfl, hB8⟩
  · have hb := hout hle
    rw [hb] at tab
    clear hin hout
    go_enter Try.func6, Try.ntmps6
    go_wp2_with (first
      | (go_at_call 18; refine (cNa _ _ (W.heap.size + 4) (nilWriter b0 (by omega))).mono ?_; rintro e w1 ⟨rfl, hw1⟩; obtain ⟨k1, hr1, hf1, hB1, hs1⟩ := step_w hB0 hs0 hw1 (by omega) (by omega); replace b1 := b1.frm hf1 (by omega); replace b2 := b2.frm hf1 (by omega); replace b3 := b3.frm hf1 (by omega); clear b0 hB0 hs0 hf1 hw1)
      | (go_at_call 12; refine (cB _ _ _ _ (by omega) hr1).mono ?_; rintro e w2 ⟨v, rfl, hw2⟩; obtain ⟨ap, cp, kp, rfl, hP, hb2, hB2, hs2, hkp⟩ := step_b hB1 hs1 hw2; replace b1 := b1.below hb2 b1.lt; replace b2 := b2.below hb2 b2.lt; replace b3 := b3.below hb2 b3.lt; clear hr1 hB1 hs1 hb2 hw2)
      | (go_at_call 18; refine (cNb _ _ W.heap.size (nilWriter b1 (by omega))).mono ?_; rintro e w3 ⟨rfl, hw3⟩; obtain ⟨k3, hr3, hf3, hB3, hs3⟩ := step_w hB2 hs2 hw3 (by omega) (by omega); replace hP := hP.stay hf3 (by omega); replace b2 := b2.frm hf3 (by omega); replace b3 := b3.frm hf3 (by omega); clear b1 hB2 hs2 hf3 hw3)
      | (go_at_call 12; refine (cB _ _ _ _ (by omega) hr3).mono ?_; rintro e w4 ⟨v, rfl, hw4⟩; obtain ⟨aq, cq, kq, rfl, hQ, hb4, hB4, hs4, hkq⟩ := step_b hB3 hs3 hw4; replace hP := hP.below hb4; replace b2 := b2.below hb4 b2.lt; replace b3 := b3.below hb4 b3.lt; clear hr3 hB3 hs3 hb4 hw4)
      | (go_at_call 19; refine (cIc _ _ W.heap.size (nilWriter b2 (by omega))).mono ?_; rintro e w5 ⟨rfl, hw5⟩; obtain ⟨k5, hr5, hf5, hB5, hs5⟩ := step_w hB4 hs4 hw5 (by omega) (by omega); replace hP := hP.stay hf5 (by omega); replace hQ := hQ.stay hf5 (by omega); replace b3 := b3.frm hf5 (by omega); clear b2 hB4 hs4 hf5 hw5)
      | (go_at_call 12; refine (cB _ _ _ _ (by omega) hr5).mono ?_; rintro e w6 ⟨v, rfl, hw6⟩; obtain ⟨aS, cs, ks, rfl, hS, hb6, hB6, hs6, hks⟩ := step_b hB5 hs5 hw6; replace hP := hP.below hb6; replace hQ := hQ.below hb6; replace b3 := b3.below hb6 b3.lt; clear hr5 hB5 hs5 hb6 hw6)
      | (go_at_call 19; refine (cId _ _ W.heap.size (nilWriter b3 (by omega))).mono ?_; rintro e w7 ⟨rfl, hw7⟩; obtain ⟨k7, hr7, hf7, hB7, hs7⟩ := step_w hB6 hs6 hw7 (by omega) (by omega); replace hP := hP.stay hf7 (by omega); replace hQ := hQ.stay hf7 (by omega); replace hS := hS.stay hf7 (by omega); clear b3 hB6 hs6 hf7 hw7)
      | (go_at_call 12; refine (cB _ _ _ _ (by omega) hr7).mono ?_; rintro e w8 ⟨v, rfl, hw8⟩; obtain ⟨at', ct, kt, rfl, hT, hb8, hB8, hs8, hkt⟩ := step_b hB7 hs7 hw8; replace hP := hP.below hb8; replace hQ := hQ.below hb8; replace hS := hS.below hb8; have hl8 := hQ.len; have hm8 := hQ.top; unfold maxLen at hm8; clear hr7 hB7 hs7 hb8 hw8)
      | (go_at_call 11; refine (same_len rfl rfl _ hS hT).mono ?_; rintro e w9 ⟨rfl, rfl⟩; rw [hcd]; clear hS)
      | (go_at_call 8; refine (cA _).mono ?_; rintro e w10 ⟨rfl, hbA⟩; replace hB8 := hB8.trans (hbA.mono (by omega))))
    go_ret
    exact ⟨rfl, hB8⟩
theorem apart_any (a0 a1 a2 a3 : Int) (h0 : Word a0) (h1 : Word a1) (h2 : In64 a2) (h3 : In64 a3) (W : World) :
    Calls Try.prog 6 #[.int .u64 a0, .int .u64 a1, .int .i64 a2, .int .i64 a3] W fun e w' => e = .returned (.bool true) ∧ Below W.heap.size W w' := by
  obtain ⟨h00, h01⟩ := h0
  obtain ⟨h10, h11⟩ := h1
  obtain ⟨h20, h21⟩ := h2
  obtain ⟨h30, h31⟩ := h3
  obtain ⟨a, rfl⟩ : ∃ a : Nat, a0 = (a : Int) := ⟨a0.toNat, by omega⟩
  obtain ⟨b, rfl⟩ : ∃ b : Nat, a1 = (b : Int) := ⟨a1.toNat, by omega⟩
  have ha : a < 18446744073709551616 := by omega
  have hb : b < 18446744073709551616 := by omega
  have t1 : (((a : Int) == (b : Int)) : Bool) = decide (a = b) := by
    by_cases h : a = b
    · rw [h]; simp
    · rw [decide_eq_false h]; simp; omega
  have t2 : ((a2 == a3) : Bool) = decide (a2 = a3) := by
    by_cases h : a2 = a3
    · rw [h]; simp
    · rw [decide_eq_false h]; simpa using h
  refine apart_road a b a2 a3 (num a) (num b) (be 8 (zig a2)) (be 8 (zig a3)) _ _ t1 t2 (num_ten ha) (num_ten hb) (by rw [be_length]; omega) (by rw [be_length]; omega) ?_ ?_ ?_ W ?_ ?_ ?_ ?_ ?_ alive3_any
  · intro hle
    by_cases h : a = b
    · rw [h, List.take_length]; simp
    · rw [decide_eq_false h, decide_eq_false fun e => h ?_]
      refine num_apart ha hb ((num b).drop (num a).length) ?_
      conv => lhs; rw [← List.take_append_drop (num a).length (num b)]
      rw [← e]
  · intro hle
    refine decide_eq_false fun e => hle ?_
    rw [e]
    exact Nat.le_refl _
  · by_cases h : a2 = a3
    · rw [h]; simp
    · rw [decide_eq_false h, decide_eq_false fun e => h (zig_apart h20 h21 h30 h31 e)]
  · intro w g k h
    have := num_any a ha g k [] (by simp) w h
    rwa [List.nil_append] at this
  · intro w g k h
    have := num_any b hb g k [] (by simp) w h
    rwa [List.nil_append] at this
  · intro w g k h
    have := int_any a2 h20 h21 g k [] (by simp) w h
    rwa [List.nil_append] at this
  · intro w g k h
    have := int_any a3 h30 h31 g k [] (by simp) w h
    rwa [List.nil_append] at this
  · intro w g k xs hx h
    exact bytes_any g k xs hx w h
end Go.Proofs.Ytniccdnjaaepcaa
