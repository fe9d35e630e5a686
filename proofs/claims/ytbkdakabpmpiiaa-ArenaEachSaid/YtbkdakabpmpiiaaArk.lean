/-
  ArenaPlays.
-/
import Derived.Test.YtbkdakabpmpiiaaArj
namespace Go.Proofs.Ytbkdakabpmpiiaa
open Go.RowKit
/-- The two as they begin. -/
theorem Bo.start {W w1 w2 : World} {n : Nat} {c : Array Value} (hb1 : Below W.heap.size W w1) (h1 : Blk w1 W.heap.size 58 c) (hA : Arn c (Ar.new n)) (hb2 : Below w1.heap.size w1 w2) (hR : RA w2 (w1.heap.size + 1 + 1) (fun b => w1.heap.size ≤ b ∧ b < w1.heap.size + 3) (Ar.new n)) :
    Bo W (fun _ => False) W.heap.size (w1.heap.size + 1 + 1) (Ar.new n) (Ar.new n) w2 := by
  have hl := h1.lt
  refine ⟨(Frm.of_below (S := fun _ => False) hb1).mono (fun b _ f => f.elim) |>.trans (Frm.of_below (S := fun _ => False) hb2) (fun _ f => f.elim), ⟨c, h1.below hb2 hl, hA⟩, _, hR, fun e => by omega, fun b hb => .inr (by omega)⟩
theorem Bo.bel {W w : World} {g r : Nat} {s t : Ar} (h : Bo W (fun _ => False) g r s t w) (hg : W.heap.size ≤ g) : Below W.heap.size W w :=
  h.frm.below (Nat.le_refl _) (fun b hb => by rcases hb with hb | hb; exact (by omega); exact hb.elim)
set_option maxRecDepth 8000 in
set_option maxHeartbeats 1000000 in
theorem alive9_any (W : World) : Calls Try.prog 7 #[] W fun e w' => e = .returned (.bool true) ∧ Below W.heap.size W w' := by
  have cN : Calls Try.prog 8 #[.int .i64 3] W _ := new_any 3 (by omega) (by omega) W
  obtain ⟨s1, h1⟩ : ∃ s1, s1 = (Ar.new 3).put 0 ⟨1, 0, 0, 0, 0, 0, 0⟩ := ⟨_, rfl⟩
  obtain ⟨s2, h2⟩ : ∃ s2, s2 = s1.put 1 ⟨2, 0, 0, 0, 0, 0, 0⟩ := ⟨_, rfl⟩
  obtain ⟨s3, h3⟩ : ∃ s3, s3 = s2.drop 0 := ⟨_, rfl⟩
  obtain ⟨s4, h4⟩ : ∃ s4, s4 = s3.put 0 ⟨3, 0, 0, 0, 0, 0, 0⟩ := ⟨_, rfl⟩
  have t1 : ∀ c w, Blk w W.heap.size 58 c → Arn c (Ar.new 3) → Calls Try.prog 16 #[.pointer (some ⟨W.heap.size, 0, none⟩), vOrd ⟨1, 0, 0, 0, 0, 0, 0⟩] w fun e w' => e = .returned (.tuple #[.int .i64 0, .int .i64 0]) ∧ Frm (fun b => b = W.heap.size) w w' ∧ ∃ c', Blk w' W.heap.size 58 c' ∧ Arn c' s1 :=
    fun c w hB hA => by rw [h1]; exact take_any _ c _ _ 0 w hB hA rfl
  have t2 : ∀ c w, Blk w W.heap.size 58 c → Arn c s1 → Calls Try.prog 16 #[.pointer (some ⟨W.heap.size, 0, none⟩), vOrd ⟨2, 0, 0, 0, 0, 0, 0⟩] w fun e w' => e = .returned (.tuple #[.int .i64 1, .int .i64 0]) ∧ Frm (fun b => b = W.heap.size) w w' ∧ ∃ c', Blk w' W.heap.size 58 c' ∧ Arn c' s2 :=
    fun c w hB hA => by rw [h2]; exact take_any _ c _ _ 1 w hB hA (by rw [h1]; rfl)
  have t3 : ∀ c w, Blk w W.heap.size 58 c → Arn c s2 → Calls Try.prog 18 #[.pointer (some ⟨W.heap.size, 0, none⟩), .int .i64 0] w fun e w' => e = .returned (.bool true) ∧ Frm (fun b => b = W.heap.size) w w' ∧ ∃ c', Blk w' W.heap.size 58 c' ∧ Arn c' s3 :=
    fun c w hB hA => by
      have := drop_any _ c s2 0 w hB hA
      rw [show s2.hasI 0 = true by rw [h2, h1]; rfl, if_pos rfl] at this
      rw [h3]; exact this
  have t4 : ∀ c w, Blk w W.heap.size 58 c → Arn c s3 → Calls Try.prog 16 #[.pointer (some ⟨W.heap.size, 0, none⟩), vOrd ⟨3, 0, 0, 0, 0, 0, 0⟩] w fun e w' => e = .returned (.tuple #[.int .i64 0, .int .i64 0]) ∧ Frm (fun b => b = W.heap.size) w w' ∧ ∃ c', Blk w' W.heap.size 58 c' ∧ Arn c' s4 :=
    fun c w hB hA => by rw [h4]; exact take_any _ c _ _ 0 w hB hA (by rw [h3, h2, h1]; rfl)
  have t5 : ∀ c w, Blk w W.heap.size 58 c → Arn c s4 → Calls Try.prog 11 #[.pointer (some ⟨W.heap.size, 0, none⟩)] w fun e w' => e = .returned (.int .i64 2) ∧ w' = w :=
    fun c w hB hA => by
      have := used_any _ c s4 w hB hA
      rw [show s4.used = 2 by rw [h4, h3, h2, h1]; rfl] at this
      exact this
  have t6 : ∀ c w, Blk w W.heap.size 58 c → Arn c s4 → Calls Try.prog 13 #[.pointer (some ⟨W.heap.size, 0, none⟩)] w fun e w' => e = .returned (.int .i64 1) ∧ ∃ n, w' = w.drewN n :=
    fun c w hB hA => by
      have := room_any _ c s4 w hB hA
      rw [show s4.fr.length = 1 by rw [h4, h3, h2, h1]; rfl] at this
      exact this
  clear h1 h2 h3 h4
  obtain ⟨s0, h0⟩ : ∃ s0, s0 = Ar.new 3 := ⟨_, rfl⟩
  rw [← h0] at cN t1
  clear h0
  go_enter Try.func7, Try.ntmps7
  go_wp2_with (first
    | (go_at_call 8; refine cN.mono ?_; rintro e w1 ⟨rfl, hb1, c1, hB1, hA1⟩; clear cN)
    | (go_at_call 16; (with_reducible refine (t1 c1 w1 hB1 hA1).mono ?_); rintro e w2 ⟨rfl, hf2, c2, hB2, hA2⟩; clear hB1 hA1)
    | (go_at_call 16; (with_reducible refine (t2 c2 w2 hB2 hA2).mono ?_); rintro e w3 ⟨rfl, hf3, c3, hB3, hA3⟩; clear hB2 hA2)
    | (go_at_call 18; (with_reducible refine (t3 c3 w3 hB3 hA3).mono ?_); rintro e w4 ⟨rfl, hf4, c4, hB4, hA4⟩; clear hB3 hA3)
    | (go_at_call 16; (with_reducible refine (t4 c4 w4 hB4 hA4).mono ?_); rintro e w5 ⟨rfl, hf5, c5, hB5, hA5⟩; clear hB4 hA4)
    | (go_at_call 11; (with_reducible refine (t5 c5 w5 hB5 hA5).mono ?_); rintro e w6 ⟨rfl, rfl⟩)
    | (go_at_call 13; (with_reducible refine (t6 c5 _ hB5 hA5).mono ?_); rintro e w7 ⟨rfl, n7, rfl⟩))
  go_ret
  refine ⟨rfl, below_drewN ?_ _⟩
  refine hb1.trans ?_
  exact (((hf2.trans hf3 (fun b h => .inl h)).trans hf4 (fun b h => .inl h)).trans hf5 (fun b h => .inl h)).below (by have := hb1.size; omega) (fun b h => by omega)
set_option maxRecDepth 8000 in
set_option maxHeartbeats 1000000 in
theorem plays_any (x : Int) (ao : Option Addr) (cap : Nat) (l : List Act) (W : World) (hL : Acts W ao cap l) :
    Calls Try.prog 3 #[.int .i64 x, .slice ao l.length cap] W fun e w' => e = .returned (.bool true) ∧ Below W.heap.size W w' := by
  have cA := fun w => alive9_any w
  have hl1 := hL.len
  have hl2 := hL.top
  unfold maxLen at hl2
  by_cases hx : x < 1 ∨ 500 < x
  · have c1 := newNo_any x hx W
    have c2 := rnewNo_any x hx W
    go_enter Try.func3, Try.ntmps3
    go_wp2_with (first
      | (go_at_call 7; refine (cA _).mono ?_; rintro e w4 ⟨rfl, hb4⟩)
      | (go_at_call 8; refine c1.mono ?_; rintro e w1 ⟨rfl, rfl⟩)
      | (go_at_call 9; refine c2.mono ?_; rintro e w2 ⟨rfl, rfl⟩))
    all_goals
      go_ret
      exact ⟨by simp, hb4⟩
  · obtain ⟨n, rfl, hn1, hn2⟩ : ∃ n : Nat, x = (n : Int) ∧ 1 ≤ n ∧ n ≤ 500 := ⟨x.toNat, by omega, by omega, by omega⟩
    clear hx
    have c1 := new_any n hn1 hn2 W
    have c2 := fun w => rnew_any n hn1 hn2 w
    obtain ⟨s0, h0⟩ : ∃ s0, s0 = Ar.new n := ⟨_, rfl⟩
    have hs0 : s0.n = n := by rw [h0]; rfl
    have bs := @Bo.start W
    by_cases hlen : 200 < l.length
    · clear c1 c2
      go_enter Try.func3, Try.ntmps3
      go_wp2_with (go_at_call 7; refine (cA _).mono ?_; rintro e w4 ⟨rfl, hb4⟩)
      go_ret
      exact ⟨by simp, hb4⟩
    go_enter Try.func3, Try.ntmps3
    go_wp2_with (first
      | (go_at_call 8; refine c1.mono ?_; rintro e w1 ⟨rfl, hb1, c, hB1, hA1⟩; clear c1)
      | (go_at_call 9; refine (c2 w1).mono ?_; rintro e w2 ⟨rfl, hb2, hR2⟩; have k0 := Bo.start hb1 hB1 hA1 hb2 hR2; clear c2))
    rw [← h0] at k0
    clear hA1 hR2 hB1 bs
    generalize w1.heap.size + 1 + 1 = r at k0 ⊢
    have hg0 : W.heap.size ≤ W.heap.size := Nat.le_refl _
    obtain ⟨g, hg⟩ : ∃ g, g = W.heap.size := ⟨_, rfl⟩
    rw [← hg] at k0 ⊢
    have hgW : W.heap.size ≤ g := by omega
    clear hg hg0 h0 hb1 hb2
    go_loopg [9] l.length (fun j p9 wr => ∃ (q : Nat) (s : Ar), q + j = l.length ∧ p9 = .int .i64 (q : Int) ∧ s.n = n ∧ Bo W (fun _ => False) g r s s wr)
    case atStart => exact ⟨0, s0, by omega, rfl, hs0, k0⟩
    case round =>
      clear k0 hs0
      obtain ⟨q, s, hq, rfl, hs, k⟩ := hrel
      by_cases hj : q < l.length
      · obtain ⟨m, hm⟩ : ∃ m, l[q]? = some m := ⟨l[q], List.getElem?_eq_getElem hj⟩
        have hb := k.bel hgW
        obtain ⟨b, off, rfl, y0, y1, y2, y3, y4, y5, y6, y7, y8⟩ := (hL.below hb).get hm
        replace y0 : wr.cell? ⟨b, off + q * 9, none⟩ = some (.int .i64 m.kind) := y0
        have cX := act_any k m
        obtain ⟨s', hs'⟩ : ∃ s', s' = s.act m := ⟨_, rfl⟩
        have hs2 : s'.n = n := by rw [hs', s.act_n]; exact hs
        rw [← hs'] at cX
        have cU := fun w (h : Bo W (fun _ => False) g r s' s' w) => bUsed h
        have cV := fun w (h : Bo W (fun _ => False) g r s' s' w) => bUsedR h
        have cR := fun w (h : Bo W (fun _ => False) g r s' s' w) => bRoom h
        have hu : ∀ w, Bo W (fun _ => False) g r s' s' w → s'.used + s'.fr.length = n := fun w h => by
          obtain ⟨c, -, ha⟩ := h.arn
          rw [← hs2]
          exact ha.wf.cnt
        generalize s'.used = u at cU cV hu
        generalize s'.fr.length = f at cR hu
        clear hs' hm hb hs k hL
        obtain ⟨kind, slot, a1, a2, a3, a4, a5, a6, a7⟩ := m
        simp only at y0 y1 y2 y3 y4 y5 y6 y7 y8
        go_wp2_with (first
          | (go_at_call 10; refine cX.mono ?_; rintro e w3 ⟨rfl, k3⟩; have hu3 := hu _ k3; clear cX y0 y1 y2 y3 y4 y5 y6 y7 y8 hu)
          | (go_at_call 11; refine (cU _ k3).mono ?_; rintro e w4 ⟨rfl, rfl⟩; clear cU)
          | (go_at_call 12; refine (cV _ k3).mono ?_; rintro e w4 ⟨rfl, rfl⟩)
          | (go_at_call 13; refine (cR _ k3).mono ?_; rintro e w5 ⟨rfl, n5, rfl⟩; replace k3 := k3.below (below_drewN (Below.refl _ _) n5); clear cR))
        go_roundg (l.length - (q + 1))
        case measure => omega
        case rel => exact ⟨q + 1, s', by omega, by go_num, hs2, k3⟩
      · go_wp2_with (go_at_call 7; refine (cA _).mono ?_; rintro e w4 ⟨rfl, hb4⟩)
        go_ret
        exact ⟨rfl, (k.below hb4).bel hgW⟩
end Go.Proofs.Ytbkdakabpmpiiaa
