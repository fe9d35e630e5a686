/-
  The walk of FifoEach.
-/
import Derived.Test.YtipmhialflincaaDoorFpl
import Derived.Test.YtipmhialflincaaDoorFiz
import Derived.Test.YtipmhialflincaaDoorEnt
import Derived.RangeFuncCalls
import Derived.Shelf.RegionOpen
namespace Go.Proofs.YtipmhialflincaaDoor
open Go.RowKit
set_option linter.unusedSimpArgs false
attribute [local go_sem] Oper.semAt_some
attribute [local go_sem] wide_fn
set_option maxRecDepth 100000 in
set_option maxHeartbeats 4000000 in
theorem feach_any (x y : Int) (ao : Option Addr) (cap : Nat) (l : List Fac) (i stop : Int) (W : World) (hG : Gl W) (hL : Facs W ao cap l) :
    Calls Tryd.prog 4 #[.int .i64 x, .int .i64 y, .slice ao l.length cap, .int .i64 i, .int .i64 stop] W fun e w' => e = .returned (.bool true) ∧ Below W.heap.size W w' := by
  have hl1 := hL.len
  have hl2 := hL.top
  unfold maxLen at hl2
  have hz2 := hG.two
  obtain ⟨W1, hW1⟩ : ∃ W1, W1 = (W.alloc (.cells #[.int .i64 stop] 3)).alloc (.cells #[.bool false] 4) := ⟨_, rfl⟩
  have m1 : Mem W [(W.heap.size + 1, 4, #[.bool false]), (W.heap.size, 3, #[.int .i64 stop])] W1 := by
    rw [hW1]
    exact ((Mem.start W).new _ _).new' _ _ (by simp)
  have hG1 : Gl W1 := hG.belowB hz2 m1.below
  refine (callsIn_wide (n := 6)).1 ?_
  refine callsIn_of_wp_marks Tryd.func4 rfl trivial ?_ rfl
  simp only [Tryd.ntmps4, List.size_toArray, List.length_cons, List.length_nil, Nat.reduceAdd, Nat.reduceSub, Array.replicate_succ, Array.replicate_zero, List.push_toArray, List.append_toArray, List.nil_append, List.cons_append]
  refine wpIn_wide.2 ?_
  by_cases hx : x < 1 ∨ 500 < x ∨ y < 1 ∨ 400 < y
  · have c2 := fun w => rnewNo_any x y hx w
    clear hx
    go_wp2_with (first
      | (go_at_call 7; rw [← hW1]; refine (alive_any W1 hG1).mono ?_; rintro e w2 ⟨rfl, hb2⟩; have m2 := m1.keep hb2; clear m1 hW1 hb2)
      | (go_at_call 9; refine (c2 w2).mono ?_; rintro e w2 ⟨rfl, rfl⟩; have h2 := m2.blk (W.heap.size + 1) 4 #[.bool false] (by simp); have c3 : w2.cell? ⟨W.heap.size + 1, 0, none⟩ = some (.bool false) := h2.cell_eq 0 _ rfl; have c4 := h2.free 0))
    all_goals
      have hcr : (w2.setCell ⟨W.heap.size + 1, 0, none⟩ (.bool true)).cell? ⟨W.heap.size + 1, 0, none⟩ = some (.bool true) := (h2.set 0 (.bool true)).cell_eq 0 _ rfl
      refine ⟨.bool true, ?_, rfl, m2.below.setCell (p := ⟨W.heap.size + 1, 0, none⟩) (by simp) _⟩
      simp [results, Tryd.results4, go_sem, hcr]
  obtain ⟨n, rfl, hn1, hn2⟩ : ∃ n : Nat, x = (n : Int) ∧ 1 ≤ n ∧ n ≤ 500 := ⟨x.toNat, by omega, by omega, by omega⟩
  obtain ⟨m, rfl, hm1, hm2⟩ : ∃ m : Nat, y = (m : Int) ∧ 1 ≤ m ∧ m ≤ 400 := ⟨y.toNat, by omega, by omega, by omega⟩
  clear hx
  have c1 := fun w h => new_any n m hn1 hn2 hm1 hm2 w h
  have c2 := fun w => rnew_any n m hn1 hn2 hm1 hm2 w
  obtain ⟨s0, h0⟩ : ∃ s0, s0 = Fq.new n m := ⟨_, rfl⟩
  rw [← h0] at c1 c2
  clear h0
  by_cases hlen : 200 < l.length
  · go_wp2_with (first
      | (go_at_call 7; rw [← hW1]; refine (alive_any W1 hG1).mono ?_; rintro e w2 ⟨rfl, hb2⟩; have m2 := m1.keep hb2; clear m1 hW1 hb2)
      | (go_at_call 9; refine (c2 w2).mono ?_; rintro e w3 ⟨rfl, hb3, -⟩; have m3 := m2.keep hb3; have h2 := m3.blk (W.heap.size + 1) 4 #[.bool false] (by simp); have c3 : w3.cell? ⟨W.heap.size + 1, 0, none⟩ = some (.bool false) := h2.cell_eq 0 _ rfl; have c4 := h2.free 0))
    have hcr : (w3.setCell ⟨W.heap.size + 1, 0, none⟩ (.bool true)).cell? ⟨W.heap.size + 1, 0, none⟩ = some (.bool true) := (h2.set 0 (.bool true)).cell_eq 0 _ rfl
    refine ⟨.bool true, ?_, rfl, m3.below.setCell (p := ⟨W.heap.size + 1, 0, none⟩) (by simp) _⟩
    simp [results, Tryd.results4, go_sem, hcr]
  go_wp2_with (first
    | (go_at_call 7; rw [← hW1]; refine (alive_any W1 hG1).mono ?_; rintro e w2 ⟨rfl, hb2⟩; have m2 := m1.keep hb2; have hG2 := hG1.below hb2; clear m1 hW1 hb2)
    | (go_at_call 9; refine (c2 w2).mono ?_; rintro e w3 ⟨rfl, hb3, hR3⟩; have m3 := m2.keep hb3; have hG3 := hG2.below hb3; clear c2)
    | (go_at_call 8; refine (c1 w3 hG3).mono ?_; rintro e w4 ⟨rfl, hb4, bl, be, bs, K, E, Z, hq4, hP4, hF4⟩; have m4 := m3.keep hb4; clear c1))
  have hz2' : W.heap.size + 1 < w2.heap.size := (m2.blk (W.heap.size + 1) 4 #[.bool false] (by simp)).lt
  have hz3 := hb3.size
  have hR3l := hR3.lt
  obtain ⟨S, hS⟩ : ∃ S : Nat → Prop, S = fun b => w2.heap.size ≤ b ∧ b < w2.heap.size + 2 := ⟨_, rfl⟩
  have hS1 : ∀ b, S b → W.heap.size + 2 ≤ b := fun b hb => by rw [hS] at hb; omega
  have k0 : Bq w4 S (w3.heap.size + 1 + 1 + 1) bl be bs (w2.heap.size + 1) s0 s0 w4 :=
    ⟨Frm.refl _ _, ⟨K, E, Z, hP4, hF4⟩, S, by rw [hS]; exact hR3.below hb4, fun b hb => by
      rw [hS] at hb
      exact ⟨by omega, fun e => by have := hq4 b e; have := hR3l b hb; omega⟩, fun b hb => .inl hb⟩
  have hq5 : ∀ b, Qb (w3.heap.size + 1 + 1 + 1) bl be bs b → W.heap.size + 2 ≤ b := fun b hb => by have := hq4 b hb; omega
  clear hS hR3 hR3l hP4 hF4 hb3 hb4 hq4 m2 m3 hz3 hz2' hG2 hG3
  generalize w2.heap.size + 1 = r at k0 ⊢
  generalize w3.heap.size + 1 + 1 + 1 = g at k0 hq5 ⊢
  have hF : ∀ s t w, Bq w4 S g bl be bs r s t w → Blk w (W.heap.size + 1) 4 #[.bool false] ∧ Blk w W.heap.size 3 #[.int .i64 stop] ∧ Below W.heap.size W w := fun s t w k =>
    ⟨k.blk (m4.blk (W.heap.size + 1) 4 #[.bool false] (by simp)) (fun e => by have := hq5 _ e; omega) (fun e => by have := hS1 _ e; omega),
     k.blk (m4.blk W.heap.size 3 #[.int .i64 stop] (by simp)) (fun e => by have := hq5 _ e; omega) (fun e => by have := hS1 _ e; omega),
     m4.below.trans (k.frm.below m4.below.size (fun b hb => by rcases hb with hb | hb; (have := hq5 b hb; omega); (have := hS1 _ hb; omega)))⟩
  have hbelf := fun s t w k => (hF s t w k).2.2
  go_loopg [15] l.length (fun j p15 wr => ∃ (q : Nat) (s : Fq), q + j = l.length ∧ p15 = .int .i64 (q : Int) ∧ Bq w4 S g bl be bs r s s wr)
  case atStart => exact ⟨0, s0, by omega, rfl, k0⟩
  case round =>
    clear k0
    obtain ⟨q, s, hqj, rfl, k⟩ := hrel
    by_cases hj : q < l.length
    · obtain ⟨a, hm⟩ : ∃ a, l[q]? = some a := ⟨l[q], List.getElem?_eq_getElem hj⟩
      obtain ⟨b, off, rfl, y0, y1, y2⟩ := (hL.below (hbelf _ _ _ k)).get hm
      replace y0 : wr.cell? ⟨b, off + q * 3, none⟩ = some (.int .i64 a.kind) := y0
      have cX := act_any k a
      generalize s.act a = s' at *
      obtain ⟨kind, queue, node⟩ := a
      simp only at y0 y1 y2
      clear hm k hL hbelf hF
      go_wp2_with (go_at_call 10; refine cX.mono ?_; rintro e w5 ⟨rfl, k5⟩; clear cX y0 y1 y2)
      go_roundg (l.length - (q + 1))
      case measure => omega
      case rel => exact ⟨q + 1, s', by omega, by go_num, k5⟩
    · obtain ⟨h9, hstp, hbel⟩ := hF _ _ _ k
      obtain ⟨K5, E5, Z5, hP5, hF5⟩ := k.prog
      obtain ⟨S5, ⟨bm, c5, hR5⟩, hS5, -⟩ := k.ref
      have cH := fun w (hb : Below wr.heap.size wr w) => rhas_any i (hR5.below hb)
      clear hF hbelf hL hS1 m4
      obtain ⟨w6, hw6⟩ : ∃ w6, w6 = wr.alloc (.cells #[.slice none 0 0] 36) := ⟨_, rfl⟩
      have hb6 : Below wr.heap.size wr w6 := by rw [hw6]; exact (Below.refl _ _).alloc (Nat.le_refl _) _
      have hw16 : Blk w6 wr.heap.size 36 #[.slice none 0 0] := by rw [hw6]; exact Blk.new _ _ _
      have cH6 := cH w6 hb6
      have hR6 := hR5.below hb6
      clear cH
      have hWr : W.heap.size + 1 < wr.heap.size := h9.lt
      have hql : (s.qi i).length ≤ 500 := by
        cases hq : s.hasQ i with
        | false => rw [Fq.qi_no hq]; simp
        | true =>
          obtain ⟨j, q, rfl, hj, hq, hqi⟩ := Fq.hasQ_pos hq
          rw [hqi]
          exact hR5.len hq
      have hWr : W.heap.size + 1 < wr.heap.size := h9.lt
      have hql : (s.qi i).length ≤ 500 := by
        cases hq : s.hasQ i with
        | false => rw [Fq.qi_no hq]; simp
        | true =>
          obtain ⟨j, q, rfl, hj, hq, hqi⟩ := Fq.hasQ_pos hq
          rw [hqi]
          exact hR5.len hq
      have hWr : W.heap.size + 1 < wr.heap.size := h9.lt
      have hql : (s.qi i).length ≤ 500 := by
        cases hq : s.hasQ i with
        | false => rw [Fq.qi_no hq]; simp
        | true =>
          obtain ⟨j, q, rfl, hj, hq, hqi⟩ := Fq.hasQ_pos hq
          rw [hqi]
          exact hR5.len hq
      have hWr : W.heap.size + 1 < wr.heap.size := h9.lt
      have hql : (s.qi i).length ≤ 500 := by
        cases hq : s.hasQ i with
        | false => rw [Fq.qi_no hq]; simp
        | true =>
          obtain ⟨j, q, rfl, hj, hq, hqi⟩ := Fq.hasQ_pos hq
          rw [hqi]
          exact hR5.len hq
      cases hh : s.hasQ i with
      | false =>
        simp only [hh] at cH6
        have hG : ∃ V6 aoq capq, V6 = w6 ∧ PM V6 g bl be bs K5 E5 Z5 ∧ Blk V6 wr.heap.size 36 #[.slice aoq (s.qi i).length capq] ∧ It .i64 V6 aoq capq (zs (s.qi i)) ∧ (∀ b off, aoq = some ⟨b, off, none⟩ → b < wr.heap.size) ∧ Blk V6 (W.heap.size + 1) 4 #[.bool false] ∧ Blk V6 W.heap.size 3 #[.int .i64 stop] ∧ Below W.heap.size W V6 ∧ V6.heap.size = wr.heap.size + 1 := by
          have e := Fq.qi_no hh
          rw [e]
          exact ⟨w6, none, 0, rfl, hP5.below hb6, hw16, It.nil _ _, fun b off h => (by cases h), h9.below hb6 h9.lt, hstp.below hb6 hstp.lt, hbel.trans (hb6.mono hbel.size), by rw [hw6]; simp⟩
        obtain ⟨V6, aoq, capq, hV6, g1, g2, g3, g4, g5, g6, g7, g8⟩ := hG
        clear hh
        replace g8 := Lib.hid g8
        have g9 : Hid (w6.heap.size = wr.heap.size + 1) := Lib.hid (by rw [hw6]; simp)
        go_wp2_with (first
          | (go_at_call 11; rw [← hw6]; clear hw6; refine cH6.mono ?_; rintro e w7 ⟨rfl, rfl⟩; clear cH6)
          | (go_at_call 13; rw [← hV6]; clear hV6; obtain ⟨V7, hV7⟩ : ∃ V7, V7 = V6.alloc (.cells #[.int .i64 0] 3) := ⟨_, rfl⟩; have hb7 : Below V6.heap.size V6 V7 := (by rw [hV7]; exact (Below.refl _ _).alloc (Nat.le_refl _) _); have n7 : Blk V7 V6.heap.size 3 #[.int .i64 0] := (by rw [hV7]; exact Blk.new _ _ _); have hs7 : Hid (V7.heap.size = V6.heap.size + 1) := Lib.hid (by rw [hV7]; simp); rw [← hV7]; clear hV7; refine (each_any (some ⟨g, 0, none⟩) i V7).mono ?_; rintro e w8 ⟨rfl, hb8, T1, T3, hB1, hB3⟩))
        refine (wpIn_wide (n := 6)).1 ?_
        replace g8 := g8.out
        replace hs7 := hs7.out
        have hb68 : Below V6.heap.size V6 w8 := hb7.trans (hb8.mono (by omega))
        replace g1 := g1.below hb68
        have g2l := g2.lt
        have g5l := g5.lt
        have g6l := g6.lt
        replace g2 := g2.below hb68 g2l
        replace g3 := g3.below hb68
        replace g5 := g5.below hb68 g5l
        replace g6 := g6.below hb68 g6l
        have n8 := n7.below (hb8.mono (Nat.le_refl _)) (by omega)
        replace g7 := g7.trans (hb68.mono g7.size)
        have hs8 := hB3.lt
        rw [g8] at hs7 n8
        rw [hs7] at hB1 hB3 hs8 ⊢
        obtain ⟨b16, hb16⟩ : ∃ b, b = wr.heap.size := ⟨_, rfl⟩
        first | rw [g8, ← hb16] | rw [g9.out, ← hb16]
        rw [← hb16] at g2 g4 hB1 hB3 hs8 n8
        have hWb : W.heap.size + 1 < b16 := by rw [hb16]; exact hWr
        have hql5 : (s.qi i).length ≤ 500 := hql
        have hQl : ∀ b, Qb g bl be bs b → b < b16 := fun b hb => by rw [hb16]; exact hP5.lt b hb
        have htwo := hP5.two
        have hF5' := hF5
        clear g9 hb16 hb7 hb8 hb68 n7 hs7 g2l g5l g6l g8 hP5 hF5 hR5 hR6 hb6 hw16 hbel h9 hstp k hWr hql
        obtain ⟨q, hq⟩ : ∃ q, q = s.qi i := ⟨_, rfl⟩
        rw [← hq] at g2 g3 hql5
        have hseq := each_seqs Fence.wide rfl (6 - 1) (by omega) (b16 + 1 + 1) (b16 + 1 + 1 + 1) T1 T3 i w8 (fun b => b = b16 + 1) hB1 hB3 g1 hF5' (by omega) (by omega) (fun b e => ⟨by omega, fun h => by have := hQl b h; omega⟩) (fun b e => by omega)
        rw [← hq] at hseq
        clear hq hF5' g1 hB1 hB3 hQl htwo
        refine range_law4 (F := Fence.wide) rfl (by omega) (gf := 25) (lb := #[.pointer (some ⟨b16 + 1 + 1, 0, none⟩), .pointer (some ⟨b16 + 1 + 1 + 1, 0, none⟩)]) rfl trivial (goes_of Tryd.func25 (by kernel_rfl) rfl) (enc := encF) (fun _ => rfl) (fun b => b = b16 + 1) (fun b e => by omega) (G := goodF q) (goodF_put q) hseq
          (fun pre A => Blk A (b16 + 1) 3 #[.int .i64 (pre.length : Int)] ∧ Frm (fun b => b = b16 + 1 ∨ w8.heap.size ≤ b) w8 A ∧ (0 < stop → (pre.length : Int) < stop))
          (fun c pre A => (c = .exit 2 ∧ 0 < pre.length) ∧ Blk A (b16 + 1) 3 #[.int .i64 (pre.length : Int)] ∧ Frm (fun b => b = b16 + 1 ∨ w8.heap.size ≤ b) w8 A ∧ (pre.length : Int) = stop)
          (fun pre A B ⟨h1, h3, h4⟩ hf => ⟨blk_frm h1 hf (by omega), h3.trans hf (fun b h => .inl (.inr (by omega))), h4⟩)
          (fun c pre A B ⟨h0, h1, h3, h4⟩ hf => ⟨h0, blk_frm h1 hf (by omega), h3.trans hf (fun b h => .inl (.inr (by omega))), h4⟩)
          ⟨n8, Frm.refl _ _, fun h => h⟩ ?a1 ?assign ?body ?done ?stop
        case assign =>
          intro lb0 x V K hK
          simp only [encF]
          gi_wp2
          exact hK
        case body =>
          rintro lb0 pre x A ⟨h1, h3, h4⟩ hgood hlen _
          have hxq : q[pre.length]? = some x := hgood
          obtain ⟨b2, off2, rfl, hcx⟩ := g3.get (i := pre.length) (z := (x : Int)) (by rw [zs_get, hxq]; rfl)
          have hb2 := g4 b2 off2 rfl
          have hcx0 := hcx w8 (Below.refl _ _)
          have hcA : A.cell? ⟨b2, off2 + pre.length, none⟩ = some (.int .i64 (x : Int)) := (World.cell?_of_block (a := ⟨b2, off2 + pre.length, none⟩) (h3.block b2 (World.block_lt_of_cell? w8 _ hcx0) (by rintro (h | h); omega; (have := World.block_lt_of_cell? w8 _ hcx0; simp at this; omega)))).trans hcx0
          have c16 : A.cell? ⟨b16, 0, none⟩ = some (.slice (some ⟨b2, off2, none⟩) q.length capq) := (blk_frm g2 h3 (by omega)).cell_eq 0 _ rfl
          have cs : A.cell? ⟨W.heap.size, 0, none⟩ = some (.int .i64 stop) := (blk_frm g6 h3 (by omega)).cell_eq 0 _ rfl
          have c17 : A.cell? ⟨b16 + 1, 0, none⟩ = some (.int .i64 (pre.length : Int)) := h1.cell_eq 0 _ rfl
          have f17 := h1.free 0
          have hlp : (pre ++ [x]).length = pre.length + 1 := by simp
          have hX1 := h1.set 0 (.int .i64 ((pre.length : Int) + 1))
          have hXf := (Frm.refl (fun b => b = b16 + 1) A).setCell ⟨b16 + 1, 0, none⟩ (.int .i64 ((pre.length : Int) + 1)) (.inl rfl)
          have hXw := h3.trans hXf (fun b h => .inl (.inl h))
          have hcast : (((pre ++ [x]).length : Nat) : Int) = (pre.length : Int) + 1 := by rw [hlp]; omega
          have hd1 : decide ((q.length : Int) ≤ (pre.length : Int)) = false := decide_eq_false (by omega)
          have hkn : (pre.length : Int) < (q.length : Int) := by omega
          have hp500 : pre.length < 501 := by omega
          have q1 : Blk (A.setCell ⟨b16 + 1, 0, none⟩ (.int .i64 ((pre.length : Int) + 1))) (b16 + 1) 3 #[.int .i64 (((pre ++ [x]).length : Nat) : Int)] := by rw [hcast]; exact hX1
          clear hgood hxq hcx hcx0 hseq g2 g3 g4 g5 g6 g7 n8 hX1 h1
          by_cases hx : (pre.length : Int) + 1 = stop
          · have hd : ((pre.length : Int) + 1 == stop) = true := by simpa using hx
            have q5 : (((pre ++ [x]).length : Nat) : Int) = stop := by rw [hcast]; exact hx
            have q6 : 0 < (pre ++ [x]).length := by omega
            have H := Lib.hid (And.intro hXf (And.intro q6 (And.intro q1 (And.intro hXw q5))))
            clear hXf hXw q1 q5 q6 hcast hx h3 h4
            gi_wp2
            obtain ⟨r1, r2, r3⟩ := H.out
            exact ⟨r1, ⟨rfl, r2⟩, r3⟩
          · have hd : ((pre.length : Int) + 1 == stop) = false := by simpa using hx
            have q5 : 0 < stop → (((pre ++ [x]).length : Nat) : Int) < stop := fun h => by have := h4 h; rw [hcast]; omega
            have H := Lib.hid (And.intro hXf (And.intro q1 (And.intro hXw q5)))
            clear hXf hXw q1 q5 hcast hx h3 h4
            gi_wp2
            exact H.out
        case done =>
          rintro D ys V hD hys ⟨h1, h3, h4⟩ hK
          rw [hys] at h1 h4
          have c17 : V.cell? ⟨b16 + 1, 0, none⟩ = some (.int .i64 (q.length : Int)) := h1.cell_eq 0 _ rfl
          have c16 : V.cell? ⟨b16, 0, none⟩ = some (.slice aoq q.length capq) := (blk_frm g2 h3 (by omega)).cell_eq 0 _ rfl
          have hsV := blk_frm g6 h3 (by omega)
          have hrV := blk_frm g5 h3 (by omega)
          have hbV : Below W.heap.size W V := g7.trans (h3.below g7.size (fun b h => by have := g7.size; omega))
          have cs : V.cell? ⟨W.heap.size, 0, none⟩ = some (.int .i64 stop) := hsV.cell_eq 0 _ rfl
          have c2 : V.cell? ⟨W.heap.size + 1, 0, none⟩ = some (.bool false) := hrV.cell_eq 0 _ rfl
          have c3 := hrV.free 0
          obtain ⟨V2, hV2⟩ : ∃ V2, V2 = V.setCell ⟨W.heap.size + 1, 0, none⟩ (.bool true) := ⟨_, rfl⟩
          have hK' : V2.heap[D]? = some (.deferred (some [])) := by rw [hV2]; exact (Below.heap_setCell _ _ _ _ (by show D ≠ W.heap.size + 1; omega)).trans hK
          have hfin : Below W.heap.size W (V2.putObj D (.deferred none)) := by
            have e2 : Below W.heap.size W V2 := by rw [hV2]; exact hbV.setCell (p := ⟨W.heap.size + 1, 0, none⟩) (by simp) _
            exact e2.trans ((Frm.put (S := fun b => b = D) V2 D (.deferred none) rfl).below e2.size (fun b h => by omega))
          have hcr : (V2.putObj D (.deferred none)).cell? ⟨W.heap.size + 1, 0, none⟩ = some (.bool true) := by
            refine (World.cell?_of_block (a := ⟨W.heap.size + 1, 0, none⟩) (World.putObj_heap_other (by show W.heap.size + 1 ≠ D; omega))).trans ?_
            rw [hV2]
            exact (hrV.set 0 (.bool true)).cell_eq 0 _ rfl
          have H4 := Lib.hid h4
          clear h1 h3 h4 hsV hbV hseq g2 g3 g4 g5 g6 g7 n8 hys
          have d2 : decide ((0 : Int) < stop) = false ∨ (decide ((0 : Int) < stop) = true ∧ decide (stop < (q.length : Int)) = false) := by
            by_cases hp : 0 < stop
            · have := H4.out hp
              exact .inr ⟨decide_eq_true hp, decide_eq_false (by omega)⟩
            · exact .inl (decide_eq_false hp)
          clear H4
          rcases d2 with d2 | ⟨d2, d3⟩
          all_goals go_wp2_with fail
          all_goals
            rw [← hV2]
            refine ⟨by simp, .inl ⟨_, _, rfl, run_takeDeferred hK', ?_⟩⟩
            refine ⟨.bool true, ?_, rfl, hfin⟩
            simp [results, Tryd.results4, go_sem, hcr]
        case stop =>
          rintro D c' pre V hD hsp ⟨⟨rfl, hpos⟩, h1, h3, h4⟩ hK
          rw [h4] at h1
          have c17 : V.cell? ⟨b16 + 1, 0, none⟩ = some (.int .i64 stop) := h1.cell_eq 0 _ rfl
          have c16 : V.cell? ⟨b16, 0, none⟩ = some (.slice aoq q.length capq) := (blk_frm g2 h3 (by omega)).cell_eq 0 _ rfl
          have hsV := blk_frm g6 h3 (by omega)
          have hrV := blk_frm g5 h3 (by omega)
          have hbV : Below W.heap.size W V := g7.trans (h3.below g7.size (fun b h => by have := g7.size; omega))
          have cs : V.cell? ⟨W.heap.size, 0, none⟩ = some (.int .i64 stop) := hsV.cell_eq 0 _ rfl
          have c2 : V.cell? ⟨W.heap.size + 1, 0, none⟩ = some (.bool false) := hrV.cell_eq 0 _ rfl
          have c3 := hrV.free 0
          obtain ⟨V2, hV2⟩ : ∃ V2, V2 = V.setCell ⟨W.heap.size + 1, 0, none⟩ (.bool true) := ⟨_, rfl⟩
          have hK' : V2.heap[D]? = some (.deferred (some [])) := by rw [hV2]; exact (Below.heap_setCell _ _ _ _ (by show D ≠ W.heap.size + 1; omega)).trans hK
          have hfin : Below W.heap.size W (V2.putObj D (.deferred none)) := by
            have e2 : Below W.heap.size W V2 := by rw [hV2]; exact hbV.setCell (p := ⟨W.heap.size + 1, 0, none⟩) (by simp) _
            exact e2.trans ((Frm.put (S := fun b => b = D) V2 D (.deferred none) rfl).below e2.size (fun b h => by omega))
          have hcr : (V2.putObj D (.deferred none)).cell? ⟨W.heap.size + 1, 0, none⟩ = some (.bool true) := by
            refine (World.cell?_of_block (a := ⟨W.heap.size + 1, 0, none⟩) (World.putObj_heap_other (by show W.heap.size + 1 ≠ D; omega))).trans ?_
            rw [hV2]
            exact (hrV.set 0 (.bool true)).cell_eq 0 _ rfl
          have d1 : decide ((0 : Int) < stop) = true := decide_eq_true (by omega)
          have d2 : decide (stop < (q.length : Int)) = true ∨ (decide (stop < (q.length : Int)) = false ∧ (stop == (q.length : Int)) = true) := by
            by_cases hp : stop < (q.length : Int)
            · exact .inl (decide_eq_true hp)
            · exact .inr ⟨decide_eq_false hp, by simp; omega⟩
          clear h1 h3 h4 hsV hbV hseq g2 g3 g4 g5 g6 g7 n8 hpos hsp
          refine wpIn_wide.2 ?_
          rcases d2 with d2 | ⟨d2, d3⟩
          all_goals go_wp2_with fail
          all_goals
            rw [← hV2]
            refine ⟨by simp, .inl ⟨_, _, rfl, run_takeDeferred hK', ?_⟩⟩
            refine ⟨.bool true, ?_, rfl, hfin⟩
            simp [results, Tryd.results4, go_sem, hcr]
      | true =>
        simp only [hh] at cH6
        obtain ⟨iq, qq, rfl, hiq, hqq, hqi⟩ := Fq.hasQ_pos hh
        obtain ⟨ao3, cap3, hcell, hI, hao⟩ := hR6.head hqq
        have c1' := hR6.c1
        have hnm := hR6.nm
        have f16 := hw16.free 0
        have c16 : w6.cell? ⟨wr.heap.size, 0, none⟩ = some (.slice none 0 0) := hw16.cell_eq 0 _ rfl
        have hiq2 : (iq : Int) < (s.L.length : Int) := by omega
        have hG : ∃ V6 aoq capq, V6 = w6.setCell ⟨wr.heap.size, 0, none⟩ (.slice ao3 qq.length cap3) ∧ PM V6 g bl be bs K5 E5 Z5 ∧ Blk V6 wr.heap.size 36 #[.slice aoq (s.qi (iq : Int)).length capq] ∧ It .i64 V6 aoq capq (zs (s.qi (iq : Int))) ∧ (∀ b off, aoq = some ⟨b, off, none⟩ → b < wr.heap.size) ∧ Blk V6 (W.heap.size + 1) 4 #[.bool false] ∧ Blk V6 W.heap.size 3 #[.int .i64 stop] ∧ Below W.heap.size W V6 ∧ V6.heap.size = wr.heap.size + 1 := by
          have ho : ∀ b, b ≠ wr.heap.size → (w6.setCell ⟨wr.heap.size, 0, none⟩ (.slice ao3 qq.length cap3)).heap[b]? = w6.heap[b]? := fun b hb => heap_other w6 _ _ hb
          have hb6' : Below wr.heap.size wr (w6.setCell ⟨wr.heap.size, 0, none⟩ (.slice ao3 qq.length cap3)) := hb6.setCell (p := ⟨wr.heap.size, 0, none⟩) (Nat.le_refl _) _
          have hal : ∀ b off, ao3 = some ⟨b, off, none⟩ → b < wr.heap.size := fun b off e => hR5.lt b (hao b off e).1
          rw [hqi]
          exact ⟨_, ao3, cap3, rfl, hP5.below hb6', hw16.set 0 _, hI.keep (fun b off e => ho b (by have := hal b off e; omega)), hal, h9.below hb6' h9.lt, hstp.below hb6' hstp.lt, hbel.trans (hb6'.mono hbel.size), by rw [hw6]; simp [World.setCell]⟩
        obtain ⟨V6, aoq, capq, hV6, g1, g2, g3, g4, g5, g6, g7, g8⟩ := hG
        clear hh hqq hqi hI hao hiq
        replace g8 := Lib.hid g8
        have g9 : Hid (w6.heap.size = wr.heap.size + 1) := Lib.hid (by rw [hw6]; simp)
        go_wp2_with (first
          | (go_at_call 11; rw [← hw6]; clear hw6; refine cH6.mono ?_; rintro e w7 ⟨rfl, rfl⟩; clear cH6)
          | (go_at_call 13; rw [← hV6]; clear hV6; obtain ⟨V7, hV7⟩ : ∃ V7, V7 = V6.alloc (.cells #[.int .i64 0] 3) := ⟨_, rfl⟩; have hb7 : Below V6.heap.size V6 V7 := (by rw [hV7]; exact (Below.refl _ _).alloc (Nat.le_refl _) _); have n7 : Blk V7 V6.heap.size 3 #[.int .i64 0] := (by rw [hV7]; exact Blk.new _ _ _); have hs7 : Hid (V7.heap.size = V6.heap.size + 1) := Lib.hid (by rw [hV7]; simp); rw [← hV7]; clear hV7; refine (each_any (some ⟨g, 0, none⟩) (iq : Int) V7).mono ?_; rintro e w8 ⟨rfl, hb8, T1, T3, hB1, hB3⟩))
        refine (wpIn_wide (n := 6)).1 ?_
        replace g8 := g8.out
        replace hs7 := hs7.out
        have hb68 : Below V6.heap.size V6 w8 := hb7.trans (hb8.mono (by omega))
        replace g1 := g1.below hb68
        have g2l := g2.lt
        have g5l := g5.lt
        have g6l := g6.lt
        replace g2 := g2.below hb68 g2l
        replace g3 := g3.below hb68
        replace g5 := g5.below hb68 g5l
        replace g6 := g6.below hb68 g6l
        have n8 := n7.below (hb8.mono (Nat.le_refl _)) (by omega)
        replace g7 := g7.trans (hb68.mono g7.size)
        have hs8 := hB3.lt
        rw [g8] at hs7 n8
        rw [hs7] at hB1 hB3 hs8 ⊢
        obtain ⟨b16, hb16⟩ : ∃ b, b = wr.heap.size := ⟨_, rfl⟩
        first | rw [g8, ← hb16] | rw [g9.out, ← hb16]
        rw [← hb16] at g2 g4 hB1 hB3 hs8 n8
        have hWb : W.heap.size + 1 < b16 := by rw [hb16]; exact hWr
        have hql5 : (s.qi (iq : Int)).length ≤ 500 := hql
        have hQl : ∀ b, Qb g bl be bs b → b < b16 := fun b hb => by rw [hb16]; exact hP5.lt b hb
        have htwo := hP5.two
        have hF5' := hF5
        clear g9 hb16 hb7 hb8 hb68 n7 hs7 g2l g5l g6l g8 hP5 hF5 hR5 hR6 hb6 hw16 hbel h9 hstp k hWr hql
        obtain ⟨q, hq⟩ : ∃ q, q = s.qi (iq : Int) := ⟨_, rfl⟩
        rw [← hq] at g2 g3 hql5
        have hseq := each_seqs Fence.wide rfl (6 - 1) (by omega) (b16 + 1 + 1) (b16 + 1 + 1 + 1) T1 T3 (iq : Int) w8 (fun b => b = b16 + 1) hB1 hB3 g1 hF5' (by omega) (by omega) (fun b e => ⟨by omega, fun h => by have := hQl b h; omega⟩) (fun b e => by omega)
        rw [← hq] at hseq
        clear hq hF5' g1 hB1 hB3 hQl htwo
        refine range_law4 (F := Fence.wide) rfl (by omega) (gf := 25) (lb := #[.pointer (some ⟨b16 + 1 + 1, 0, none⟩), .pointer (some ⟨b16 + 1 + 1 + 1, 0, none⟩)]) rfl trivial (goes_of Tryd.func25 (by kernel_rfl) rfl) (enc := encF) (fun _ => rfl) (fun b => b = b16 + 1) (fun b e => by omega) (G := goodF q) (goodF_put q) hseq
          (fun pre A => Blk A (b16 + 1) 3 #[.int .i64 (pre.length : Int)] ∧ Frm (fun b => b = b16 + 1 ∨ w8.heap.size ≤ b) w8 A ∧ (0 < stop → (pre.length : Int) < stop))
          (fun c pre A => (c = .exit 2 ∧ 0 < pre.length) ∧ Blk A (b16 + 1) 3 #[.int .i64 (pre.length : Int)] ∧ Frm (fun b => b = b16 + 1 ∨ w8.heap.size ≤ b) w8 A ∧ (pre.length : Int) = stop)
          (fun pre A B ⟨h1, h3, h4⟩ hf => ⟨blk_frm h1 hf (by omega), h3.trans hf (fun b h => .inl (.inr (by omega))), h4⟩)
          (fun c pre A B ⟨h0, h1, h3, h4⟩ hf => ⟨h0, blk_frm h1 hf (by omega), h3.trans hf (fun b h => .inl (.inr (by omega))), h4⟩)
          ⟨n8, Frm.refl _ _, fun h => h⟩ ?a2 ?assign ?body ?done ?stop
        case assign =>
          intro lb0 x V K hK
          simp only [encF]
          gi_wp2
          exact hK
        case body =>
          rintro lb0 pre x A ⟨h1, h3, h4⟩ hgood hlen _
          have hxq : q[pre.length]? = some x := hgood
          obtain ⟨b2, off2, rfl, hcx⟩ := g3.get (i := pre.length) (z := (x : Int)) (by rw [zs_get, hxq]; rfl)
          have hb2 := g4 b2 off2 rfl
          have hcx0 := hcx w8 (Below.refl _ _)
          have hcA : A.cell? ⟨b2, off2 + pre.length, none⟩ = some (.int .i64 (x : Int)) := (World.cell?_of_block (a := ⟨b2, off2 + pre.length, none⟩) (h3.block b2 (World.block_lt_of_cell? w8 _ hcx0) (by rintro (h | h); omega; (have := World.block_lt_of_cell? w8 _ hcx0; simp at this; omega)))).trans hcx0
          have c16 : A.cell? ⟨b16, 0, none⟩ = some (.slice (some ⟨b2, off2, none⟩) q.length capq) := (blk_frm g2 h3 (by omega)).cell_eq 0 _ rfl
          have cs : A.cell? ⟨W.heap.size, 0, none⟩ = some (.int .i64 stop) := (blk_frm g6 h3 (by omega)).cell_eq 0 _ rfl
          have c17 : A.cell? ⟨b16 + 1, 0, none⟩ = some (.int .i64 (pre.length : Int)) := h1.cell_eq 0 _ rfl
          have f17 := h1.free 0
          have hlp : (pre ++ [x]).length = pre.length + 1 := by simp
          have hX1 := h1.set 0 (.int .i64 ((pre.length : Int) + 1))
          have hXf := (Frm.refl (fun b => b = b16 + 1) A).setCell ⟨b16 + 1, 0, none⟩ (.int .i64 ((pre.length : Int) + 1)) (.inl rfl)
          have hXw := h3.trans hXf (fun b h => .inl (.inl h))
          have hcast : (((pre ++ [x]).length : Nat) : Int) = (pre.length : Int) + 1 := by rw [hlp]; omega
          have hd1 : decide ((q.length : Int) ≤ (pre.length : Int)) = false := decide_eq_false (by omega)
          have hkn : (pre.length : Int) < (q.length : Int) := by omega
          have hp500 : pre.length < 501 := by omega
          have q1 : Blk (A.setCell ⟨b16 + 1, 0, none⟩ (.int .i64 ((pre.length : Int) + 1))) (b16 + 1) 3 #[.int .i64 (((pre ++ [x]).length : Nat) : Int)] := by rw [hcast]; exact hX1
          clear hgood hxq hcx hcx0 hseq g2 g3 g4 g5 g6 g7 n8 hX1 h1
          by_cases hx : (pre.length : Int) + 1 = stop
          · have hd : ((pre.length : Int) + 1 == stop) = true := by simpa using hx
            have q5 : (((pre ++ [x]).length : Nat) : Int) = stop := by rw [hcast]; exact hx
            have q6 : 0 < (pre ++ [x]).length := by omega
            have H := Lib.hid (And.intro hXf (And.intro q6 (And.intro q1 (And.intro hXw q5))))
            clear hXf hXw q1 q5 q6 hcast hx h3 h4
            gi_wp2
            obtain ⟨r1, r2, r3⟩ := H.out
            exact ⟨r1, ⟨rfl, r2⟩, r3⟩
          · have hd : ((pre.length : Int) + 1 == stop) = false := by simpa using hx
            have q5 : 0 < stop → (((pre ++ [x]).length : Nat) : Int) < stop := fun h => by have := h4 h; rw [hcast]; omega
            have H := Lib.hid (And.intro hXf (And.intro q1 (And.intro hXw q5)))
            clear hXf hXw q1 q5 hcast hx h3 h4
            gi_wp2
            exact H.out
        case done =>
          rintro D ys V hD hys ⟨h1, h3, h4⟩ hK
          rw [hys] at h1 h4
          have c17 : V.cell? ⟨b16 + 1, 0, none⟩ = some (.int .i64 (q.length : Int)) := h1.cell_eq 0 _ rfl
          have c16 : V.cell? ⟨b16, 0, none⟩ = some (.slice aoq q.length capq) := (blk_frm g2 h3 (by omega)).cell_eq 0 _ rfl
          have hsV := blk_frm g6 h3 (by omega)
          have hrV := blk_frm g5 h3 (by omega)
          have hbV : Below W.heap.size W V := g7.trans (h3.below g7.size (fun b h => by have := g7.size; omega))
          have cs : V.cell? ⟨W.heap.size, 0, none⟩ = some (.int .i64 stop) := hsV.cell_eq 0 _ rfl
          have c2 : V.cell? ⟨W.heap.size + 1, 0, none⟩ = some (.bool false) := hrV.cell_eq 0 _ rfl
          have c3 := hrV.free 0
          obtain ⟨V2, hV2⟩ : ∃ V2, V2 = V.setCell ⟨W.heap.size + 1, 0, none⟩ (.bool true) := ⟨_, rfl⟩
          have hK' : V2.heap[D]? = some (.deferred (some [])) := by rw [hV2]; exact (Below.heap_setCell _ _ _ _ (by show D ≠ W.heap.size + 1; omega)).trans hK
          have hfin : Below W.heap.size W (V2.putObj D (.deferred none)) := by
            have e2 : Below W.heap.size W V2 := by rw [hV2]; exact hbV.setCell (p := ⟨W.heap.size + 1, 0, none⟩) (by simp) _
            exact e2.trans ((Frm.put (S := fun b => b = D) V2 D (.deferred none) rfl).below e2.size (fun b h => by omega))
          have hcr : (V2.putObj D (.deferred none)).cell? ⟨W.heap.size + 1, 0, none⟩ = some (.bool true) := by
            refine (World.cell?_of_block (a := ⟨W.heap.size + 1, 0, none⟩) (World.putObj_heap_other (by show W.heap.size + 1 ≠ D; omega))).trans ?_
            rw [hV2]
            exact (hrV.set 0 (.bool true)).cell_eq 0 _ rfl
          have H4 := Lib.hid h4
          clear h1 h3 h4 hsV hbV hseq g2 g3 g4 g5 g6 g7 n8 hys
          have d2 : decide ((0 : Int) < stop) = false ∨ (decide ((0 : Int) < stop) = true ∧ decide (stop < (q.length : Int)) = false) := by
            by_cases hp : 0 < stop
            · have := H4.out hp
              exact .inr ⟨decide_eq_true hp, decide_eq_false (by omega)⟩
            · exact .inl (decide_eq_false hp)
          clear H4
          rcases d2 with d2 | ⟨d2, d3⟩
          all_goals go_wp2_with fail
          all_goals
            rw [← hV2]
            refine ⟨by simp, .inl ⟨_, _, rfl, run_takeDeferred hK', ?_⟩⟩
            refine ⟨.bool true, ?_, rfl, hfin⟩
            simp [results, Tryd.results4, go_sem, hcr]
        case stop =>
          rintro D c' pre V hD hsp ⟨⟨rfl, hpos⟩, h1, h3, h4⟩ hK
          rw [h4] at h1
          have c17 : V.cell? ⟨b16 + 1, 0, none⟩ = some (.int .i64 stop) := h1.cell_eq 0 _ rfl
          have c16 : V.cell? ⟨b16, 0, none⟩ = some (.slice aoq q.length capq) := (blk_frm g2 h3 (by omega)).cell_eq 0 _ rfl
          have hsV := blk_frm g6 h3 (by omega)
          have hrV := blk_frm g5 h3 (by omega)
          have hbV : Below W.heap.size W V := g7.trans (h3.below g7.size (fun b h => by have := g7.size; omega))
          have cs : V.cell? ⟨W.heap.size, 0, none⟩ = some (.int .i64 stop) := hsV.cell_eq 0 _ rfl
          have c2 : V.cell? ⟨W.heap.size + 1, 0, none⟩ = some (.bool false) := hrV.cell_eq 0 _ rfl
          have c3 := hrV.free 0
          obtain ⟨V2, hV2⟩ : ∃ V2, V2 = V.setCell ⟨W.heap.size + 1, 0, none⟩ (.bool true) := ⟨_, rfl⟩
          have hK' : V2.heap[D]? = some (.deferred (some [])) := by rw [hV2]; exact (Below.heap_setCell _ _ _ _ (by show D ≠ W.heap.size + 1; omega)).trans hK
          have hfin : Below W.heap.size W (V2.putObj D (.deferred none)) := by
            have e2 : Below W.heap.size W V2 := by rw [hV2]; exact hbV.setCell (p := ⟨W.heap.size + 1, 0, none⟩) (by simp) _
            exact e2.trans ((Frm.put (S := fun b => b = D) V2 D (.deferred none) rfl).below e2.size (fun b h => by omega))
          have hcr : (V2.putObj D (.deferred none)).cell? ⟨W.heap.size + 1, 0, none⟩ = some (.bool true) := by
            refine (World.cell?_of_block (a := ⟨W.heap.size + 1, 0, none⟩) (World.putObj_heap_other (by show W.heap.size + 1 ≠ D; omega))).trans ?_
            rw [hV2]
            exact (hrV.set 0 (.bool true)).cell_eq 0 _ rfl
          have d1 : decide ((0 : Int) < stop) = true := decide_eq_true (by omega)
          have d2 : decide (stop < (q.length : Int)) = true ∨ (decide (stop < (q.length : Int)) = false ∧ (stop == (q.length : Int)) = true) := by
            by_cases hp : stop < (q.length : Int)
            · exact .inl (decide_eq_true hp)
            · exact .inr ⟨decide_eq_false hp, by simp; omega⟩
          clear h1 h3 h4 hsV hbV hseq g2 g3 g4 g5 g6 g7 n8 hpos hsp
          refine wpIn_wide.2 ?_
          rcases d2 with d2 | ⟨d2, d3⟩
          all_goals go_wp2_with fail
          all_goals
            rw [← hV2]
            refine ⟨by simp, .inl ⟨_, _, rfl, run_takeDeferred hK', ?_⟩⟩
            refine ⟨.bool true, ?_, rfl, hfin⟩
            simp [results, Tryd.results4, go_sem, hcr]
end Go.Proofs.YtipmhialflincaaDoor
