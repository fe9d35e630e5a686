/-
  The contract of the document's answer Mul: the product of two numbers of 64 bits, a sum of shifted ones.
  The contract of the document's answer Sub: the difference of two numbers of 128 bits.
  The contract of the document's answer Div: a number divided, bit by bit, and what is left.
  The walk of the document's answer Div.
-/
import Derived.Test.YteljjjdejjkgfaaRegBq
import Derived.Test.YteljjjdejjkgfaaGC
import Derived.Test.YteljjjdejjkgfaaRefNotq
import Derived.Test.YteljjjdejjkgfaaRefCmpq
namespace Go.Proofs.Yteljjjdejjkgfaa
open Go.RowKit
theorem Mem.setMid {w0 w : World} {g h j : Nat} {t : TypeId} {c1 c2 c3 : Array Value} (m : Mem w0 [(g, t, c1), (h, t, c2), (j, t, c3)] w) (c : Array Value) (hg : h ≠ g) (hj : h ≠ j) (hh : w0.heap.size ≤ h) :
    Mem w0 [(g, t, c1), (h, t, c), (j, t, c3)] (w.setRow h c) :=
  ⟨fun p hp => by
    simp only [List.mem_cons, List.not_mem_nil, or_false] at hp
    rcases hp with rfl | rfl | rfl
    · exact (m.blk g t c1 (by simp)).setRow_other hg _
    · exact (m.blk h t c2 (by simp)).setRow _
    · exact (m.blk j t c3 (by simp)).setRow_other hj _, below_setRow m.below hh _⟩
theorem out_before {md : Region.Mode} {ops : Array Oper} {L : Array Bool} {w0 w : World} {g h j : Nat} {t : TypeId} {c1 c3 : Array Value} {O N : Nat → Bool} (hL : 0 ∈ Region.ready md ops L) (h8 : L.getD 8 false = true → L.getD 0 false = true)
    (m : Mem w0 [(g, t, c1), (h, t, arr (if L.getD 8 false = true then N else O)), (j, t, c3)] w) : Blk w h t (arr O) := by
  have h0 := ready_not hL
  have e : L.getD 8 false = false := by
    cases hc : L.getD 8 false
    · rfl
    · rw [h8 hc] at h0; cases h0
  rw [e] at m
  exact m.blk h t (arr O) (by simp)
/-- The sum so far. -/
def mulB (A B k : Nat) : BitVec 128 := BitVec.ofNat 128 (A * (B % 2 ^ k))
theorem mulB_step (A B k : Nat) (hA : A < 18446744073709551616) : mulB A B (k + 1) = if B.testBit k then mulB A B k + (BitVec.ofNat 128 A) <<< k else mulB A B k := by
  unfold mulB
  rw [mod_step]
  cases B.testBit k
  · simp
  · rw [if_pos rfl, if_pos rfl, Nat.mul_add, BitVec.ofNat_add]
    congr 1
    apply BitVec.eq_of_toNat_eq
    rw [BitVec.toNat_shiftLeft, BitVec.toNat_ofNat, BitVec.toNat_ofNat, Nat.shiftLeft_eq, Nat.mod_eq_of_lt (show A < 2 ^ 128 by omega)]
set_option maxRecDepth 100000 in
set_option maxHeartbeats 4000000 in
theorem rmul_any (a b' : Int) (ha : Word a) (hb : Word b') (w : World) :
    Calls Try.prog 38 #[.int .u64 a, .int .u64 b'] w fun e w' => e = .returned (.agg (bv (BitVec.ofNat 128 (a.toNat * b'.toNat)))) ∧ Below w.heap.size w w' := by
  have zv := zero28
  have cO := of_any 0 a ⟨by decide, by decide⟩ ha
  have e1 : BitVec.ofInt 128 (0 * 18446744073709551616 + a) = BitVec.ofNat 128 a.toNat := by
    obtain ⟨h0, h1⟩ := ha
    obtain ⟨A, rfl⟩ := Int.eq_ofNat_of_zero_le h0
    rw [Int.zero_mul, Int.zero_add, BitVec.ofInt_natCast, Int.toNat_natCast]
  rw [e1] at cO
  have hA : a.toNat < 18446744073709551616 := by have := ha.1; have := ha.2; omega
  have hB : b'.toNat < 2 ^ 64 := by have := hb.1; have := hb.2; omega
  have hres : bv (BitVec.ofNat 128 (a.toNat * b'.toNat)) = bv (mulB a.toNat b'.toNat 64) := by unfold mulB; rw [Nat.mod_eq_of_lt hB]
  rw [hres]
  have cL := fun k => rleft_any (BitVec.ofNat 128 a.toNat) k
  have cA := fun k => radd_any (mulB a.toNat b'.toNat k) ((BitVec.ofNat 128 a.toNat) <<< k)
  unfold bv at *
  obtain ⟨X, hXe⟩ : ∃ X : Nat → Bool, X = fun i => (BitVec.ofNat 128 a.toNat).getLsbD i := ⟨_, rfl⟩
  rw [← hXe] at cO
  have HX := Lib.hid hXe
  clear hXe e1 hres
  have m0 := (Mem.start w).new 70 (arr fun _ => false)
  have m1 := m0.new' 70 (arr fun _ => false) (n := w.heap.size + 1) (by simp)
  go_enter Try.func38, Try.ntmps38
  go_wp2_with (first
    | (go_at_call 49; (with_reducible refine (cO _).mono ?_); rintro e w2 ⟨rfl, hb1⟩; have m2 := m1.keep hb1; clear m0 m1 hb1)
    | (refine st28 rfl (.tmp 6) (.tmp 9) rfl w2.heap.size X (fun _ => false) rfl rfl (Blk.new' rfl) ?_; have m3 := m2.row 70 (arr fun _ => false) (arr X); generalize (w2.alloc (.cells (arr fun _ => false) 70)).setRow w2.heap.size (arr X) = W3 at *; have hgz := (m2.blk (w.heap.size + 1) 70 (arr fun _ => false) (by simp)).lt; generalize w2.heap.size = g at *; clear m2))
  have hgw : w.heap.size + 1 < g := hgz
  clear hgz cO zv
  go_loopg [7] 64 (fun n s7 wr => ∃ (k : Nat), n + k = 64 ∧ s7 = .int .i64 k ∧ Mem w [(g, 70, arr X), (w.heap.size + 1, 70, arr fun i => (mulB a.toNat b'.toNat k).getLsbD i), (w.heap.size, 70, arr fun _ => false)] wr)
  case atStart =>
    have e0 : (arr fun i => (mulB a.toNat b'.toNat 0).getLsbD i) = arr fun _ => false := arr_congr fun i _ => by simp [mulB, Nat.mod_one]
    exact ⟨0, rfl, rfl, by rw [e0]; exact m3⟩
  case round =>
    obtain ⟨k, hn, rfl, hm⟩ := hrel
    clear m3
    by_cases hk : k < 64
    · have Hn := Lib.hid hn
      have hst := mulB_step a.toNat b'.toNat k hA
      have hbw := bit_word b' hb k
      by_cases hbit : b'.toNat.testBit k = true
      · rw [hbit] at hbw
        rw [if_pos hbit] at hst
        have cL' := cL (k : Int)
        have cA' := cA k
        have eD : (fun i => (shlB (BitVec.ofNat 128 a.toNat) (k : Int)).getLsbD i) = fun i => ((BitVec.ofNat 128 a.toNat) <<< k).getLsbD i := by
          unfold shlB; rw [if_neg (by omega), Int.toNat_natCast]
        rw [eD, ← HX.out] at cL'
        rw [← hst] at cA'
        have Hst := Lib.hid hst
        generalize hp : (!BitVec.carry 128 (mulB a.toNat b'.toNat k) ((BitVec.ofNat 128 a.toNat) <<< k) false) = p at *
        generalize hD : (fun i => ((BitVec.ofNat 128 a.toNat) <<< k).getLsbD i) = D at *
        generalize hO : (fun i => (mulB a.toNat b'.toNat k).getLsbD i) = O at *
        generalize hN : (fun i => (mulB a.toNat b'.toNat (k + 1)).getLsbD i) = N at *
        have HN := Lib.hid hN
        have hkm : (k : Int) < 9223372036854775808 := by omega
        have cL2 := fun W => cL' hkm W
        clear hn hst hp hD hO hN cL cA eD cL' hbit hkm
        generalize hb1 : w.heap.size = b at *
        have Hb := Lib.hid hb1
        have hb0 : w.heap.size ≤ b := by omega
        clear hb1
        go_wp2
        refine wp_region_S (S := fun L w' => L.size = 9 ∧ (L.getD 8 false = true → L.getD 0 false = true) ∧ Mem w [(g, 70, arr X), (b + 1, 70, arr (if L.getD 8 false = true then N else O)), (b, 70, arr fun _ => false)] w') (by kernel_rfl) ⟨rfl, fun h8 => (by cases h8), hm.drew⟩ ?_
        refine AllS.next (v := .agg (arr O)) rfl rfl rfl (by kernel_rfl) ?_ ?_
        · exact yieldsS_load28r (fun L wx _ h => ⟨by simpa using h.1, fun h8 => getD_set_true (h.2.1 (by rwa [getD_next (by decide)] at h8)), by rw [getD_next (by decide)]; exact h.2.2⟩) (by rfl) rfl rfl fun L wx hL hS => out_before hL hS.2.1 hS.2.2
        simp only [Act.put, List.setIfInBounds_toArray, List.set_cons_zero, List.set_cons_succ, List.getElem_toArray, List.getElem_cons_zero]
        refine AllS.next (v := .agg (arr X)) rfl rfl rfl (by kernel_rfl) ?_ ?_
        · exact yieldsS_load28 (fun L wx h => ⟨by simpa using h.1, fun h8 => getD_set_true (h.2.1 (by rwa [getD_next (by decide)] at h8)), by rw [getD_next (by decide)]; exact h.2.2⟩) (by rfl) rfl rfl fun L wx hS => hS.2.2.blk g 70 (arr X) (by simp)
        simp only [Act.put, List.setIfInBounds_toArray, List.set_cons_zero, List.set_cons_succ, List.getElem_toArray, List.getElem_cons_zero, List.getElem_cons_succ]
        refine AllS.next (v := ?_) rfl rfl rfl (by kernel_rfl) ?_ ?_
        rotate_left
        · refine yieldsS_run (fun L wx h => ⟨by simpa using h.1, fun h8 => getD_set_true (h.2.1 (by rwa [getD_next (by decide)] at h8)), by rw [getD_next (by decide)]; exact h.2.2⟩) (by rfl) ?_
          intro L wx hS
          go_simp
          try with_reducible rfl
        simp only [Act.put, List.setIfInBounds_toArray, List.set_cons_zero, List.set_cons_succ, List.getElem_toArray, List.getElem_cons_zero, List.getElem_cons_succ]
        refine AllS.next (v := .agg (arr D)) rfl rfl rfl (by kernel_rfl) ?_ ?_
        · refine yieldsS_call (f := 50) (args := #[.agg (arr X), .int .i64 k]) (by rfl) ?_ ?_
          · intro wx
            go_simp
            try with_reducible rfl
          · intro L wx hS
            exact (cL2 wx).mono fun e w' h => ⟨h.1, by simpa using hS.1, fun h8 => getD_set_true (hS.2.1 (by rwa [getD_next (by decide)] at h8)), by rw [getD_next (by decide)]; exact hS.2.2.keep h.2⟩
        simp only [Act.put, List.setIfInBounds_toArray, List.set_cons_zero, List.set_cons_succ, List.getElem_toArray, List.getElem_cons_zero, List.getElem_cons_succ]
        refine AllS.next (v := .tuple #[.agg (arr N), .bool p]) rfl rfl rfl (by kernel_rfl) ?_ ?_
        · refine yieldsS_call (f := 37) (args := #[.agg (arr O), .agg (arr D)]) (by rfl) ?_ ?_
          · intro wx
            go_simp
            try with_reducible rfl
          · intro L wx hS
            exact (cA' wx).mono fun e w' h => ⟨h.1, by simpa using hS.1, fun h8 => getD_set_true (hS.2.1 (by rwa [getD_next (by decide)] at h8)), by rw [getD_next (by decide)]; exact hS.2.2.keep h.2⟩
        simp only [Act.put, List.setIfInBounds_toArray, List.set_cons_zero, List.set_cons_succ, List.getElem_toArray, List.getElem_cons_zero, List.getElem_cons_succ]
        refine AllS.next (v := ?_) rfl rfl rfl (by kernel_rfl) ?_ ?_
        rotate_left
        · refine yieldsS_run (fun L wx h => ⟨by simpa using h.1, fun h8 => getD_set_true (h.2.1 (by rwa [getD_next (by decide)] at h8)), by rw [getD_next (by decide)]; exact h.2.2⟩) (by rfl) ?_
          intro L wx hS
          go_simp
          try with_reducible rfl
        simp only [Act.put, List.setIfInBounds_toArray, List.set_cons_zero, List.set_cons_succ, List.getElem_toArray, List.getElem_cons_zero, List.getElem_cons_succ]
        refine AllS.next (v := ?_) rfl rfl rfl (by kernel_rfl) ?_ ?_
        rotate_left
        · refine yieldsS_run (fun L wx h => ⟨by simpa using h.1, fun h8 => getD_set_true (h.2.1 (by rwa [getD_next (by decide)] at h8)), by rw [getD_next (by decide)]; exact h.2.2⟩) (by rfl) ?_
          intro L wx hS
          go_simp
          try with_reducible rfl
        simp only [Act.put, List.setIfInBounds_toArray, List.set_cons_zero, List.set_cons_succ, List.getElem_toArray, List.getElem_cons_zero, List.getElem_cons_succ]
        refine AllS.next (v := ?_) rfl rfl rfl (by kernel_rfl) ?_ ?_
        rotate_left
        · refine yieldsS_run (fun L wx h => ⟨by simpa using h.1, fun h8 => getD_set_true (h.2.1 (by rwa [getD_next (by decide)] at h8)), by rw [getD_next (by decide)]; exact h.2.2⟩) (by rfl) ?_
          intro L wx hS
          go_simp
          try with_reducible rfl
        simp only [Act.put, List.setIfInBounds_toArray, List.set_cons_zero, List.set_cons_succ, List.getElem_toArray, List.getElem_cons_zero, List.getElem_cons_succ]
        refine AllS.next (v := undef) rfl rfl rfl (by kernel_rfl) ?_ ?_
        · exact yieldsS_store28 (by rfl) rfl rfl rfl fun L wx hL hS => ⟨⟨_, hS.2.2.blk (b + 1) 70 (arr (if L.getD 8 false = true then N else O)) (by simp)⟩, by simpa using hS.1, fun _ => getD_set_true (ready_dep hL (by kernel_rfl)), by rw [getD_self (by rw [hS.1]; decide), if_pos rfl]; exact hS.2.2.setMid _ (by omega) (by omega) (by omega)⟩
        simp only [Act.put, List.getElem_toArray, List.getElem_cons_zero, List.getElem_cons_succ]
        refine AllS.done (by kernel_rfl) ?_
        intro wx hS
        have hf := hS.2.2
        rw [if_pos (by rfl)] at hf
        clear hS
        go_wp2
        go_roundg (gk - 1)
        case measure => (have := Hn.out; omega)
        case rel => exact ⟨k + 1, by have := Hn.out; omega, by go_num, by rw [HN.out]; exact hf⟩
      · rw [if_neg hbit] at hst
        have hbit2 : b'.toNat.testBit k = false := by simpa using hbit
        rw [hbit2] at hbw
        have Hst := Lib.hid hst
        clear hn hst hbit hbit2 cL cA
        go_wp2
        go_roundg (gk - 1)
        case measure => (have := Hn.out; omega)
        case rel => exact ⟨k + 1, by have := Hn.out; omega, by go_num, by rw [Hst.out]; exact hm⟩
    · have hk64 : k = 64 := by omega
      subst hk64
      clear hn hk cL cA
      generalize hN : (fun i => (mulB a.toNat b'.toNat 64).getLsbD i) = N at *
      have HN := Lib.hid hN
      clear hN
      go_wp2_with (first
        | (refine ld28 rfl (.tmp 5) rfl (w.heap.size + 1) rfl N (hm.blk _ _ _ (by simp)) ?_)
        | (refine st28 rfl (.tmp 4) (.tmp 28) rfl w.heap.size N (fun _ => false) rfl rfl (hm.blk _ _ _ (by simp)) ?_))
      refine bodyPost_ret (v := .agg (arr N)) ?_ rfl ⟨by rw [HN.out], below_setRow hm.below (Nat.le_refl _) _⟩
      exact results_cell_row rfl _ _ _ _ _ _ _ rfl ((hm.blk w.heap.size 70 (arr fun _ => false) (by simp)).setRow _) under28 rfl (by rw [arr_size]; exact size28)
end Go.Proofs.Yteljjjdejjkgfaa
namespace Go.Proofs.Yteljjjdejjkgfaa
open Go.RowKit
/-- What is kept while the last statement of Sub is carried out. -/
structure SubMem (w0 : World) (b g : Nat) (X Y S R : Nat → Bool) (w : World) : Prop where
  bx : Blk w b 70 (arr X)
  by_ : Blk w (b + 1) 70 (arr Y)
  br : Blk w (b + 1 + 1) 70 (arr R)
  b8 : Blk w g 70 (arr S)
  below : Below w0.heap.size w0 w
theorem SubMem.keep {w0 w w' : World} {b g : Nat} {X Y S R : Nat → Bool} (h : SubMem w0 b g X Y S R w) (hb : Below w.heap.size w w') : SubMem w0 b g X Y S R w' :=
  ⟨h.bx.below hb h.bx.lt, h.by_.below hb h.by_.lt, h.br.below hb h.br.lt, h.b8.below hb h.b8.lt, h.below.trans (hb.mono h.below.size)⟩
theorem SubMem.drew {w0 w : World} {b g : Nat} {X Y S R : Nat → Bool} (h : SubMem w0 b g X Y S R w) : SubMem w0 b g X Y S R w.drew := ⟨h.bx, h.by_, h.br, h.b8, h.below.drew⟩
theorem SubMem.put {w0 w : World} {b g : Nat} {X Y S R : Nat → Bool} (h : SubMem w0 b g X Y S R w) (hb : w0.heap.size ≤ b) (hg : g ≠ b + 1 + 1) : SubMem w0 b g X Y S S (w.setRow (b + 1 + 1) (arr S)) :=
  ⟨h.bx.setRow_other (by omega) _, h.by_.setRow_other (by omega) _, h.br.setRow _, h.b8.setRow_other (fun e => hg e.symm) _, below_setRow h.below (by omega) _⟩
theorem SubMem.next {w0 w : World} {b g : Nat} {X Y S R : Nat → Bool} (h : SubMem w0 b g X Y S R w) (A : Nat → Bool) (Z : Array Value) : SubMem w0 b w.heap.size X Y A R ((w.alloc (.cells Z 70)).setRow w.heap.size (arr A)) :=
  ⟨(h.bx.alloc _).setRow_other (by have := h.bx.lt; omega) _, (h.by_.alloc _).setRow_other (by have := h.by_.lt; omega) _, (h.br.alloc _).setRow_other (by have := h.br.lt; omega) _, (Blk.new' rfl).setRow _,
    below_setRow (h.below.alloc h.below.size _) h.below.size _⟩
set_option maxRecDepth 100000 in
set_option maxHeartbeats 4000000 in
theorem sub_road (X Y N O A S : Nat → Bool) (c : Int) (f1 f2 : Bool) (w : World)
    (cN : ∀ W, Calls Try.prog 56 #[.agg (arr Y)] W fun e w' => e = .returned (.agg (arr N)) ∧ Below W.heap.size W w')
    (cO : ∀ W, Calls Try.prog 49 #[.int .u64 0, .int .u64 1] W fun e w' => e = .returned (.agg (arr O)) ∧ Below W.heap.size W w')
    (cA : ∀ W, Calls Try.prog 37 #[.agg (arr N), .agg (arr O)] W fun e w' => e = .returned (.tuple #[.agg (arr A), .bool f1]) ∧ Below W.heap.size W w')
    (cB : ∀ W, Calls Try.prog 37 #[.agg (arr X), .agg (arr A)] W fun e w' => e = .returned (.tuple #[.agg (arr S), .bool f2]) ∧ Below W.heap.size W w')
    (cC : ∀ W, Calls Try.prog 51 #[.agg (arr X), .agg (arr Y)] W fun e w' => e = .returned (.int .i64 c) ∧ Below W.heap.size W w') :
    Calls Try.prog 52 #[.agg (arr X), .agg (arr Y)] w fun e w' => e = .returned (.tuple #[.agg (arr S), .bool (decide (0 ≤ c))]) ∧ Below w.heap.size w w' := by
  have zv := zero28
  have h0 : SubMem w w.heap.size w.heap.size X Y X (fun _ => false) (((w.alloc (.cells (arr X) 70)).alloc (.cells (arr Y) 70)).alloc (.cells (arr fun _ => false) 70)) :=
    ⟨((Blk.new' rfl).alloc _).alloc _, (Blk.new' (by simp)).alloc _, Blk.new' (by simp), ((Blk.new' rfl).alloc _).alloc _, (((Below.refl _ _).alloc (Nat.le_refl _) _).alloc (by simp) _).alloc (by simp; omega) _⟩
  go_enter Try.func52, Try.ntmps52
  go_wp2_with (first
    | (refine ld28 rfl _ rfl (w.heap.size + 1) rfl Y h0.by_ ?_)
    | (go_at_call 56; (with_reducible refine (cN _).mono ?_); rintro e w2 ⟨rfl, hb1⟩; have h1 := h0.keep hb1)
    | (go_at_call 49; (with_reducible refine (cO _).mono ?_); rintro e w3 ⟨rfl, hb2⟩; have h2 := h1.keep hb2)
    | (go_at_call 37; (with_reducible refine (cA _).mono ?_); rintro e w4 ⟨rfl, hb3⟩; have h3 := h2.keep hb3; clear h0 h1 h2 hb1 hb2 hb3)
    | (refine st28 rfl _ _ rfl w4.heap.size A (fun _ => false) rfl rfl (Blk.new' rfl) ?_))
  have n4 := h3.next A (arr fun _ => false)
  generalize ((w4.alloc (.cells (arr fun _ => false) 70)).setRow w4.heap.size (arr A)) = W4 at *
  generalize w4.heap.size = g4 at *
  clear h3 cN cO cA
  refine ld28_op (ops := #[]) rfl w.heap.size X rfl n4.bx ?_ rfl
  go_wp2_with (first
    | (refine ld28 rfl _ rfl g4 rfl A n4.b8 ?_)
    | (go_at_call 37; (with_reducible refine (cB _).mono ?_); rintro e w5 ⟨rfl, hb4⟩; have h4 := n4.keep hb4; clear n4 hb4)
    | (refine st28 rfl _ _ rfl w5.heap.size S (fun _ => false) rfl rfl (Blk.new' rfl) ?_))
  have n5 := h4.next S (arr fun _ => false)
  have hgn : w5.heap.size ≠ w.heap.size + 1 + 1 := by have := h4.br.lt; omega
  generalize ((w5.alloc (.cells (arr fun _ => false) 70)).setRow w5.heap.size (arr S)) = W5 at *
  generalize w5.heap.size = g5 at *
  clear h4 cB zv
  have hg5 : g5 ≠ w.heap.size + 1 + 1 := hgn
  refine wp_region_S (S := fun L w' => L.size = 7 ∧ SubMem w w.heap.size g5 X Y S (if L.getD 5 false = true then S else fun _ => false) w') (by kernel_rfl) ⟨rfl, n5.drew⟩ ?_
  refine AllS.next (v := .agg (arr S)) rfl rfl rfl (by kernel_rfl) ?_ ?_
  · exact yieldsS_load28 (fun L wx h => ⟨by simpa using h.1, by rw [getD_next (by decide)]; exact h.2⟩) (by rfl) rfl rfl fun L wx hS => hS.2.b8
  simp only [Act.put, List.setIfInBounds_toArray, List.set_cons_zero, List.set_cons_succ, List.getElem_toArray, List.getElem_cons_zero]
  refine AllS.next (v := .agg (arr X)) rfl rfl rfl (by kernel_rfl) ?_ ?_
  · exact yieldsS_load28 (fun L wx h => ⟨by simpa using h.1, by rw [getD_next (by decide)]; exact h.2⟩) (by rfl) rfl rfl fun L wx hS => hS.2.bx
  simp only [Act.put, List.setIfInBounds_toArray, List.set_cons_zero, List.set_cons_succ, List.getElem_toArray, List.getElem_cons_zero, List.getElem_cons_succ]
  refine AllS.next (v := .agg (arr Y)) rfl rfl rfl (by kernel_rfl) ?_ ?_
  · exact yieldsS_load28 (fun L wx h => ⟨by simpa using h.1, by rw [getD_next (by decide)]; exact h.2⟩) (by rfl) rfl rfl fun L wx hS => hS.2.by_
  simp only [Act.put, List.setIfInBounds_toArray, List.set_cons_zero, List.set_cons_succ, List.getElem_toArray, List.getElem_cons_zero, List.getElem_cons_succ]
  refine AllS.next (v := .int .i64 c) rfl rfl rfl (by kernel_rfl) ?_ ?_
  · refine yieldsS_call (f := 51) (args := #[.agg (arr X), .agg (arr Y)]) (by rfl) ?_ ?_
    · intro wx
      go_simp
      try with_reducible rfl
    · intro L wx hS
      exact (cC wx).mono fun e w' h => ⟨h.1, by simpa using hS.1, by rw [getD_next (by decide)]; exact hS.2.keep h.2⟩
  simp only [Act.put, List.setIfInBounds_toArray, List.set_cons_zero, List.set_cons_succ, List.getElem_toArray, List.getElem_cons_zero, List.getElem_cons_succ]
  refine AllS.next (v := ?_) rfl rfl rfl (by kernel_rfl) ?_ ?_
  rotate_left
  · refine yieldsS_run (fun L wx h => ⟨by simpa using h.1, by rw [getD_next (by decide)]; exact h.2⟩) (by rfl) ?_
    intro L wx hS
    go_simp
    try with_reducible rfl
  simp only [Act.put, List.setIfInBounds_toArray, List.set_cons_zero, List.set_cons_succ, List.getElem_toArray, List.getElem_cons_zero, List.getElem_cons_succ]
  refine AllS.next (v := undef) rfl rfl rfl (by kernel_rfl) ?_ ?_
  · exact yieldsS_store28 (by rfl) rfl rfl rfl fun L wx _ hS => ⟨⟨_, hS.2.br⟩, by simpa using hS.1, by rw [getD_self (by rw [hS.1]; decide)]; exact hS.2.put (Nat.le_refl _) hg5⟩
  simp only [Act.put, List.getElem_toArray, List.getElem_cons_zero, List.getElem_cons_succ]
  refine AllS.next (v := ?_) rfl rfl rfl (by kernel_rfl) ?_ ?_
  rotate_left
  · refine yieldsS_run (fun L wx h => ⟨by simpa using h.1, by rw [getD_next (by decide)]; exact h.2⟩) (by rfl) ?_
    intro L wx hS
    go_simp
    try with_reducible rfl
  simp only [Act.put, List.setIfInBounds_toArray, List.set_cons_zero, List.set_cons_succ, List.getElem_toArray, List.getElem_cons_zero, List.getElem_cons_succ]
  refine AllS.done (by kernel_rfl) ?_
  intro wx hS
  have hf := hS.2
  rw [if_pos (by rfl)] at hf
  clear hS
  go_wp2
  have hr := res28 _ _ _ hf.br
  refine bodyPost_ret (v := .tuple #[.agg (arr S), .bool (decide (0 ≤ c))]) ?_ rfl ⟨rfl, hf.below⟩
  simp [results, Try.results52, asAddr, hr]
theorem rsub_any (x y : BitVec 128) (w : World) :
    Calls Try.prog 52 #[.agg (bv x), .agg (bv y)] w fun e w' => e = .returned (.tuple #[.agg (bv (x - y)), .bool (decide (0 ≤ cmpN x.toNat y.toNat))]) ∧ Below w.heap.size w w' := by
  have cO := of_any 0 1 ⟨by decide, by decide⟩ ⟨by decide, by decide⟩
  have e1 : BitVec.ofInt 128 (0 * 18446744073709551616 + 1) = 1#128 := by decide
  rw [e1] at cO
  have cB := radd_any x (~~~y + 1#128)
  have e2 : x + (~~~y + 1#128) = x - y := by rw [BitVec.sub_eq_add_neg, BitVec.neg_eq_not_add]
  rw [e2] at cB
  exact sub_road _ _ _ _ _ _ _ _ _ w (rnot_any y) cO (radd_any (~~~y) 1#128) cB (rcmp_any x y)
end Go.Proofs.Yteljjjdejjkgfaa
namespace Go.Proofs.Yteljjjdejjkgfaa
open Go.RowKit
/-- What the loop of Div keeps. -/
structure DM (w0 : World) (b g : Nat) (X D L Q R1 R2 : Nat → Bool) (w : World) : Prop where
  bx : Blk w b 70 (arr X)
  b1 : Blk w (b + 1) 70 (arr R1)
  b2 : Blk w (b + 1 + 1) 70 (arr R2)
  bq : Blk w (b + 1 + 1 + 1) 70 (arr Q)
  bl : Blk w (b + 1 + 1 + 1 + 1) 70 (arr L)
  bd : Blk w g 70 (arr D)
  hg : b + 1 + 1 + 1 + 1 < g
  hb : w0.heap.size ≤ b
  below : Below w0.heap.size w0 w
section
variable {w0 w w' : World} {b g : Nat} {X D L Q R1 R2 : Nat → Bool}
theorem DM.keep (h : DM w0 b g X D L Q R1 R2 w) (hb : Below w.heap.size w w') : DM w0 b g X D L Q R1 R2 w' :=
  ⟨h.bx.below hb h.bx.lt, h.b1.below hb h.b1.lt, h.b2.below hb h.b2.lt, h.bq.below hb h.bq.lt, h.bl.below hb h.bl.lt, h.bd.below hb h.bd.lt, h.hg, h.hb, h.below.trans (hb.mono h.below.size)⟩
theorem DM.drew (h : DM w0 b g X D L Q R1 R2 w) : DM w0 b g X D L Q R1 R2 w.drew := ⟨h.bx, h.b1, h.b2, h.bq, h.bl, h.bd, h.hg, h.hb, h.below.drew⟩
theorem DM.setL (h : DM w0 b g X D L Q R1 R2 w) (f : Nat → Bool) : DM w0 b g X D f Q R1 R2 (w.setRow (b + 1 + 1 + 1 + 1) (arr f)) := by
  have := h.hg; have := h.hb
  exact ⟨h.bx.setRow_other (by omega) _, h.b1.setRow_other (by omega) _, h.b2.setRow_other (by omega) _, h.bq.setRow_other (by omega) _, h.bl.setRow _, h.bd.setRow_other (by omega) _, h.hg, h.hb, below_setRow h.below (by omega) _⟩
theorem DM.bitL (h : DM w0 b g X D L Q R1 R2 w) (v : Bool) : DM w0 b g X D (fun i => if i = 0 then v else L i) Q R1 R2 (w.setCell ⟨b + 1 + 1 + 1 + 1, 0, none⟩ (.bool v)) := by
  have := h.hg; have := h.hb
  exact ⟨h.bx.other (by simp; omega) _, h.b1.other (by simp; omega) _, h.b2.other (by simp; omega) _, h.bq.other (by simp) _, h.bl.putBit _ _, h.bd.other (by simp; omega) _, h.hg, h.hb, h.below.setCell (by simp; omega) _⟩
theorem DM.bitQ (h : DM w0 b g X D L Q R1 R2 w) (j : Nat) (v : Bool) : DM w0 b g X D L (fun i => if i = j then v else Q i) R1 R2 (w.setCell ⟨b + 1 + 1 + 1, j, none⟩ (.bool v)) := by
  have := h.hg; have := h.hb
  exact ⟨h.bx.other (by simp; omega) _, h.b1.other (by simp; omega) _, h.b2.other (by simp) _, h.bq.putBit _ _, h.bl.other (by simp) _, h.bd.other (by simp; omega) _, h.hg, h.hb, h.below.setCell (by simp; omega) _⟩
theorem DM.set1 (h : DM w0 b g X D L Q R1 R2 w) (f : Nat → Bool) : DM w0 b g X D L Q f R2 (w.setRow (b + 1) (arr f)) := by
  have := h.hg; have := h.hb
  exact ⟨h.bx.setRow_other (by omega) _, h.b1.setRow _, h.b2.setRow_other (by omega) _, h.bq.setRow_other (by omega) _, h.bl.setRow_other (by omega) _, h.bd.setRow_other (by omega) _, h.hg, h.hb, below_setRow h.below (by omega) _⟩
theorem DM.set2 (h : DM w0 b g X D L Q R1 R2 w) (f : Nat → Bool) : DM w0 b g X D L Q R1 f (w.setRow (b + 1 + 1) (arr f)) := by
  have := h.hg; have := h.hb
  exact ⟨h.bx.setRow_other (by omega) _, h.b1.setRow_other (by omega) _, h.b2.setRow _, h.bq.setRow_other (by omega) _, h.bl.setRow_other (by omega) _, h.bd.setRow_other (by omega) _, h.hg, h.hb, below_setRow h.below (by omega) _⟩
theorem DM.congr (h : DM w0 b g X D L Q R1 R2 w) {L' Q' : Nat → Bool} (hl : ∀ i, i < 128 → L i = L' i) (hq : ∀ i, i < 128 → Q i = Q' i) : DM w0 b g X D L' Q' R1 R2 w :=
  ⟨h.bx, h.b1, h.b2, arr_congr hq ▸ h.bq, arr_congr hl ▸ h.bl, h.bd, h.hg, h.hb, h.below⟩
end
/-- The bits of n. -/
def nb (n : Nat) : Nat → Bool := fun i => (BitVec.ofNat 128 n).getLsbD i
theorem nb_eq (n i : Nat) (hi : i < 128) : nb n i = n.testBit i := by unfold nb; rw [BitVec.getLsbD_ofNat]; simp [hi]
/-- The quotient's bits, as far as they are laid. -/
def qb (q k : Nat) : Nat → Bool := fun i => decide (k ≤ i) && q.testBit (i - k)
theorem left_step (R : Nat) (b : Bool) (i : Nat) (hi : i < 128) : (if i = 0 then b else (shlB (BitVec.ofNat 128 R) 1).getLsbD i) = nb (2 * R + b.toNat) i := by
  rw [nb_eq _ _ hi]
  have es : shlB (BitVec.ofNat 128 R) 1 = BitVec.ofNat 128 R <<< 1 := by unfold shlB; rw [if_neg (by decide)]; rfl
  rw [es]
  cases i with
  | zero => rw [if_pos rfl, Nat.testBit_zero]; cases b <;> simp <;> omega
  | succ i =>
    rw [if_neg (by omega), BitVec.getLsbD_shiftLeft, BitVec.getLsbD_ofNat, Nat.testBit_succ]
    have : (2 * R + b.toNat) / 2 = R := by cases b <;> simp <;> omega
    rw [this]
    have h1 : i < 128 := by omega
    simp [hi, h1]
theorem q_step0 (q j i : Nat) : qb q (j + 1) i = qb (2 * q) j i := by
  unfold qb
  by_cases h : j + 1 ≤ i
  · have e : i - j = (i - (j + 1)) + 1 := by omega
    have h2 : j ≤ i := by omega
    rw [e, Nat.testBit_succ, show 2 * q / 2 = q by omega]; simp [h, h2]
  · by_cases h2 : i = j
    · subst h2
      have h3 : ¬ i + 1 ≤ i := by omega
      rw [decide_eq_false h3, Nat.sub_self, Nat.testBit_zero]; simp
    · have h3 : ¬ j ≤ i := by omega
      simp [h, h3]
theorem q_step1 (q j i : Nat) : (if i = j then true else qb q (j + 1) i) = qb (2 * q + 1) j i := by
  unfold qb
  by_cases h2 : i = j
  · subst h2; simp
  · rw [if_neg h2]
    by_cases h : j + 1 ≤ i
    · have e : i - j = (i - (j + 1)) + 1 := by omega
      have h3 : j ≤ i := by omega
      rw [e, Nat.testBit_succ, show (2 * q + 1) / 2 = q by omega]; simp [h, h3]
    · have h3 : ¬ j ≤ i := by omega
      simp [h, h3]
theorem nat_step (V d j : Nat) (hd : 0 < d) : (2 * (V / 2 ^ (j + 1) % d) + (V.testBit j).toNat < d → V / 2 ^ j % d = 2 * (V / 2 ^ (j + 1) % d) + (V.testBit j).toNat ∧ V / 2 ^ j / d = 2 * (V / 2 ^ (j + 1) / d)) ∧
    (d ≤ 2 * (V / 2 ^ (j + 1) % d) + (V.testBit j).toNat → V / 2 ^ j % d = 2 * (V / 2 ^ (j + 1) % d) + (V.testBit j).toNat - d ∧ V / 2 ^ j / d = 2 * (V / 2 ^ (j + 1) / d) + 1) := by
  have hT : V / 2 ^ j = 2 * (V / 2 ^ (j + 1)) + (V.testBit j).toNat := by
    rw [Nat.pow_succ, ← Nat.div_div_eq_div_mul, Nat.testBit_eq_decide_div_mod_eq]
    have := Nat.mod_two_eq_zero_or_one (V / 2 ^ j)
    rcases this with h | h <;> simp [h] <;> omega
  have hb : (V.testBit j).toNat ≤ 1 := by cases V.testBit j <;> simp
  have s := step_div ((V / 2 ^ (j + 1) : Nat) : Int) ((V / 2 ^ j : Nat) : Int) d (((V.testBit j).toNat : Nat) : Int) (by omega) (by omega) (by omega) (by omega)
  have c1 : ((V / 2 ^ (j + 1) : Nat) : Int) % d = ((V / 2 ^ (j + 1) % d : Nat) : Int) := by simp
  have c2 : ((V / 2 ^ (j + 1) : Nat) : Int) / d = ((V / 2 ^ (j + 1) / d : Nat) : Int) := by simp
  have c3 : ((V / 2 ^ j : Nat) : Int) % d = ((V / 2 ^ j % d : Nat) : Int) := by simp
  have c4 : ((V / 2 ^ j : Nat) : Int) / d = ((V / 2 ^ j / d : Nat) : Int) := by simp
  rw [c1, c2, c3, c4] at s
  generalize V / 2 ^ (j + 1) % d = r at *
  generalize V / 2 ^ (j + 1) / d = q at *
  generalize V / 2 ^ j % d = r' at *
  generalize V / 2 ^ j / d = q' at *
  clear c1 c2 c3 c4 hT
  constructor
  · intro h; have := s.1 (by omega); omega
  · intro h; have := s.2 (by omega); omega
end Go.Proofs.Yteljjjdejjkgfaa
namespace Go.Proofs.Yteljjjdejjkgfaa
open Go.RowKit
theorem dm_start {w w2 : World} {X D : Nat → Bool} (Z : Array Value) (z : Nat → Bool)
    (hb : Below (((((w.alloc (.cells (arr X) 70)).alloc (.cells (arr z) 70)).alloc (.cells (arr z) 70)).alloc (.cells (arr z) 70)).alloc (.cells (arr z) 70)).heap.size
      (((((w.alloc (.cells (arr X) 70)).alloc (.cells (arr z) 70)).alloc (.cells (arr z) 70)).alloc (.cells (arr z) 70)).alloc (.cells (arr z) 70)) w2) :
    DM w w.heap.size w2.heap.size X D z z z z ((w2.alloc (.cells Z 70)).setRow w2.heap.size (arr D)) := by
  have m := (((((Mem.start w).new 70 (arr X)).new 70 (arr z)).new 70 (arr z)).new 70 (arr z)).new 70 (arr z)
  simp only [World.size_alloc] at m
  have m2 := m.keep hb
  have m3 := m2.row 70 Z (arr D)
  exact ⟨m3.blk _ _ _ (by simp), m3.blk _ _ _ (by simp), m3.blk _ _ _ (by simp), m3.blk _ _ _ (by simp), m3.blk _ _ _ (by simp), m3.blk _ _ _ (by simp),
    (m2.blk (w.heap.size + 1 + 1 + 1 + 1) 70 (arr z) (by simp)).lt, Nat.le_refl _, m3.below⟩
set_option maxRecDepth 100000 in
set_option maxHeartbeats 8000000 in
theorem rdiv_any (V d : Nat) (hV : V < 340282366920938463463374607431768211456) (hd : 0 < d) (hd2 : d < 18446744073709551616) (w : World) :
    Calls Try.prog 39 #[.agg (arr (nb V)), .int .u64 d] w fun e w' => e = .returned (.tuple #[.agg (arr (nb (V / d))), .agg (arr (nb (V % d)))]) ∧ Below w.heap.size w w' := by
  have zv := zero28
  have cO : ∀ W, Calls Try.prog 49 #[.int .u64 0, .int .u64 d] W fun e w' => e = .returned (.agg (arr (nb d))) ∧ Below W.heap.size W w' := fun W => by
    have := of_any 0 d ⟨by decide, by decide⟩ ⟨by omega, by omega⟩ W
    have e1 : BitVec.ofInt 128 (0 * 18446744073709551616 + (d : Int)) = BitVec.ofNat 128 d := by rw [Int.zero_mul, Int.zero_add, BitVec.ofInt_natCast]
    rw [e1] at this
    exact this
  have HV := Lib.hid hV
  have Hd := Lib.hid hd
  have Hd2 := Lib.hid hd2
  clear hV hd hd2
  go_enter Try.func39, Try.ntmps39
  go_wp2_with (first
    | (go_at_call 49; (with_reducible refine (cO _).mono ?_); rintro e w2 ⟨rfl, hb1⟩)
    | (refine st28 rfl (.tmp 8) (.tmp 11) rfl w2.heap.size (nb d) (fun _ => false) rfl rfl (Blk.new' rfl) ?_; have h0 := dm_start (D := nb d) (arr fun _ => false) (fun _ => false) hb1; generalize (w2.alloc (.cells (arr fun _ => false) 70)).setRow w2.heap.size (arr (nb d)) = W3 at *; generalize w2.heap.size = g at *; clear hb1))
  clear cO zv
  go_loopg [9] 128 (fun n s9 wr => ∃ (k : Nat), n = k ∧ k ≤ 128 ∧ s9 = .int .i64 ((k : Int) - 1) ∧ DM w w.heap.size g (nb V) (nb d) (nb (V / 2 ^ k % d)) (qb (V / 2 ^ k / d) k) (fun _ => false) (fun _ => false) wr)
  case atStart =>
    have e0 : V / 2 ^ 128 = 0 := Nat.div_eq_of_lt HV.out
    exact ⟨128, rfl, by omega, rfl, h0.congr (fun i _ => by rw [e0]; simp [nb]) (fun i _ => by rw [e0]; simp [qb])⟩
  case round =>
    obtain ⟨k, rfl, hk, rfl, hm⟩ := hrel
    clear h0
    by_cases hk0 : gk = 0
    · subst hk0
      have hf := hm.congr (L' := nb (V % d)) (Q' := nb (V / d)) (fun i _ => by rw [Nat.pow_zero, Nat.div_one]) (fun i hi => by rw [Nat.pow_zero, Nat.div_one, nb_eq _ _ hi]; simp [qb])
      clear hm
      generalize hF : nb (V / d) = F at *
      generalize hG : nb (V % d) = G at *
      have HF := Lib.hid hF
      have HG := Lib.hid hG
      generalize hb : w.heap.size = b at *
      have Hb := Lib.hid hb
      clear hF hG hb
      go_wp2
      refine wp_region_S (S := fun L w' => L.size = 4 ∧ DM w b g (nb V) (nb d) G F (if L.getD 2 false = true then F else fun _ => false) (if L.getD 3 false = true then G else fun _ => false) w') (by kernel_rfl) ⟨rfl, hf.drew⟩ ?_
      refine AllS.next (v := .agg (arr F)) rfl rfl rfl (by kernel_rfl) ?_ ?_
      · exact yieldsS_load28 (fun L wx h => ⟨by simpa using h.1, by rw [getD_next (by decide), getD_next (by decide)]; exact h.2⟩) (by rfl) rfl rfl fun L wx hS => hS.2.bq
      simp only [Act.put, List.setIfInBounds_toArray, List.set_cons_zero, List.set_cons_succ, List.getElem_toArray, List.getElem_cons_zero]
      refine AllS.next (v := .agg (arr G)) rfl rfl rfl (by kernel_rfl) ?_ ?_
      · exact yieldsS_load28 (fun L wx h => ⟨by simpa using h.1, by rw [getD_next (by decide), getD_next (by decide)]; exact h.2⟩) (by rfl) rfl rfl fun L wx hS => hS.2.bl
      simp only [Act.put, List.setIfInBounds_toArray, List.set_cons_zero, List.set_cons_succ, List.getElem_toArray, List.getElem_cons_zero, List.getElem_cons_succ]
      refine AllS.next (v := undef) rfl rfl rfl (by kernel_rfl) ?_ ?_
      · exact yieldsS_store28 (by rfl) rfl rfl rfl fun L wx _ hS => ⟨⟨_, hS.2.b1⟩, by simpa using hS.1, by rw [getD_self (by rw [hS.1]; decide), getD_next (by decide), if_pos rfl]; exact hS.2.set1 _⟩
      simp only [Act.put, List.getElem_toArray, List.getElem_cons_zero, List.getElem_cons_succ]
      refine AllS.next (v := undef) rfl rfl rfl (by kernel_rfl) ?_ ?_
      · exact yieldsS_store28 (by rfl) rfl rfl rfl fun L wx _ hS => ⟨⟨_, hS.2.b2⟩, by simpa using hS.1, by rw [getD_self (by rw [hS.1]; decide), getD_next (by decide), if_pos rfl]; exact hS.2.set2 _⟩
      simp only [Act.put, List.getElem_toArray, List.getElem_cons_zero, List.getElem_cons_succ]
      refine AllS.done (by kernel_rfl) ?_
      intro wx hS
      have hz := hS.2
      rw [if_pos (by rfl), if_pos (by rfl)] at hz
      clear hS hf
      go_wp2
      have hr1 := res28 _ _ _ hz.b1
      have hr2 := res28 _ _ _ hz.b2
      refine bodyPost_ret (v := .tuple #[.agg (arr F), .agg (arr G)]) ?_ rfl ⟨by rw [HF.out, HG.out], by rw [← Hb.out] at hz; exact hz.below⟩
      simp [results, Try.results39, asAddr, hr1, hr2]
    · obtain ⟨j, rfl⟩ : ∃ j, gk = j + 1 := ⟨gk - 1, by omega⟩
      have hst := nat_step V d j Hd.out
      have hvj : nb V j = V.testBit j := nb_eq V j (by omega)
      rw [← hvj] at hst
      have hRlt := Nat.mod_lt (V / 2 ^ (j + 1)) Hd.out
      generalize hR : V / 2 ^ (j + 1) % d = R at *
      generalize hQ : V / 2 ^ (j + 1) / d = q at *
      have cL : ∀ W, Calls Try.prog 50 #[.agg (arr (nb R)), .int .i64 1] W fun e w' => e = .returned (.agg (arr fun i => (shlB (BitVec.ofNat 128 R) 1).getLsbD i)) ∧ Below W.heap.size W w' := rleft_any (BitVec.ofNat 128 R) 1 (by decide)
      generalize hv : nb V j = v at *
      have hN := left_step R v
      generalize hS1 : (fun i => (shlB (BitVec.ofNat 128 R) 1).getLsbD i) = S1 at *
      have hvle : v.toNat ≤ 1 := by cases v <;> simp
      obtain ⟨N, hNe⟩ : ∃ N, 2 * R + v.toNat = N := ⟨_, rfl⟩
      have hN' : ∀ i, i < 128 → (if i = 0 then v else S1 i) = nb N i := by rw [← hNe]; subst hS1; exact hN
      rw [hNe] at hst
      have hNlt : N < 340282366920938463463374607431768211456 := by have := Hd2.out; omega
      have hNm : (BitVec.ofNat 128 N).toNat = N := by rw [BitVec.toNat_ofNat]; exact Nat.mod_eq_of_lt hNlt
      have hdm : (BitVec.ofNat 128 d).toNat = d := by rw [BitVec.toNat_ofNat]; exact Nat.mod_eq_of_lt (by have := Hd2.out; omega)
      have cC : ∀ W, Calls Try.prog 51 #[.agg (arr (nb N)), .agg (arr (nb d))] W fun e w' => e = .returned (.int .i64 (cmpN N d)) ∧ Below W.heap.size W w' := fun W => by
        have := rcmp_any (BitVec.ofNat 128 N) (BitVec.ofNat 128 d) W
        rw [hNm, hdm] at this
        exact this
      have HN := Lib.hid hN'
      have Hv := Lib.hid hv
      have hj0 : (0 : Int) ≤ ((j + 1 : Nat) : Int) - 1 := by omega
      have hj1 : j < 128 := by omega
      generalize hb : w.heap.size = b at *
      have Hb := Lib.hid hb
      clear hR hQ hN hN' hNe hvle hRlt hS1 hNm hvj hv hb
      by_cases hlt : N < d
      · have hc : cmpN N d = -1 := by unfold cmpN; rw [if_neg (by omega), if_pos hlt]
        have Hst := Lib.hid (hst.1 hlt)
        rw [hc] at cC
        clear hc hst hdm hNlt
        go_wp2_with (first
          | (refine ld28 rfl (.tmp 7) rfl (b + 1 + 1 + 1 + 1) rfl (nb R) hm.bl ?_)
          | (go_at_call 50; (with_reducible refine (cL _).mono ?_); rintro e w5 ⟨rfl, hb5⟩; have h1 := hm.keep hb5; clear hm hb5)
          | (refine st28 rfl (.tmp 7) (.tmp 17) rfl (b + 1 + 1 + 1 + 1) S1 (nb R) rfl rfl h1.bl ?_; have h2 := h1.setL S1; generalize w5.setRow (b + 1 + 1 + 1 + 1) (arr S1) = W5 at *; clear h1; have x0 := h2.bx.bit j hj1; have l0 := h2.bl.bit 0 (by decide); have l1 := h2.bl.free 0; rw [Hv.out] at x0; have h3 := (h2.bitL v).congr HN.out (fun _ _ => rfl); clear h2)
          | (refine ld28 rfl (.tmp 7) rfl (b + 1 + 1 + 1 + 1) rfl (nb N) h3.bl ?_)
          | (refine ld28 rfl (.tmp 8) rfl g rfl (nb d) h3.bd ?_)
          | (go_at_call 51; (with_reducible refine (cC _).mono ?_); rintro e w6 ⟨rfl, hb6⟩; have h4 := h3.keep hb6; clear h3 hb6))
        go_roundg j
        case measure => omega
        case rel => exact ⟨j, rfl, by omega, by go_num, by rw [Hst.out.1, Hst.out.2]; exact h4.congr (fun _ _ => rfl) (fun i _ => q_step0 q j i)⟩
      · have hge : d ≤ N := by omega
        have Hst := Lib.hid (hst.2 hge)
        obtain ⟨bo, cS⟩ : ∃ bo, ∀ W, Calls Try.prog 52 #[.agg (arr (nb N)), .agg (arr (nb d))] W fun e w' => e = .returned (.tuple #[.agg (arr (nb (N - d))), .bool bo]) ∧ Below W.heap.size W w' := by
          refine ⟨decide (0 ≤ cmpN (BitVec.ofNat 128 N).toNat (BitVec.ofNat 128 d).toNat), fun W => ?_⟩
          have := rsub_any (BitVec.ofNat 128 N) (BitVec.ofNat 128 d) W
          have e1 : BitVec.ofNat 128 N - BitVec.ofNat 128 d = BitVec.ofNat 128 (N - d) := by
            apply BitVec.eq_of_toNat_eq
            rw [BitVec.toNat_sub, BitVec.toNat_ofNat, BitVec.toNat_ofNat, BitVec.toNat_ofNat, Nat.mod_eq_of_lt hNlt, Nat.mod_eq_of_lt (show d < 2 ^ 128 by omega), Nat.mod_eq_of_lt (show N - d < 2 ^ 128 by omega)]
            omega
          rw [e1] at this
          exact this
        have hc : 0 ≤ cmpN N d := by
          unfold cmpN
          by_cases h1 : N = d
          · rw [if_pos h1]; decide
          · rw [if_neg h1, if_neg (by omega)]; decide
        generalize cmpN N d = c at *
        clear hst hdm hNlt hlt hge
        go_wp2_with (first
          | (refine ld28 rfl (.tmp 7) rfl (b + 1 + 1 + 1 + 1) rfl (nb R) hm.bl ?_)
          | (go_at_call 50; (with_reducible refine (cL _).mono ?_); rintro e w5 ⟨rfl, hb5⟩; have h1 := hm.keep hb5; clear hm hb5)
          | (refine st28 rfl (.tmp 7) (.tmp 17) rfl (b + 1 + 1 + 1 + 1) S1 (nb R) rfl rfl h1.bl ?_; have h2 := h1.setL S1; generalize w5.setRow (b + 1 + 1 + 1 + 1) (arr S1) = W5 at *; clear h1; have x0 := h2.bx.bit j hj1; have l0 := h2.bl.bit 0 (by decide); have l1 := h2.bl.free 0; rw [Hv.out] at x0; have h3 := (h2.bitL v).congr HN.out (fun _ _ => rfl); clear h2)
          | (refine ld28 rfl (.tmp 7) rfl (b + 1 + 1 + 1 + 1) rfl (nb N) h3.bl ?_)
          | (refine ld28 rfl (.tmp 8) rfl g rfl (nb d) h3.bd ?_)
          | (go_at_call 51; (with_reducible refine (cC _).mono ?_); rintro e w6 ⟨rfl, hb6⟩; have h4 := h3.keep hb6; clear h3 hb6)
          | (refine ld28 rfl (.tmp 7) rfl (b + 1 + 1 + 1 + 1) rfl (nb N) h4.bl ?_)
          | (refine ld28 rfl (.tmp 8) rfl g rfl (nb d) h4.bd ?_)
          | (go_at_call 52; (with_reducible refine (cS _).mono ?_); rintro e w7 ⟨rfl, hb7⟩; have h5 := h4.keep hb7; clear h4 hb7)
          | (refine st28 rfl (.tmp 7) (.tmp 30) rfl (b + 1 + 1 + 1 + 1) (nb (N - d)) (nb N) rfl rfl h5.bl ?_; have h6 := h5.setL (nb (N - d)); generalize w7.setRow (b + 1 + 1 + 1 + 1) (arr (nb (N - d))) = W7 at *; clear h5; have q0 := h6.bq.bit j hj1; have q1 := h6.bq.free j))
        go_roundg j
        case measure => omega
        case rel => exact ⟨j, rfl, by omega, by go_num, by rw [Hst.out.1, Hst.out.2]; exact (h6.bitQ j true).congr (fun _ _ => rfl) (fun i _ => q_step1 q j i)⟩
end Go.Proofs.Yteljjjdejjkgfaa
