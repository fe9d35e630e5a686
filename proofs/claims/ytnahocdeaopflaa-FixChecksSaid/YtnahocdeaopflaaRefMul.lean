/-
  The contract of the document's answer Mul: the product of two numbers of 64 bits, a sum of shifted ones.
-/
import Derived.Test.YtnahocdeaopflaaRegB
import Derived.Test.YtnahocdeaopflaaRefAdd
import Derived.Test.YtnahocdeaopflaaRefMv
import Derived.Test.YtnahocdeaopflaaRefHv
namespace Go.Proofs.Ytnahocdeaopflaa
open Go.RowKit
theorem Mem.setMid {w0 w : World} {g h j : Nat} {t : TypeId} {c1 c2 c3 : Array Value} (m : Mem w0 [(g, t, c1), (h, t, c2), (j, t, c3)] w) (c : Array Value) (hg : h ≠ g) (hj : h ≠ j) (hh : w0.heap.size ≤ h) :
    Mem w0 [(g, t, c1), (h, t, c), (j, t, c3)] (w.setRow h c) :=
  ⟨fun p hp => by
    simp only [List.mem_cons, List.not_mem_nil, or_false] at hp
    rcases hp with rfl | rfl | rfl
    · exact (m.blk g t c1 (by simp)).setRow_other hg _
    · exact (m.blk h t c2 (by simp)).setRow _
    · exact (m.blk j t c3 (by simp)).setRow_other hj _, below_setRow m.below hh _⟩
theorem out_before {md : Region.Mode} {ops : Array Oper} {L : Array Bool} {w0 w : World} {g h j : Nat} {t : TypeId} {c1 c3 : Array Value} {O N : Nat → Bool} (hL : 0 ∈ Region.ready md ops L) (h8 : L.getD 8 false = true → L.getD 0 false = true)
    (m : Mem w0 [(g, t, c1), (h, t, arr (if L.getD 8 false = true then N else O)), (j, t, c3)] w) : Blk w h t (arr O) := by
  have h0 := ready_not hL
  have e : L.getD 8 false = false := by
    cases hc : L.getD 8 false
    · rfl
    · rw [h8 hc] at h0; cases h0
  rw [e] at m
  exact m.blk h t (arr O) (by simp)
/-- The sum so far. -/
def mulB (A B k : Nat) : BitVec 128 := BitVec.ofNat 128 (A * (B % 2 ^ k))
theorem mulB_step (A B k : Nat) (hA : A < 18446744073709551616) : mulB A B (k + 1) = if B.testBit k then mulB A B k + (BitVec.ofNat 128 A) <<< k else mulB A B k := by
  unfold mulB
  rw [mod_step]
  cases B.testBit k
  · simp
  · rw [if_pos rfl, if_pos rfl, Nat.mul_add, BitVec.ofNat_add]
    congr 1
    apply BitVec.eq_of_toNat_eq
    rw [BitVec.toNat_shiftLeft, BitVec.toNat_ofNat, BitVec.toNat_ofNat, Nat.shiftLeft_eq, Nat.mod_eq_of_lt (show A < 2 ^ 128 by omega)]
set_option maxRecDepth 100000 in
set_option maxHeartbeats 4000000 in
theorem rmul_any (a b' : Int) (ha : Word a) (hb : Word b') (w : World) :
    Calls Try.prog 40 #[.int .u64 a, .int .u64 b'] w fun e w' => e = .returned (.agg (bv (BitVec.ofNat 128 (a.toNat * b'.toNat)))) ∧ Below w.heap.size w w' := by
  have zv := zero28
  have cO := of_any 0 a ⟨by decide, by decide⟩ ha
  have e1 : BitVec.ofInt 128 (0 * 18446744073709551616 + a) = BitVec.ofNat 128 a.toNat := by
    obtain ⟨h0, h1⟩ := ha
    obtain ⟨A, rfl⟩ := Int.eq_ofNat_of_zero_le h0
    rw [Int.zero_mul, Int.zero_add, BitVec.ofInt_natCast, Int.toNat_natCast]
  rw [e1] at cO
  have hA : a.toNat < 18446744073709551616 := by have := ha.1; have := ha.2; omega
  have hB : b'.toNat < 2 ^ 64 := by have := hb.1; have := hb.2; omega
  have hres : bv (BitVec.ofNat 128 (a.toNat * b'.toNat)) = bv (mulB a.toNat b'.toNat 64) := by unfold mulB; rw [Nat.mod_eq_of_lt hB]
  rw [hres]
  have cL := fun k => rleft_any (BitVec.ofNat 128 a.toNat) k
  have cA := fun k => radd_any (mulB a.toNat b'.toNat k) ((BitVec.ofNat 128 a.toNat) <<< k)
  unfold bv at *
  obtain ⟨X, hXe⟩ : ∃ X : Nat → Bool, X = fun i => (BitVec.ofNat 128 a.toNat).getLsbD i := ⟨_, rfl⟩
  rw [← hXe] at cO
  have HX := Lib.hid hXe
  clear hXe e1 hres
  have m0 := (Mem.start w).new 45 (arr fun _ => false)
  have m1 := m0.new' 45 (arr fun _ => false) (n := w.heap.size + 1) (by simp)
  go_enter Try.func40, Try.ntmps40
  go_wp2_with (first
    | (go_at_call 46; (with_reducible refine (cO _).mono ?_); rintro e w2 ⟨rfl, hb1⟩; have m2 := m1.keep hb1; clear m0 m1 hb1)
    | (refine st28 rfl (.tmp 6) (.tmp 9) rfl w2.heap.size X (fun _ => false) rfl rfl (Blk.new' rfl) ?_; have m3 := m2.row 45 (arr fun _ => false) (arr X); generalize (w2.alloc (.cells (arr fun _ => false) 45)).setRow w2.heap.size (arr X) = W3 at *; have hgz := (m2.blk (w.heap.size + 1) 45 (arr fun _ => false) (by simp)).lt; generalize w2.heap.size = g at *; clear m2))
  have hgw : w.heap.size + 1 < g := hgz
  clear hgz cO zv
  go_loopg [7] 64 (fun n s7 wr => ∃ (k : Nat), n + k = 64 ∧ s7 = .int .i64 k ∧ Mem w [(g, 45, arr X), (w.heap.size + 1, 45, arr fun i => (mulB a.toNat b'.toNat k).getLsbD i), (w.heap.size, 45, arr fun _ => false)] wr)
  case atStart =>
    have e0 : (arr fun i => (mulB a.toNat b'.toNat 0).getLsbD i) = arr fun _ => false := arr_congr fun i _ => by simp [mulB, Nat.mod_one]
    exact ⟨0, rfl, rfl, by rw [e0]; exact m3⟩
  case round =>
    obtain ⟨k, hn, rfl, hm⟩ := hrel
    clear m3
    by_cases hk : k < 64
    · have Hn := Lib.hid hn
      have hst := mulB_step a.toNat b'.toNat k hA
      have hbw := bit_word b' hb k
      by_cases hbit : b'.toNat.testBit k = true
      · rw [hbit] at hbw
        rw [if_pos hbit] at hst
        have cL' := cL (k : Int)
        have cA' := cA k
        have eD : (fun i => (shlB (BitVec.ofNat 128 a.toNat) (k : Int)).getLsbD i) = fun i => ((BitVec.ofNat 128 a.toNat) <<< k).getLsbD i := by
          unfold shlB; rw [if_neg (by omega), Int.toNat_natCast]
        rw [eD, ← HX.out] at cL'
        rw [← hst] at cA'
        have Hst := Lib.hid hst
        generalize hp : (!BitVec.carry 128 (mulB a.toNat b'.toNat k) ((BitVec.ofNat 128 a.toNat) <<< k) false) = p at *
        generalize hD : (fun i => ((BitVec.ofNat 128 a.toNat) <<< k).getLsbD i) = D at *
        generalize hO : (fun i => (mulB a.toNat b'.toNat k).getLsbD i) = O at *
        generalize hN : (fun i => (mulB a.toNat b'.toNat (k + 1)).getLsbD i) = N at *
        have HN := Lib.hid hN
        have hkm : (k : Int) < 9223372036854775808 := by omega
        have cL2 := fun W => cL' hkm W
        clear hn hst hp hD hO hN cL cA eD cL' hbit hkm
        generalize hb1 : w.heap.size = b at *
        have Hb := Lib.hid hb1
        have hb0 : w.heap.size ≤ b := by omega
        clear hb1
        go_wp2
        refine wp_region_S (S := fun L w' => L.size = 9 ∧ (L.getD 8 false = true → L.getD 0 false = true) ∧ Mem w [(g, 45, arr X), (b + 1, 45, arr (if L.getD 8 false = true then N else O)), (b, 45, arr fun _ => false)] w') (by kernel_rfl) ⟨rfl, fun h8 => (by cases h8), hm.drew⟩ ?_
        refine AllS.next (v := .agg (arr O)) rfl rfl rfl (by kernel_rfl) ?_ ?_
        · exact yieldsS_load28r (fun L wx _ h => ⟨by simpa using h.1, fun h8 => getD_set_true (h.2.1 (by rwa [getD_next (by decide)] at h8)), by rw [getD_next (by decide)]; exact h.2.2⟩) (by rfl) rfl rfl fun L wx hL hS => out_before hL hS.2.1 hS.2.2
        simp only [Act.put, List.setIfInBounds_toArray, List.set_cons_zero, List.set_cons_succ, List.getElem_toArray, List.getElem_cons_zero]
        refine AllS.next (v := .agg (arr X)) rfl rfl rfl (by kernel_rfl) ?_ ?_
        · exact yieldsS_load28 (fun L wx h => ⟨by simpa using h.1, fun h8 => getD_set_true (h.2.1 (by rwa [getD_next (by decide)] at h8)), by rw [getD_next (by decide)]; exact h.2.2⟩) (by rfl) rfl rfl fun L wx hS => hS.2.2.blk g 45 (arr X) (by simp)
        simp only [Act.put, List.setIfInBounds_toArray, List.set_cons_zero, List.set_cons_succ, List.getElem_toArray, List.getElem_cons_zero, List.getElem_cons_succ]
        refine AllS.next (v := ?_) rfl rfl rfl (by kernel_rfl) ?_ ?_
        rotate_left
        · refine yieldsS_run (fun L wx h => ⟨by simpa using h.1, fun h8 => getD_set_true (h.2.1 (by rwa [getD_next (by decide)] at h8)), by rw [getD_next (by decide)]; exact h.2.2⟩) (by rfl) ?_
          intro L wx hS
          go_simp
          try with_reducible rfl
        simp only [Act.put, List.setIfInBounds_toArray, List.set_cons_zero, List.set_cons_succ, List.getElem_toArray, List.getElem_cons_zero, List.getElem_cons_succ]
        refine AllS.next (v := .agg (arr D)) rfl rfl rfl (by kernel_rfl) ?_ ?_
        · refine yieldsS_call (f := 51) (args := #[.agg (arr X), .int .i64 k]) (by rfl) ?_ ?_
          · intro wx
            go_simp
            try with_reducible rfl
          · intro L wx hS
            exact (cL2 wx).mono fun e w' h => ⟨h.1, by simpa using hS.1, fun h8 => getD_set_true (hS.2.1 (by rwa [getD_next (by decide)] at h8)), by rw [getD_next (by decide)]; exact hS.2.2.keep h.2⟩
        simp only [Act.put, List.setIfInBounds_toArray, List.set_cons_zero, List.set_cons_succ, List.getElem_toArray, List.getElem_cons_zero, List.getElem_cons_succ]
        refine AllS.next (v := .tuple #[.agg (arr N), .bool p]) rfl rfl rfl (by kernel_rfl) ?_ ?_
        · refine yieldsS_call (f := 45) (args := #[.agg (arr O), .agg (arr D)]) (by rfl) ?_ ?_
          · intro wx
            go_simp
            try with_reducible rfl
          · intro L wx hS
            exact (cA' wx).mono fun e w' h => ⟨h.1, by simpa using hS.1, fun h8 => getD_set_true (hS.2.1 (by rwa [getD_next (by decide)] at h8)), by rw [getD_next (by decide)]; exact hS.2.2.keep h.2⟩
        simp only [Act.put, List.setIfInBounds_toArray, List.set_cons_zero, List.set_cons_succ, List.getElem_toArray, List.getElem_cons_zero, List.getElem_cons_succ]
        refine AllS.next (v := ?_) rfl rfl rfl (by kernel_rfl) ?_ ?_
        rotate_left
        · refine yieldsS_run (fun L wx h => ⟨by simpa using h.1, fun h8 => getD_set_true (h.2.1 (by rwa [getD_next (by decide)] at h8)), by rw [getD_next (by decide)]; exact h.2.2⟩) (by rfl) ?_
          intro L wx hS
          go_simp
          try with_reducible rfl
        simp only [Act.put, List.setIfInBounds_toArray, List.set_cons_zero, List.set_cons_succ, List.getElem_toArray, List.getElem_cons_zero, List.getElem_cons_succ]
        refine AllS.next (v := ?_) rfl rfl rfl (by kernel_rfl) ?_ ?_
        rotate_left
        · refine yieldsS_run (fun L wx h => ⟨by simpa using h.1, fun h8 => getD_set_true (h.2.1 (by rwa [getD_next (by decide)] at h8)), by rw [getD_next (by decide)]; exact h.2.2⟩) (by rfl) ?_
          intro L wx hS
          go_simp
          try with_reducible rfl
        simp only [Act.put, List.setIfInBounds_toArray, List.set_cons_zero, List.set_cons_succ, List.getElem_toArray, List.getElem_cons_zero, List.getElem_cons_succ]
        refine AllS.next (v := ?_) rfl rfl rfl (by kernel_rfl) ?_ ?_
        rotate_left
        · refine yieldsS_run (fun L wx h => ⟨by simpa using h.1, fun h8 => getD_set_true (h.2.1 (by rwa [getD_next (by decide)] at h8)), by rw [getD_next (by decide)]; exact h.2.2⟩) (by rfl) ?_
          intro L wx hS
          go_simp
          try with_reducible rfl
        simp only [Act.put, List.setIfInBounds_toArray, List.set_cons_zero, List.set_cons_succ, List.getElem_toArray, List.getElem_cons_zero, List.getElem_cons_succ]
        refine AllS.next (v := undef) rfl rfl rfl (by kernel_rfl) ?_ ?_
        · exact yieldsS_store28 (by rfl) rfl rfl rfl fun L wx hL hS => ⟨⟨_, hS.2.2.blk (b + 1) 45 (arr (if L.getD 8 false = true then N else O)) (by simp)⟩, by simpa using hS.1, fun _ => getD_set_true (ready_dep hL (by kernel_rfl)), by rw [getD_self (by rw [hS.1]; decide), if_pos rfl]; exact hS.2.2.setMid _ (by omega) (by omega) (by omega)⟩
        simp only [Act.put, List.getElem_toArray, List.getElem_cons_zero, List.getElem_cons_succ]
        refine AllS.done (by kernel_rfl) ?_
        intro wx hS
        have hf := hS.2.2
        rw [if_pos (by rfl)] at hf
        clear hS
        go_wp2
        go_roundg (gk - 1)
        case measure => (have := Hn.out; omega)
        case rel => exact ⟨k + 1, by have := Hn.out; omega, by go_num, by rw [HN.out]; exact hf⟩
      · rw [if_neg hbit] at hst
        have hbit2 : b'.toNat.testBit k = false := by simpa using hbit
        rw [hbit2] at hbw
        have Hst := Lib.hid hst
        clear hn hst hbit hbit2 cL cA
        go_wp2
        go_roundg (gk - 1)
        case measure => (have := Hn.out; omega)
        case rel => exact ⟨k + 1, by have := Hn.out; omega, by go_num, by rw [Hst.out]; exact hm⟩
    · have hk64 : k = 64 := by omega
      subst hk64
      clear hn hk cL cA
      generalize hN : (fun i => (mulB a.toNat b'.toNat 64).getLsbD i) = N at *
      have HN := Lib.hid hN
      clear hN
      go_wp2_with (first
        | (refine ld28 rfl (.tmp 5) rfl (w.heap.size + 1) rfl N (hm.blk _ _ _ (by simp)) ?_)
        | (refine st28 rfl (.tmp 4) (.tmp 28) rfl w.heap.size N (fun _ => false) rfl rfl (hm.blk _ _ _ (by simp)) ?_))
      refine bodyPost_ret (v := .agg (arr N)) ?_ rfl ⟨by rw [HN.out], below_setRow hm.below (Nat.le_refl _) _⟩
      exact results_cell_row rfl _ _ _ _ _ _ _ rfl ((hm.blk w.heap.size 45 (arr fun _ => false) (by simp)).setRow _) under28 rfl (by rw [arr_size]; exact size28)
end Go.Proofs.Ytnahocdeaopflaa
