/-
  The contracts of open and close.
-/
import Derived.Test.YthlpnlmjpdcbiaaLde
import Derived.Test.YthlpnlmjpdcbiaaLun
namespace Go.Proofs.Ythlpnlmjpdcbiaa
open Go.RowKit
section
variable {w w' W : World} {g : Nat} {S T : Nat → Prop} {ko : Option Nat} {ao : Option Addr} {cap : Nat} {buy : Bool} {P : List Lvl} {F : List Nat}
theorem insert_any {n : Nat} {cs : List Value} {vs : Array Value} {vb : Nat} (hO : OwG 40 4 W ko ao cap n cs) (hn : n ≤ 1000) {i : Nat} (hi : i ≤ n) (hv : Blk W vb 40 vs) (hvk : ∀ k, ko = some k → vb ≠ k) (hs : vs.size = 4) (h1 : ∀ u ∈ vs.toList, u.oneCell' = true) (h1c : ∀ u ∈ cs, u.oneCell' = true) :
    Calls Try.prog 42 #[.slice ao n cap, .int .i64 (i : Int), .slice (some ⟨vb, 0, none⟩) 1 1] W fun e w' =>
      ∃ ao' cap', e = .returned (.slice ao' (n + 1) cap') ∧ ∃ ko', OwG 40 4 w' ko' ao' cap' (n + 1) (cs.take (i * 4) ++ vs.toList ++ cs.drop (i * 4)) ∧ Frm (fun b => ko = some b) W w' ∧ Moved W ko ko' := by
  rcases Nat.eq_or_lt_of_le hi with rfl | hi
  · have e1 : cs.take (i * 4) = cs := List.take_of_length_le (by rw [hO.cells]; exact Nat.le_refl _)
    have e2 : cs.drop (i * 4) = [] := List.drop_of_length_le (by rw [hO.cells]; exact Nat.le_refl _)
    rw [e1, e2, List.append_nil]
    exact insert_end hO hn hv hs h1
  · by_cases hc : n + 1 ≤ cap
    · exact insert_room hO hn hi hc hv hvk hs h1 h1c
    · exact insert_grow hO hn hi (by omega) hv hs h1 h1c
theorem lcs_ins (L : List Lvl) (i : Nat) (x : Lvl) : lcs (L.take i ++ x :: L.drop i) = (lcs L).take (i * 4) ++ (cLvl x).toList ++ (lcs L).drop (i * 4) := by
  rw [← lcs_take, ← lcs_drop]
  simp [lcs]
theorem lcs_del (L : List Lvl) (i : Nat) : lcs (L.eraseIdx i) = (lcs L).take (i * 4) ++ (lcs L).drop ((i + 1) * 4) := by
  rw [← lcs_take, ← lcs_drop, List.eraseIdx_eq_take_drop_succ]
  simp [lcs]
theorem popen_full (n p q : Int) 
    (cU : Calls Try.prog 34 #[.pointer (some ⟨g, 0, none⟩)] W fun e w' => e = .returned (.tuple #[.int .i64 0, .bool false]) ∧ w' = W) :
    Calls Try.prog 31 #[.pointer (some ⟨g, 0, none⟩), .int .i64 n, .int .i64 p, .int .i64 q] W fun e w' => e = .returned (.tuple #[.int .i64 0, .int .i64 7]) ∧ w' = W := by
  go_enter Try.func31, Try.ntmps31
  go_wp2_with (go_at_call 34; (with_reducible refine cU.mono ?_); rintro e w1 ⟨rfl, hw1⟩; subst w1; clear cU)
  all_goals go_ret2
  all_goals exact ⟨rfl, rfl⟩
set_option maxRecDepth 8000 in
set_option maxHeartbeats 1000000 in
theorem popen_new (n : Nat) (p q : Int) (h : PmB W g S ko ao cap buy P F) (hF : ∀ x ∈ F, x < 18446744073709551616) (hn : n ≤ P.length) (hl : P.length < 200) {u : Nat} (hu : u < 256)
    (cU : Calls Try.prog 34 #[.pointer (some ⟨g, 0, none⟩)] W fun e w' => e = .returned (.tuple #[.int .i64 (u : Int), .bool true]) ∧ w' = W) :
    Calls Try.prog 31 #[.pointer (some ⟨g, 0, none⟩), .int .i64 (n : Int), .int .i64 p, .int .i64 q] W fun e w' => e = .returned (.tuple #[.int .i64 (u : Int), .int .i64 0]) ∧
      ∃ S' ko' ao' cap', PmB w' g S' ko' ao' cap' buy (P.take n ++ ⟨p, q, 1, (u : Int)⟩ :: P.drop n) (flp F u) ∧ Frm S W w' ∧ ∀ b, S' b → S b ∨ W.heap.size ≤ b := by
  have cF := pflip_any u hu hF h
  have hlen : (P.take n ++ (⟨p, q, 1, (u : Int)⟩ : Lvl) :: P.drop n).length = P.length + 1 := by simp; omega
  have hone : ∀ x ∈ (cLvl ⟨p, q, 1, (u : Int)⟩).toList, x.oneCell' = true := by
    intro v hv
    simp at hv
    rcases hv with rfl | rfl | rfl | rfl <;> rfl
  have hins : ∀ w1, PmB w1 g S ko ao cap buy P (flp F u) → Calls Try.prog 42 #[.slice ao P.length cap, .int .i64 (n : Int), .slice (some ⟨w1.heap.size, 0, none⟩) 1 1] (w1.alloc (.cells (cLvl ⟨p, q, 1, (u : Int)⟩) 40)) fun e w' =>
      ∃ ao' cap', e = .returned (.slice ao' (P.length + 1) cap') ∧ (w'.cell? ⟨g, 1, none⟩ = some (.slice ao P.length cap) ∧ w'.frozen? ⟨g, 1, none⟩ = false) ∧ ∃ S' ko', PmB (w'.setCell ⟨g, 1, none⟩ (.slice ao' (P.length + 1) cap')) g S' ko' ao' cap' buy (P.take n ++ ⟨p, q, 1, (u : Int)⟩ :: P.drop n) (flp F u) ∧ Frm S w1 (w'.setCell ⟨g, 1, none⟩ (.slice ao' (P.length + 1) cap')) ∧ ∀ b, S' b → S b ∨ w1.heap.size ≤ b := by
    intro w1 h1
    have hO := h1.how.alloc (.cells (cLvl ⟨p, q, 1, (u : Int)⟩) 40)
    have hne : ∀ k, ko = some k → w1.heap.size ≠ k := fun k e => by have := h1.lt k (h1.sk k e).1; omega
    refine (insert_any hO (by omega) hn (Blk.new _ _ _) hne rfl hone (lcs_one P)).mono ?_
    rintro e w2 ⟨ao', cap', rfl, ko', ho, hf, hm⟩
    have hf2 : Frm S w1 w2 := ((Frm.refl S w1).alloc _).trans hf (fun k e => .inl (h1.sk k e).1)
    have hg2 : Blk w2 g 66 (cPl buy ao P.length cap (flp F u)) := by
      have hb : Blk (w1.alloc (.cells (cLvl ⟨p, q, 1, (u : Int)⟩) 40)) g 66 (cPl buy ao P.length cap (flp F u)) := h1.hg.alloc _
      exact (hf.block g hb.lt (fun e => (h1.sk g e).2 rfl)).trans hb
    refine ⟨ao', cap', rfl, ⟨hg2.cell_eq 1 _ (by simp [cPl]), hg2.free 1⟩, ?_⟩
    rw [← lcs_ins, ← hlen] at ho
    obtain ⟨k1, k2⟩ := h1.lay hf2 hg2 (L := P.take n ++ ⟨p, q, 1, (u : Int)⟩ :: P.drop n) (by rw [hlen]; omega) ho (fun k e => by
      rcases hm with g1 | g1 | ⟨k', g1, g2⟩
      · rw [g1] at e; cases e
      · rw [g1] at e; exact .inl (h1.sk k e)
      · rw [g1] at e; cases e; right; simp at g2; omega)
    rw [hlen] at k1 k2
    exact ⟨_, ko', k1, k2, fun b hb => by rcases hb with h' | h'; exact .inl h'; exact .inr h'.1⟩
  have hsg := h.sg
  replace hins := Lib.hid hins
  clear h hF hone hlen
  go_enter Try.func31, Try.ntmps31
  go_wp2_with (first
    | (go_at_call 34; (with_reducible refine cU.mono ?_); rintro e w1 ⟨rfl, hw1⟩; subst w1; clear cU)
    | (go_at_call 23; (with_reducible refine cF.mono ?_); rintro e w1 ⟨rfl, h1, hf1⟩; clear cF; have c1 := h1.c1; have cI := hins.out _ h1; clear hins h1)
    | (go_at_call 42; (with_reducible refine cI.mono ?_); rintro e w2 ⟨ao', cap', rfl, ⟨z1, z2⟩, hfin⟩; clear cI; replace hfin := Lib.hid hfin)
    | fail)
  all_goals go_ret2
  obtain ⟨S', ko', k1, k2, k3⟩ := hfin.out
  exact ⟨rfl, S', ko', ao', cap', k1, (hf1.mono (fun b _ e => by rw [e]; exact hsg)).trans k2 (fun b e => .inl e), fun b hb => by rcases k3 b hb with e | e; exact .inl e; right; have := hf1.size; omega⟩
set_option maxRecDepth 8000 in
set_option maxHeartbeats 1000000 in
theorem pclose_any (n : Nat) (h : PmB W g S ko ao cap buy P F) (hF : ∀ x ∈ F, x < 18446744073709551616) {x : Lvl} (hx : P[n]? = some x) {u : Nat} (hu : u < 256) (hxu : x.queue = (u : Int)) :
    Calls Try.prog 33 #[.pointer (some ⟨g, 0, none⟩), .int .i64 (n : Int)] W fun e w' => e = .returned undef ∧ PmB w' g S ko ao cap buy (P.eraseIdx n) (flp F u) ∧ Frm S W w' := by
  have cF := pflip_any u hu hF h
  have hi := (List.getElem?_eq_some_iff.1 hx).1
  have hlen : P.length = (P.eraseIdx n).length + 1 := by rw [List.length_eraseIdx, if_pos hi]; omega
  have hl := h.len
  have hdel : ∀ w1, PmB w1 g S ko ao cap buy P (flp F u) → Calls Try.prog 43 #[.slice ao P.length cap, .int .i64 (n : Int), .int .i64 ((n : Int) + 1)] w1 fun e w' =>
      e = .returned (.slice ao (P.eraseIdx n).length cap) ∧ (w'.cell? ⟨g, 1, none⟩ = some (.slice ao P.length cap) ∧ w'.frozen? ⟨g, 1, none⟩ = false) ∧ PmB (w'.setCell ⟨g, 1, none⟩ (.slice ao (P.eraseIdx n).length cap)) g S ko ao cap buy (P.eraseIdx n) (flp F u) ∧ Frm S w1 (w'.setCell ⟨g, 1, none⟩ (.slice ao (P.eraseIdx n).length cap)) := by
    intro w1 h1
    have hO := h1.how
    rw [hlen] at hO
    have cD := delete_any hO (by omega) (i := n) (by omega) (lcs_one P)
    rw [← hlen, ← lcs_del] at cD
    refine cD.mono ?_
    rintro e w2 ⟨rfl, ho, hf⟩
    have hf2 : Frm S w1 w2 := hf.mono (fun k _ e => (h1.sk k e).1)
    have hg2 : Blk w2 g 66 (cPl buy ao P.length cap (flp F u)) := (hf.block g h1.hg.lt (fun e => (h1.sk g e).2 rfl)).trans h1.hg
    refine ⟨rfl, ⟨hg2.cell_eq 1 _ (by simp [cPl]), hg2.free 1⟩, ?_⟩
    obtain ⟨k1, k2⟩ := h1.lay hf2 hg2 (L := P.eraseIdx n) (by omega) ho (fun k e => .inl (h1.sk k e))
    refine ⟨⟨k1.len, k1.fl, k1.hg, k1.how, h1.sg, h1.sk, fun b hb => ?_⟩, k2⟩
    have := h1.lt b hb
    have := k2.size
    omega
  have hsg := h.sg
  have c1 := h.c1
  obtain ⟨k, -, rfl, hc⟩ := h.row hx
  have y3 := (hc _ _ (lcs_get hx 3 (.int .i64 x.queue) rfl)).1
  rw [hxu] at y3
  have hi2 : (n : Int) < (P.length : Int) := by omega
  have hn1 : (n : Int) < 1000 := by omega
  replace hdel := Lib.hid hdel
  replace hlen := Lib.hid hlen
  clear h hF hx hc hxu
  go_enter Try.func33, Try.ntmps33
  go_wp2_with (first
    | (go_at_call 23; (with_reducible refine cF.mono ?_); rintro e w1 ⟨rfl, h1, hf1⟩; clear cF c1 y3; have c1 := h1.c1; have cI := hdel.out _ h1; clear hdel h1)
    | (go_at_call 43; (with_reducible refine cI.mono ?_); rintro e w2 ⟨rfl, ⟨z1, z2⟩, hfin⟩; clear cI; replace hfin := Lib.hid hfin)
    | fail)
  all_goals go_end0
  obtain ⟨k1, k2⟩ := hfin.out
  exact ⟨rfl, k1, (hf1.mono (fun b _ e => by rw [e]; exact hsg)).trans k2 (fun b e => .inl e)⟩
end
end Go.Proofs.Ythlpnlmjpdcbiaa
