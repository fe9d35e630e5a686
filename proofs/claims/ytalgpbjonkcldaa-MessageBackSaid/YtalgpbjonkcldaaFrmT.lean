/-
  Take of package frame and of the document, for every input.
-/
import Derived.Test.YtalgpbjonkcldaaFrm
namespace Go.Proofs.Ytalgpbjonkcldaa
open Go.RowKit

theorem stepR_two (ys : List Nat) : stepR 1 2 ys 0 = if ys.length < 2 then ⟨0, 0, [], 0, 3⟩ else ⟨val (ys.take 2), 0, [], 2, 0⟩ := rfl
theorem stepR_raw (n : Nat) (ys : List Nat) : stepR 4 (n : Int) ys 0 = if ys.length < n then ⟨0, 0, [], 0, 3⟩ else ⟨0, 0, ys.take n, n, 0⟩ := by
  rw [step4, if_neg (by omega), Int.toNat_natCast]
/-- What a reader of the first 66 bytes tells, and what a take asks. -/
theorem take_read (xs : List Nat) : ∃ (v z f : Nat) (p : List Nat) (f2 : Nat), stepR 1 2 (xs.take 66) 0 = ⟨v, 0, [], z, f⟩ ∧ (stepR 4 (v : Int) ((xs.take 66).drop z) f).raw = p ∧ (stepR 4 (v : Int) ((xs.take 66).drop z) f).f = f2 ∧
    (64 < v → takeF xs = ([], 0, 4)) ∧ (¬ 64 < v → f2 ≠ 0 → takeF xs = ([], 0, f2)) ∧ (¬ 64 < v → f2 = 0 → takeF xs = (p, 2 + p.length, 0) ∧ p.length ≤ 64) := by
  have hl : (xs.take 66).length = min 66 xs.length := List.length_take
  by_cases h : xs.length < 2
  · refine ⟨0, 0, 3, [], 3, by rw [stepR_two, if_pos (by omega)], by rw [step_fault (by decide)], by rw [step_fault (by decide)], by omega, fun _ _ => takeF_short h, fun _ e => by cases e⟩
  · have e2 : (xs.take 66).take 2 = xs.take 2 := by rw [List.take_take]; rfl
    have hd : ((xs.take 66).drop 2).length = min 66 xs.length - 2 := by rw [List.length_drop, hl]
    by_cases h2 : 64 < val (xs.take 2)
    · exact ⟨val (xs.take 2), 2, 0, _, _, by rw [stepR_two, if_neg (by omega), e2], rfl, rfl, fun _ => takeF_bad h h2, fun e => absurd h2 e, fun e => absurd h2 e⟩
    · by_cases h3 : xs.length < 2 + val (xs.take 2)
      · refine ⟨val (xs.take 2), 2, 0, [], 3, by rw [stepR_two, if_neg (by omega), e2], by rw [stepR_raw, if_pos (by omega)], by rw [stepR_raw, if_pos (by omega)], fun e => absurd e h2, fun _ _ => takeF_part h h2 h3, fun _ e => by cases e⟩
      · have hp : (((xs.take 66).drop 2).take (val (xs.take 2))).length = val (xs.take 2) := by rw [List.length_take, hd]; omega
        have ep : ((xs.take 66).drop 2).take (val (xs.take 2)) = (xs.drop 2).take (val (xs.take 2)) := by
          rw [List.drop_take, List.take_take, Nat.min_eq_left (by omega)]
        refine ⟨val (xs.take 2), 2, 0, _, 0, by rw [stepR_two, if_neg (by omega), e2], by rw [stepR_raw, if_neg (by omega)], by rw [stepR_raw, if_neg (by omega)], fun e => absurd e h2, fun _ e => absurd rfl e, fun _ _ => ⟨?_, Nat.le_trans (Nat.le_of_eq hp) (by omega)⟩⟩
        rw [hp, ep]
        exact takeF_ok h h2 h3
/-- What a Take answers. -/
def Took (W w' : World) (e : Ending) (t : List Nat × Nat × Nat) : Prop := ∃ ao' cap' k', e = .returned (.tuple #[.slice ao' t.1.length cap', .int .i64 (t.2.1 : Int), .int .i64 (t.2.2 : Int)]) ∧ Bt w' k' ao' cap' t.1 ∧ Below W.heap.size W w' ∧ W.heap.size ≤ k'
theorem ftake_any (k cap : Nat) (ao : Option Addr) (xs : List Nat) (W : World) (hB : Bt W k ao cap xs) :
    Calls Try.prog 38 #[.slice ao xs.length cap] W fun e w' => Took W w' e (takeF xs) := by
  have hl := hB.len
  have hm := hB.top
  unfold maxLen at hm
  have hBt := hB.take (n := min xs.length 66) (Nat.min_le_left _ _)
  have et : xs.take (min xs.length 66) = xs.take 66 := by
    rcases Nat.le_total xs.length 66 with h | h
    · rw [Nat.min_eq_left h, List.take_of_length_le (Nat.le_refl _), List.take_of_length_le h]
    · rw [Nat.min_eq_right h]
  have hlt : (xs.take 66).length = min 66 xs.length := List.length_take
  rw [et] at hBt
  have cN : ∀ n, n = (xs.take 66).length → Calls Try.prog 28 #[.slice ao n cap] W _ := fun n hn => by
    subst hn
    exact newReader_any k cap ao (xs.take 66) (by omega) W hBt
  obtain ⟨v, z, f, p, f2, h1, h2, h3, t1, t2, t3⟩ := take_read xs
  obtain ⟨zs, hzs⟩ : ∃ zs, zs = (xs.take 66).drop z := ⟨_, rfl⟩
  have hzl : zs.length ≤ 2000000 := by rw [hzs, List.length_drop]; omega
  have cU : ∀ w g, Rr w g (xs.take 66) 0 → Calls Try.prog 45 #[.pointer (some ⟨g, 0, none⟩), .int .i64 2] w fun e w' => e = .returned (.int .u64 (v : Int)) ∧ Rr w' g zs f ∧ Frm (fun b => b = g) w w' := fun w g hr =>
    (ruint_any g 0 (xs.take 66) 2 w hr).mono fun e w' h => by rw [h1] at h; rw [hzs]; exact h
  have cR : ∀ w g, v ≤ 64 → Rr w g zs f → Calls Try.prog 51 #[.pointer (some ⟨g, 0, none⟩), .int .i64 (v : Int)] w fun e w' => ∃ ao cap k', e = .returned (.slice ao p.length cap) ∧ Bt w' k' ao cap p ∧ (∃ zs', Rr w' g zs' f2) ∧ Frm (fun b => b = g) w w' ∧ w.heap.size ≤ k' := fun w g hv hr =>
    (rraw_fresh g f zs hzl (v : Int) (by omega) w hr).mono fun e w' h => by
      rw [hzs, h2, h3] at h
      obtain ⟨ao, cap, k', h4, h5, h6, h7⟩ := h
      exact ⟨ao, cap, k', h4, h5, ⟨_, h6⟩, h7⟩
  have cF : ∀ w g zs', Rr w g zs' f2 → Calls Try.prog 30 #[.pointer (some ⟨g, 0, none⟩)] w _ := fun w g zs' hr => fault_any g f2 zs' w hr
  generalize hT : takeF xs = t at *
  clear h1 h2 h3 hzs hB hBt et hT
  by_cases hv : 64 < v
  · have ht := t1 hv
    subst ht
    clear t1 t2 t3 cR cF
    go_enter Try.func38, Try.ntmps38
    go_wp2_with (first
      | (go_at_call 28; refine (cN _ (by omega)).mono ?_; rintro e w1 ⟨g, rfl, hR1, hb1, hg⟩)
      | (go_at_call 45; refine (cU _ _ hR1).mono ?_; rintro e w2 ⟨rfl, hR2, hf2⟩))
    all_goals go_ret3
    all_goals exact ⟨none, 0, W.heap.size, rfl, Bt.nil _ _, hb1.trans (hf2.below hb1.size (by rintro b rfl; exact hg)), Nat.le_refl _⟩
  · clear t1
    have hv' : v ≤ 64 := by omega
    by_cases hf : f2 = 0
    · obtain ⟨ht, hp⟩ := t3 hv hf
      subst hf
      subst ht
      clear t2 t3
      go_enter Try.func38, Try.ntmps38
      go_wp2_with (first
        | (go_at_call 28; refine (cN _ (by omega)).mono ?_; rintro e w1 ⟨g, rfl, hR1, hb1, hg⟩)
        | (go_at_call 45; refine (cU _ _ hR1).mono ?_; rintro e w2 ⟨rfl, hR2, hf2⟩)
        | (go_at_call 51; refine (cR _ _ hv' hR2).mono ?_; rintro e w3 ⟨ao', cap', k', rfl, hB3, ⟨zs', hR3⟩, hf3, hk3⟩)
        | (go_at_call 30; refine (cF _ _ _ hR3).mono ?_; rintro e w4 ⟨rfl, rfl⟩))
      all_goals go_ret3
      all_goals exact ⟨ao', cap', k', rfl, hB3, (hb1.trans (hf2.below hb1.size (by rintro b rfl; exact hg))).trans (hf3.below (Nat.le_trans hb1.size hf2.size) (by rintro b rfl; exact hg)), Nat.le_trans (Nat.le_trans hb1.size hf2.size) hk3⟩
    · have ht := t2 hv hf
      subst ht
      clear t2 t3
      go_enter Try.func38, Try.ntmps38
      go_wp2_with (first
        | (go_at_call 28; refine (cN _ (by omega)).mono ?_; rintro e w1 ⟨g, rfl, hR1, hb1, hg⟩)
        | (go_at_call 45; refine (cU _ _ hR1).mono ?_; rintro e w2 ⟨rfl, hR2, hf2⟩)
        | (go_at_call 51; refine (cR _ _ hv' hR2).mono ?_; rintro e w3 ⟨ao', cap', k', rfl, hB3, ⟨zs', hR3⟩, hf3, hk3⟩)
        | (go_at_call 30; refine (cF _ _ _ hR3).mono ?_; rintro e w4 ⟨rfl, rfl⟩))
      all_goals first
        | (exfalso; omega)
        | go_ret3
      all_goals exact ⟨none, 0, W.heap.size, rfl, Bt.nil _ _, (hb1.trans (hf2.below hb1.size (by rintro b rfl; exact hg))).trans (hf3.below (Nat.le_trans hb1.size hf2.size) (by rintro b rfl; exact hg)), Nat.le_refl _⟩
/-- What the document's Take answers: a part of the bytes themselves. -/
def TookR (W w' : World) (e : Ending) (k : Nat) (t : List Nat × Nat × Nat) : Prop := ∃ ao' cap', e = .returned (.tuple #[.slice ao' t.1.length cap', .int .i64 (t.2.1 : Int), .int .i64 (t.2.2 : Int)]) ∧ Bt w' k ao' cap' t.1 ∧ Below W.heap.size W w'
theorem tookR_ok {W w' : World} {ao' : Option Addr} {cap' k v : Nat} {p : List Nat} (hp : p.length = v) (h : Bt w' k ao' cap' p) (hb : Below W.heap.size W w') : TookR W w' (.returned (.tuple #[.slice ao' v cap', .int .i64 (2 + (v : Int)), .int .i64 0])) k (p, 2 + v, 0) :=
  ⟨ao', cap', by rw [hp, Int.natCast_add]; rfl, h, hb⟩
theorem tookR_no {W w' : World} (f k : Nat) (hb : Below W.heap.size W w') : TookR W w' (.returned (.tuple #[.slice none 0 0, .int .i64 0, .int .i64 (f : Int)])) k ([], 0, f) :=
  ⟨none, 0, rfl, Bt.nil _ _, hb⟩
theorem rtake_any (k cap : Nat) (ao : Option Addr) (xs : List Nat) (W : World) (hB : Bt W k ao cap xs) :
    Calls Try.prog 52 #[.slice ao xs.length cap] W fun e w' => TookR W w' e k (takeF xs) := by
  have hl := hB.len
  have hm := hB.top
  unfold maxLen at hm
  have cU := refReadUint_any k cap ao xs 2 W hB
  have hrd : rd 1 2 xs = if xs.length < 2 then ⟨0, 0, [], 0, 3⟩ else ⟨val (xs.take 2), 0, [], 2, 0⟩ := rfl
  by_cases h1 : xs.length < 2
  · rw [hrd, if_pos h1] at cU
    rw [takeF_short h1]
    go_enter Try.func52, Try.ntmps52
    go_wp2_with (go_at_call 32; refine cU.mono ?_; rintro e w1 ⟨rfl, hb1⟩; unfold rv)
    all_goals go_ret3
    all_goals exact tookR_no 3 k (hb1.alloc hb1.size _)
  · rw [hrd, if_neg h1] at cU
    generalize hv : val (xs.take 2) = v at cU
    by_cases h2 : 64 < v
    · rw [takeF_bad h1 (by omega)]
      go_enter Try.func52, Try.ntmps52
      go_wp2_with (go_at_call 32; refine cU.mono ?_; rintro e w1 ⟨rfl, hb1⟩; unfold rv)
      all_goals go_ret3
      all_goals exact tookR_no 4 k (hb1.alloc hb1.size _)
    · by_cases h3 : xs.length < 2 + v
      · rw [takeF_part h1 (by omega) (by omega)]
        go_enter Try.func52, Try.ntmps52
        go_wp2_with (go_at_call 32; refine cU.mono ?_; rintro e w1 ⟨rfl, hb1⟩; unfold rv)
        all_goals go_ret3
        all_goals exact tookR_no 3 k (hb1.alloc hb1.size _)
      · rw [takeF_ok h1 (by omega) (by omega), hv]
        have hp : ((xs.drop 2).take v).length = v := by rw [List.length_take, List.length_drop]; omega
        have hd : (xs.drop 2).length = xs.length - 2 := List.length_drop
        go_enter Try.func52, Try.ntmps52
        go_wp2_with (go_at_call 32; refine cU.mono ?_; rintro e w1 ⟨rfl, hb1⟩; unfold rv)
        all_goals go_ret3
        · exact tookR_ok hp (Bt.take (n := v) (((hB.below hb1).alloc _).dropAll (n := 2) (by omega) (by omega)) (by omega)) (hb1.alloc hb1.size _)
        · exact tookR_ok hp (Bt.take (n := v) (((hB.below hb1).alloc _).drop (n := 2) (by omega)) (by omega)) (hb1.alloc hb1.size _)
end Go.Proofs.Ytalgpbjonkcldaa
