/-
  The contract of package command's Encode, for every command that is right.
-/
import Derived.Test.YtjleebfdbkfgmaaCmdD
namespace Go.Proofs.Ytjleebfdbkfgmaa
open Go.RowKit
/-- What there is behind p writes of these. -/
def pre (zs : List (List Nat)) (xs : List Nat) (p : Nat) : List Nat := xs ++ (zs.take p).flatten
theorem pre_succ {zs : List (List Nat)} {xs z : List Nat} {p : Nat} (h : zs[p]? = some z) : pre zs xs (p + 1) = pre zs xs p ++ z := by
  unfold pre
  rw [List.take_add_one, h, List.flatten_append, List.append_assoc]
  simp
theorem pre_all {zs : List (List Nat)} {xs : List Nat} {p : Nat} (h : p = zs.length) : pre zs xs p = xs ++ zs.flatten := by subst h; unfold pre; rw [List.take_length]
theorem pre_zero (zs : List (List Nat)) (xs : List Nat) : pre zs xs 0 = xs := by unfold pre; simp
theorem pre_len (zs : List (List Nat)) (xs : List Nat) (p : Nat) : (pre zs xs p).length ≤ (xs ++ zs.flatten).length := by
  unfold pre
  have h := congrArg (fun l => (List.flatten l).length) (List.take_append_drop p zs)
  simp only [List.flatten_append, List.length_append] at h
  rw [List.length_append, List.length_append]
  omega
theorem conv_u64 {T : TypeId} (hT : Try.prog.underlying T = some (.int .i64)) (n : Nat) (hn : (n : Int) < 9223372036854775808) (w : World) : (convert T 41 (.int .i64 (n : Int))).run Try.prog w = .ok (.int .u64 (n : Int)) w := by
  have hU := Try.underlying41
  have e : IntKind.u64.wrap (n : Int) = (n : Int) := by rw [IntKind.wrap_u64]; omega
  simp [convert, go_sem, run_underlying hT, run_underlying hU, e]
/-- Bytes and a fault have come out; they lie in what the call may use. -/
def Coded (W w' : World) (e : Ending) (xs : List Nat) (f : Nat) : Prop := ∃ ao cap k, e = .returned (.tuple #[.slice ao xs.length cap, .int .i64 (f : Int)]) ∧ Bt w' k ao cap xs ∧ Below W.heap.size W w'
/-- Where a writer stands behind a chain of writes. -/
theorem behind {W W0 w : World} {g k b : Nat} {zs : List Nat} (h : Wrote W0 g k w zs) (hbel : Below b W W0) (hbg : b ≠ g) (hbk : b ≠ k) (hk : b ≤ k) (hgb : b ≤ g := by assumption) (hs : b < W0.heap.size := by assumption) :
    ∃ k', Wr w g k' zs ∧ Below b W w ∧ b ≠ k' ∧ b ≤ k' := by
  obtain ⟨k', hr, hf, hk'⟩ := h
  refine ⟨k', hr, hbel.trans (hf.below (by omega) (by rintro x (rfl | rfl) <;> assumption)), ?_, ?_⟩
  · rcases hk' with rfl | h
    · exact hbk
    · omega
  · rcases hk' with rfl | h
    · exact hk
    · omega
set_option maxRecDepth 8000 in
set_option maxHeartbeats 2000000 in
theorem encode_new (s i o d t f : Nat) (p q : Int) (hs : s < 256) (hi : i ≤ 4611686018427387904) (ho : o ≤ 1073741824) (hd : d < 256) (ht : t < 256) (hf : f < 256) (hp : In64 p) (hq : In64 q) (W : World) (cR : ∀ w, Calls Try.prog 10 #[cv ⟨1, (s : Int), (i : Int), (o : Int), (d : Int), (t : Int), p, q, (f : Int)⟩] w fun e w' => e = .returned (.bool true) ∧ Below w.heap.size w w') :
    Calls Try.prog 6 #[cv ⟨1, (s : Int), (i : Int), (o : Int), (d : Int), (t : Int), p, q, (f : Int)⟩] W fun e w' => Coded W w' e (be 1 1 ++ (be 1 s ++ (num i ++ (num o ++ (be 1 d ++ (be 1 t ++ (be 1 f ++ (be 8 (zig p) ++ be 8 (zig q))))))))) 0 := by
  have vS := fun w => conv_u64 Try.underlying3 s (by omega) w
  have vO := fun w => conv_u64 Try.underlying3 o (by omega) w
  have vD := fun w => conv_u64 Try.underlying3 d (by omega) w
  have vT := fun w => conv_u64 Try.underlying3 t (by omega) w
  have vF := fun w => conv_u64 Try.underlying3 f (by omega) w
  have vI := fun w => conv_u64 Try.underlying2 i (by omega) w
  have vK : ∀ w, (convert 3 41 (.int .i64 1)).run Try.prog w = .ok (.int .u64 1) w := fun w => conv_u64 Try.underlying3 1 (by omega) w
  have li := num_ten (n := i) (by omega)
  have lo := num_ten (n := o) (by omega)
  obtain ⟨X, hX⟩ : ∃ X, Hid (X = (be 1 1 ++ (be 1 s ++ (num i ++ (num o ++ (be 1 d ++ (be 1 t ++ (be 1 f ++ (be 8 (zig p) ++ be 8 (zig q)))))))))) := ⟨_, Lib.hid rfl⟩
  rw [← hX.out]
  have hb0 := fun o => (Below.refl W.heap.size W).alloc (Nat.le_refl _) o
  have hB0 : ∀ w1, Below (W.alloc (.cells (cc ⟨1, (s : Int), (i : Int), (o : Int), (d : Int), (t : Int), p, q, (f : Int)⟩) 23)).heap.size (W.alloc (.cells (cc ⟨1, (s : Int), (i : Int), (o : Int), (d : Int), (t : Int), p, q, (f : Int)⟩) 23)) w1 → Blk w1 W.heap.size 23 (cc ⟨1, (s : Int), (i : Int), (o : Int), (d : Int), (t : Int), p, q, (f : Int)⟩) ∧ Below W.heap.size W w1 := fun w1 h => ⟨(Blk.new W _ _).below h (by simp), (hb0 _).trans (h.mono (by simp))⟩
  have KS : Hid (s < 256 ∧ i ≤ 4611686018427387904) := ⟨hs, hi⟩
  have KO : Hid (o ≤ 1073741824 ∧ d < 256 ∧ t < 256 ∧ f < 256) := ⟨ho, hd, ht, hf⟩
  have KP : Hid (In64 p ∧ In64 q) := ⟨hp, hq⟩
  clear hs hi ho hd ht hf hp hq
  go_enter Try.func6, Try.ntmps6
  go_wp2_with (go_at_call 10; refine (cR _).mono ?_; rintro e w1 ⟨rfl, hb1⟩; obtain ⟨hB, hbel⟩ := hB0 _ hb1)
  clear hB0 hb0 hb1 cR
  obtain ⟨g, hg⟩ : ∃ g, g = w1.heap.size := ⟨_, rfl⟩
  have hbg : W.heap.size < g := by rw [hg]; exact hB.lt
  have hW : Wr (w1.alloc (.cells #[.slice none 0 0] 39)) g (g + 1) (pre [be 1 1, be 1 s, num i] [] 0) := nilWriter (Blk.new' hg) (by omega)
  replace hB := hB.alloc (.cells #[.slice none 0 0] 39)
  replace hbel := hbel.alloc (by omega) (.cells #[.slice none 0 0] 39)
  have hW0 : (w1.alloc (.cells #[.slice none 0 0] 39)).heap.size = w1.heap.size + 1 := by simp
  rw [← hg]
  rw [← hg] at hW0
  generalize w1.alloc (.cells #[.slice none 0 0] 39) = W0 at *
  obtain ⟨k, hkg⟩ : ∃ k, k = g + 1 := ⟨_, rfl⟩
  rw [← hkg] at hW
  have hbk : W.heap.size ≠ k := by omega
  have hk : W.heap.size ≤ k := by omega
  clear hg hkg hW0 w1
  replace hbg : W.heap.size ≠ g ∧ W.heap.size ≤ g := ⟨by omega, by omega⟩
  obtain ⟨hbg, hgb⟩ := hbg
  have hl : ([] ++ [be 1 1, be 1 s, num i].flatten).length ≤ 1000000 := by simp only [List.flatten_cons, List.flatten_nil, List.append_nil, List.nil_append, List.length_append, be_length]; omega
  obtain ⟨hs, hi⟩ := KS.out
  have wK : ∀ w k, Wr w g k (pre [be 1 1, be 1 s, num i] [] 0) → Calls Try.prog 15 #[.pointer (some ⟨g, 0, none⟩), .int .u64 1, .int .i64 1] w fun e w' => e = .returned (.pointer (some ⟨g, 0, none⟩)) ∧ Wrote w g k w' (pre [be 1 1, be 1 s, num i] [] (0 + 1)) := fun w k h => by
    rw [pre_succ (z := be 1 1) rfl]
    exact uint_any 1 (by omega) 1 (by omega) (by omega) g k _ (Nat.le_trans (pre_len _ _ _) hl) w h
  have wS : ∀ w k, Wr w g k (pre [be 1 1, be 1 s, num i] [] 1) → Calls Try.prog 15 #[.pointer (some ⟨g, 0, none⟩), .int .u64 (s : Int), .int .i64 1] w fun e w' => e = .returned (.pointer (some ⟨g, 0, none⟩)) ∧ Wrote w g k w' (pre [be 1 1, be 1 s, num i] [] (1 + 1)) := fun w k h => by
    rw [pre_succ (z := be 1 s) rfl]
    exact uint_any s (by omega) 1 (by omega) (by omega) g k _ (Nat.le_trans (pre_len _ _ _) hl) w h
  have wI : ∀ w k, Wr w g k (pre [be 1 1, be 1 s, num i] [] 2) → Calls Try.prog 16 #[.pointer (some ⟨g, 0, none⟩), .int .u64 (i : Int)] w fun e w' => e = .returned (.pointer (some ⟨g, 0, none⟩)) ∧ Wrote w g k w' (pre [be 1 1, be 1 s, num i] [] (2 + 1)) := fun w k h => by
    rw [pre_succ (z := num i) rfl]
    exact num_any i (by omega) g k _ (Nat.le_trans (pre_len _ _ _) hl) w h
  clear hs hi hl
  refine wp_region_S (S := fun L w' => Chain W0 g k 13 [4, 8, 12] (pre [be 1 1, be 1 s, num i] []) L w') (by kernel_rfl) (Chain.start 13 [4, 8, 12] (by rw [pre_zero]; exact hW)) ?_
  refine AllS.next (v := ?_) rfl rfl rfl (by kernel_rfl) ?_ ?_
  rotate_left
  · refine yieldsS_run (fun _ _ h => h.other (by decide)) (by rfl) ?_
    intro L wx hS
    go_simp
    try with_reducible rfl
  simp only [Act.put, List.setIfInBounds_toArray, List.set_cons_zero, List.set_cons_succ, List.getElem_toArray, List.getElem_cons_zero]
  refine AllS.next (v := ?_) rfl rfl rfl (by kernel_rfl) ?_ ?_
  rotate_left
  · refine yieldsS_run (fun _ _ h => h.other (by decide)) (by rfl) ?_
    intro L wx hS
    go_simp
    try with_reducible rfl
  simp only [Act.put, List.setIfInBounds_toArray, List.set_cons_zero, List.set_cons_succ, List.getElem_toArray, List.getElem_cons_zero, List.getElem_cons_succ]
  refine AllS.next (v := ?_) rfl rfl rfl (by kernel_rfl) ?_ ?_
  rotate_left
  · refine yieldsS_run (fun _ _ h => h.other (by decide)) (by rfl) ?_
    intro L wx hS
    have hc := (hS.blk hB hbg hbk).cell_eq 0 (.int .i64 1) rfl
    go_simp
    try with_reducible rfl
  simp only [Act.put, List.setIfInBounds_toArray, List.set_cons_zero, List.set_cons_succ, List.getElem_toArray, List.getElem_cons_zero, List.getElem_cons_succ]
  refine AllS.next (v := ?_) rfl rfl rfl (by kernel_rfl) ?_ ?_
  rotate_left
  · refine yieldsS_run (fun _ _ h => h.other (by decide)) (by rfl) ?_
    intro L wx hS
    have hc := vK
    go_simp
    try with_reducible rfl
  simp only [Act.put, List.setIfInBounds_toArray, List.set_cons_zero, List.set_cons_succ, List.getElem_toArray, List.getElem_cons_zero, List.getElem_cons_succ]
  refine AllS.next (v := .pointer (some ⟨g, 0, none⟩)) rfl rfl rfl (by kernel_rfl) ?_ ?_
  · refine yieldsS_callr (f := 15) (args := #[.pointer (some ⟨g, 0, none⟩), .int .u64 1, .int .i64 1]) (by rfl) ?_ ?_
    · intro wx
      go_simp
      try with_reducible rfl
    · intro L wx hr hS
      exact hS.call (p := 0) hr rfl (by decide) (by decide) (by kernel_rfl) fun w k h => wK w k h
  simp only [Act.put, List.setIfInBounds_toArray, List.set_cons_zero, List.set_cons_succ, List.getElem_toArray, List.getElem_cons_zero, List.getElem_cons_succ]
  refine AllS.next (v := ?_) rfl rfl rfl (by kernel_rfl) ?_ ?_
  rotate_left
  · refine yieldsS_run (fun _ _ h => h.other (by decide)) (by rfl) ?_
    intro L wx hS
    go_simp
    try with_reducible rfl
  simp only [Act.put, List.setIfInBounds_toArray, List.set_cons_zero, List.set_cons_succ, List.getElem_toArray, List.getElem_cons_zero, List.getElem_cons_succ]
  refine AllS.next (v := ?_) rfl rfl rfl (by kernel_rfl) ?_ ?_
  rotate_left
  · refine yieldsS_run (fun _ _ h => h.other (by decide)) (by rfl) ?_
    intro L wx hS
    have hc := (hS.blk hB hbg hbk).cell_eq 1 (.int .i64 (s : Int)) rfl
    go_simp
    try with_reducible rfl
  simp only [Act.put, List.setIfInBounds_toArray, List.set_cons_zero, List.set_cons_succ, List.getElem_toArray, List.getElem_cons_zero, List.getElem_cons_succ]
  refine AllS.next (v := ?_) rfl rfl rfl (by kernel_rfl) ?_ ?_
  rotate_left
  · refine yieldsS_run (fun _ _ h => h.other (by decide)) (by rfl) ?_
    intro L wx hS
    have hc := vS
    go_simp
    try with_reducible rfl
  simp only [Act.put, List.setIfInBounds_toArray, List.set_cons_zero, List.set_cons_succ, List.getElem_toArray, List.getElem_cons_zero, List.getElem_cons_succ]
  refine AllS.next (v := .pointer (some ⟨g, 0, none⟩)) rfl rfl rfl (by kernel_rfl) ?_ ?_
  · refine yieldsS_callr (f := 15) (args := #[.pointer (some ⟨g, 0, none⟩), .int .u64 (s : Int), .int .i64 1]) (by rfl) ?_ ?_
    · intro wx
      go_simp
      try with_reducible rfl
    · intro L wx hr hS
      exact hS.call (p := 1) hr rfl (by decide) (by decide) (by kernel_rfl) fun w k h => wS w k h
  simp only [Act.put, List.setIfInBounds_toArray, List.set_cons_zero, List.set_cons_succ, List.getElem_toArray, List.getElem_cons_zero, List.getElem_cons_succ]
  refine AllS.next (v := ?_) rfl rfl rfl (by kernel_rfl) ?_ ?_
  rotate_left
  · refine yieldsS_run (fun _ _ h => h.other (by decide)) (by rfl) ?_
    intro L wx hS
    go_simp
    try with_reducible rfl
  simp only [Act.put, List.setIfInBounds_toArray, List.set_cons_zero, List.set_cons_succ, List.getElem_toArray, List.getElem_cons_zero, List.getElem_cons_succ]
  refine AllS.next (v := ?_) rfl rfl rfl (by kernel_rfl) ?_ ?_
  rotate_left
  · refine yieldsS_run (fun _ _ h => h.other (by decide)) (by rfl) ?_
    intro L wx hS
    have hc := (hS.blk hB hbg hbk).cell_eq 2 (.int .i64 (i : Int)) rfl
    go_simp
    try with_reducible rfl
  simp only [Act.put, List.setIfInBounds_toArray, List.set_cons_zero, List.set_cons_succ, List.getElem_toArray, List.getElem_cons_zero, List.getElem_cons_succ]
  refine AllS.next (v := ?_) rfl rfl rfl (by kernel_rfl) ?_ ?_
  rotate_left
  · refine yieldsS_run (fun _ _ h => h.other (by decide)) (by rfl) ?_
    intro L wx hS
    have hc := vI
    go_simp
    try with_reducible rfl
  simp only [Act.put, List.setIfInBounds_toArray, List.set_cons_zero, List.set_cons_succ, List.getElem_toArray, List.getElem_cons_zero, List.getElem_cons_succ]
  refine AllS.next (v := .pointer (some ⟨g, 0, none⟩)) rfl rfl rfl (by kernel_rfl) ?_ ?_
  · refine yieldsS_callr (f := 16) (args := #[.pointer (some ⟨g, 0, none⟩), .int .u64 (i : Int)]) (by rfl) ?_ ?_
    · intro wx
      go_simp
      try with_reducible rfl
    · intro L wx hr hS
      exact hS.call (p := 2) hr rfl (by decide) (by decide) (by kernel_rfl) fun w k h => wI w k h
  simp only [Act.put, List.setIfInBounds_toArray, List.set_cons_zero, List.set_cons_succ, List.getElem_toArray, List.getElem_cons_zero, List.getElem_cons_succ]
  refine AllS.done rfl ?_
  intro w5 hS
  have hw : Wrote W0 g k w5 (pre [be 1 1, be 1 s, num i] [] 3) := hS.wrote
  have hs0 := hB.lt
  replace hB := hS.blk hB hbg hbk
  clear hS hW
  obtain ⟨k5, hW, y1, y2, y3⟩ := behind hw hbel hbg hbk hk
  clear hw hbel hbk hk hs0 W0 k
  have hbel := y1
  have hbk := y2
  have hk := y3
  clear y1 y2 y3
  obtain ⟨W0, hx⟩ : ∃ x, x = w5 := ⟨_, rfl⟩
  subst hx
  obtain ⟨k, hx⟩ : ∃ x, x = k5 := ⟨_, rfl⟩
  subst hx
  rw [pre_all (zs := [be 1 1, be 1 s, num i]) (xs := []) (p := 3) rfl] at hW
  obtain ⟨X4, hX4⟩ : ∃ X, Hid (X = [] ++ [be 1 1, be 1 s, num i].flatten) := ⟨_, Lib.hid rfl⟩
  rw [← hX4.out] at hW
  clear wK wS wI vK vS vI
  have x0 := hB.cell_eq 0 (.int .i64 1) rfl
  go_wp2_with fail
  clear x0
  have hl : (X4 ++ [num o, be 1 d, be 1 t, be 1 f].flatten).length ≤ 1000000 := by rw [hX4.out]; simp only [List.flatten_cons, List.flatten_nil, List.append_nil, List.nil_append, List.length_append, be_length]; omega
  obtain ⟨ho, hd, ht, hf⟩ := KO.out
  have wO : ∀ w k, Wr w g k (pre [num o, be 1 d, be 1 t, be 1 f] X4 0) → Calls Try.prog 16 #[.pointer (some ⟨g, 0, none⟩), .int .u64 (o : Int)] w fun e w' => e = .returned (.pointer (some ⟨g, 0, none⟩)) ∧ Wrote w g k w' (pre [num o, be 1 d, be 1 t, be 1 f] X4 (0 + 1)) := fun w k h => by
    rw [pre_succ (z := num o) rfl]
    exact num_any o (by omega) g k _ (Nat.le_trans (pre_len _ _ _) hl) w h
  have wD : ∀ w k, Wr w g k (pre [num o, be 1 d, be 1 t, be 1 f] X4 1) → Calls Try.prog 15 #[.pointer (some ⟨g, 0, none⟩), .int .u64 (d : Int), .int .i64 1] w fun e w' => e = .returned (.pointer (some ⟨g, 0, none⟩)) ∧ Wrote w g k w' (pre [num o, be 1 d, be 1 t, be 1 f] X4 (1 + 1)) := fun w k h => by
    rw [pre_succ (z := be 1 d) rfl]
    exact uint_any d (by omega) 1 (by omega) (by omega) g k _ (Nat.le_trans (pre_len _ _ _) hl) w h
  have wT : ∀ w k, Wr w g k (pre [num o, be 1 d, be 1 t, be 1 f] X4 2) → Calls Try.prog 15 #[.pointer (some ⟨g, 0, none⟩), .int .u64 (t : Int), .int .i64 1] w fun e w' => e = .returned (.pointer (some ⟨g, 0, none⟩)) ∧ Wrote w g k w' (pre [num o, be 1 d, be 1 t, be 1 f] X4 (2 + 1)) := fun w k h => by
    rw [pre_succ (z := be 1 t) rfl]
    exact uint_any t (by omega) 1 (by omega) (by omega) g k _ (Nat.le_trans (pre_len _ _ _) hl) w h
  have wF : ∀ w k, Wr w g k (pre [num o, be 1 d, be 1 t, be 1 f] X4 3) → Calls Try.prog 15 #[.pointer (some ⟨g, 0, none⟩), .int .u64 (f : Int), .int .i64 1] w fun e w' => e = .returned (.pointer (some ⟨g, 0, none⟩)) ∧ Wrote w g k w' (pre [num o, be 1 d, be 1 t, be 1 f] X4 (3 + 1)) := fun w k h => by
    rw [pre_succ (z := be 1 f) rfl]
    exact uint_any f (by omega) 1 (by omega) (by omega) g k _ (Nat.le_trans (pre_len _ _ _) hl) w h
  clear ho hd ht hf hl
  refine wp_region_S (S := fun L w' => Chain W0 g k 17 [4, 8, 12, 16] (pre [num o, be 1 d, be 1 t, be 1 f] X4) L w') (by kernel_rfl) (Chain.start 17 [4, 8, 12, 16] (by rw [pre_zero]; exact hW)) ?_
  refine AllS.next (v := ?_) rfl rfl rfl (by kernel_rfl) ?_ ?_
  rotate_left
  · refine yieldsS_run (fun _ _ h => h.other (by decide)) (by rfl) ?_
    intro L wx hS
    go_simp
    try with_reducible rfl
  simp only [Act.put, List.setIfInBounds_toArray, List.set_cons_zero, List.set_cons_succ, List.getElem_toArray, List.getElem_cons_zero]
  refine AllS.next (v := ?_) rfl rfl rfl (by kernel_rfl) ?_ ?_
  rotate_left
  · refine yieldsS_run (fun _ _ h => h.other (by decide)) (by rfl) ?_
    intro L wx hS
    go_simp
    try with_reducible rfl
  simp only [Act.put, List.setIfInBounds_toArray, List.set_cons_zero, List.set_cons_succ, List.getElem_toArray, List.getElem_cons_zero, List.getElem_cons_succ]
  refine AllS.next (v := ?_) rfl rfl rfl (by kernel_rfl) ?_ ?_
  rotate_left
  · refine yieldsS_run (fun _ _ h => h.other (by decide)) (by rfl) ?_
    intro L wx hS
    have hc := (hS.blk hB hbg hbk).cell_eq 3 (.int .i64 (o : Int)) rfl
    go_simp
    try with_reducible rfl
  simp only [Act.put, List.setIfInBounds_toArray, List.set_cons_zero, List.set_cons_succ, List.getElem_toArray, List.getElem_cons_zero, List.getElem_cons_succ]
  refine AllS.next (v := ?_) rfl rfl rfl (by kernel_rfl) ?_ ?_
  rotate_left
  · refine yieldsS_run (fun _ _ h => h.other (by decide)) (by rfl) ?_
    intro L wx hS
    have hc := vO
    go_simp
    try with_reducible rfl
  simp only [Act.put, List.setIfInBounds_toArray, List.set_cons_zero, List.set_cons_succ, List.getElem_toArray, List.getElem_cons_zero, List.getElem_cons_succ]
  refine AllS.next (v := .pointer (some ⟨g, 0, none⟩)) rfl rfl rfl (by kernel_rfl) ?_ ?_
  · refine yieldsS_callr (f := 16) (args := #[.pointer (some ⟨g, 0, none⟩), .int .u64 (o : Int)]) (by rfl) ?_ ?_
    · intro wx
      go_simp
      try with_reducible rfl
    · intro L wx hr hS
      exact hS.call (p := 0) hr rfl (by decide) (by decide) (by kernel_rfl) fun w k h => wO w k h
  simp only [Act.put, List.setIfInBounds_toArray, List.set_cons_zero, List.set_cons_succ, List.getElem_toArray, List.getElem_cons_zero, List.getElem_cons_succ]
  refine AllS.next (v := ?_) rfl rfl rfl (by kernel_rfl) ?_ ?_
  rotate_left
  · refine yieldsS_run (fun _ _ h => h.other (by decide)) (by rfl) ?_
    intro L wx hS
    go_simp
    try with_reducible rfl
  simp only [Act.put, List.setIfInBounds_toArray, List.set_cons_zero, List.set_cons_succ, List.getElem_toArray, List.getElem_cons_zero, List.getElem_cons_succ]
  refine AllS.next (v := ?_) rfl rfl rfl (by kernel_rfl) ?_ ?_
  rotate_left
  · refine yieldsS_run (fun _ _ h => h.other (by decide)) (by rfl) ?_
    intro L wx hS
    have hc := (hS.blk hB hbg hbk).cell_eq 4 (.int .i64 (d : Int)) rfl
    go_simp
    try with_reducible rfl
  simp only [Act.put, List.setIfInBounds_toArray, List.set_cons_zero, List.set_cons_succ, List.getElem_toArray, List.getElem_cons_zero, List.getElem_cons_succ]
  refine AllS.next (v := ?_) rfl rfl rfl (by kernel_rfl) ?_ ?_
  rotate_left
  · refine yieldsS_run (fun _ _ h => h.other (by decide)) (by rfl) ?_
    intro L wx hS
    have hc := vD
    go_simp
    try with_reducible rfl
  simp only [Act.put, List.setIfInBounds_toArray, List.set_cons_zero, List.set_cons_succ, List.getElem_toArray, List.getElem_cons_zero, List.getElem_cons_succ]
  refine AllS.next (v := .pointer (some ⟨g, 0, none⟩)) rfl rfl rfl (by kernel_rfl) ?_ ?_
  · refine yieldsS_callr (f := 15) (args := #[.pointer (some ⟨g, 0, none⟩), .int .u64 (d : Int), .int .i64 1]) (by rfl) ?_ ?_
    · intro wx
      go_simp
      try with_reducible rfl
    · intro L wx hr hS
      exact hS.call (p := 1) hr rfl (by decide) (by decide) (by kernel_rfl) fun w k h => wD w k h
  simp only [Act.put, List.setIfInBounds_toArray, List.set_cons_zero, List.set_cons_succ, List.getElem_toArray, List.getElem_cons_zero, List.getElem_cons_succ]
  refine AllS.next (v := ?_) rfl rfl rfl (by kernel_rfl) ?_ ?_
  rotate_left
  · refine yieldsS_run (fun _ _ h => h.other (by decide)) (by rfl) ?_
    intro L wx hS
    go_simp
    try with_reducible rfl
  simp only [Act.put, List.setIfInBounds_toArray, List.set_cons_zero, List.set_cons_succ, List.getElem_toArray, List.getElem_cons_zero, List.getElem_cons_succ]
  refine AllS.next (v := ?_) rfl rfl rfl (by kernel_rfl) ?_ ?_
  rotate_left
  · refine yieldsS_run (fun _ _ h => h.other (by decide)) (by rfl) ?_
    intro L wx hS
    have hc := (hS.blk hB hbg hbk).cell_eq 5 (.int .i64 (t : Int)) rfl
    go_simp
    try with_reducible rfl
  simp only [Act.put, List.setIfInBounds_toArray, List.set_cons_zero, List.set_cons_succ, List.getElem_toArray, List.getElem_cons_zero, List.getElem_cons_succ]
  refine AllS.next (v := ?_) rfl rfl rfl (by kernel_rfl) ?_ ?_
  rotate_left
  · refine yieldsS_run (fun _ _ h => h.other (by decide)) (by rfl) ?_
    intro L wx hS
    have hc := vT
    go_simp
    try with_reducible rfl
  simp only [Act.put, List.setIfInBounds_toArray, List.set_cons_zero, List.set_cons_succ, List.getElem_toArray, List.getElem_cons_zero, List.getElem_cons_succ]
  refine AllS.next (v := .pointer (some ⟨g, 0, none⟩)) rfl rfl rfl (by kernel_rfl) ?_ ?_
  · refine yieldsS_callr (f := 15) (args := #[.pointer (some ⟨g, 0, none⟩), .int .u64 (t : Int), .int .i64 1]) (by rfl) ?_ ?_
    · intro wx
      go_simp
      try with_reducible rfl
    · intro L wx hr hS
      exact hS.call (p := 2) hr rfl (by decide) (by decide) (by kernel_rfl) fun w k h => wT w k h
  simp only [Act.put, List.setIfInBounds_toArray, List.set_cons_zero, List.set_cons_succ, List.getElem_toArray, List.getElem_cons_zero, List.getElem_cons_succ]
  refine AllS.next (v := ?_) rfl rfl rfl (by kernel_rfl) ?_ ?_
  rotate_left
  · refine yieldsS_run (fun _ _ h => h.other (by decide)) (by rfl) ?_
    intro L wx hS
    go_simp
    try with_reducible rfl
  simp only [Act.put, List.setIfInBounds_toArray, List.set_cons_zero, List.set_cons_succ, List.getElem_toArray, List.getElem_cons_zero, List.getElem_cons_succ]
  refine AllS.next (v := ?_) rfl rfl rfl (by kernel_rfl) ?_ ?_
  rotate_left
  · refine yieldsS_run (fun _ _ h => h.other (by decide)) (by rfl) ?_
    intro L wx hS
    have hc := (hS.blk hB hbg hbk).cell_eq 8 (.int .i64 (f : Int)) rfl
    go_simp
    try with_reducible rfl
  simp only [Act.put, List.setIfInBounds_toArray, List.set_cons_zero, List.set_cons_succ, List.getElem_toArray, List.getElem_cons_zero, List.getElem_cons_succ]
  refine AllS.next (v := ?_) rfl rfl rfl (by kernel_rfl) ?_ ?_
  rotate_left
  · refine yieldsS_run (fun _ _ h => h.other (by decide)) (by rfl) ?_
    intro L wx hS
    have hc := vF
    go_simp
    try with_reducible rfl
  simp only [Act.put, List.setIfInBounds_toArray, List.set_cons_zero, List.set_cons_succ, List.getElem_toArray, List.getElem_cons_zero, List.getElem_cons_succ]
  refine AllS.next (v := .pointer (some ⟨g, 0, none⟩)) rfl rfl rfl (by kernel_rfl) ?_ ?_
  · refine yieldsS_callr (f := 15) (args := #[.pointer (some ⟨g, 0, none⟩), .int .u64 (f : Int), .int .i64 1]) (by rfl) ?_ ?_
    · intro wx
      go_simp
      try with_reducible rfl
    · intro L wx hr hS
      exact hS.call (p := 3) hr rfl (by decide) (by decide) (by kernel_rfl) fun w k h => wF w k h
  simp only [Act.put, List.setIfInBounds_toArray, List.set_cons_zero, List.set_cons_succ, List.getElem_toArray, List.getElem_cons_zero, List.getElem_cons_succ]
  refine AllS.done rfl ?_
  intro w5 hS
  have hw : Wrote W0 g k w5 (pre [num o, be 1 d, be 1 t, be 1 f] X4 4) := hS.wrote
  have hs0 := hB.lt
  replace hB := hS.blk hB hbg hbk
  clear hS hW
  obtain ⟨k5, hW, y1, y2, y3⟩ := behind hw hbel hbg hbk hk
  clear hw hbel hbk hk hs0 W0 k
  have hbel := y1
  have hbk := y2
  have hk := y3
  clear y1 y2 y3
  obtain ⟨W0, hx⟩ : ∃ x, x = w5 := ⟨_, rfl⟩
  subst hx
  obtain ⟨k, hx⟩ : ∃ x, x = k5 := ⟨_, rfl⟩
  subst hx
  rw [pre_all (zs := [num o, be 1 d, be 1 t, be 1 f]) (xs := X4) (p := 4) rfl] at hW
  obtain ⟨X8, hX8⟩ : ∃ X, Hid (X = X4 ++ [num o, be 1 d, be 1 t, be 1 f].flatten) := ⟨_, Lib.hid rfl⟩
  rw [← hX8.out] at hW
  clear wO wD wT wF vO vD vT vF
  go_wp2_with fail
  have hl : (X8 ++ [be 8 (zig p), be 8 (zig q)].flatten).length ≤ 1000000 := by rw [hX8.out, hX4.out]; simp only [List.flatten_cons, List.flatten_nil, List.append_nil, List.nil_append, List.length_append, be_length]; omega
  obtain ⟨hp, hq⟩ := KP.out
  have wP : ∀ w k, Wr w g k (pre [be 8 (zig p), be 8 (zig q)] X8 0) → Calls Try.prog 17 #[.pointer (some ⟨g, 0, none⟩), .int .i64 p] w fun e w' => e = .returned (.pointer (some ⟨g, 0, none⟩)) ∧ Wrote w g k w' (pre [be 8 (zig p), be 8 (zig q)] X8 (0 + 1)) := fun w k h => by
    rw [pre_succ (z := be 8 (zig p)) rfl]
    exact int_any p hp.1 hp.2 g k _ (Nat.le_trans (pre_len _ _ _) hl) w h
  have wQ : ∀ w k, Wr w g k (pre [be 8 (zig p), be 8 (zig q)] X8 1) → Calls Try.prog 17 #[.pointer (some ⟨g, 0, none⟩), .int .i64 q] w fun e w' => e = .returned (.pointer (some ⟨g, 0, none⟩)) ∧ Wrote w g k w' (pre [be 8 (zig p), be 8 (zig q)] X8 (1 + 1)) := fun w k h => by
    rw [pre_succ (z := be 8 (zig q)) rfl]
    exact int_any q hq.1 hq.2 g k _ (Nat.le_trans (pre_len _ _ _) hl) w h
  clear hp hq hl
  refine wp_region_S (S := fun L w' => Chain W0 g k 7 [3, 6] (pre [be 8 (zig p), be 8 (zig q)] X8) L w') (by kernel_rfl) (Chain.start 7 [3, 6] (by rw [pre_zero]; exact hW)) ?_
  refine AllS.next (v := ?_) rfl rfl rfl (by kernel_rfl) ?_ ?_
  rotate_left
  · refine yieldsS_run (fun _ _ h => h.other (by decide)) (by rfl) ?_
    intro L wx hS
    go_simp
    try with_reducible rfl
  simp only [Act.put, List.setIfInBounds_toArray, List.set_cons_zero, List.set_cons_succ, List.getElem_toArray, List.getElem_cons_zero]
  refine AllS.next (v := ?_) rfl rfl rfl (by kernel_rfl) ?_ ?_
  rotate_left
  · refine yieldsS_run (fun _ _ h => h.other (by decide)) (by rfl) ?_
    intro L wx hS
    go_simp
    try with_reducible rfl
  simp only [Act.put, List.setIfInBounds_toArray, List.set_cons_zero, List.set_cons_succ, List.getElem_toArray, List.getElem_cons_zero, List.getElem_cons_succ]
  refine AllS.next (v := ?_) rfl rfl rfl (by kernel_rfl) ?_ ?_
  rotate_left
  · refine yieldsS_run (fun _ _ h => h.other (by decide)) (by rfl) ?_
    intro L wx hS
    have hc := (hS.blk hB hbg hbk).cell_eq 6 (.int .i64 p) rfl
    go_simp
    try with_reducible rfl
  simp only [Act.put, List.setIfInBounds_toArray, List.set_cons_zero, List.set_cons_succ, List.getElem_toArray, List.getElem_cons_zero, List.getElem_cons_succ]
  refine AllS.next (v := .pointer (some ⟨g, 0, none⟩)) rfl rfl rfl (by kernel_rfl) ?_ ?_
  · refine yieldsS_callr (f := 17) (args := #[.pointer (some ⟨g, 0, none⟩), .int .i64 p]) (by rfl) ?_ ?_
    · intro wx
      go_simp
      try with_reducible rfl
    · intro L wx hr hS
      exact hS.call (p := 0) hr rfl (by decide) (by decide) (by kernel_rfl) fun w k h => wP w k h
  simp only [Act.put, List.setIfInBounds_toArray, List.set_cons_zero, List.set_cons_succ, List.getElem_toArray, List.getElem_cons_zero, List.getElem_cons_succ]
  refine AllS.next (v := ?_) rfl rfl rfl (by kernel_rfl) ?_ ?_
  rotate_left
  · refine yieldsS_run (fun _ _ h => h.other (by decide)) (by rfl) ?_
    intro L wx hS
    go_simp
    try with_reducible rfl
  simp only [Act.put, List.setIfInBounds_toArray, List.set_cons_zero, List.set_cons_succ, List.getElem_toArray, List.getElem_cons_zero, List.getElem_cons_succ]
  refine AllS.next (v := ?_) rfl rfl rfl (by kernel_rfl) ?_ ?_
  rotate_left
  · refine yieldsS_run (fun _ _ h => h.other (by decide)) (by rfl) ?_
    intro L wx hS
    have hc := (hS.blk hB hbg hbk).cell_eq 7 (.int .i64 q) rfl
    go_simp
    try with_reducible rfl
  simp only [Act.put, List.setIfInBounds_toArray, List.set_cons_zero, List.set_cons_succ, List.getElem_toArray, List.getElem_cons_zero, List.getElem_cons_succ]
  refine AllS.next (v := .pointer (some ⟨g, 0, none⟩)) rfl rfl rfl (by kernel_rfl) ?_ ?_
  · refine yieldsS_callr (f := 17) (args := #[.pointer (some ⟨g, 0, none⟩), .int .i64 q]) (by rfl) ?_ ?_
    · intro wx
      go_simp
      try with_reducible rfl
    · intro L wx hr hS
      exact hS.call (p := 1) hr rfl (by decide) (by decide) (by kernel_rfl) fun w k h => wQ w k h
  simp only [Act.put, List.setIfInBounds_toArray, List.set_cons_zero, List.set_cons_succ, List.getElem_toArray, List.getElem_cons_zero, List.getElem_cons_succ]
  refine AllS.done rfl ?_
  intro w5 hS
  have hw : Wrote W0 g k w5 (pre [be 8 (zig p), be 8 (zig q)] X8 2) := hS.wrote
  have hs0 := hB.lt
  replace hB := hS.blk hB hbg hbk
  clear hS hW
  obtain ⟨k5, hW, y1, y2, y3⟩ := behind hw hbel hbg hbk hk
  clear hw hbel hbk hk hs0 W0 k
  have hbel := y1
  have hbk := y2
  have hk := y3
  clear y1 y2 y3
  obtain ⟨W0, hx⟩ : ∃ x, x = w5 := ⟨_, rfl⟩
  subst hx
  obtain ⟨k, hx⟩ : ∃ x, x = k5 := ⟨_, rfl⟩
  subst hx
  rw [pre_all (zs := [be 8 (zig p), be 8 (zig q)]) (xs := X8) (p := 2) rfl] at hW
  obtain ⟨X9, hX9⟩ : ∃ X, Hid (X = X8 ++ [be 8 (zig p), be 8 (zig q)].flatten) := ⟨_, Lib.hid rfl⟩
  rw [← hX9.out] at hW
  clear wP wQ
  have hx : X9 = X := by rw [hX.out, hX9.out, hX8.out, hX4.out]; simp
  have hl : X.length ≤ 2000000 := by rw [hX.out]; simp only [List.length_append, be_length]; omega
  have cY := fun w h => bytes_any g k X hl w h
  rw [hx] at hW
  clear hx hl li lo
  go_wp2_with (go_at_call 18; refine (cY _ hW).mono ?_; rintro e w6 ⟨v, rfl, ao, cap, k6, rfl, hB6, hb6, hk6⟩)
  go_ret2
  exact ⟨ao, cap, k6, rfl, hB6, hbel.trans (hb6.mono hbel.size)⟩
set_option maxRecDepth 8000 in
set_option maxHeartbeats 2000000 in
theorem encode_cancel (s i : Nat) (hs : s < 256) (hi : i ≤ 4611686018427387904) (W : World) (cR : ∀ w, Calls Try.prog 10 #[cv ⟨2, (s : Int), (i : Int), 0, 0, 0, 0, 0, 0⟩] w fun e w' => e = .returned (.bool true) ∧ Below w.heap.size w w') :
    Calls Try.prog 6 #[cv ⟨2, (s : Int), (i : Int), 0, 0, 0, 0, 0, 0⟩] W fun e w' => Coded W w' e (be 1 2 ++ (be 1 s ++ num i)) 0 := by
  have vS := fun w => conv_u64 Try.underlying3 s (by omega) w
  have vI := fun w => conv_u64 Try.underlying2 i (by omega) w
  have vK : ∀ w, (convert 3 41 (.int .i64 2)).run Try.prog w = .ok (.int .u64 2) w := fun w => conv_u64 Try.underlying3 2 (by omega) w
  have li := num_ten (n := i) (by omega)
  obtain ⟨X, hX⟩ : ∃ X, Hid (X = (be 1 2 ++ (be 1 s ++ num i))) := ⟨_, Lib.hid rfl⟩
  rw [← hX.out]
  have hb0 := fun o => (Below.refl W.heap.size W).alloc (Nat.le_refl _) o
  have hB0 : ∀ w1, Below (W.alloc (.cells (cc ⟨2, (s : Int), (i : Int), 0, 0, 0, 0, 0, 0⟩) 23)).heap.size (W.alloc (.cells (cc ⟨2, (s : Int), (i : Int), 0, 0, 0, 0, 0, 0⟩) 23)) w1 → Blk w1 W.heap.size 23 (cc ⟨2, (s : Int), (i : Int), 0, 0, 0, 0, 0, 0⟩) ∧ Below W.heap.size W w1 := fun w1 h => ⟨(Blk.new W _ _).below h (by simp), (hb0 _).trans (h.mono (by simp))⟩
  have KS : Hid (s < 256 ∧ i ≤ 4611686018427387904) := ⟨hs, hi⟩
  clear hs hi
  go_enter Try.func6, Try.ntmps6
  go_wp2_with (go_at_call 10; refine (cR _).mono ?_; rintro e w1 ⟨rfl, hb1⟩; obtain ⟨hB, hbel⟩ := hB0 _ hb1)
  clear hB0 hb0 hb1 cR
  obtain ⟨g, hg⟩ : ∃ g, g = w1.heap.size := ⟨_, rfl⟩
  have hbg : W.heap.size < g := by rw [hg]; exact hB.lt
  have hW : Wr (w1.alloc (.cells #[.slice none 0 0] 39)) g (g + 1) (pre [be 1 2, be 1 s, num i] [] 0) := nilWriter (Blk.new' hg) (by omega)
  replace hB := hB.alloc (.cells #[.slice none 0 0] 39)
  replace hbel := hbel.alloc (by omega) (.cells #[.slice none 0 0] 39)
  have hW0 : (w1.alloc (.cells #[.slice none 0 0] 39)).heap.size = w1.heap.size + 1 := by simp
  rw [← hg]
  rw [← hg] at hW0
  generalize w1.alloc (.cells #[.slice none 0 0] 39) = W0 at *
  obtain ⟨k, hkg⟩ : ∃ k, k = g + 1 := ⟨_, rfl⟩
  rw [← hkg] at hW
  have hbk : W.heap.size ≠ k := by omega
  have hk : W.heap.size ≤ k := by omega
  clear hg hkg hW0 w1
  replace hbg : W.heap.size ≠ g ∧ W.heap.size ≤ g := ⟨by omega, by omega⟩
  obtain ⟨hbg, hgb⟩ := hbg
  have hl : ([] ++ [be 1 2, be 1 s, num i].flatten).length ≤ 1000000 := by simp only [List.flatten_cons, List.flatten_nil, List.append_nil, List.nil_append, List.length_append, be_length]; omega
  obtain ⟨hs, hi⟩ := KS.out
  have wK : ∀ w k, Wr w g k (pre [be 1 2, be 1 s, num i] [] 0) → Calls Try.prog 15 #[.pointer (some ⟨g, 0, none⟩), .int .u64 2, .int .i64 1] w fun e w' => e = .returned (.pointer (some ⟨g, 0, none⟩)) ∧ Wrote w g k w' (pre [be 1 2, be 1 s, num i] [] (0 + 1)) := fun w k h => by
    rw [pre_succ (z := be 1 2) rfl]
    exact uint_any 2 (by omega) 1 (by omega) (by omega) g k _ (Nat.le_trans (pre_len _ _ _) hl) w h
  have wS : ∀ w k, Wr w g k (pre [be 1 2, be 1 s, num i] [] 1) → Calls Try.prog 15 #[.pointer (some ⟨g, 0, none⟩), .int .u64 (s : Int), .int .i64 1] w fun e w' => e = .returned (.pointer (some ⟨g, 0, none⟩)) ∧ Wrote w g k w' (pre [be 1 2, be 1 s, num i] [] (1 + 1)) := fun w k h => by
    rw [pre_succ (z := be 1 s) rfl]
    exact uint_any s (by omega) 1 (by omega) (by omega) g k _ (Nat.le_trans (pre_len _ _ _) hl) w h
  have wI : ∀ w k, Wr w g k (pre [be 1 2, be 1 s, num i] [] 2) → Calls Try.prog 16 #[.pointer (some ⟨g, 0, none⟩), .int .u64 (i : Int)] w fun e w' => e = .returned (.pointer (some ⟨g, 0, none⟩)) ∧ Wrote w g k w' (pre [be 1 2, be 1 s, num i] [] (2 + 1)) := fun w k h => by
    rw [pre_succ (z := num i) rfl]
    exact num_any i (by omega) g k _ (Nat.le_trans (pre_len _ _ _) hl) w h
  clear hs hi hl
  refine wp_region_S (S := fun L w' => Chain W0 g k 13 [4, 8, 12] (pre [be 1 2, be 1 s, num i] []) L w') (by kernel_rfl) (Chain.start 13 [4, 8, 12] (by rw [pre_zero]; exact hW)) ?_
  refine AllS.next (v := ?_) rfl rfl rfl (by kernel_rfl) ?_ ?_
  rotate_left
  · refine yieldsS_run (fun _ _ h => h.other (by decide)) (by rfl) ?_
    intro L wx hS
    go_simp
    try with_reducible rfl
  simp only [Act.put, List.setIfInBounds_toArray, List.set_cons_zero, List.set_cons_succ, List.getElem_toArray, List.getElem_cons_zero]
  refine AllS.next (v := ?_) rfl rfl rfl (by kernel_rfl) ?_ ?_
  rotate_left
  · refine yieldsS_run (fun _ _ h => h.other (by decide)) (by rfl) ?_
    intro L wx hS
    go_simp
    try with_reducible rfl
  simp only [Act.put, List.setIfInBounds_toArray, List.set_cons_zero, List.set_cons_succ, List.getElem_toArray, List.getElem_cons_zero, List.getElem_cons_succ]
  refine AllS.next (v := ?_) rfl rfl rfl (by kernel_rfl) ?_ ?_
  rotate_left
  · refine yieldsS_run (fun _ _ h => h.other (by decide)) (by rfl) ?_
    intro L wx hS
    have hc := (hS.blk hB hbg hbk).cell_eq 0 (.int .i64 2) rfl
    go_simp
    try with_reducible rfl
  simp only [Act.put, List.setIfInBounds_toArray, List.set_cons_zero, List.set_cons_succ, List.getElem_toArray, List.getElem_cons_zero, List.getElem_cons_succ]
  refine AllS.next (v := ?_) rfl rfl rfl (by kernel_rfl) ?_ ?_
  rotate_left
  · refine yieldsS_run (fun _ _ h => h.other (by decide)) (by rfl) ?_
    intro L wx hS
    have hc := vK
    go_simp
    try with_reducible rfl
  simp only [Act.put, List.setIfInBounds_toArray, List.set_cons_zero, List.set_cons_succ, List.getElem_toArray, List.getElem_cons_zero, List.getElem_cons_succ]
  refine AllS.next (v := .pointer (some ⟨g, 0, none⟩)) rfl rfl rfl (by kernel_rfl) ?_ ?_
  · refine yieldsS_callr (f := 15) (args := #[.pointer (some ⟨g, 0, none⟩), .int .u64 2, .int .i64 1]) (by rfl) ?_ ?_
    · intro wx
      go_simp
      try with_reducible rfl
    · intro L wx hr hS
      exact hS.call (p := 0) hr rfl (by decide) (by decide) (by kernel_rfl) fun w k h => wK w k h
  simp only [Act.put, List.setIfInBounds_toArray, List.set_cons_zero, List.set_cons_succ, List.getElem_toArray, List.getElem_cons_zero, List.getElem_cons_succ]
  refine AllS.next (v := ?_) rfl rfl rfl (by kernel_rfl) ?_ ?_
  rotate_left
  · refine yieldsS_run (fun _ _ h => h.other (by decide)) (by rfl) ?_
    intro L wx hS
    go_simp
    try with_reducible rfl
  simp only [Act.put, List.setIfInBounds_toArray, List.set_cons_zero, List.set_cons_succ, List.getElem_toArray, List.getElem_cons_zero, List.getElem_cons_succ]
  refine AllS.next (v := ?_) rfl rfl rfl (by kernel_rfl) ?_ ?_
  rotate_left
  · refine yieldsS_run (fun _ _ h => h.other (by decide)) (by rfl) ?_
    intro L wx hS
    have hc := (hS.blk hB hbg hbk).cell_eq 1 (.int .i64 (s : Int)) rfl
    go_simp
    try with_reducible rfl
  simp only [Act.put, List.setIfInBounds_toArray, List.set_cons_zero, List.set_cons_succ, List.getElem_toArray, List.getElem_cons_zero, List.getElem_cons_succ]
  refine AllS.next (v := ?_) rfl rfl rfl (by kernel_rfl) ?_ ?_
  rotate_left
  · refine yieldsS_run (fun _ _ h => h.other (by decide)) (by rfl) ?_
    intro L wx hS
    have hc := vS
    go_simp
    try with_reducible rfl
  simp only [Act.put, List.setIfInBounds_toArray, List.set_cons_zero, List.set_cons_succ, List.getElem_toArray, List.getElem_cons_zero, List.getElem_cons_succ]
  refine AllS.next (v := .pointer (some ⟨g, 0, none⟩)) rfl rfl rfl (by kernel_rfl) ?_ ?_
  · refine yieldsS_callr (f := 15) (args := #[.pointer (some ⟨g, 0, none⟩), .int .u64 (s : Int), .int .i64 1]) (by rfl) ?_ ?_
    · intro wx
      go_simp
      try with_reducible rfl
    · intro L wx hr hS
      exact hS.call (p := 1) hr rfl (by decide) (by decide) (by kernel_rfl) fun w k h => wS w k h
  simp only [Act.put, List.setIfInBounds_toArray, List.set_cons_zero, List.set_cons_succ, List.getElem_toArray, List.getElem_cons_zero, List.getElem_cons_succ]
  refine AllS.next (v := ?_) rfl rfl rfl (by kernel_rfl) ?_ ?_
  rotate_left
  · refine yieldsS_run (fun _ _ h => h.other (by decide)) (by rfl) ?_
    intro L wx hS
    go_simp
    try with_reducible rfl
  simp only [Act.put, List.setIfInBounds_toArray, List.set_cons_zero, List.set_cons_succ, List.getElem_toArray, List.getElem_cons_zero, List.getElem_cons_succ]
  refine AllS.next (v := ?_) rfl rfl rfl (by kernel_rfl) ?_ ?_
  rotate_left
  · refine yieldsS_run (fun _ _ h => h.other (by decide)) (by rfl) ?_
    intro L wx hS
    have hc := (hS.blk hB hbg hbk).cell_eq 2 (.int .i64 (i : Int)) rfl
    go_simp
    try with_reducible rfl
  simp only [Act.put, List.setIfInBounds_toArray, List.set_cons_zero, List.set_cons_succ, List.getElem_toArray, List.getElem_cons_zero, List.getElem_cons_succ]
  refine AllS.next (v := ?_) rfl rfl rfl (by kernel_rfl) ?_ ?_
  rotate_left
  · refine yieldsS_run (fun _ _ h => h.other (by decide)) (by rfl) ?_
    intro L wx hS
    have hc := vI
    go_simp
    try with_reducible rfl
  simp only [Act.put, List.setIfInBounds_toArray, List.set_cons_zero, List.set_cons_succ, List.getElem_toArray, List.getElem_cons_zero, List.getElem_cons_succ]
  refine AllS.next (v := .pointer (some ⟨g, 0, none⟩)) rfl rfl rfl (by kernel_rfl) ?_ ?_
  · refine yieldsS_callr (f := 16) (args := #[.pointer (some ⟨g, 0, none⟩), .int .u64 (i : Int)]) (by rfl) ?_ ?_
    · intro wx
      go_simp
      try with_reducible rfl
    · intro L wx hr hS
      exact hS.call (p := 2) hr rfl (by decide) (by decide) (by kernel_rfl) fun w k h => wI w k h
  simp only [Act.put, List.setIfInBounds_toArray, List.set_cons_zero, List.set_cons_succ, List.getElem_toArray, List.getElem_cons_zero, List.getElem_cons_succ]
  refine AllS.done rfl ?_
  intro w5 hS
  have hw : Wrote W0 g k w5 (pre [be 1 2, be 1 s, num i] [] 3) := hS.wrote
  have hs0 := hB.lt
  replace hB := hS.blk hB hbg hbk
  clear hS hW
  obtain ⟨k5, hW, y1, y2, y3⟩ := behind hw hbel hbg hbk hk
  clear hw hbel hbk hk hs0 W0 k
  have hbel := y1
  have hbk := y2
  have hk := y3
  clear y1 y2 y3
  obtain ⟨W0, hx⟩ : ∃ x, x = w5 := ⟨_, rfl⟩
  subst hx
  obtain ⟨k, hx⟩ : ∃ x, x = k5 := ⟨_, rfl⟩
  subst hx
  rw [pre_all (zs := [be 1 2, be 1 s, num i]) (xs := []) (p := 3) rfl] at hW
  obtain ⟨X4, hX4⟩ : ∃ X, Hid (X = [] ++ [be 1 2, be 1 s, num i].flatten) := ⟨_, Lib.hid rfl⟩
  rw [← hX4.out] at hW
  clear wK wS wI vK vS vI
  have x0 := hB.cell_eq 0 (.int .i64 2) rfl
  have hx : X4 = X := by rw [hX.out, hX4.out]; simp
  have hl : X.length ≤ 2000000 := by rw [hX.out]; simp only [List.length_append, be_length]; omega
  have cY := fun w h => bytes_any g k X hl w h
  rw [hx] at hW
  clear hx hl li
  go_wp2_with (go_at_call 18; refine (cY _ hW).mono ?_; rintro e w6 ⟨v, rfl, ao, cap, k6, rfl, hB6, hb6, hk6⟩)
  go_ret2
  exact ⟨ao, cap, k6, rfl, hB6, hbel.trans (hb6.mono hbel.size)⟩
set_option maxRecDepth 8000 in
set_option maxHeartbeats 2000000 in
theorem encode_replace (s i : Nat) (p q : Int) (hs : s < 256) (hi : i ≤ 4611686018427387904) (hp : In64 p) (hq : In64 q) (W : World) (cR : ∀ w, Calls Try.prog 10 #[cv ⟨3, (s : Int), (i : Int), 0, 0, 0, p, q, 0⟩] w fun e w' => e = .returned (.bool true) ∧ Below w.heap.size w w') :
    Calls Try.prog 6 #[cv ⟨3, (s : Int), (i : Int), 0, 0, 0, p, q, 0⟩] W fun e w' => Coded W w' e (be 1 3 ++ (be 1 s ++ (num i ++ (be 8 (zig p) ++ be 8 (zig q))))) 0 := by
  have vS := fun w => conv_u64 Try.underlying3 s (by omega) w
  have vI := fun w => conv_u64 Try.underlying2 i (by omega) w
  have vK : ∀ w, (convert 3 41 (.int .i64 3)).run Try.prog w = .ok (.int .u64 3) w := fun w => conv_u64 Try.underlying3 3 (by omega) w
  have li := num_ten (n := i) (by omega)
  obtain ⟨X, hX⟩ : ∃ X, Hid (X = (be 1 3 ++ (be 1 s ++ (num i ++ (be 8 (zig p) ++ be 8 (zig q)))))) := ⟨_, Lib.hid rfl⟩
  rw [← hX.out]
  have hb0 := fun o => (Below.refl W.heap.size W).alloc (Nat.le_refl _) o
  have hB0 : ∀ w1, Below (W.alloc (.cells (cc ⟨3, (s : Int), (i : Int), 0, 0, 0, p, q, 0⟩) 23)).heap.size (W.alloc (.cells (cc ⟨3, (s : Int), (i : Int), 0, 0, 0, p, q, 0⟩) 23)) w1 → Blk w1 W.heap.size 23 (cc ⟨3, (s : Int), (i : Int), 0, 0, 0, p, q, 0⟩) ∧ Below W.heap.size W w1 := fun w1 h => ⟨(Blk.new W _ _).below h (by simp), (hb0 _).trans (h.mono (by simp))⟩
  have KS : Hid (s < 256 ∧ i ≤ 4611686018427387904) := ⟨hs, hi⟩
  have KP : Hid (In64 p ∧ In64 q) := ⟨hp, hq⟩
  clear hs hi hp hq
  go_enter Try.func6, Try.ntmps6
  go_wp2_with (go_at_call 10; refine (cR _).mono ?_; rintro e w1 ⟨rfl, hb1⟩; obtain ⟨hB, hbel⟩ := hB0 _ hb1)
  clear hB0 hb0 hb1 cR
  obtain ⟨g, hg⟩ : ∃ g, g = w1.heap.size := ⟨_, rfl⟩
  have hbg : W.heap.size < g := by rw [hg]; exact hB.lt
  have hW : Wr (w1.alloc (.cells #[.slice none 0 0] 39)) g (g + 1) (pre [be 1 3, be 1 s, num i] [] 0) := nilWriter (Blk.new' hg) (by omega)
  replace hB := hB.alloc (.cells #[.slice none 0 0] 39)
  replace hbel := hbel.alloc (by omega) (.cells #[.slice none 0 0] 39)
  have hW0 : (w1.alloc (.cells #[.slice none 0 0] 39)).heap.size = w1.heap.size + 1 := by simp
  rw [← hg]
  rw [← hg] at hW0
  generalize w1.alloc (.cells #[.slice none 0 0] 39) = W0 at *
  obtain ⟨k, hkg⟩ : ∃ k, k = g + 1 := ⟨_, rfl⟩
  rw [← hkg] at hW
  have hbk : W.heap.size ≠ k := by omega
  have hk : W.heap.size ≤ k := by omega
  clear hg hkg hW0 w1
  replace hbg : W.heap.size ≠ g ∧ W.heap.size ≤ g := ⟨by omega, by omega⟩
  obtain ⟨hbg, hgb⟩ := hbg
  have hl : ([] ++ [be 1 3, be 1 s, num i].flatten).length ≤ 1000000 := by simp only [List.flatten_cons, List.flatten_nil, List.append_nil, List.nil_append, List.length_append, be_length]; omega
  obtain ⟨hs, hi⟩ := KS.out
  have wK : ∀ w k, Wr w g k (pre [be 1 3, be 1 s, num i] [] 0) → Calls Try.prog 15 #[.pointer (some ⟨g, 0, none⟩), .int .u64 3, .int .i64 1] w fun e w' => e = .returned (.pointer (some ⟨g, 0, none⟩)) ∧ Wrote w g k w' (pre [be 1 3, be 1 s, num i] [] (0 + 1)) := fun w k h => by
    rw [pre_succ (z := be 1 3) rfl]
    exact uint_any 3 (by omega) 1 (by omega) (by omega) g k _ (Nat.le_trans (pre_len _ _ _) hl) w h
  have wS : ∀ w k, Wr w g k (pre [be 1 3, be 1 s, num i] [] 1) → Calls Try.prog 15 #[.pointer (some ⟨g, 0, none⟩), .int .u64 (s : Int), .int .i64 1] w fun e w' => e = .returned (.pointer (some ⟨g, 0, none⟩)) ∧ Wrote w g k w' (pre [be 1 3, be 1 s, num i] [] (1 + 1)) := fun w k h => by
    rw [pre_succ (z := be 1 s) rfl]
    exact uint_any s (by omega) 1 (by omega) (by omega) g k _ (Nat.le_trans (pre_len _ _ _) hl) w h
  have wI : ∀ w k, Wr w g k (pre [be 1 3, be 1 s, num i] [] 2) → Calls Try.prog 16 #[.pointer (some ⟨g, 0, none⟩), .int .u64 (i : Int)] w fun e w' => e = .returned (.pointer (some ⟨g, 0, none⟩)) ∧ Wrote w g k w' (pre [be 1 3, be 1 s, num i] [] (2 + 1)) := fun w k h => by
    rw [pre_succ (z := num i) rfl]
    exact num_any i (by omega) g k _ (Nat.le_trans (pre_len _ _ _) hl) w h
  clear hs hi hl
  refine wp_region_S (S := fun L w' => Chain W0 g k 13 [4, 8, 12] (pre [be 1 3, be 1 s, num i] []) L w') (by kernel_rfl) (Chain.start 13 [4, 8, 12] (by rw [pre_zero]; exact hW)) ?_
  refine AllS.next (v := ?_) rfl rfl rfl (by kernel_rfl) ?_ ?_
  rotate_left
  · refine yieldsS_run (fun _ _ h => h.other (by decide)) (by rfl) ?_
    intro L wx hS
    go_simp
    try with_reducible rfl
  simp only [Act.put, List.setIfInBounds_toArray, List.set_cons_zero, List.set_cons_succ, List.getElem_toArray, List.getElem_cons_zero]
  refine AllS.next (v := ?_) rfl rfl rfl (by kernel_rfl) ?_ ?_
  rotate_left
  · refine yieldsS_run (fun _ _ h => h.other (by decide)) (by rfl) ?_
    intro L wx hS
    go_simp
    try with_reducible rfl
  simp only [Act.put, List.setIfInBounds_toArray, List.set_cons_zero, List.set_cons_succ, List.getElem_toArray, List.getElem_cons_zero, List.getElem_cons_succ]
  refine AllS.next (v := ?_) rfl rfl rfl (by kernel_rfl) ?_ ?_
  rotate_left
  · refine yieldsS_run (fun _ _ h => h.other (by decide)) (by rfl) ?_
    intro L wx hS
    have hc := (hS.blk hB hbg hbk).cell_eq 0 (.int .i64 3) rfl
    go_simp
    try with_reducible rfl
  simp only [Act.put, List.setIfInBounds_toArray, List.set_cons_zero, List.set_cons_succ, List.getElem_toArray, List.getElem_cons_zero, List.getElem_cons_succ]
  refine AllS.next (v := ?_) rfl rfl rfl (by kernel_rfl) ?_ ?_
  rotate_left
  · refine yieldsS_run (fun _ _ h => h.other (by decide)) (by rfl) ?_
    intro L wx hS
    have hc := vK
    go_simp
    try with_reducible rfl
  simp only [Act.put, List.setIfInBounds_toArray, List.set_cons_zero, List.set_cons_succ, List.getElem_toArray, List.getElem_cons_zero, List.getElem_cons_succ]
  refine AllS.next (v := .pointer (some ⟨g, 0, none⟩)) rfl rfl rfl (by kernel_rfl) ?_ ?_
  · refine yieldsS_callr (f := 15) (args := #[.pointer (some ⟨g, 0, none⟩), .int .u64 3, .int .i64 1]) (by rfl) ?_ ?_
    · intro wx
      go_simp
      try with_reducible rfl
    · intro L wx hr hS
      exact hS.call (p := 0) hr rfl (by decide) (by decide) (by kernel_rfl) fun w k h => wK w k h
  simp only [Act.put, List.setIfInBounds_toArray, List.set_cons_zero, List.set_cons_succ, List.getElem_toArray, List.getElem_cons_zero, List.getElem_cons_succ]
  refine AllS.next (v := ?_) rfl rfl rfl (by kernel_rfl) ?_ ?_
  rotate_left
  · refine yieldsS_run (fun _ _ h => h.other (by decide)) (by rfl) ?_
    intro L wx hS
    go_simp
    try with_reducible rfl
  simp only [Act.put, List.setIfInBounds_toArray, List.set_cons_zero, List.set_cons_succ, List.getElem_toArray, List.getElem_cons_zero, List.getElem_cons_succ]
  refine AllS.next (v := ?_) rfl rfl rfl (by kernel_rfl) ?_ ?_
  rotate_left
  · refine yieldsS_run (fun _ _ h => h.other (by decide)) (by rfl) ?_
    intro L wx hS
    have hc := (hS.blk hB hbg hbk).cell_eq 1 (.int .i64 (s : Int)) rfl
    go_simp
    try with_reducible rfl
  simp only [Act.put, List.setIfInBounds_toArray, List.set_cons_zero, List.set_cons_succ, List.getElem_toArray, List.getElem_cons_zero, List.getElem_cons_succ]
  refine AllS.next (v := ?_) rfl rfl rfl (by kernel_rfl) ?_ ?_
  rotate_left
  · refine yieldsS_run (fun _ _ h => h.other (by decide)) (by rfl) ?_
    intro L wx hS
    have hc := vS
    go_simp
    try with_reducible rfl
  simp only [Act.put, List.setIfInBounds_toArray, List.set_cons_zero, List.set_cons_succ, List.getElem_toArray, List.getElem_cons_zero, List.getElem_cons_succ]
  refine AllS.next (v := .pointer (some ⟨g, 0, none⟩)) rfl rfl rfl (by kernel_rfl) ?_ ?_
  · refine yieldsS_callr (f := 15) (args := #[.pointer (some ⟨g, 0, none⟩), .int .u64 (s : Int), .int .i64 1]) (by rfl) ?_ ?_
    · intro wx
      go_simp
      try with_reducible rfl
    · intro L wx hr hS
      exact hS.call (p := 1) hr rfl (by decide) (by decide) (by kernel_rfl) fun w k h => wS w k h
  simp only [Act.put, List.setIfInBounds_toArray, List.set_cons_zero, List.set_cons_succ, List.getElem_toArray, List.getElem_cons_zero, List.getElem_cons_succ]
  refine AllS.next (v := ?_) rfl rfl rfl (by kernel_rfl) ?_ ?_
  rotate_left
  · refine yieldsS_run (fun _ _ h => h.other (by decide)) (by rfl) ?_
    intro L wx hS
    go_simp
    try with_reducible rfl
  simp only [Act.put, List.setIfInBounds_toArray, List.set_cons_zero, List.set_cons_succ, List.getElem_toArray, List.getElem_cons_zero, List.getElem_cons_succ]
  refine AllS.next (v := ?_) rfl rfl rfl (by kernel_rfl) ?_ ?_
  rotate_left
  · refine yieldsS_run (fun _ _ h => h.other (by decide)) (by rfl) ?_
    intro L wx hS
    have hc := (hS.blk hB hbg hbk).cell_eq 2 (.int .i64 (i : Int)) rfl
    go_simp
    try with_reducible rfl
  simp only [Act.put, List.setIfInBounds_toArray, List.set_cons_zero, List.set_cons_succ, List.getElem_toArray, List.getElem_cons_zero, List.getElem_cons_succ]
  refine AllS.next (v := ?_) rfl rfl rfl (by kernel_rfl) ?_ ?_
  rotate_left
  · refine yieldsS_run (fun _ _ h => h.other (by decide)) (by rfl) ?_
    intro L wx hS
    have hc := vI
    go_simp
    try with_reducible rfl
  simp only [Act.put, List.setIfInBounds_toArray, List.set_cons_zero, List.set_cons_succ, List.getElem_toArray, List.getElem_cons_zero, List.getElem_cons_succ]
  refine AllS.next (v := .pointer (some ⟨g, 0, none⟩)) rfl rfl rfl (by kernel_rfl) ?_ ?_
  · refine yieldsS_callr (f := 16) (args := #[.pointer (some ⟨g, 0, none⟩), .int .u64 (i : Int)]) (by rfl) ?_ ?_
    · intro wx
      go_simp
      try with_reducible rfl
    · intro L wx hr hS
      exact hS.call (p := 2) hr rfl (by decide) (by decide) (by kernel_rfl) fun w k h => wI w k h
  simp only [Act.put, List.setIfInBounds_toArray, List.set_cons_zero, List.set_cons_succ, List.getElem_toArray, List.getElem_cons_zero, List.getElem_cons_succ]
  refine AllS.done rfl ?_
  intro w5 hS
  have hw : Wrote W0 g k w5 (pre [be 1 3, be 1 s, num i] [] 3) := hS.wrote
  have hs0 := hB.lt
  replace hB := hS.blk hB hbg hbk
  clear hS hW
  obtain ⟨k5, hW, y1, y2, y3⟩ := behind hw hbel hbg hbk hk
  clear hw hbel hbk hk hs0 W0 k
  have hbel := y1
  have hbk := y2
  have hk := y3
  clear y1 y2 y3
  obtain ⟨W0, hx⟩ : ∃ x, x = w5 := ⟨_, rfl⟩
  subst hx
  obtain ⟨k, hx⟩ : ∃ x, x = k5 := ⟨_, rfl⟩
  subst hx
  rw [pre_all (zs := [be 1 3, be 1 s, num i]) (xs := []) (p := 3) rfl] at hW
  obtain ⟨X4, hX4⟩ : ∃ X, Hid (X = [] ++ [be 1 3, be 1 s, num i].flatten) := ⟨_, Lib.hid rfl⟩
  rw [← hX4.out] at hW
  clear wK wS wI vK vS vI
  have x0 := hB.cell_eq 0 (.int .i64 3) rfl
  go_wp2_with fail
  clear x0
  have hl : (X4 ++ [be 8 (zig p), be 8 (zig q)].flatten).length ≤ 1000000 := by rw [hX4.out]; simp only [List.flatten_cons, List.flatten_nil, List.append_nil, List.nil_append, List.length_append, be_length]; omega
  obtain ⟨hp, hq⟩ := KP.out
  have wP : ∀ w k, Wr w g k (pre [be 8 (zig p), be 8 (zig q)] X4 0) → Calls Try.prog 17 #[.pointer (some ⟨g, 0, none⟩), .int .i64 p] w fun e w' => e = .returned (.pointer (some ⟨g, 0, none⟩)) ∧ Wrote w g k w' (pre [be 8 (zig p), be 8 (zig q)] X4 (0 + 1)) := fun w k h => by
    rw [pre_succ (z := be 8 (zig p)) rfl]
    exact int_any p hp.1 hp.2 g k _ (Nat.le_trans (pre_len _ _ _) hl) w h
  have wQ : ∀ w k, Wr w g k (pre [be 8 (zig p), be 8 (zig q)] X4 1) → Calls Try.prog 17 #[.pointer (some ⟨g, 0, none⟩), .int .i64 q] w fun e w' => e = .returned (.pointer (some ⟨g, 0, none⟩)) ∧ Wrote w g k w' (pre [be 8 (zig p), be 8 (zig q)] X4 (1 + 1)) := fun w k h => by
    rw [pre_succ (z := be 8 (zig q)) rfl]
    exact int_any q hq.1 hq.2 g k _ (Nat.le_trans (pre_len _ _ _) hl) w h
  clear hp hq hl
  refine wp_region_S (S := fun L w' => Chain W0 g k 7 [3, 6] (pre [be 8 (zig p), be 8 (zig q)] X4) L w') (by kernel_rfl) (Chain.start 7 [3, 6] (by rw [pre_zero]; exact hW)) ?_
  refine AllS.next (v := ?_) rfl rfl rfl (by kernel_rfl) ?_ ?_
  rotate_left
  · refine yieldsS_run (fun _ _ h => h.other (by decide)) (by rfl) ?_
    intro L wx hS
    go_simp
    try with_reducible rfl
  simp only [Act.put, List.setIfInBounds_toArray, List.set_cons_zero, List.set_cons_succ, List.getElem_toArray, List.getElem_cons_zero]
  refine AllS.next (v := ?_) rfl rfl rfl (by kernel_rfl) ?_ ?_
  rotate_left
  · refine yieldsS_run (fun _ _ h => h.other (by decide)) (by rfl) ?_
    intro L wx hS
    go_simp
    try with_reducible rfl
  simp only [Act.put, List.setIfInBounds_toArray, List.set_cons_zero, List.set_cons_succ, List.getElem_toArray, List.getElem_cons_zero, List.getElem_cons_succ]
  refine AllS.next (v := ?_) rfl rfl rfl (by kernel_rfl) ?_ ?_
  rotate_left
  · refine yieldsS_run (fun _ _ h => h.other (by decide)) (by rfl) ?_
    intro L wx hS
    have hc := (hS.blk hB hbg hbk).cell_eq 6 (.int .i64 p) rfl
    go_simp
    try with_reducible rfl
  simp only [Act.put, List.setIfInBounds_toArray, List.set_cons_zero, List.set_cons_succ, List.getElem_toArray, List.getElem_cons_zero, List.getElem_cons_succ]
  refine AllS.next (v := .pointer (some ⟨g, 0, none⟩)) rfl rfl rfl (by kernel_rfl) ?_ ?_
  · refine yieldsS_callr (f := 17) (args := #[.pointer (some ⟨g, 0, none⟩), .int .i64 p]) (by rfl) ?_ ?_
    · intro wx
      go_simp
      try with_reducible rfl
    · intro L wx hr hS
      exact hS.call (p := 0) hr rfl (by decide) (by decide) (by kernel_rfl) fun w k h => wP w k h
  simp only [Act.put, List.setIfInBounds_toArray, List.set_cons_zero, List.set_cons_succ, List.getElem_toArray, List.getElem_cons_zero, List.getElem_cons_succ]
  refine AllS.next (v := ?_) rfl rfl rfl (by kernel_rfl) ?_ ?_
  rotate_left
  · refine yieldsS_run (fun _ _ h => h.other (by decide)) (by rfl) ?_
    intro L wx hS
    go_simp
    try with_reducible rfl
  simp only [Act.put, List.setIfInBounds_toArray, List.set_cons_zero, List.set_cons_succ, List.getElem_toArray, List.getElem_cons_zero, List.getElem_cons_succ]
  refine AllS.next (v := ?_) rfl rfl rfl (by kernel_rfl) ?_ ?_
  rotate_left
  · refine yieldsS_run (fun _ _ h => h.other (by decide)) (by rfl) ?_
    intro L wx hS
    have hc := (hS.blk hB hbg hbk).cell_eq 7 (.int .i64 q) rfl
    go_simp
    try with_reducible rfl
  simp only [Act.put, List.setIfInBounds_toArray, List.set_cons_zero, List.set_cons_succ, List.getElem_toArray, List.getElem_cons_zero, List.getElem_cons_succ]
  refine AllS.next (v := .pointer (some ⟨g, 0, none⟩)) rfl rfl rfl (by kernel_rfl) ?_ ?_
  · refine yieldsS_callr (f := 17) (args := #[.pointer (some ⟨g, 0, none⟩), .int .i64 q]) (by rfl) ?_ ?_
    · intro wx
      go_simp
      try with_reducible rfl
    · intro L wx hr hS
      exact hS.call (p := 1) hr rfl (by decide) (by decide) (by kernel_rfl) fun w k h => wQ w k h
  simp only [Act.put, List.setIfInBounds_toArray, List.set_cons_zero, List.set_cons_succ, List.getElem_toArray, List.getElem_cons_zero, List.getElem_cons_succ]
  refine AllS.done rfl ?_
  intro w5 hS
  have hw : Wrote W0 g k w5 (pre [be 8 (zig p), be 8 (zig q)] X4 2) := hS.wrote
  have hs0 := hB.lt
  replace hB := hS.blk hB hbg hbk
  clear hS hW
  obtain ⟨k5, hW, y1, y2, y3⟩ := behind hw hbel hbg hbk hk
  clear hw hbel hbk hk hs0 W0 k
  have hbel := y1
  have hbk := y2
  have hk := y3
  clear y1 y2 y3
  obtain ⟨W0, hx⟩ : ∃ x, x = w5 := ⟨_, rfl⟩
  subst hx
  obtain ⟨k, hx⟩ : ∃ x, x = k5 := ⟨_, rfl⟩
  subst hx
  rw [pre_all (zs := [be 8 (zig p), be 8 (zig q)]) (xs := X4) (p := 2) rfl] at hW
  obtain ⟨X9, hX9⟩ : ∃ X, Hid (X = X4 ++ [be 8 (zig p), be 8 (zig q)].flatten) := ⟨_, Lib.hid rfl⟩
  rw [← hX9.out] at hW
  clear wP wQ
  have hx : X9 = X := by rw [hX.out, hX9.out, hX4.out]; simp
  have hl : X.length ≤ 2000000 := by rw [hX.out]; simp only [List.length_append, be_length]; omega
  have cY := fun w h => bytes_any g k X hl w h
  rw [hx] at hW
  clear hx hl li
  go_wp2_with (go_at_call 18; refine (cY _ hW).mono ?_; rintro e w6 ⟨v, rfl, ao, cap, k6, rfl, hB6, hb6, hk6⟩)
  go_ret2
  exact ⟨ao, cap, k6, rfl, hB6, hbel.trans (hb6.mono hbel.size)⟩
end Go.Proofs.Ytjleebfdbkfgmaa
