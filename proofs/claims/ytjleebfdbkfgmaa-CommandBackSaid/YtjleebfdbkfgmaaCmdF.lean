/-
  The contract of the document's form, for every command that is right.
-/
import Derived.Test.YtjleebfdbkfgmaaCmdE
namespace Go.Proofs.Ytjleebfdbkfgmaa
open Go.RowKit
/-- A block of cells, known whole, and a slice of bytes that owns its row, side by side. -/
structure Fm (W : World) (b : Nat) (T : TypeId) (cs : Array Value) (w : World) (k : Nat) (ao : Option Addr) (cap n : Nat) (xs : List Nat) : Prop where
  blk : Blk w b T cs
  ow : Ow w k ao cap xs
  bel : Below b W w
  lt : b < k
  n : n = xs.length
theorem Fm.call {W w w' : World} {b k cap n : Nat} {T : TypeId} {cs : Array Value} {ao : Option Addr} {xs : List Nat} (h : Fm W b T cs w k ao cap n xs) (hb : Below w.heap.size w w') : Fm W b T cs w' k ao cap n xs :=
  ⟨h.blk.below hb h.blk.lt, h.ow.below hb, h.bel.trans (hb.mono (Nat.le_of_lt h.blk.lt)), h.lt, h.n⟩
theorem Fm.app {W w w' : World} {b k k2 cap cap' n m : Nat} {T : TypeId} {cs : Array Value} {ao ao' : Option Addr} {xs ys : List Nat} (h : Fm W b T cs w k ao cap n xs) (ho : Ow w' k2 ao' cap' (xs ++ ys)) (hf : Frm (fun b => b = k) w w') (hk : k2 = k ∨ w.heap.size ≤ k2) (hm : m = ys.length) :
    Fm W b T cs w' k2 ao' cap' (n + m) (xs ++ ys) := by
  have h1 := h.lt
  have h2 := h.blk.lt
  refine ⟨h.blk.frm hf (by omega), ho, h.bel.trans (hf.below (by omega) (by rintro x rfl; omega)), by omega, by rw [List.length_append, h.n, hm]⟩
theorem cells9 {w : World} {b : Nat} {T : TypeId} {c : Cmd} (h : Blk w b T (cc c)) : w.cell? ⟨b, 0, none⟩ = some (.int .i64 c.kind) ∧ w.cell? ⟨b, 1, none⟩ = some (.int .i64 c.sym) ∧ w.cell? ⟨b, 2, none⟩ = some (.int .i64 c.id) ∧ w.cell? ⟨b, 3, none⟩ = some (.int .i64 c.owner) ∧ w.cell? ⟨b, 4, none⟩ = some (.int .i64 c.side) ∧
    w.cell? ⟨b, 5, none⟩ = some (.int .i64 c.typ) ∧ w.cell? ⟨b, 6, none⟩ = some (.int .i64 c.price) ∧ w.cell? ⟨b, 7, none⟩ = some (.int .i64 c.qty) ∧ w.cell? ⟨b, 8, none⟩ = some (.int .i64 c.flags) :=
  ⟨h.cell_eq 0 _ rfl, h.cell_eq 1 _ rfl, h.cell_eq 2 _ rfl, h.cell_eq 3 _ rfl, h.cell_eq 4 _ rfl, h.cell_eq 5 _ rfl, h.cell_eq 6 _ rfl, h.cell_eq 7 _ rfl, h.cell_eq 8 _ rfl⟩
theorem conv_u8 {T : TypeId} (hT : Try.prog.underlying T = some (.int .i64)) (n : Nat) (hn : n < 256) (w : World) : (convert T 5 (.int .i64 (n : Int))).run Try.prog w = .ok (.int .u8 (n : Int)) w := by
  have hU := Try.underlying5
  have e : IntKind.u8.wrap (n : Int) = (n : Int) := by rw [IntKind.wrap_u8]; omega
  simp [convert, go_sem, run_underlying hT, run_underlying hU, e]
set_option maxRecDepth 4000 in
set_option maxHeartbeats 1000000 in
theorem rform_new (s i o d t f : Nat) (p q : Int) (hs : s < 256) (hi : i ≤ 4611686018427387904) (ho : o ≤ 1073741824) (hd : d < 256) (ht : t < 256) (hf : f < 256) (hp : In64 p) (hq : In64 q) (W : World) :
    Calls Try.prog 19 #[cv ⟨1, (s : Int), (i : Int), (o : Int), (d : Int), (t : Int), p, q, (f : Int)⟩] W fun e w' => ∃ v, e = .returned v ∧ Given W w' v ((((([1, s] ++ num i) ++ num o) ++ [d, t, f]) ++ be 8 (zig p)) ++ be 8 (zig q)) := by
  obtain ⟨X, hX⟩ : ∃ X, Hid (X = ((((([1, s] ++ num i) ++ num o) ++ [d, t, f]) ++ be 8 (zig p)) ++ be 8 (zig q))) := ⟨_, Lib.hid rfl⟩
  rw [← hX.out]
  have vS := fun w => conv_u8 Try.underlying3 s (by omega) w
  have vD := fun w => conv_u8 Try.underlying3 d (by omega) w
  have vT := fun w => conv_u8 Try.underlying3 t (by omega) w
  have vF := fun w => conv_u8 Try.underlying3 f (by omega) w
  have vI := fun w => conv_u64 Try.underlying2 i (by omega) w
  have li := num_ten (n := i) (by omega)
  have cI := fun w => refNum_any i (by omega) w
  have vO := fun w => conv_u64 Try.underlying3 o (by omega) w
  have lo := num_ten (n := o) (by omega)
  have cO := fun w => refNum_any o (by omega) w
  have lp : (be 8 (zig p)).length = 8 := be_length _ _
  have lq : (be 8 (zig q)).length = 8 := be_length _ _
  have cP := fun w => refInt_any p hp.1 hp.2 w
  have cQ := fun w => refInt_any q hq.1 hq.2 w
  have hF0 : Fm W W.heap.size 23 (cc ⟨1, (s : Int), (i : Int), (o : Int), (d : Int), (t : Int), p, q, (f : Int)⟩) ((W.alloc (.cells (cc ⟨1, (s : Int), (i : Int), (o : Int), (d : Int), (t : Int), p, q, (f : Int)⟩) 23)).alloc (.cells #[.int .u8 1, .int .u8 (s : Int)] 5)) (W.heap.size + 1) (some ⟨W.heap.size + 1, 0, none⟩) 2 2 [1, s] := by
    refine ⟨(Blk.new _ _ _).alloc _, ?_, ((Below.refl _ _).alloc (Nat.le_refl _) _).alloc (by simp) _, by omega, rfl⟩
    have h := Ow.new (W.alloc (.cells (cc ⟨1, (s : Int), (i : Int), (o : Int), (d : Int), (t : Int), p, q, (f : Int)⟩) 23)) #[.int .u8 1, .int .u8 (s : Int)] [1, s] rfl (Nat.le_refl 2) (by show 2 ≤ maxLen; unfold maxLen; omega) (by simp; omega)
    simpa using h
  have hD : ∀ w, Bt (World.alloc w (.cells #[.int .u8 (d : Int), .int .u8 (t : Int), .int .u8 (f : Int)] 5)) (World.heap w).size (some ⟨(World.heap w).size, 0, none⟩) 3 [d, t, f] := fun w => (Ow.new w #[.int .u8 (d : Int), .int .u8 (t : Int), .int .u8 (f : Int)] [d, t, f] rfl (Nat.le_refl 3) (by show 3 ≤ maxLen; unfold maxLen; omega) (by simp; omega)).bt
  clear hs hi ho hd ht hf hp hq
  go_enter Try.func19, Try.ntmps19
  go_wp2_with (first
    | (go_at_call 33; (with_reducible refine (cI _).mono ?_); rintro e w1 ⟨v, rfl, ao1, cp1, k1, rfl, hY, hb1⟩; have hF := hF0.call hb1; clear cI hb1 hF0; obtain ⟨x0, x1, x2, x3, x4, x5, x6, x7, x8⟩ := cells9 hF.blk)
    | (at_builtin; refine wpList_app rfl (.tmp 11) (.tmp 15) rfl hF.ow hY rfl rfl hF.n rfl (by simp; omega) ?_; intro ao2 cp2 k2 w2 ho2 hf2 hk2; have hF2 := hF.app ho2 hf2 hk2 (m := (num i).length) rfl; clear hF ho2 hf2 hk2 hY; have hF := hF2; clear hF2; clear x0 x1 x2 x3 x4 x5 x6 x7 x8; obtain ⟨x0, x1, x2, x3, x4, x5, x6, x7, x8⟩ := cells9 hF.blk)
    | (go_at_call 33; (with_reducible refine (cO _).mono ?_); rintro e w1 ⟨v, rfl, ao1, cp1, k1, rfl, hY, hb1⟩; replace hF := hF.call hb1; clear cO hb1; clear x0 x1 x2 x3 x4 x5 x6 x7 x8; obtain ⟨x0, x1, x2, x3, x4, x5, x6, x7, x8⟩ := cells9 hF.blk)
    | (at_builtin; refine wpList_app rfl (.tmp 20) (.tmp 24) rfl hF.ow hY rfl rfl hF.n rfl (by simp; omega) ?_; intro ao2 cp2 k2 w2 ho2 hf2 hk2; have hF2 := hF.app ho2 hf2 hk2 (m := (num o).length) rfl; clear hF ho2 hf2 hk2 hY; have hF := hF2; clear hF2; clear x0 x1 x2 x3 x4 x5 x6 x7 x8; obtain ⟨x0, x1, x2, x3, x4, x5, x6, x7, x8⟩ := cells9 hF.blk)
    | (at_builtin; refine wpList_app rfl (.tmp 26) (.tmp 36) rfl (hF.ow.alloc _) (hD _) rfl rfl hF.n rfl (by simp; omega) ?_; intro ao2 cp2 k2 w2 ho2 hf2 hk2; have hF2 := (hF.call ((Below.refl _ _).alloc (Nat.le_refl _) (.cells #[.int .u8 (d : Int), .int .u8 (t : Int), .int .u8 (f : Int)] 5))).app ho2 hf2 hk2 (m := 3) rfl; clear hF ho2 hf2 hk2; have hF := hF2; clear hF2; clear x0 x1 x2 x3 x4 x5 x6 x7 x8; obtain ⟨x0, x1, x2, x3, x4, x5, x6, x7, x8⟩ := cells9 hF.blk)
    | (go_at_call 34; (with_reducible refine (cP _).mono ?_); rintro e w1 ⟨v, rfl, ao1, cp1, k1, rfl, hY, hb1⟩; replace hF := hF.call hb1; clear cP hb1; clear x0 x1 x2 x3 x4 x5 x6 x7 x8; obtain ⟨x0, x1, x2, x3, x4, x5, x6, x7, x8⟩ := cells9 hF.blk)
    | (at_builtin; refine wpList_app rfl (.tmp 41) (.tmp 44) rfl hF.ow hY rfl rfl hF.n rfl (by simp; omega) ?_; intro ao2 cp2 k2 w2 ho2 hf2 hk2; have hF2 := hF.app ho2 hf2 hk2 (m := (be 8 (zig p)).length) rfl; clear hF ho2 hf2 hk2 hY; have hF := hF2; clear hF2; clear x0 x1 x2 x3 x4 x5 x6 x7 x8; obtain ⟨x0, x1, x2, x3, x4, x5, x6, x7, x8⟩ := cells9 hF.blk)
    | (go_at_call 34; (with_reducible refine (cQ _).mono ?_); rintro e w1 ⟨v, rfl, ao1, cp1, k1, rfl, hY, hb1⟩; replace hF := hF.call hb1; clear cQ hb1; clear x0 x1 x2 x3 x4 x5 x6 x7 x8; obtain ⟨x0, x1, x2, x3, x4, x5, x6, x7, x8⟩ := cells9 hF.blk)
    | (at_builtin; refine wpList_app rfl (.tmp 46) (.tmp 49) rfl hF.ow hY rfl rfl hF.n rfl (by simp; omega) ?_; intro ao2 cp2 k2 w2 ho2 hf2 hk2; have hF2 := hF.app ho2 hf2 hk2 (m := (be 8 (zig q)).length) rfl; clear hF ho2 hf2 hk2 hY; have hF := hF2; clear hF2; clear x0 x1 x2 x3 x4 x5 x6 x7 x8; obtain ⟨x0, x1, x2, x3, x4, x5, x6, x7, x8⟩ := cells9 hF.blk))
  go_ret
  refine ⟨_, rfl, ao2, cp2, k2, ?_, ?_, hF.bel⟩
  · show Value.slice ao2 _ cp2 = Value.slice ao2 X.length cp2
    congr 1
    rw [hX.out]
    simp [be_length]
    omega
  · rw [hX.out]
    exact hF.ow.bt
set_option maxRecDepth 4000 in
set_option maxHeartbeats 1000000 in
theorem rform_cancel (s i : Nat) (hs : s < 256) (hi : i ≤ 4611686018427387904) (W : World) :
    Calls Try.prog 19 #[cv ⟨2, (s : Int), (i : Int), 0, 0, 0, 0, 0, 0⟩] W fun e w' => ∃ v, e = .returned v ∧ Given W w' v ([2, s] ++ num i) := by
  obtain ⟨X, hX⟩ : ∃ X, Hid (X = ([2, s] ++ num i)) := ⟨_, Lib.hid rfl⟩
  rw [← hX.out]
  have vS := fun w => conv_u8 Try.underlying3 s (by omega) w
  have vI := fun w => conv_u64 Try.underlying2 i (by omega) w
  have li := num_ten (n := i) (by omega)
  have cI := fun w => refNum_any i (by omega) w
  have hF0 : Fm W W.heap.size 23 (cc ⟨2, (s : Int), (i : Int), 0, 0, 0, 0, 0, 0⟩) ((W.alloc (.cells (cc ⟨2, (s : Int), (i : Int), 0, 0, 0, 0, 0, 0⟩) 23)).alloc (.cells #[.int .u8 2, .int .u8 (s : Int)] 5)) (W.heap.size + 1) (some ⟨W.heap.size + 1, 0, none⟩) 2 2 [2, s] := by
    refine ⟨(Blk.new _ _ _).alloc _, ?_, ((Below.refl _ _).alloc (Nat.le_refl _) _).alloc (by simp) _, by omega, rfl⟩
    have h := Ow.new (W.alloc (.cells (cc ⟨2, (s : Int), (i : Int), 0, 0, 0, 0, 0, 0⟩) 23)) #[.int .u8 2, .int .u8 (s : Int)] [2, s] rfl (Nat.le_refl 2) (by show 2 ≤ maxLen; unfold maxLen; omega) (by simp; omega)
    simpa using h
  clear hs hi
  go_enter Try.func19, Try.ntmps19
  go_wp2_with (first
    | (go_at_call 33; (with_reducible refine (cI _).mono ?_); rintro e w1 ⟨v, rfl, ao1, cp1, k1, rfl, hY, hb1⟩; have hF := hF0.call hb1; clear cI hb1 hF0; obtain ⟨x0, x1, x2, x3, x4, x5, x6, x7, x8⟩ := cells9 hF.blk)
    | (at_builtin; refine wpList_app rfl (.tmp 11) (.tmp 15) rfl hF.ow hY rfl rfl hF.n rfl (by simp; omega) ?_; intro ao2 cp2 k2 w2 ho2 hf2 hk2; have hF2 := hF.app ho2 hf2 hk2 (m := (num i).length) rfl; clear hF ho2 hf2 hk2 hY; have hF := hF2; clear hF2; clear x0 x1 x2 x3 x4 x5 x6 x7 x8; obtain ⟨x0, x1, x2, x3, x4, x5, x6, x7, x8⟩ := cells9 hF.blk))
  go_ret
  refine ⟨_, rfl, ao2, cp2, k2, ?_, ?_, hF.bel⟩
  · show Value.slice ao2 _ cp2 = Value.slice ao2 X.length cp2
    congr 1
    rw [hX.out]
    simp
    omega
  · rw [hX.out]
    exact hF.ow.bt
set_option maxRecDepth 4000 in
set_option maxHeartbeats 1000000 in
theorem rform_replace (s i : Nat) (p q : Int) (hs : s < 256) (hi : i ≤ 4611686018427387904) (hp : In64 p) (hq : In64 q) (W : World) :
    Calls Try.prog 19 #[cv ⟨3, (s : Int), (i : Int), 0, 0, 0, p, q, 0⟩] W fun e w' => ∃ v, e = .returned v ∧ Given W w' v ((([3, s] ++ num i) ++ be 8 (zig p)) ++ be 8 (zig q)) := by
  obtain ⟨X, hX⟩ : ∃ X, Hid (X = ((([3, s] ++ num i) ++ be 8 (zig p)) ++ be 8 (zig q))) := ⟨_, Lib.hid rfl⟩
  rw [← hX.out]
  have vS := fun w => conv_u8 Try.underlying3 s (by omega) w
  have vI := fun w => conv_u64 Try.underlying2 i (by omega) w
  have li := num_ten (n := i) (by omega)
  have cI := fun w => refNum_any i (by omega) w
  have lp : (be 8 (zig p)).length = 8 := be_length _ _
  have lq : (be 8 (zig q)).length = 8 := be_length _ _
  have cP := fun w => refInt_any p hp.1 hp.2 w
  have cQ := fun w => refInt_any q hq.1 hq.2 w
  have hF0 : Fm W W.heap.size 23 (cc ⟨3, (s : Int), (i : Int), 0, 0, 0, p, q, 0⟩) ((W.alloc (.cells (cc ⟨3, (s : Int), (i : Int), 0, 0, 0, p, q, 0⟩) 23)).alloc (.cells #[.int .u8 3, .int .u8 (s : Int)] 5)) (W.heap.size + 1) (some ⟨W.heap.size + 1, 0, none⟩) 2 2 [3, s] := by
    refine ⟨(Blk.new _ _ _).alloc _, ?_, ((Below.refl _ _).alloc (Nat.le_refl _) _).alloc (by simp) _, by omega, rfl⟩
    have h := Ow.new (W.alloc (.cells (cc ⟨3, (s : Int), (i : Int), 0, 0, 0, p, q, 0⟩) 23)) #[.int .u8 3, .int .u8 (s : Int)] [3, s] rfl (Nat.le_refl 2) (by show 2 ≤ maxLen; unfold maxLen; omega) (by simp; omega)
    simpa using h
  clear hs hi hp hq
  go_enter Try.func19, Try.ntmps19
  go_wp2_with (first
    | (go_at_call 33; (with_reducible refine (cI _).mono ?_); rintro e w1 ⟨v, rfl, ao1, cp1, k1, rfl, hY, hb1⟩; have hF := hF0.call hb1; clear cI hb1 hF0; obtain ⟨x0, x1, x2, x3, x4, x5, x6, x7, x8⟩ := cells9 hF.blk)
    | (at_builtin; refine wpList_app rfl (.tmp 11) (.tmp 15) rfl hF.ow hY rfl rfl hF.n rfl (by simp; omega) ?_; intro ao2 cp2 k2 w2 ho2 hf2 hk2; have hF2 := hF.app ho2 hf2 hk2 (m := (num i).length) rfl; clear hF ho2 hf2 hk2 hY; have hF := hF2; clear hF2; clear x0 x1 x2 x3 x4 x5 x6 x7 x8; obtain ⟨x0, x1, x2, x3, x4, x5, x6, x7, x8⟩ := cells9 hF.blk)
    | (go_at_call 34; (with_reducible refine (cP _).mono ?_); rintro e w1 ⟨v, rfl, ao1, cp1, k1, rfl, hY, hb1⟩; replace hF := hF.call hb1; clear cP hb1; clear x0 x1 x2 x3 x4 x5 x6 x7 x8; obtain ⟨x0, x1, x2, x3, x4, x5, x6, x7, x8⟩ := cells9 hF.blk)
    | (at_builtin; refine wpList_app rfl (.tmp 41) (.tmp 44) rfl hF.ow hY rfl rfl hF.n rfl (by simp; omega) ?_; intro ao2 cp2 k2 w2 ho2 hf2 hk2; have hF2 := hF.app ho2 hf2 hk2 (m := (be 8 (zig p)).length) rfl; clear hF ho2 hf2 hk2 hY; have hF := hF2; clear hF2; clear x0 x1 x2 x3 x4 x5 x6 x7 x8; obtain ⟨x0, x1, x2, x3, x4, x5, x6, x7, x8⟩ := cells9 hF.blk)
    | (go_at_call 34; (with_reducible refine (cQ _).mono ?_); rintro e w1 ⟨v, rfl, ao1, cp1, k1, rfl, hY, hb1⟩; replace hF := hF.call hb1; clear cQ hb1; clear x0 x1 x2 x3 x4 x5 x6 x7 x8; obtain ⟨x0, x1, x2, x3, x4, x5, x6, x7, x8⟩ := cells9 hF.blk)
    | (at_builtin; refine wpList_app rfl (.tmp 46) (.tmp 49) rfl hF.ow hY rfl rfl hF.n rfl (by simp; omega) ?_; intro ao2 cp2 k2 w2 ho2 hf2 hk2; have hF2 := hF.app ho2 hf2 hk2 (m := (be 8 (zig q)).length) rfl; clear hF ho2 hf2 hk2 hY; have hF := hF2; clear hF2; clear x0 x1 x2 x3 x4 x5 x6 x7 x8; obtain ⟨x0, x1, x2, x3, x4, x5, x6, x7, x8⟩ := cells9 hF.blk))
  go_ret
  refine ⟨_, rfl, ao2, cp2, k2, ?_, ?_, hF.bel⟩
  · show Value.slice ao2 _ cp2 = Value.slice ao2 X.length cp2
    congr 1
    rw [hX.out]
    simp [be_length]
    omega
  · rw [hX.out]
    exact hF.ow.bt
end Go.Proofs.Ytjleebfdbkfgmaa
