/-
  The contracts of the document's form and Encode of messages.
-/
import Derived.Test.YtalgpbjonkcldaaMsgR
import Derived.Test.YtalgpbjonkcldaaFm
namespace Go.Proofs.Ytalgpbjonkcldaa
open Go.RowKit
/-- The bytes, and the fault, of a message. -/
def encMB (m : Msg) : List Nat := if rightM m = true then formM m else []
def encMF (m : Msg) : Nat := if rightM m = true then 0 else 1
set_option maxRecDepth 4000 in
set_option maxHeartbeats 1000000 in
theorem rformM_any (k s q t c : Nat) (i o p y : Int) (hk : k < 256) (hs : s < 256) (hc : c < 256) (hq : q ≤ 4611686018427387904) (ht : t ≤ 4611686018427387904) (hi : In64 i) (ho : In64 o) (hp : In64 p) (hy : In64 y) (W : World) :
    Calls Try.prog 25 #[vMsg ⟨(k : Int), (s : Int), (q : Int), (t : Int), i, o, p, y, (c : Int)⟩] W fun e w' => ∃ v, e = .returned v ∧ Given W w' v (((((([k, s, c] ++ num q) ++ num t) ++ be 8 (zig i)) ++ be 8 (zig o)) ++ be 8 (zig p)) ++ be 8 (zig y)) := by
  obtain ⟨X, hX⟩ : ∃ X, Hid (X = (((((([k, s, c] ++ num q) ++ num t) ++ be 8 (zig i)) ++ be 8 (zig o)) ++ be 8 (zig p)) ++ be 8 (zig y))) := ⟨_, Lib.hid rfl⟩
  rw [← hX.out]
  have vK := fun w => conv_u8 Try.underlying3 k (by omega) w
  have vS := fun w => conv_u8 Try.underlying3 s (by omega) w
  have vC := fun w => conv_u8 Try.underlying3 c (by omega) w
  have vQ := fun w => conv_u64 Try.underlying2 q (by omega) w
  have lQ := num_ten (n := q) (by omega)
  have cQ := fun w => refNum_any q (by omega) w
  have vT := fun w => conv_u64 Try.underlying2 t (by omega) w
  have lT := num_ten (n := t) (by omega)
  have cT := fun w => refNum_any t (by omega) w
  have lI : (be 8 (zig i)).length = 8 := be_length _ _
  have cI := fun w => refInt_any i hi.1 hi.2 w
  have lO : (be 8 (zig o)).length = 8 := be_length _ _
  have cO := fun w => refInt_any o ho.1 ho.2 w
  have lP : (be 8 (zig p)).length = 8 := be_length _ _
  have cP := fun w => refInt_any p hp.1 hp.2 w
  have lY : (be 8 (zig y)).length = 8 := be_length _ _
  have cY := fun w => refInt_any y hy.1 hy.2 w
  have hF0 : Fm W W.heap.size 23 (cMsg ⟨(k : Int), (s : Int), (q : Int), (t : Int), i, o, p, y, (c : Int)⟩) ((W.alloc (.cells (cMsg ⟨(k : Int), (s : Int), (q : Int), (t : Int), i, o, p, y, (c : Int)⟩) 23)).alloc (.cells #[.int .u8 (k : Int), .int .u8 (s : Int), .int .u8 (c : Int)] 5)) (W.heap.size + 1) (some ⟨W.heap.size + 1, 0, none⟩) 3 3 [k, s, c] := by
    refine ⟨(Blk.new _ _ _).alloc _, ?_, ((Below.refl _ _).alloc (Nat.le_refl _) _).alloc (by simp) _, by omega, rfl⟩
    have h := Ow.new (W.alloc (.cells (cMsg ⟨(k : Int), (s : Int), (q : Int), (t : Int), i, o, p, y, (c : Int)⟩) 23)) #[.int .u8 (k : Int), .int .u8 (s : Int), .int .u8 (c : Int)] [k, s, c] rfl (Nat.le_refl 3) (by show 3 ≤ maxLen; unfold maxLen; omega) (by simp; omega)
    simpa using h
  clear hk hs hc hq ht hi ho hp hy
  go_enter Try.func25, Try.ntmps25
  go_wp2_with (first
    | (go_at_call 43; (with_reducible refine (cQ _).mono ?_); rintro e w1 ⟨v, rfl, ao1, cp1, k1, rfl, hY, hb1⟩; have hF := hF0.call hb1; clear cQ hb1 hF0; obtain ⟨x0, x1, x2, x3, x4, x5, x6, x7, x8⟩ := Msg.cells hF.blk)
    | (at_builtin; refine wpList_app rfl (.tmp 14) (.tmp 18) rfl hF.ow hY rfl rfl hF.n rfl (by simp; omega) ?_; intro ao2 cp2 k2 w2 ho2 hf2 hk2; have hF2 := hF.app ho2 hf2 hk2 (m := (num q).length) rfl; clear hF ho2 hf2 hk2 hY; have hF := hF2; clear hF2; clear x0 x1 x2 x3 x4 x5 x6 x7 x8; obtain ⟨x0, x1, x2, x3, x4, x5, x6, x7, x8⟩ := Msg.cells hF.blk)
    | (go_at_call 43; (with_reducible refine (cT _).mono ?_); rintro e w1 ⟨v, rfl, ao1, cp1, k1, rfl, hY, hb1⟩; replace hF := hF.call hb1; clear cT hb1; clear x0 x1 x2 x3 x4 x5 x6 x7 x8; obtain ⟨x0, x1, x2, x3, x4, x5, x6, x7, x8⟩ := Msg.cells hF.blk)
    | (at_builtin; refine wpList_app rfl (.tmp 20) (.tmp 24) rfl hF.ow hY rfl rfl hF.n rfl (by simp; omega) ?_; intro ao2 cp2 k2 w2 ho2 hf2 hk2; have hF2 := hF.app ho2 hf2 hk2 (m := (num t).length) rfl; clear hF ho2 hf2 hk2 hY; have hF := hF2; clear hF2; clear x0 x1 x2 x3 x4 x5 x6 x7 x8; obtain ⟨x0, x1, x2, x3, x4, x5, x6, x7, x8⟩ := Msg.cells hF.blk)
    | (go_at_call 44; (with_reducible refine (cI _).mono ?_); rintro e w1 ⟨v, rfl, ao1, cp1, k1, rfl, hY, hb1⟩; replace hF := hF.call hb1; clear cI hb1; clear x0 x1 x2 x3 x4 x5 x6 x7 x8; obtain ⟨x0, x1, x2, x3, x4, x5, x6, x7, x8⟩ := Msg.cells hF.blk)
    | (at_builtin; refine wpList_app rfl (.tmp 26) (.tmp 29) rfl hF.ow hY rfl rfl hF.n rfl (by simp; omega) ?_; intro ao2 cp2 k2 w2 ho2 hf2 hk2; have hF2 := hF.app ho2 hf2 hk2 (m := (be 8 (zig i)).length) rfl; clear hF ho2 hf2 hk2 hY; have hF := hF2; clear hF2; clear x0 x1 x2 x3 x4 x5 x6 x7 x8; obtain ⟨x0, x1, x2, x3, x4, x5, x6, x7, x8⟩ := Msg.cells hF.blk)
    | (go_at_call 44; (with_reducible refine (cO _).mono ?_); rintro e w1 ⟨v, rfl, ao1, cp1, k1, rfl, hY, hb1⟩; replace hF := hF.call hb1; clear cO hb1; clear x0 x1 x2 x3 x4 x5 x6 x7 x8; obtain ⟨x0, x1, x2, x3, x4, x5, x6, x7, x8⟩ := Msg.cells hF.blk)
    | (at_builtin; refine wpList_app rfl (.tmp 31) (.tmp 34) rfl hF.ow hY rfl rfl hF.n rfl (by simp; omega) ?_; intro ao2 cp2 k2 w2 ho2 hf2 hk2; have hF2 := hF.app ho2 hf2 hk2 (m := (be 8 (zig o)).length) rfl; clear hF ho2 hf2 hk2 hY; have hF := hF2; clear hF2; clear x0 x1 x2 x3 x4 x5 x6 x7 x8; obtain ⟨x0, x1, x2, x3, x4, x5, x6, x7, x8⟩ := Msg.cells hF.blk)
    | (go_at_call 44; (with_reducible refine (cP _).mono ?_); rintro e w1 ⟨v, rfl, ao1, cp1, k1, rfl, hY, hb1⟩; replace hF := hF.call hb1; clear cP hb1; clear x0 x1 x2 x3 x4 x5 x6 x7 x8; obtain ⟨x0, x1, x2, x3, x4, x5, x6, x7, x8⟩ := Msg.cells hF.blk)
    | (at_builtin; refine wpList_app rfl (.tmp 36) (.tmp 39) rfl hF.ow hY rfl rfl hF.n rfl (by simp; omega) ?_; intro ao2 cp2 k2 w2 ho2 hf2 hk2; have hF2 := hF.app ho2 hf2 hk2 (m := (be 8 (zig p)).length) rfl; clear hF ho2 hf2 hk2 hY; have hF := hF2; clear hF2; clear x0 x1 x2 x3 x4 x5 x6 x7 x8; obtain ⟨x0, x1, x2, x3, x4, x5, x6, x7, x8⟩ := Msg.cells hF.blk)
    | (go_at_call 44; (with_reducible refine (cY _).mono ?_); rintro e w1 ⟨v, rfl, ao1, cp1, k1, rfl, hY, hb1⟩; replace hF := hF.call hb1; clear cY hb1; clear x0 x1 x2 x3 x4 x5 x6 x7 x8; obtain ⟨x0, x1, x2, x3, x4, x5, x6, x7, x8⟩ := Msg.cells hF.blk)
    | (at_builtin; refine wpList_app rfl (.tmp 41) (.tmp 44) rfl hF.ow hY rfl rfl hF.n rfl (by simp; omega) ?_; intro ao2 cp2 k2 w2 ho2 hf2 hk2; have hF2 := hF.app ho2 hf2 hk2 (m := (be 8 (zig y)).length) rfl; clear hF ho2 hf2 hk2 hY; have hF := hF2; clear hF2; clear x0 x1 x2 x3 x4 x5 x6 x7 x8; obtain ⟨x0, x1, x2, x3, x4, x5, x6, x7, x8⟩ := Msg.cells hF.blk))
  go_ret
  refine ⟨_, rfl, ao2, cp2, k2, ?_, ?_, hF.bel⟩
  · show Value.slice ao2 _ cp2 = Value.slice ao2 X.length cp2
    congr 1
    rw [hX.out]
    simp [be_length]
    omega
  · rw [hX.out]
    exact hF.ow.bt
/-- A right message's numbers as what they are. -/
theorem rightM_cases {P : Msg → Prop} (m : Msg) (hr : RightM m) (hf : m.Fit)
    (h : ∀ (k s q t c : Nat) (i o p y : Int), k < 256 → s < 256 → c < 256 → q ≤ 4611686018427387904 → t ≤ 4611686018427387904 → In64 i → In64 o → In64 p → In64 y → P ⟨(k : Int), (s : Int), (q : Int), (t : Int), i, o, p, y, (c : Int)⟩) : P m := by
  obtain ⟨h1, h2, h3, h4, h5, _, _⟩ := hr
  obtain ⟨_, _, _, _, f1, f2, f3, f4, _⟩ := hf
  obtain ⟨kind, sym, seq, tick, id, other, price, qty, code⟩ := m
  simp only at h1 h2 h3 h4 h5 f1 f2 f3 f4
  obtain ⟨k, rfl⟩ : ∃ n : Nat, kind = (n : Int) := ⟨kind.toNat, by omega⟩
  obtain ⟨s, rfl⟩ : ∃ n : Nat, sym = (n : Int) := ⟨sym.toNat, by omega⟩
  obtain ⟨q, rfl⟩ : ∃ n : Nat, seq = (n : Int) := ⟨seq.toNat, by omega⟩
  obtain ⟨t, rfl⟩ : ∃ n : Nat, tick = (n : Int) := ⟨tick.toNat, by omega⟩
  obtain ⟨c, rfl⟩ : ∃ n : Nat, code = (n : Int) := ⟨code.toNat, by omega⟩
  exact h k s q t c id other price qty (by omega) (by omega) (by omega) (by omega) (by omega) f1 f2 f3 f4
theorem refFormM_any (m : Msg) (hr : RightM m) (hf : m.Fit) (W : World) : Calls Try.prog 25 #[vMsg m] W fun e w' => ∃ v, e = .returned v ∧ Given W w' v (formM m) := by
  refine rightM_cases (P := fun m => Calls Try.prog 25 #[vMsg m] W fun e w' => ∃ v, e = .returned v ∧ Given W w' v (formM m)) m hr hf ?_
  intro k s q t c i o p y hk hs hc hq ht hi ho hp hy
  have e : formM ⟨(k : Int), (s : Int), (q : Int), (t : Int), i, o, p, y, (c : Int)⟩ = (((((([k, s, c] ++ num q) ++ num t) ++ be 8 (zig i)) ++ be 8 (zig o)) ++ be 8 (zig p)) ++ be 8 (zig y)) := by simp [formM]
  rw [e]
  exact rformM_any k s q t c i o p y hk hs hc hq ht hi ho hp hy W
theorem refRightM_true {m : Msg} (h : rightM m = true) (w : World) : Calls Try.prog 11 #[vMsg m] w fun e w' => e = .returned (.bool true) ∧ Below w.heap.size w w' :=
  (refRightM_any m w).mono fun e w' k => ⟨by rw [k.1, h], k.2⟩
theorem refRightM_false {m : Msg} (h : rightM m = false) (w : World) : Calls Try.prog 11 #[vMsg m] w fun e w' => e = .returned (.bool false) ∧ Below w.heap.size w w' :=
  (refRightM_any m w).mono fun e w' k => ⟨by rw [k.1, h], k.2⟩
theorem refEncodeM_any (m : Msg) (hf : m.Fit) (W : World) : Calls Try.prog 8 #[vMsg m] W fun e w' => Coded W w' e (encMB m) (encMF m) := by
  cases h : rightM m with
  | true =>
    have cR := refRightM_true h
    have cF := refFormM_any m ((rightM_iff m).1 h) hf
    unfold encMB encMF
    rw [if_pos h, if_pos h]
    clear h hf
    generalize formM m = X at cF ⊢
    have hb0 := fun o => (Below.refl W.heap.size W).alloc (Nat.le_refl _) o
    have hB0 : ∀ w1, Below (W.alloc (.cells (cMsg m) 23)).heap.size (W.alloc (.cells (cMsg m) 23)) w1 → Blk w1 W.heap.size 23 (cMsg m) ∧ Below W.heap.size W w1 := fun w1 h => ⟨(Blk.new W _ _).below h (by simp), (hb0 _).trans (h.mono (by simp))⟩
    obtain ⟨kind, sym, seq, tick, id, other, price, qty, code⟩ := m
    go_enter Try.func8, Try.ntmps8
    go_wp2_with (first
      | (go_at_call 11; refine (cR _).mono ?_; rintro e w1 ⟨rfl, hb1⟩; obtain ⟨hB, hbel⟩ := hB0 _ hb1; obtain ⟨x0, x1, x2, x3, x4, x5, x6, x7, x8⟩ := Msg.cells hB; clear hB0 hb0)
      | (go_at_call 25; refine (cF _).mono ?_; rintro e w2 ⟨v, rfl, ao, cap, k, rfl, hX, hb2⟩))
    go_ret2
    exact ⟨ao, cap, k, rfl, hX, hbel.trans (hb2.mono hbel.size)⟩
  | false =>
    have cR := refRightM_false h
    unfold encMB encMF
    rw [if_neg (by rw [h]; decide), if_neg (by rw [h]; decide)]
    clear h hf
    obtain ⟨kind, sym, seq, tick, id, other, price, qty, code⟩ := m
    go_enter Try.func8, Try.ntmps8
    go_wp2_with (go_at_call 11; refine (cR _).mono ?_; rintro e w1 ⟨rfl, hb1⟩)
    go_ret2
    exact ⟨none, 0, 0, rfl, Bt.nil _ _, ((Below.refl _ _).alloc (Nat.le_refl _) _).trans (hb1.mono (by simp))⟩
end Go.Proofs.Ytalgpbjonkcldaa
