/-
  CommandBack, for every command, every slice of bytes and every number.
-/
import Derived.Test.YtjleebfdbkfgmaaCmdK
import Derived.Test.YtjleebfdbkfgmaaOpenC
import Derived.Test.YtjleebfdbkfgmaaPost
namespace Go.Proofs.Ytjleebfdbkfgmaa
open Go.RowKit
theorem form_len (c : Cmd) (hr : Right c) : (formC c).length ≤ 100 := by
  have h1 := num_ten (n := c.id.toNat) (by have := hr.id; omega)
  have h2 : c.kind = 1 → (num c.owner.toNat).length ≤ 10 := fun h => num_ten (by have := (hr.new h).1; omega)
  unfold formC
  by_cases h : c.kind = 1
  · have := h2 h
    rw [if_pos h, if_neg (by omega)]
    simp [be_length]
    omega
  · rw [if_neg h]
    split
    · simp; omega
    · simp [be_length]; omega
/-- The command that came in, its bytes, the bytes that came in. -/
structure BS (W : World) (b : Nat) (cs : Array Value) (k1 : Nat) (ao1 : Option Addr) (cp1 : Nat) (X : List Nat) (k2 : Nat) (ao2 : Option Addr) (cp2 : Nat) (ys : List Nat) (w : World) : Prop where
  blk : Blk w b 23 cs
  bx : Bt w k1 ao1 cp1 X
  by' : Bt w k2 ao2 cp2 ys
  bel : Below W.heap.size W w
section
variable {W w w' : World} {b k1 k2 cp1 cp2 : Nat} {cs : Array Value} {ao1 ao2 : Option Addr} {X ys : List Nat}
theorem BS.keep (h : BS W b cs k1 ao1 cp1 X k2 ao2 cp2 ys w) (hb : Below w.heap.size w w') : BS W b cs k1 ao1 cp1 X k2 ao2 cp2 ys w' :=
  ⟨h.blk.below hb h.blk.lt, h.bx.below hb, h.by'.below hb, h.bel.trans (hb.mono h.bel.size)⟩
theorem BS.alloc (h : BS W b cs k1 ao1 cp1 X k2 ao2 cp2 ys w) (o : Obj) : BS W b cs k1 ao1 cp1 X k2 ao2 cp2 ys (w.alloc o) := h.keep ((Below.refl _ _).alloc (Nat.le_refl _) o)
end
theorem below_alloc (w : World) (o : Obj) : Below w.heap.size w (w.alloc o) := (Below.refl _ _).alloc (Nat.le_refl _) o
/-- What is appended to a row that has just been made turns nothing that was there. -/
theorem below_app {w w' : World} {o : Obj} {k : Nat} (hf : Frm (fun b => b = k) (w.alloc o) w') (hk : w.heap.size ≤ k) : Below w.heap.size w w' :=
  (below_alloc w o).trans (hf.below (by simp) (by rintro b rfl; exact hk))
theorem ow_zero (w : World) (n : Nat) (hn : n = w.heap.size) : Ow (w.alloc (.cells #[] 5)) n (some ⟨n, 0, none⟩) 0 [] := by subst hn; exact Ow.zero w
theorem below_app2 {B : Nat} {w w' : World} {o : Obj} {k : Nat} (hf : Frm (fun b => b = k) (w.alloc o) w') (hk : B ≤ k) (hB : B ≤ w.heap.size) : Below B w w' :=
  ((Below.refl B w).alloc hB o).trans (hf.below (by simp; omega) (by rintro b rfl; exact hk))
theorem one_zero (w : World) : Bt (World.alloc w (.cells #[.int .u8 0] 5)) (World.heap w).size (some ⟨(World.heap w).size, 0, none⟩) 1 [0] := (Ow.one w 0 (by decide)).bt
set_option maxRecDepth 4000 in
set_option maxHeartbeats 4000000 in
theorem cback_right_0 (c : Cmd) (hc : c.Fit) (hr : rightB c = true) (k2 cp2 : Nat) (ao2 : Option Addr) (ys : List Nat) (hys : ys.length ≤ 200) (n : Int) (W : World) (hB : Bt W k2 ao2 cp2 ys) (d : Cmd) (cD4 : ∀ w, Bt w k2 ao2 cp2 ys → Calls Try.prog 13 #[.slice ao2 ys.length cp2] w fun e w' => e = .returned (.tuple #[cv d, .int .i64 0]) ∧ Below w.heap.size w w') (cE2 : ∀ w, Calls Try.prog 6 #[cv d] w fun e w' => Coded w w' e ys 0) :
    Calls Try.prog 5 #[cv c, .slice ao2 ys.length cp2, .int .i64 n] W fun e w' => e = .returned (.bool true) ∧ Below W.heap.size W w' := by
  have hR := (right_iff c).1 hr
  have hl := form_len c hR
  have d1 := dec_form c hR hc
  have d2 := dec_more c hR hc 0
  have d3 := fun m => dec_less c hR hc m
  have z2 := dec_zero _ (show (decC (formC c ++ [0])).2 ≠ 0 by rw [d2]; decide)
  have z3 := fun m (h : m < (formC c).length) => dec_zero ((formC c).take m) (by rw [d3 m h]; decide)
  have cE := fun w => encode_any c hc w
  have cG := right_true hr
  unfold encB encF at cE
  rw [if_pos hr, if_pos hr] at cE
  have cA := fun w => alive5_any w
  generalize hX : formC c = X at cE hl d1 d2 d3 z2 z3
  have cD1 : ∀ w k ao cap, Bt w k ao cap X → Calls Try.prog 13 #[.slice ao X.length cap] w fun e w' => e = .returned (.tuple #[cv c, .int .i64 0]) ∧ Below w.heap.size w w' := fun w k ao cap h => by
    have h1 := decode_any k cap ao X (by omega) w h
    rw [d1] at h1
    exact h1
  have cD2 : ∀ w k ao cap, Bt w k ao cap (X ++ [0]) → Calls Try.prog 13 #[.slice ao (X.length + 1) cap] w fun e w' => e = .returned (.tuple #[.agg #[.int .i64 0, .int .i64 0, .int .i64 0, .int .i64 0, .int .i64 0, .int .i64 0, .int .i64 0, .int .i64 0, .int .i64 0], .int .i64 4]) ∧ Below w.heap.size w w' := fun w k ao cap h => by
    have h1 := decode_any k cap ao (X ++ [0]) (by simp; omega) w h
    rw [z2, d2, List.length_append] at h1
    exact h1
  have cD3 : ∀ m, 1 ≤ m → m ≤ X.length → ∀ w k ao cap, Bt w k ao cap X → Calls Try.prog 13 #[.slice ao (X.length - m) cap] w fun e w' => e = .returned (.tuple #[.agg #[.int .i64 0, .int .i64 0, .int .i64 0, .int .i64 0, .int .i64 0, .int .i64 0, .int .i64 0, .int .i64 0, .int .i64 0], .int .i64 3]) ∧ Below w.heap.size w w' := fun m hm1 hm2 w k ao cap h => by
    have h1 := decode_any k cap ao (X.take (X.length - m)) (by rw [List.length_take]; omega) w (h.take (by omega))
    rw [z3 _ (by omega), d3 _ (by omega), List.length_take, Nat.min_eq_left (by omega)] at h1
    exact h1
  have hN := fun w => neq_cmd c c w
  rw [eqC_self] at hN
  have hS0 : ∀ w1 k1 ao1 cp1, Below (W.alloc (.cells (cc c) 23)).heap.size (W.alloc (.cells (cc c) 23)) w1 → Bt w1 k1 ao1 cp1 X → BS W W.heap.size (cc c) k1 ao1 cp1 X k2 ao2 cp2 ys w1 := fun w1 k1 ao1 cp1 h hb => ⟨(Blk.new W _ _).below h (by simp), hb, (hB.alloc _).below h, (below_alloc W _).trans (h.mono (by simp))⟩
  have hlen := hB.len
  have hmax := hB.top
  unfold maxLen at hmax
  have hcase : n ≤ 0 ∨ (X.length : Int) < n ∨ ∃ m : Nat, n = (m : Int) ∧ 1 ≤ m ∧ m ≤ X.length := by
    by_cases h : 0 < n
    · by_cases h1 : (X.length : Int) < n
      · exact .inr (.inl h1)
      · exact .inr (.inr ⟨n.toNat, by omega, by omega, by omega⟩)
    · exact .inl (by omega)
  clear hX d1 d2 d3 z2 z3 hR hr hc hB
  obtain ⟨kind, sym, id, owner, side, typ, price, qty, flags⟩ := c
  simp only [cv, cc] at hN cD1
  obtain ⟨kind2, sym2, id2, owner2, side2, typ2, price2, qty2, flags2⟩ := d
  simp only [cv, cc] at cD4 cE2
  rcases hcase with hm0 | hm0 | ⟨m, rfl, hm1, hm2⟩
  · clear cD3
    go_enter Try.func5, Try.ntmps5
    go_wp2_with (first
      | (go_at_call 6; (with_reducible refine (cE _).mono ?_); rintro e w1 ⟨ao1, cp1, k1, rfl, hB1, hb1⟩; have hlx := hB1.len; have hS := hS0 _ _ _ _ hb1 hB1; obtain ⟨x0, x1, x2, x3, x4, x5, x6, x7, x8⟩ := cells9 hS.blk; clear hb1 hB1 hS0 cE)
      | (go_at_call 10; refine (cG _).mono ?_; rintro e w2 ⟨rfl, hb2⟩; replace hS := hS.keep hb2; clear cG hb2 x0 x1 x2 x3 x4 x5 x6 x7 x8)
      | (go_at_call 13; (with_reducible refine (cD1 _ _ _ _ hS.bx).mono ?_); rintro e w3 ⟨rfl, hb3⟩; replace hS := (hS.keep hb3).alloc (.cells #[.int .i64 kind, .int .i64 sym, .int .i64 id, .int .i64 owner, .int .i64 side, .int .i64 typ, .int .i64 price, .int .i64 qty, .int .i64 flags] 23); have h9 : Blk (w3.alloc (.cells #[.int .i64 kind, .int .i64 sym, .int .i64 id, .int .i64 owner, .int .i64 side, .int .i64 typ, .int .i64 price, .int .i64 qty, .int .i64 flags] 23)) w3.heap.size 23 (cc ⟨kind, sym, id, owner, side, typ, price, qty, flags⟩) := Blk.new _ _ _; have hl9 := h9.lt; clear hb3)
      | (at_builtin; refine wpList_app rfl (.tmp 41) (.tmp 42) rfl (ow_zero _ (w3.heap.size + 1) (by simp)) (hS.bx.alloc _) rfl rfl rfl rfl (by simp; omega) ?_; intro ao3 cp3 k3 w4 ho3 hf3 hk3; have hb4 := below_app hf3 (by simp); have hk4 : w3.heap.size + 1 ≤ k3 := (by simp at hk3; omega); clear hf3 hk3)
      | (at_builtin; refine wpList_app rfl (.tmp 43) (.tmp 44) rfl (ho3.alloc _) (one_zero _) rfl rfl (by simp) rfl (by simp; omega) ?_; intro ao4 cp4 k4 w5 ho4 hf4 hk5; have hb5 := hb4.trans (below_app2 hf4 (Nat.le_trans (by simp) hk4) hb4.size); replace hS := hS.keep hb5; replace h9 := h9.below hb5 (by simp); have hl9 := h9.lt; clear hf4 hk5 hb4 hb5 hk4 ho3)
      | (go_at_call 13; (with_reducible refine (cD2 _ _ _ _ ho4.bt).mono ?_); rintro e w6 ⟨rfl, hb6⟩; replace hS := hS.keep hb6; replace h9 := h9.below hb6 h9.lt; obtain ⟨x0, x1, x2, x3, x4, x5, x6, x7, x8⟩ := cells9 hS.blk; obtain ⟨y0, y1, y2, y3, y4, y5, y6, y7, y8⟩ := cells9 h9; have hl9 := h9.lt; have hlb := hS.blk.lt; replace hS := hS.alloc (.cells #[.int .i64 0, .int .i64 0, .int .i64 0, .int .i64 0, .int .i64 0, .int .i64 0, .int .i64 0, .int .i64 0, .int .i64 0] 23); clear hb6 ho4 cD1 cD2 h9)
      | (go_at_call 13; (with_reducible refine (cD3 _ _ _ _ hS.bx).mono ?_); rintro e w7 ⟨rfl, hb7⟩; replace hS := (hS.keep hb7).alloc (.cells #[.int .i64 0, .int .i64 0, .int .i64 0, .int .i64 0, .int .i64 0, .int .i64 0, .int .i64 0, .int .i64 0, .int .i64 0] 23); clear hb7 cD3)
      | (go_at_call 13; (with_reducible refine (cD4 _ hS.by').mono ?_); rintro e w8 ⟨rfl, hb8⟩; replace hS := (hS.keep hb8).alloc (.cells #[.int .i64 kind2, .int .i64 sym2, .int .i64 id2, .int .i64 owner2, .int .i64 side2, .int .i64 typ2, .int .i64 price2, .int .i64 qty2, .int .i64 flags2] 23); clear hb8 cD4)
      | (go_at_call 12; refine (cA _).mono ?_; rintro e w9 ⟨rfl, hb9⟩; replace hS := hS.keep hb9; clear hb9)
      | (go_at_call 6; (with_reducible refine (cE2 _).mono ?_); rintro e w10 ⟨ao6, cp6, k6, rfl, hB6, hb10⟩; replace hS := hS.keep hb10; clear hb10 cE2)
      | (go_at_call 9; refine (same_true _ hB6 hS.by' rfl rfl).mono ?_; rintro e w11 ⟨rfl, rfl⟩; clear hB6))
    all_goals first
      | (exfalso; omega)
      | (go_ret; exact ⟨rfl, hS.bel⟩)
  · clear cD3
    go_enter Try.func5, Try.ntmps5
    go_wp2_with (first
      | (go_at_call 6; (with_reducible refine (cE _).mono ?_); rintro e w1 ⟨ao1, cp1, k1, rfl, hB1, hb1⟩; have hlx := hB1.len; have hS := hS0 _ _ _ _ hb1 hB1; obtain ⟨x0, x1, x2, x3, x4, x5, x6, x7, x8⟩ := cells9 hS.blk; clear hb1 hB1 hS0 cE)
      | (go_at_call 10; refine (cG _).mono ?_; rintro e w2 ⟨rfl, hb2⟩; replace hS := hS.keep hb2; clear cG hb2 x0 x1 x2 x3 x4 x5 x6 x7 x8)
      | (go_at_call 13; (with_reducible refine (cD1 _ _ _ _ hS.bx).mono ?_); rintro e w3 ⟨rfl, hb3⟩; replace hS := (hS.keep hb3).alloc (.cells #[.int .i64 kind, .int .i64 sym, .int .i64 id, .int .i64 owner, .int .i64 side, .int .i64 typ, .int .i64 price, .int .i64 qty, .int .i64 flags] 23); have h9 : Blk (w3.alloc (.cells #[.int .i64 kind, .int .i64 sym, .int .i64 id, .int .i64 owner, .int .i64 side, .int .i64 typ, .int .i64 price, .int .i64 qty, .int .i64 flags] 23)) w3.heap.size 23 (cc ⟨kind, sym, id, owner, side, typ, price, qty, flags⟩) := Blk.new _ _ _; have hl9 := h9.lt; clear hb3)
      | (at_builtin; refine wpList_app rfl (.tmp 41) (.tmp 42) rfl (ow_zero _ (w3.heap.size + 1) (by simp)) (hS.bx.alloc _) rfl rfl rfl rfl (by simp; omega) ?_; intro ao3 cp3 k3 w4 ho3 hf3 hk3; have hb4 := below_app hf3 (by simp); have hk4 : w3.heap.size + 1 ≤ k3 := (by simp at hk3; omega); clear hf3 hk3)
      | (at_builtin; refine wpList_app rfl (.tmp 43) (.tmp 44) rfl (ho3.alloc _) (one_zero _) rfl rfl (by simp) rfl (by simp; omega) ?_; intro ao4 cp4 k4 w5 ho4 hf4 hk5; have hb5 := hb4.trans (below_app2 hf4 (Nat.le_trans (by simp) hk4) hb4.size); replace hS := hS.keep hb5; replace h9 := h9.below hb5 (by simp); have hl9 := h9.lt; clear hf4 hk5 hb4 hb5 hk4 ho3)
      | (go_at_call 13; (with_reducible refine (cD2 _ _ _ _ ho4.bt).mono ?_); rintro e w6 ⟨rfl, hb6⟩; replace hS := hS.keep hb6; replace h9 := h9.below hb6 h9.lt; obtain ⟨x0, x1, x2, x3, x4, x5, x6, x7, x8⟩ := cells9 hS.blk; obtain ⟨y0, y1, y2, y3, y4, y5, y6, y7, y8⟩ := cells9 h9; have hl9 := h9.lt; have hlb := hS.blk.lt; replace hS := hS.alloc (.cells #[.int .i64 0, .int .i64 0, .int .i64 0, .int .i64 0, .int .i64 0, .int .i64 0, .int .i64 0, .int .i64 0, .int .i64 0] 23); clear hb6 ho4 cD1 cD2 h9)
      | (go_at_call 13; (with_reducible refine (cD3 _ _ _ _ hS.bx).mono ?_); rintro e w7 ⟨rfl, hb7⟩; replace hS := (hS.keep hb7).alloc (.cells #[.int .i64 0, .int .i64 0, .int .i64 0, .int .i64 0, .int .i64 0, .int .i64 0, .int .i64 0, .int .i64 0, .int .i64 0] 23); clear hb7 cD3)
      | (go_at_call 13; (with_reducible refine (cD4 _ hS.by').mono ?_); rintro e w8 ⟨rfl, hb8⟩; replace hS := (hS.keep hb8).alloc (.cells #[.int .i64 kind2, .int .i64 sym2, .int .i64 id2, .int .i64 owner2, .int .i64 side2, .int .i64 typ2, .int .i64 price2, .int .i64 qty2, .int .i64 flags2] 23); clear hb8 cD4)
      | (go_at_call 12; refine (cA _).mono ?_; rintro e w9 ⟨rfl, hb9⟩; replace hS := hS.keep hb9; clear hb9)
      | (go_at_call 6; (with_reducible refine (cE2 _).mono ?_); rintro e w10 ⟨ao6, cp6, k6, rfl, hB6, hb10⟩; replace hS := hS.keep hb10; clear hb10 cE2)
      | (go_at_call 9; refine (same_true _ hB6 hS.by' rfl rfl).mono ?_; rintro e w11 ⟨rfl, rfl⟩; clear hB6))
    all_goals first
      | (exfalso; omega)
      | (go_ret; exact ⟨rfl, hS.bel⟩)
  · have cD3 := cD3 m hm1 hm2
    go_enter Try.func5, Try.ntmps5
    go_wp2_with (first
      | (go_at_call 6; (with_reducible refine (cE _).mono ?_); rintro e w1 ⟨ao1, cp1, k1, rfl, hB1, hb1⟩; have hlx := hB1.len; have hS := hS0 _ _ _ _ hb1 hB1; obtain ⟨x0, x1, x2, x3, x4, x5, x6, x7, x8⟩ := cells9 hS.blk; clear hb1 hB1 hS0 cE)
      | (go_at_call 10; refine (cG _).mono ?_; rintro e w2 ⟨rfl, hb2⟩; replace hS := hS.keep hb2; clear cG hb2 x0 x1 x2 x3 x4 x5 x6 x7 x8)
      | (go_at_call 13; (with_reducible refine (cD1 _ _ _ _ hS.bx).mono ?_); rintro e w3 ⟨rfl, hb3⟩; replace hS := (hS.keep hb3).alloc (.cells #[.int .i64 kind, .int .i64 sym, .int .i64 id, .int .i64 owner, .int .i64 side, .int .i64 typ, .int .i64 price, .int .i64 qty, .int .i64 flags] 23); have h9 : Blk (w3.alloc (.cells #[.int .i64 kind, .int .i64 sym, .int .i64 id, .int .i64 owner, .int .i64 side, .int .i64 typ, .int .i64 price, .int .i64 qty, .int .i64 flags] 23)) w3.heap.size 23 (cc ⟨kind, sym, id, owner, side, typ, price, qty, flags⟩) := Blk.new _ _ _; have hl9 := h9.lt; clear hb3)
      | (at_builtin; refine wpList_app rfl (.tmp 41) (.tmp 42) rfl (ow_zero _ (w3.heap.size + 1) (by simp)) (hS.bx.alloc _) rfl rfl rfl rfl (by simp; omega) ?_; intro ao3 cp3 k3 w4 ho3 hf3 hk3; have hb4 := below_app hf3 (by simp); have hk4 : w3.heap.size + 1 ≤ k3 := (by simp at hk3; omega); clear hf3 hk3)
      | (at_builtin; refine wpList_app rfl (.tmp 43) (.tmp 44) rfl (ho3.alloc _) (one_zero _) rfl rfl (by simp) rfl (by simp; omega) ?_; intro ao4 cp4 k4 w5 ho4 hf4 hk5; have hb5 := hb4.trans (below_app2 hf4 (Nat.le_trans (by simp) hk4) hb4.size); replace hS := hS.keep hb5; replace h9 := h9.below hb5 (by simp); have hl9 := h9.lt; clear hf4 hk5 hb4 hb5 hk4 ho3)
      | (go_at_call 13; (with_reducible refine (cD2 _ _ _ _ ho4.bt).mono ?_); rintro e w6 ⟨rfl, hb6⟩; replace hS := hS.keep hb6; replace h9 := h9.below hb6 h9.lt; obtain ⟨x0, x1, x2, x3, x4, x5, x6, x7, x8⟩ := cells9 hS.blk; obtain ⟨y0, y1, y2, y3, y4, y5, y6, y7, y8⟩ := cells9 h9; have hl9 := h9.lt; have hlb := hS.blk.lt; replace hS := hS.alloc (.cells #[.int .i64 0, .int .i64 0, .int .i64 0, .int .i64 0, .int .i64 0, .int .i64 0, .int .i64 0, .int .i64 0, .int .i64 0] 23); clear hb6 ho4 cD1 cD2 h9)
      | (go_at_call 13; (with_reducible refine (cD3 _ _ _ _ hS.bx).mono ?_); rintro e w7 ⟨rfl, hb7⟩; replace hS := (hS.keep hb7).alloc (.cells #[.int .i64 0, .int .i64 0, .int .i64 0, .int .i64 0, .int .i64 0, .int .i64 0, .int .i64 0, .int .i64 0, .int .i64 0] 23); clear hb7 cD3)
      | (go_at_call 13; (with_reducible refine (cD4 _ hS.by').mono ?_); rintro e w8 ⟨rfl, hb8⟩; replace hS := (hS.keep hb8).alloc (.cells #[.int .i64 kind2, .int .i64 sym2, .int .i64 id2, .int .i64 owner2, .int .i64 side2, .int .i64 typ2, .int .i64 price2, .int .i64 qty2, .int .i64 flags2] 23); clear hb8 cD4)
      | (go_at_call 12; refine (cA _).mono ?_; rintro e w9 ⟨rfl, hb9⟩; replace hS := hS.keep hb9; clear hb9)
      | (go_at_call 6; (with_reducible refine (cE2 _).mono ?_); rintro e w10 ⟨ao6, cp6, k6, rfl, hB6, hb10⟩; replace hS := hS.keep hb10; clear hb10 cE2)
      | (go_at_call 9; refine (same_true _ hB6 hS.by' rfl rfl).mono ?_; rintro e w11 ⟨rfl, rfl⟩; clear hB6))
    all_goals first
      | (exfalso; omega)
      | (go_ret; exact ⟨rfl, hS.bel⟩)
set_option maxRecDepth 4000 in
set_option maxHeartbeats 4000000 in
theorem cback_wrong_0 (c : Cmd) (hc : c.Fit) (hr : rightB c = false) (k2 cp2 : Nat) (ao2 : Option Addr) (ys : List Nat) (hys : ys.length ≤ 200) (n : Int) (W : World) (hB : Bt W k2 ao2 cp2 ys) (d : Cmd) (cD4 : ∀ w, Bt w k2 ao2 cp2 ys → Calls Try.prog 13 #[.slice ao2 ys.length cp2] w fun e w' => e = .returned (.tuple #[cv d, .int .i64 0]) ∧ Below w.heap.size w w') (cE2 : ∀ w, Calls Try.prog 6 #[cv d] w fun e w' => Coded w w' e ys 0) :
    Calls Try.prog 5 #[cv c, .slice ao2 ys.length cp2, .int .i64 n] W fun e w' => e = .returned (.bool true) ∧ Below W.heap.size W w' := by
  have cE := fun w => encode_any c hc w
  have cG := right_false hr
  unfold encB encF at cE
  rw [if_neg (by rw [hr]; decide), if_neg (by rw [hr]; decide)] at cE
  have cA := fun w => alive5_any w
  generalize hX : ([] : List Nat) = X at cE
  have hS0 : ∀ w1 k1 ao1 cp1, Below (W.alloc (.cells (cc c) 23)).heap.size (W.alloc (.cells (cc c) 23)) w1 → Bt w1 k1 ao1 cp1 X → BS W W.heap.size (cc c) k1 ao1 cp1 X k2 ao2 cp2 ys w1 := fun w1 k1 ao1 cp1 h hb => ⟨(Blk.new W _ _).below h (by simp), hb, (hB.alloc _).below h, (below_alloc W _).trans (h.mono (by simp))⟩
  have hlen := hB.len
  have hmax := hB.top
  unfold maxLen at hmax
  clear hX hr hc hB
  obtain ⟨kind, sym, id, owner, side, typ, price, qty, flags⟩ := c
  obtain ⟨kind2, sym2, id2, owner2, side2, typ2, price2, qty2, flags2⟩ := d
  simp only [cv, cc] at cD4 cE2
  go_enter Try.func5, Try.ntmps5
  go_wp2_with (first
    | (go_at_call 6; (with_reducible refine (cE _).mono ?_); rintro e w1 ⟨ao1, cp1, k1, rfl, hB1, hb1⟩; have hlx := hB1.len; have hS := hS0 _ _ _ _ hb1 hB1; obtain ⟨x0, x1, x2, x3, x4, x5, x6, x7, x8⟩ := cells9 hS.blk; clear hb1 hB1 hS0 cE)
    | (go_at_call 10; refine (cG _).mono ?_; rintro e w2 ⟨rfl, hb2⟩; replace hS := hS.keep hb2; clear cG hb2 x0 x1 x2 x3 x4 x5 x6 x7 x8)
    | (go_at_call 13; (with_reducible refine (cD4 _ hS.by').mono ?_); rintro e w8 ⟨rfl, hb8⟩; replace hS := (hS.keep hb8).alloc (.cells #[.int .i64 kind2, .int .i64 sym2, .int .i64 id2, .int .i64 owner2, .int .i64 side2, .int .i64 typ2, .int .i64 price2, .int .i64 qty2, .int .i64 flags2] 23); clear hb8 cD4)
    | (go_at_call 12; refine (cA _).mono ?_; rintro e w9 ⟨rfl, hb9⟩; replace hS := hS.keep hb9; clear hb9)
    | (go_at_call 6; (with_reducible refine (cE2 _).mono ?_); rintro e w10 ⟨ao6, cp6, k6, rfl, hB6, hb10⟩; replace hS := hS.keep hb10; clear hb10 cE2)
    | (go_at_call 9; refine (same_true _ hB6 hS.by' rfl rfl).mono ?_; rintro e w11 ⟨rfl, rfl⟩; clear hB6))
  all_goals first
    | (exfalso; omega)
    | (go_ret; exact ⟨rfl, hS.bel⟩)
set_option maxRecDepth 4000 in
set_option maxHeartbeats 4000000 in
theorem cback_right_g (c : Cmd) (hc : c.Fit) (hr : rightB c = true) (k2 cp2 : Nat) (ao2 : Option Addr) (ys : List Nat) (hys : ys.length ≤ 200) (n : Int) (W : World) (hB : Bt W k2 ao2 cp2 ys) (g : Nat) (hg : g ≠ 0) (cD4 : ∀ w, Bt w k2 ao2 cp2 ys → Calls Try.prog 13 #[.slice ao2 ys.length cp2] w fun e w' => e = .returned (.tuple #[.agg #[.int .i64 0, .int .i64 0, .int .i64 0, .int .i64 0, .int .i64 0, .int .i64 0, .int .i64 0, .int .i64 0, .int .i64 0], .int .i64 (g : Int)]) ∧ Below w.heap.size w w') :
    Calls Try.prog 5 #[cv c, .slice ao2 ys.length cp2, .int .i64 n] W fun e w' => e = .returned (.bool true) ∧ Below W.heap.size W w' := by
  have hR := (right_iff c).1 hr
  have hl := form_len c hR
  have d1 := dec_form c hR hc
  have d2 := dec_more c hR hc 0
  have d3 := fun m => dec_less c hR hc m
  have z2 := dec_zero _ (show (decC (formC c ++ [0])).2 ≠ 0 by rw [d2]; decide)
  have z3 := fun m (h : m < (formC c).length) => dec_zero ((formC c).take m) (by rw [d3 m h]; decide)
  have cE := fun w => encode_any c hc w
  have cG := right_true hr
  unfold encB encF at cE
  rw [if_pos hr, if_pos hr] at cE
  have cA := fun w => alive5_any w
  generalize hX : formC c = X at cE hl d1 d2 d3 z2 z3
  have cD1 : ∀ w k ao cap, Bt w k ao cap X → Calls Try.prog 13 #[.slice ao X.length cap] w fun e w' => e = .returned (.tuple #[cv c, .int .i64 0]) ∧ Below w.heap.size w w' := fun w k ao cap h => by
    have h1 := decode_any k cap ao X (by omega) w h
    rw [d1] at h1
    exact h1
  have cD2 : ∀ w k ao cap, Bt w k ao cap (X ++ [0]) → Calls Try.prog 13 #[.slice ao (X.length + 1) cap] w fun e w' => e = .returned (.tuple #[.agg #[.int .i64 0, .int .i64 0, .int .i64 0, .int .i64 0, .int .i64 0, .int .i64 0, .int .i64 0, .int .i64 0, .int .i64 0], .int .i64 4]) ∧ Below w.heap.size w w' := fun w k ao cap h => by
    have h1 := decode_any k cap ao (X ++ [0]) (by simp; omega) w h
    rw [z2, d2, List.length_append] at h1
    exact h1
  have cD3 : ∀ m, 1 ≤ m → m ≤ X.length → ∀ w k ao cap, Bt w k ao cap X → Calls Try.prog 13 #[.slice ao (X.length - m) cap] w fun e w' => e = .returned (.tuple #[.agg #[.int .i64 0, .int .i64 0, .int .i64 0, .int .i64 0, .int .i64 0, .int .i64 0, .int .i64 0, .int .i64 0, .int .i64 0], .int .i64 3]) ∧ Below w.heap.size w w' := fun m hm1 hm2 w k ao cap h => by
    have h1 := decode_any k cap ao (X.take (X.length - m)) (by rw [List.length_take]; omega) w (h.take (by omega))
    rw [z3 _ (by omega), d3 _ (by omega), List.length_take, Nat.min_eq_left (by omega)] at h1
    exact h1
  have hN := fun w => neq_cmd c c w
  rw [eqC_self] at hN
  have hS0 : ∀ w1 k1 ao1 cp1, Below (W.alloc (.cells (cc c) 23)).heap.size (W.alloc (.cells (cc c) 23)) w1 → Bt w1 k1 ao1 cp1 X → BS W W.heap.size (cc c) k1 ao1 cp1 X k2 ao2 cp2 ys w1 := fun w1 k1 ao1 cp1 h hb => ⟨(Blk.new W _ _).below h (by simp), hb, (hB.alloc _).below h, (below_alloc W _).trans (h.mono (by simp))⟩
  have hlen := hB.len
  have hmax := hB.top
  unfold maxLen at hmax
  have hcase : n ≤ 0 ∨ (X.length : Int) < n ∨ ∃ m : Nat, n = (m : Int) ∧ 1 ≤ m ∧ m ≤ X.length := by
    by_cases h : 0 < n
    · by_cases h1 : (X.length : Int) < n
      · exact .inr (.inl h1)
      · exact .inr (.inr ⟨n.toNat, by omega, by omega, by omega⟩)
    · exact .inl (by omega)
  clear hX d1 d2 d3 z2 z3 hR hr hc hB
  obtain ⟨kind, sym, id, owner, side, typ, price, qty, flags⟩ := c
  simp only [cv, cc] at hN cD1
  have g1 : ((g : Int) != 0) = true := by simp; omega
  have g2 : ((g : Int) == 0) = false := by simp; omega
  have hE0 := fun w => eql_cmd ⟨0, 0, 0, 0, 0, 0, 0, 0, 0⟩ ⟨0, 0, 0, 0, 0, 0, 0, 0, 0⟩ w
  rw [eqC_self] at hE0
  simp only [cv, cc] at hE0
  clear hg
  rcases hcase with hm0 | hm0 | ⟨m, rfl, hm1, hm2⟩
  · clear cD3
    go_enter Try.func5, Try.ntmps5
    go_wp2_with (first
      | (go_at_call 6; (with_reducible refine (cE _).mono ?_); rintro e w1 ⟨ao1, cp1, k1, rfl, hB1, hb1⟩; have hlx := hB1.len; have hS := hS0 _ _ _ _ hb1 hB1; obtain ⟨x0, x1, x2, x3, x4, x5, x6, x7, x8⟩ := cells9 hS.blk; clear hb1 hB1 hS0 cE)
      | (go_at_call 10; refine (cG _).mono ?_; rintro e w2 ⟨rfl, hb2⟩; replace hS := hS.keep hb2; clear cG hb2 x0 x1 x2 x3 x4 x5 x6 x7 x8)
      | (go_at_call 13; (with_reducible refine (cD1 _ _ _ _ hS.bx).mono ?_); rintro e w3 ⟨rfl, hb3⟩; replace hS := (hS.keep hb3).alloc (.cells #[.int .i64 kind, .int .i64 sym, .int .i64 id, .int .i64 owner, .int .i64 side, .int .i64 typ, .int .i64 price, .int .i64 qty, .int .i64 flags] 23); have h9 : Blk (w3.alloc (.cells #[.int .i64 kind, .int .i64 sym, .int .i64 id, .int .i64 owner, .int .i64 side, .int .i64 typ, .int .i64 price, .int .i64 qty, .int .i64 flags] 23)) w3.heap.size 23 (cc ⟨kind, sym, id, owner, side, typ, price, qty, flags⟩) := Blk.new _ _ _; have hl9 := h9.lt; clear hb3)
      | (at_builtin; refine wpList_app rfl (.tmp 41) (.tmp 42) rfl (ow_zero _ (w3.heap.size + 1) (by simp)) (hS.bx.alloc _) rfl rfl rfl rfl (by simp; omega) ?_; intro ao3 cp3 k3 w4 ho3 hf3 hk3; have hb4 := below_app hf3 (by simp); have hk4 : w3.heap.size + 1 ≤ k3 := (by simp at hk3; omega); clear hf3 hk3)
      | (at_builtin; refine wpList_app rfl (.tmp 43) (.tmp 44) rfl (ho3.alloc _) (one_zero _) rfl rfl (by simp) rfl (by simp; omega) ?_; intro ao4 cp4 k4 w5 ho4 hf4 hk5; have hb5 := hb4.trans (below_app2 hf4 (Nat.le_trans (by simp) hk4) hb4.size); replace hS := hS.keep hb5; replace h9 := h9.below hb5 (by simp); have hl9 := h9.lt; clear hf4 hk5 hb4 hb5 hk4 ho3)
      | (go_at_call 13; (with_reducible refine (cD2 _ _ _ _ ho4.bt).mono ?_); rintro e w6 ⟨rfl, hb6⟩; replace hS := hS.keep hb6; replace h9 := h9.below hb6 h9.lt; obtain ⟨x0, x1, x2, x3, x4, x5, x6, x7, x8⟩ := cells9 hS.blk; obtain ⟨y0, y1, y2, y3, y4, y5, y6, y7, y8⟩ := cells9 h9; have hl9 := h9.lt; have hlb := hS.blk.lt; replace hS := hS.alloc (.cells #[.int .i64 0, .int .i64 0, .int .i64 0, .int .i64 0, .int .i64 0, .int .i64 0, .int .i64 0, .int .i64 0, .int .i64 0] 23); clear hb6 ho4 cD1 cD2 h9)
      | (go_at_call 13; (with_reducible refine (cD3 _ _ _ _ hS.bx).mono ?_); rintro e w7 ⟨rfl, hb7⟩; replace hS := (hS.keep hb7).alloc (.cells #[.int .i64 0, .int .i64 0, .int .i64 0, .int .i64 0, .int .i64 0, .int .i64 0, .int .i64 0, .int .i64 0, .int .i64 0] 23); clear hb7 cD3)
      | (go_at_call 13; (with_reducible refine (cD4 _ hS.by').mono ?_); rintro e w8 ⟨rfl, hb8⟩; replace hS := (hS.keep hb8).alloc (.cells #[.int .i64 0, .int .i64 0, .int .i64 0, .int .i64 0, .int .i64 0, .int .i64 0, .int .i64 0, .int .i64 0, .int .i64 0] 23); clear hb8 cD4)
      | (go_at_call 12; refine (cA _).mono ?_; rintro e w9 ⟨rfl, hb9⟩; replace hS := hS.keep hb9; clear hb9)
      | (go_at_call 6; (with_reducible refine (cE2 _).mono ?_); rintro e w10 ⟨ao6, cp6, k6, rfl, hB6, hb10⟩; replace hS := hS.keep hb10; clear hb10 cE2)
      | (go_at_call 9; refine (same_true _ hB6 hS.by' rfl rfl).mono ?_; rintro e w11 ⟨rfl, rfl⟩; clear hB6))
    all_goals first
      | (exfalso; omega)
      | (go_ret; exact ⟨rfl, hS.bel⟩)
  · clear cD3
    go_enter Try.func5, Try.ntmps5
    go_wp2_with (first
      | (go_at_call 6; (with_reducible refine (cE _).mono ?_); rintro e w1 ⟨ao1, cp1, k1, rfl, hB1, hb1⟩; have hlx := hB1.len; have hS := hS0 _ _ _ _ hb1 hB1; obtain ⟨x0, x1, x2, x3, x4, x5, x6, x7, x8⟩ := cells9 hS.blk; clear hb1 hB1 hS0 cE)
      | (go_at_call 10; refine (cG _).mono ?_; rintro e w2 ⟨rfl, hb2⟩; replace hS := hS.keep hb2; clear cG hb2 x0 x1 x2 x3 x4 x5 x6 x7 x8)
      | (go_at_call 13; (with_reducible refine (cD1 _ _ _ _ hS.bx).mono ?_); rintro e w3 ⟨rfl, hb3⟩; replace hS := (hS.keep hb3).alloc (.cells #[.int .i64 kind, .int .i64 sym, .int .i64 id, .int .i64 owner, .int .i64 side, .int .i64 typ, .int .i64 price, .int .i64 qty, .int .i64 flags] 23); have h9 : Blk (w3.alloc (.cells #[.int .i64 kind, .int .i64 sym, .int .i64 id, .int .i64 owner, .int .i64 side, .int .i64 typ, .int .i64 price, .int .i64 qty, .int .i64 flags] 23)) w3.heap.size 23 (cc ⟨kind, sym, id, owner, side, typ, price, qty, flags⟩) := Blk.new _ _ _; have hl9 := h9.lt; clear hb3)
      | (at_builtin; refine wpList_app rfl (.tmp 41) (.tmp 42) rfl (ow_zero _ (w3.heap.size + 1) (by simp)) (hS.bx.alloc _) rfl rfl rfl rfl (by simp; omega) ?_; intro ao3 cp3 k3 w4 ho3 hf3 hk3; have hb4 := below_app hf3 (by simp); have hk4 : w3.heap.size + 1 ≤ k3 := (by simp at hk3; omega); clear hf3 hk3)
      | (at_builtin; refine wpList_app rfl (.tmp 43) (.tmp 44) rfl (ho3.alloc _) (one_zero _) rfl rfl (by simp) rfl (by simp; omega) ?_; intro ao4 cp4 k4 w5 ho4 hf4 hk5; have hb5 := hb4.trans (below_app2 hf4 (Nat.le_trans (by simp) hk4) hb4.size); replace hS := hS.keep hb5; replace h9 := h9.below hb5 (by simp); have hl9 := h9.lt; clear hf4 hk5 hb4 hb5 hk4 ho3)
      | (go_at_call 13; (with_reducible refine (cD2 _ _ _ _ ho4.bt).mono ?_); rintro e w6 ⟨rfl, hb6⟩; replace hS := hS.keep hb6; replace h9 := h9.below hb6 h9.lt; obtain ⟨x0, x1, x2, x3, x4, x5, x6, x7, x8⟩ := cells9 hS.blk; obtain ⟨y0, y1, y2, y3, y4, y5, y6, y7, y8⟩ := cells9 h9; have hl9 := h9.lt; have hlb := hS.blk.lt; replace hS := hS.alloc (.cells #[.int .i64 0, .int .i64 0, .int .i64 0, .int .i64 0, .int .i64 0, .int .i64 0, .int .i64 0, .int .i64 0, .int .i64 0] 23); clear hb6 ho4 cD1 cD2 h9)
      | (go_at_call 13; (with_reducible refine (cD3 _ _ _ _ hS.bx).mono ?_); rintro e w7 ⟨rfl, hb7⟩; replace hS := (hS.keep hb7).alloc (.cells #[.int .i64 0, .int .i64 0, .int .i64 0, .int .i64 0, .int .i64 0, .int .i64 0, .int .i64 0, .int .i64 0, .int .i64 0] 23); clear hb7 cD3)
      | (go_at_call 13; (with_reducible refine (cD4 _ hS.by').mono ?_); rintro e w8 ⟨rfl, hb8⟩; replace hS := (hS.keep hb8).alloc (.cells #[.int .i64 0, .int .i64 0, .int .i64 0, .int .i64 0, .int .i64 0, .int .i64 0, .int .i64 0, .int .i64 0, .int .i64 0] 23); clear hb8 cD4)
      | (go_at_call 12; refine (cA _).mono ?_; rintro e w9 ⟨rfl, hb9⟩; replace hS := hS.keep hb9; clear hb9)
      | (go_at_call 6; (with_reducible refine (cE2 _).mono ?_); rintro e w10 ⟨ao6, cp6, k6, rfl, hB6, hb10⟩; replace hS := hS.keep hb10; clear hb10 cE2)
      | (go_at_call 9; refine (same_true _ hB6 hS.by' rfl rfl).mono ?_; rintro e w11 ⟨rfl, rfl⟩; clear hB6))
    all_goals first
      | (exfalso; omega)
      | (go_ret; exact ⟨rfl, hS.bel⟩)
  · have cD3 := cD3 m hm1 hm2
    go_enter Try.func5, Try.ntmps5
    go_wp2_with (first
      | (go_at_call 6; (with_reducible refine (cE _).mono ?_); rintro e w1 ⟨ao1, cp1, k1, rfl, hB1, hb1⟩; have hlx := hB1.len; have hS := hS0 _ _ _ _ hb1 hB1; obtain ⟨x0, x1, x2, x3, x4, x5, x6, x7, x8⟩ := cells9 hS.blk; clear hb1 hB1 hS0 cE)
      | (go_at_call 10; refine (cG _).mono ?_; rintro e w2 ⟨rfl, hb2⟩; replace hS := hS.keep hb2; clear cG hb2 x0 x1 x2 x3 x4 x5 x6 x7 x8)
      | (go_at_call 13; (with_reducible refine (cD1 _ _ _ _ hS.bx).mono ?_); rintro e w3 ⟨rfl, hb3⟩; replace hS := (hS.keep hb3).alloc (.cells #[.int .i64 kind, .int .i64 sym, .int .i64 id, .int .i64 owner, .int .i64 side, .int .i64 typ, .int .i64 price, .int .i64 qty, .int .i64 flags] 23); have h9 : Blk (w3.alloc (.cells #[.int .i64 kind, .int .i64 sym, .int .i64 id, .int .i64 owner, .int .i64 side, .int .i64 typ, .int .i64 price, .int .i64 qty, .int .i64 flags] 23)) w3.heap.size 23 (cc ⟨kind, sym, id, owner, side, typ, price, qty, flags⟩) := Blk.new _ _ _; have hl9 := h9.lt; clear hb3)
      | (at_builtin; refine wpList_app rfl (.tmp 41) (.tmp 42) rfl (ow_zero _ (w3.heap.size + 1) (by simp)) (hS.bx.alloc _) rfl rfl rfl rfl (by simp; omega) ?_; intro ao3 cp3 k3 w4 ho3 hf3 hk3; have hb4 := below_app hf3 (by simp); have hk4 : w3.heap.size + 1 ≤ k3 := (by simp at hk3; omega); clear hf3 hk3)
      | (at_builtin; refine wpList_app rfl (.tmp 43) (.tmp 44) rfl (ho3.alloc _) (one_zero _) rfl rfl (by simp) rfl (by simp; omega) ?_; intro ao4 cp4 k4 w5 ho4 hf4 hk5; have hb5 := hb4.trans (below_app2 hf4 (Nat.le_trans (by simp) hk4) hb4.size); replace hS := hS.keep hb5; replace h9 := h9.below hb5 (by simp); have hl9 := h9.lt; clear hf4 hk5 hb4 hb5 hk4 ho3)
      | (go_at_call 13; (with_reducible refine (cD2 _ _ _ _ ho4.bt).mono ?_); rintro e w6 ⟨rfl, hb6⟩; replace hS := hS.keep hb6; replace h9 := h9.below hb6 h9.lt; obtain ⟨x0, x1, x2, x3, x4, x5, x6, x7, x8⟩ := cells9 hS.blk; obtain ⟨y0, y1, y2, y3, y4, y5, y6, y7, y8⟩ := cells9 h9; have hl9 := h9.lt; have hlb := hS.blk.lt; replace hS := hS.alloc (.cells #[.int .i64 0, .int .i64 0, .int .i64 0, .int .i64 0, .int .i64 0, .int .i64 0, .int .i64 0, .int .i64 0, .int .i64 0] 23); clear hb6 ho4 cD1 cD2 h9)
      | (go_at_call 13; (with_reducible refine (cD3 _ _ _ _ hS.bx).mono ?_); rintro e w7 ⟨rfl, hb7⟩; replace hS := (hS.keep hb7).alloc (.cells #[.int .i64 0, .int .i64 0, .int .i64 0, .int .i64 0, .int .i64 0, .int .i64 0, .int .i64 0, .int .i64 0, .int .i64 0] 23); clear hb7 cD3)
      | (go_at_call 13; (with_reducible refine (cD4 _ hS.by').mono ?_); rintro e w8 ⟨rfl, hb8⟩; replace hS := (hS.keep hb8).alloc (.cells #[.int .i64 0, .int .i64 0, .int .i64 0, .int .i64 0, .int .i64 0, .int .i64 0, .int .i64 0, .int .i64 0, .int .i64 0] 23); clear hb8 cD4)
      | (go_at_call 12; refine (cA _).mono ?_; rintro e w9 ⟨rfl, hb9⟩; replace hS := hS.keep hb9; clear hb9)
      | (go_at_call 6; (with_reducible refine (cE2 _).mono ?_); rintro e w10 ⟨ao6, cp6, k6, rfl, hB6, hb10⟩; replace hS := hS.keep hb10; clear hb10 cE2)
      | (go_at_call 9; refine (same_true _ hB6 hS.by' rfl rfl).mono ?_; rintro e w11 ⟨rfl, rfl⟩; clear hB6))
    all_goals first
      | (exfalso; omega)
      | (go_ret; exact ⟨rfl, hS.bel⟩)
set_option maxRecDepth 4000 in
set_option maxHeartbeats 4000000 in
theorem cback_wrong_g (c : Cmd) (hc : c.Fit) (hr : rightB c = false) (k2 cp2 : Nat) (ao2 : Option Addr) (ys : List Nat) (hys : ys.length ≤ 200) (n : Int) (W : World) (hB : Bt W k2 ao2 cp2 ys) (g : Nat) (hg : g ≠ 0) (cD4 : ∀ w, Bt w k2 ao2 cp2 ys → Calls Try.prog 13 #[.slice ao2 ys.length cp2] w fun e w' => e = .returned (.tuple #[.agg #[.int .i64 0, .int .i64 0, .int .i64 0, .int .i64 0, .int .i64 0, .int .i64 0, .int .i64 0, .int .i64 0, .int .i64 0], .int .i64 (g : Int)]) ∧ Below w.heap.size w w') :
    Calls Try.prog 5 #[cv c, .slice ao2 ys.length cp2, .int .i64 n] W fun e w' => e = .returned (.bool true) ∧ Below W.heap.size W w' := by
  have cE := fun w => encode_any c hc w
  have cG := right_false hr
  unfold encB encF at cE
  rw [if_neg (by rw [hr]; decide), if_neg (by rw [hr]; decide)] at cE
  have cA := fun w => alive5_any w
  generalize hX : ([] : List Nat) = X at cE
  have hS0 : ∀ w1 k1 ao1 cp1, Below (W.alloc (.cells (cc c) 23)).heap.size (W.alloc (.cells (cc c) 23)) w1 → Bt w1 k1 ao1 cp1 X → BS W W.heap.size (cc c) k1 ao1 cp1 X k2 ao2 cp2 ys w1 := fun w1 k1 ao1 cp1 h hb => ⟨(Blk.new W _ _).below h (by simp), hb, (hB.alloc _).below h, (below_alloc W _).trans (h.mono (by simp))⟩
  have hlen := hB.len
  have hmax := hB.top
  unfold maxLen at hmax
  clear hX hr hc hB
  obtain ⟨kind, sym, id, owner, side, typ, price, qty, flags⟩ := c
  have g1 : ((g : Int) != 0) = true := by simp; omega
  have g2 : ((g : Int) == 0) = false := by simp; omega
  have hE0 := fun w => eql_cmd ⟨0, 0, 0, 0, 0, 0, 0, 0, 0⟩ ⟨0, 0, 0, 0, 0, 0, 0, 0, 0⟩ w
  rw [eqC_self] at hE0
  simp only [cv, cc] at hE0
  clear hg
  go_enter Try.func5, Try.ntmps5
  go_wp2_with (first
    | (go_at_call 6; (with_reducible refine (cE _).mono ?_); rintro e w1 ⟨ao1, cp1, k1, rfl, hB1, hb1⟩; have hlx := hB1.len; have hS := hS0 _ _ _ _ hb1 hB1; obtain ⟨x0, x1, x2, x3, x4, x5, x6, x7, x8⟩ := cells9 hS.blk; clear hb1 hB1 hS0 cE)
    | (go_at_call 10; refine (cG _).mono ?_; rintro e w2 ⟨rfl, hb2⟩; replace hS := hS.keep hb2; clear cG hb2 x0 x1 x2 x3 x4 x5 x6 x7 x8)
    | (go_at_call 13; (with_reducible refine (cD4 _ hS.by').mono ?_); rintro e w8 ⟨rfl, hb8⟩; replace hS := (hS.keep hb8).alloc (.cells #[.int .i64 0, .int .i64 0, .int .i64 0, .int .i64 0, .int .i64 0, .int .i64 0, .int .i64 0, .int .i64 0, .int .i64 0] 23); clear hb8 cD4)
    | (go_at_call 12; refine (cA _).mono ?_; rintro e w9 ⟨rfl, hb9⟩; replace hS := hS.keep hb9; clear hb9)
    | (go_at_call 6; (with_reducible refine (cE2 _).mono ?_); rintro e w10 ⟨ao6, cp6, k6, rfl, hB6, hb10⟩; replace hS := hS.keep hb10; clear hb10 cE2)
    | (go_at_call 9; refine (same_true _ hB6 hS.by' rfl rfl).mono ?_; rintro e w11 ⟨rfl, rfl⟩; clear hB6))
  all_goals first
    | (exfalso; omega)
    | (go_ret; exact ⟨rfl, hS.bel⟩)
theorem cback_any (c : Cmd) (hc : c.Fit) (k2 cp2 : Nat) (ao2 : Option Addr) (ys : List Nat) (n : Int) (W : World) (hB : Bt W k2 ao2 cp2 ys) :
    Calls Try.prog 5 #[cv c, .slice ao2 ys.length cp2, .int .i64 n] W fun e w' => e = .returned (.bool true) ∧ Below W.heap.size W w' := by
  by_cases hys : ys.length ≤ 200
  · have d4 := fun w h => decode_any k2 cp2 ao2 ys (by omega) w h
    by_cases hg : (decC ys).2 = 0
    · obtain ⟨h1, h2, h3⟩ := dec_back hB.lt (show decC ys = ((decC ys).1, 0) from Prod.ext rfl hg)
      have cE2 := fun w => encode_any (decC ys).1 h3 w
      unfold encB encF at cE2
      rw [if_pos ((right_iff _).2 h1), if_pos ((right_iff _).2 h1), h2] at cE2
      rw [hg] at d4
      cases hr : rightB c with
      | true => exact cback_right_0 c hc hr k2 cp2 ao2 ys hys n W hB _ d4 cE2
      | false => exact cback_wrong_0 c hc hr k2 cp2 ao2 ys hys n W hB _ d4 cE2
    · rw [dec_zero ys hg] at d4
      cases hr : rightB c with
      | true => exact cback_right_g c hc hr k2 cp2 ao2 ys hys n W hB _ hg d4
      | false => exact cback_wrong_g c hc hr k2 cp2 ao2 ys hys n W hB _ hg d4
  · have cA := fun w => alive5_any w
    have hlen := hB.len
    have hmax := hB.top
    unfold maxLen at hmax
    obtain ⟨kind, sym, id, owner, side, typ, price, qty, flags⟩ := c
    go_enter Try.func5, Try.ntmps5
    go_wp2_with (go_at_call 12; refine (cA _).mono ?_; rintro e w7 ⟨rfl, hb7⟩)
    all_goals first
      | (exfalso; omega)
      | (go_ret; exact ⟨rfl, (below_alloc W _).trans (hb7.mono (by simp))⟩)
end Go.Proofs.Ytjleebfdbkfgmaa
