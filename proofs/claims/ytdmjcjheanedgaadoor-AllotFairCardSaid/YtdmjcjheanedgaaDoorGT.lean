/-
  The program's Add.
  The program's cut.
  The program's Remove and Reduce.
  The program's New.
-/
import Derived.Test.YtdmjcjheanedgaaDoorGS
namespace Go.Proofs.YtdmjcjheanedgaaDoor
open Go.RowKit
set_option linter.unusedSimpArgs false
section
variable {w w' W W0 : World} {g k lv ga gf gx g0 g1 : Nat} {S T So S0 : Nat → Prop} {b : Bk} {a : Ar} {x : List Ixr} {f : Fq} {d : Int → Ld}
/-- A box that is laid behind the five stays as it is, whatever they do. -/
theorem Bs.box (h : Bs W0 S0 ga gf gx g0 g1 k a x f d w) (T : TypeId) (cs : Array Value) : ∃ V S, V = w.alloc (.cells cs T) ∧ Bs V S ga gf gx g0 g1 k a x f d V ∧ ∀ k' a' x' f' d' w', Bs V S ga gf gx g0 g1 k' a' x' f' d' w' → Blk w' w.heap.size T cs ∧ Bs W0 S0 ga gf gx g0 g1 k' a' x' f' d' w' := by
  obtain ⟨Sf, Sx, S1, S2, h1, h2⟩ := h.p
  have hb : Below w.heap.size w (w.alloc (.cells cs T)) := (Below.refl _ _).alloc (Nat.le_refl _) _
  refine ⟨_, fun c => ∃ i, own5 ga Sf Sx S1 S2 i c, rfl, ⟨Frm.refl _ _, Sf, Sx, S1, S2, h1.below hb, fun i c e => .inl ⟨i, e⟩⟩, fun k' a' x' f' d' w' q => ⟨?_, ?_⟩⟩
  · have hn := Blk.new w T cs
    exact (q.frm.block _ hn.lt (fun ⟨i, e⟩ => by have := h1.lt i _ e; omega)).trans hn
  · obtain ⟨Sf', Sx', S1', S2', h3, h4⟩ := q.p
    have hs0 := h.frm.size
    have hs1 := hb.size
    refine ⟨(h.frm.trans (Frm.of_below (S := fun _ => False) hb) (fun _ e => e.elim)).trans q.frm (fun c ⟨i, e⟩ => h2 i c e), Sf', Sx', S1', S2', h3, fun i c e => ?_⟩
    rcases h4 i c e with ⟨j, e'⟩ | e'
    · exact h2 j c e'
    · exact .inr (by omega)
theorem Duo.keep {n i j : Nat} {J : Bool → Bool → World → Prop} {L : Array Bool} (h : Duo n i j J L w) (hk : ∀ a b, J a b w → J a b w') : Duo n i j J L w' := ⟨h.size, hk _ _ h.at'⟩
theorem Duo.fin1 {n i j : Nat} {J : Bool → Bool → World → Prop} {L : Array Bool} (h : Duo n i j J L w) (hi : L.getD i false = true) : ∃ q, J true q w := ⟨_, by have := h.at'; rwa [hi] at this⟩
/-- What a walk's worlds hold: the book's struct, and a box of an order. -/
def Bks (g ga gf gx q : Nat) (o : Ord) (w : World) : Prop := (w.cell? ⟨g, 0, none⟩ = some (.pointer (some ⟨ga, 0, none⟩)) ∧ w.cell? ⟨g, 5, none⟩ = some (.pointer (some ⟨gf, 0, none⟩)) ∧ w.cell? ⟨g, 6, none⟩ = some (.pointer (some ⟨gx, 0, none⟩))) ∧
  (w.cell? ⟨q, 0, none⟩ = some (.int .i64 o.id) ∧ w.cell? ⟨q, 1, none⟩ = some (.int .i64 o.owner) ∧ w.cell? ⟨q, 2, none⟩ = some (.int .i64 o.side) ∧ w.cell? ⟨q, 3, none⟩ = some (.int .i64 o.price) ∧ w.cell? ⟨q, 4, none⟩ = some (.int .i64 o.qty) ∧ w.cell? ⟨q, 5, none⟩ = some (.int .i64 o.flags) ∧ w.cell? ⟨q, 6, none⟩ = some (.int .i64 o.seq))
theorem Bks.of {q : Nat} {o : Ord} (h1 : Blk w g 77 (cBook lv ga gf gx g0 g1)) (h2 : Blk w q 44 (cOrd o)) : Bks g ga gf gx q o w := ⟨⟨h1.cell_eq 0 _ rfl, h1.cell_eq 5 _ rfl, h1.cell_eq 6 _ rfl⟩, Ord.cells h2⟩
/-- An act's effect as far as one call has come up. -/
def J5a (V : World) (SV : Nat → Prop) (ga gf gx g0 g1 k : Nat) (a a' : Ar) (x : List Ixr) (f : Fq) (d : Int → Ld) (p _q : Bool) (w : World) : Prop := Bs V SV ga gf gx g0 g1 k (bif p then a' else a) x f d w
def J5f (V : World) (SV : Nat → Prop) (ga gf gx g0 g1 k : Nat) (a : Ar) (x : List Ixr) (f f' : Fq) (d : Int → Ld) (p _q : Bool) (w : World) : Prop := Bs V SV ga gf gx g0 g1 k a x (bif p then f' else f) d w
def J5x (V : World) (SV : Nat → Prop) (ga gf gx g0 g1 k k' : Nat) (a : Ar) (x x' : List Ixr) (f : Fq) (d : Int → Ld) (p _q : Bool) (w : World) : Prop := Bs V SV ga gf gx g0 g1 (bif p then k' else k) a (bif p then x' else x) f d w
def J5d (V : World) (SV : Nat → Prop) (ga gf gx g0 g1 k : Nat) (a : Ar) (x : List Ixr) (f : Fq) (d d' : Int → Ld) (p _q : Bool) (w : World) : Prop := Bs V SV ga gf gx g0 g1 k a x f (bif p then d' else d) w
set_option maxRecDepth 20000 in
set_option maxHeartbeats 4000000 in
theorem pb_add (o : Ord) (ho : o.Fit) (h : PB W g S k b) (hk : k < 100000) : Calls Tryd.prog 21 #[.pointer (some ⟨g, 0, none⟩), vOrd o] W fun e w' => e = .returned (.int .i64 (b.addF o)) ∧ (∃ S', PB w' g S' (k + 1) (b.add o) ∧ ∀ c, S' c → S c ∨ W.heap.size ≤ c) ∧ Frm S W w' := by
  obtain ⟨ga, gf, gx, g0, g1, Z, a, x, f, d, So, h1, h2, h3, h4, h5⟩ := h.open
  obtain ⟨V, SV, hV, k1, hxV⟩ := h3.box 44 (cOrd o)
  have hBV : Below W.heap.size W V := by rw [hV]; exact (Below.refl _ _).alloc (Nat.le_refl _) _
  have cJ := judge_any o ho (h1.below hBV h1.lt) h2 k1
  have y0' := Ord.cells (hxV _ _ _ _ _ _ k1).1
  by_cases h0 : b.addF o = 0
  · obtain ⟨hs, i, u, hi, hil, hput, hu, hpush, hixf, hR⟩ := h2.add ho h0
    have hfin := fun w' hB => h5 w' (k + 1) _ _ _ _ _ _ hB hR (Bk.add_slots b o).2
    have hlv := h2.ok.l2
    have hwf := (h2.l o.side hs).wf
    have hid := ho.id
    have hq64 := ho.qty
    have hs5 := h2.ok.s2
    have bx : ∀ k' a' x' f' d' w', Bs V SV ga gf gx g0 g1 k' a' x' f' d' w' → Bks g ga gf gx W.heap.size o w' := fun k' a' x' f' d' w' q => by
      obtain ⟨q1, q2⟩ := hxV _ _ _ _ _ _ q
      exact Bks.of (h4 w' q2.frm) q1
    have bxg : ∀ k' a' x' f' d' w', Bs V SV ga gf gx g0 g1 k' a' x' f' d' w' → Blk w' g 77 (cBook b.levels ga gf gx g0 g1) := fun k' a' x' f' d' w' q => h4 w' (hxV _ _ _ _ _ _ q).2.frm
    have bxW := fun k' a' x' f' d' w' q => (hxV k' a' x' f' d' w' q).2
    rw [h0] at cJ ⊢
    clear h h1 h2 h3 h4 h5 hxV hBV h0 hpush hixf hR ho
    obtain ⟨o0, o1, o2, o3, o4, o5, o6⟩ := o
    simp only at hs hput hu hwf hid hq64 y0' hfin
    simp only [cOrd] at hV
    simp only [vOrd] at cJ ⊢
    obtain ⟨y0, y1, y2, y3, y4, y5, y6⟩ := y0'
    have hy0 : In64 0 := by unfold In64; omega
    have hi64 : In64 (i : Int) := by unfold In64; omega
    have hbq : 0 ≤ bq b.levels o2 ∧ bq b.levels o2 ≤ 200 := by unfold bq; split <;> omega
    have hwr : IntKind.i64.wrap (bq b.levels o2 + u) = bq b.levels o2 + u := by rw [IntKind.wrap_i64]; omega
    obtain ⟨a1, ha1⟩ : ∃ a1, a1 = a.put i ⟨o0, o1, o2, o3, o4, o5, o6⟩ := ⟨_, rfl⟩
    obtain ⟨d1, hd1⟩ : ∃ d1, d1 = upd d o2 ((d o2).putS o3 o4) := ⟨_, rfl⟩
    obtain ⟨f1, hf1⟩ : ∃ f1, f1 = f.pushS (bq b.levels o2 + u) (i : Int) := ⟨_, rfl⟩
    obtain ⟨x1, hx1⟩ : ∃ x1, x1 = ixPut x 0 o0 (i : Int) := ⟨_, rfl⟩
    rw [← ha1, ← hd1, ← hf1, ← hx1] at hfin
    go_enter Tryd.func21, Tryd.ntmps21
    go_wp2_with (first
      | (rw [← hV]; clear hV)
      | (go_at_call 36; refine cJ.mono ?_; rintro e w1 ⟨rfl, hb1⟩; clear cJ y0 y1 y2 y3 y4 y5 y6; have kw := k1.below hb1; clear k1 hb1)
      | fail)
    refine wp_region_S (S := fun L w => Duo 11 5 100 (J5a V SV ga gf gx g0 g1 k a (a.put i ⟨o0, o1, o2, o3, o4, o5, o6⟩) x f d) L w) (by kernel_rfl) (Duo.start 11 5 100 (Bs.below kw (Below.refl _ _).drew)) ?_
    refine AllS.next (v := ?_) rfl rfl rfl (by kernel_rfl) ?_ ?_
    rotate_left
    · refine yieldsS_run (fun _ _ h => h.other (by decide) (by decide)) (by rfl) ?_
      intro L wx hS
      go_simp
      try with_reducible rfl
    try simp only [Act.put, List.setIfInBounds_toArray, List.set_cons_zero, List.set_cons_succ, List.getElem_toArray, List.getElem_cons_zero, List.getElem_cons_succ]
    refine AllS.next (v := ?_) rfl rfl rfl (by kernel_rfl) ?_ ?_
    rotate_left
    · refine yieldsS_run (fun _ _ h => h.other (by decide) (by decide)) (by rfl) ?_
      intro L wx hS
      go_simp
      try with_reducible rfl
    try simp only [Act.put, List.setIfInBounds_toArray, List.set_cons_zero, List.set_cons_succ, List.getElem_toArray, List.getElem_cons_zero, List.getElem_cons_succ]
    refine AllS.next (v := ?_) rfl rfl rfl (by kernel_rfl) ?_ ?_
    rotate_left
    · refine yieldsS_run (fun _ _ h => h.other (by decide) (by decide)) (by rfl) ?_
      intro L wx hS
      go_simp
      try with_reducible rfl
    try simp only [Act.put, List.setIfInBounds_toArray, List.set_cons_zero, List.set_cons_succ, List.getElem_toArray, List.getElem_cons_zero, List.getElem_cons_succ]
    refine AllS.next (v := ?_) rfl rfl rfl (by kernel_rfl) ?_ ?_
    rotate_left
    · refine yieldsS_run (fun _ _ h => h.other (by decide) (by decide)) (by rfl) ?_
      intro L wx hS
      obtain ⟨⟨c0, c5, c6⟩, ⟨y0, y1, y2, y3, y4, y5, y6⟩⟩ := bx _ _ _ _ _ _ hS.at'
      simp only at y0 y1 y2 y3 y4 y5 y6
      go_simp
      try with_reducible rfl
    try simp only [Act.put, List.setIfInBounds_toArray, List.set_cons_zero, List.set_cons_succ, List.getElem_toArray, List.getElem_cons_zero, List.getElem_cons_succ]
    refine AllS.next (v := ?_) rfl rfl rfl (by kernel_rfl) ?_ ?_
    rotate_left
    · refine yieldsS_run (fun _ _ h => h.other (by decide) (by decide)) (by rfl) ?_
      intro L wx hS
      obtain ⟨⟨c0, c5, c6⟩, ⟨y0, y1, y2, y3, y4, y5, y6⟩⟩ := bx _ _ _ _ _ _ hS.at'
      simp only at y0 y1 y2 y3 y4 y5 y6
      go_simp
      try with_reducible rfl
    try simp only [Act.put, List.setIfInBounds_toArray, List.set_cons_zero, List.set_cons_succ, List.getElem_toArray, List.getElem_cons_zero, List.getElem_cons_succ]
    refine AllS.next (v := .tuple #[.int .i64 (i : Int), .int .i64 0]) rfl rfl rfl (by kernel_rfl) ?_ ?_
    · refine yieldsS_callq (f := 37) (args := #[.pointer (some ⟨ga, 0, none⟩), .agg #[.int .i64 o0, .int .i64 o1, .int .i64 o2, .int .i64 o3, .int .i64 o4, .int .i64 o5, .int .i64 o6]]) (by rfl) ?_ ?_
      · intro wx
        go_simp
        try with_reducible rfl
      · intro L wx hL hS
        exact hS.fst hL (by decide) (by decide) (fun _ w h => Bs.take h hi _)
    try simp only [Act.put, List.setIfInBounds_toArray, List.set_cons_zero, List.set_cons_succ, List.getElem_toArray, List.getElem_cons_zero, List.getElem_cons_succ]
    refine AllS.next (v := ?_) rfl rfl rfl (by kernel_rfl) ?_ ?_
    rotate_left
    · refine yieldsS_run (fun _ _ h => h.other (by decide) (by decide)) (by rfl) ?_
      intro L wx hS
      go_simp
      try with_reducible rfl
    try simp only [Act.put, List.setIfInBounds_toArray, List.set_cons_zero, List.set_cons_succ, List.getElem_toArray, List.getElem_cons_zero, List.getElem_cons_succ]
    refine AllS.next (v := ?_) rfl rfl rfl (by kernel_rfl) ?_ ?_
    rotate_left
    · refine yieldsS_run (fun _ _ h => h.other (by decide) (by decide)) (by rfl) ?_
      intro L wx hS
      go_simp
      try with_reducible rfl
    try simp only [Act.put, List.setIfInBounds_toArray, List.set_cons_zero, List.set_cons_succ, List.getElem_toArray, List.getElem_cons_zero, List.getElem_cons_succ]
    refine AllS.next (v := ?_) rfl rfl rfl (by kernel_rfl) ?_ ?_
    rotate_left
    · refine yieldsS_run (fun _ _ h => h.other (by decide) (by decide)) (by rfl) ?_
      intro L wx hS
      go_simp
      try with_reducible rfl
    try simp only [Act.put, List.setIfInBounds_toArray, List.set_cons_zero, List.set_cons_succ, List.getElem_toArray, List.getElem_cons_zero, List.getElem_cons_succ]
    refine AllS.next (v := ?_) rfl rfl rfl (by kernel_rfl) ?_ ?_
    rotate_left
    · refine yieldsS_run (fun _ _ h => h.other (by decide) (by decide)) (by rfl) ?_
      intro L wx hS
      go_simp
      try with_reducible rfl
    try simp only [Act.put, List.setIfInBounds_toArray, List.set_cons_zero, List.set_cons_succ, List.getElem_toArray, List.getElem_cons_zero, List.getElem_cons_succ]
    refine AllS.next (v := ?_) rfl rfl rfl (by kernel_rfl) ?_ ?_
    rotate_left
    · refine yieldsS_run (fun _ _ h => h.other (by decide) (by decide)) (by rfl) ?_
      intro L wx hS
      go_simp
      try with_reducible rfl
    try simp only [Act.put, List.setIfInBounds_toArray, List.set_cons_zero, List.set_cons_succ, List.getElem_toArray, List.getElem_cons_zero, List.getElem_cons_succ]
    refine AllS.done rfl ?_
    intro w9 hS9
    have k9 : Bs V SV ga gf gx g0 g1 k a1 x f d w9 := by rw [ha1]; exact (Duo.fin1 hS9 (by rfl)).elim fun _ h => h
    clear hS9 kw
    have cH := half_yes o2 hs (bxg _ _ _ _ _ _ k9)
    obtain ⟨⟨c0, c5, c6⟩, ⟨y0, y1, y2, y3, y4, y5, y6⟩⟩ := bx _ _ _ _ _ _ k9
    simp only at y0 y1 y2 y3 y4 y5 y6
    go_wp2_with (first
      | (go_at_call 38; refine cH.mono ?_; rintro e w1 ⟨rfl, hb1⟩; clear cH c0 c5 c6 y0 y1 y2 y3 y4 y5 y6; have k4 := k9.below hb1; clear k9 hb1; obtain ⟨V5, S5, hV5, k5, hx5⟩ := k4.box 73 #[.pointer (some ⟨gsd g0 g1 o2, 0, none⟩), .int .i64 (bq b.levels o2)]; obtain ⟨hq5, k5x⟩ := hx5 _ _ _ _ _ _ k5; obtain ⟨⟨c0, c5, c6⟩, ⟨y0, y1, y2, y3, y4, y5, y6⟩⟩ := bx _ _ _ _ _ _ k5x; simp only at y0 y1 y2 y3 y4 y5 y6; have e0 := hq5.cell_eq 0 _ rfl; have e1 := hq5.cell_eq 1 _ rfl; have cP := k5.lput hs hwf o3 o4 hq64; rw [hput] at cP; clear hput)
      | (rw [← hV5]; clear hV5)
      | (go_at_call 39; refine cP.mono ?_; rintro e w2 ⟨rfl, k7⟩; clear cP c0 c5 c6 y0 y1 y2 y3 y4 y5 y6 e0 e1 hq5 k5x; rw [← hd1] at k7)
      | fail)
    refine wp_region_S (S := fun L w => Duo 10 9 100 (J5f V5 S5 ga gf gx g0 g1 k a1 x f f1 d1) L w) (by kernel_rfl) (Duo.start 10 9 100 (Bs.below k7 (Below.refl _ _).drew)) ?_
    refine AllS.next (v := ?_) rfl rfl rfl (by kernel_rfl) ?_ ?_
    rotate_left
    · refine yieldsS_run (fun _ _ h => h.other (by decide) (by decide)) (by rfl) ?_
      intro L wx hS
      go_simp
      try with_reducible rfl
    try simp only [Act.put, List.setIfInBounds_toArray, List.set_cons_zero, List.set_cons_succ, List.getElem_toArray, List.getElem_cons_zero, List.getElem_cons_succ]
    refine AllS.next (v := ?_) rfl rfl rfl (by kernel_rfl) ?_ ?_
    rotate_left
    · refine yieldsS_run (fun _ _ h => h.other (by decide) (by decide)) (by rfl) ?_
      intro L wx hS
      go_simp
      try with_reducible rfl
    try simp only [Act.put, List.setIfInBounds_toArray, List.set_cons_zero, List.set_cons_succ, List.getElem_toArray, List.getElem_cons_zero, List.getElem_cons_succ]
    refine AllS.next (v := ?_) rfl rfl rfl (by kernel_rfl) ?_ ?_
    rotate_left
    · refine yieldsS_run (fun _ _ h => h.other (by decide) (by decide)) (by rfl) ?_
      intro L wx hS
      go_simp
      try with_reducible rfl
    try simp only [Act.put, List.setIfInBounds_toArray, List.set_cons_zero, List.set_cons_succ, List.getElem_toArray, List.getElem_cons_zero, List.getElem_cons_succ]
    refine AllS.next (v := ?_) rfl rfl rfl (by kernel_rfl) ?_ ?_
    rotate_left
    · refine yieldsS_run (fun _ _ h => h.other (by decide) (by decide)) (by rfl) ?_
      intro L wx hS
      obtain ⟨hq5, k5x⟩ := hx5 _ _ _ _ _ _ hS.at'
      obtain ⟨⟨c0, c5, c6⟩, ⟨y0, y1, y2, y3, y4, y5, y6⟩⟩ := bx _ _ _ _ _ _ k5x
      simp only at y0 y1 y2 y3 y4 y5 y6
      have e0 := hq5.cell_eq 0 _ rfl
      have e1 := hq5.cell_eq 1 _ rfl
      go_simp
      try with_reducible rfl
    try simp only [Act.put, List.setIfInBounds_toArray, List.set_cons_zero, List.set_cons_succ, List.getElem_toArray, List.getElem_cons_zero, List.getElem_cons_succ]
    refine AllS.next (v := ?_) rfl rfl rfl (by kernel_rfl) ?_ ?_
    rotate_left
    · refine yieldsS_run (fun _ _ h => h.other (by decide) (by decide)) (by rfl) ?_
      intro L wx hS
      go_simp
      try with_reducible rfl
    try simp only [Act.put, List.setIfInBounds_toArray, List.set_cons_zero, List.set_cons_succ, List.getElem_toArray, List.getElem_cons_zero, List.getElem_cons_succ]
    refine AllS.next (v := ?_) rfl rfl rfl (by kernel_rfl) ?_ ?_
    rotate_left
    · refine yieldsS_run (fun _ _ h => h.other (by decide) (by decide)) (by rfl) ?_
      intro L wx hS
      obtain ⟨hq5, k5x⟩ := hx5 _ _ _ _ _ _ hS.at'
      obtain ⟨⟨c0, c5, c6⟩, ⟨y0, y1, y2, y3, y4, y5, y6⟩⟩ := bx _ _ _ _ _ _ k5x
      simp only at y0 y1 y2 y3 y4 y5 y6
      have e0 := hq5.cell_eq 0 _ rfl
      have e1 := hq5.cell_eq 1 _ rfl
      go_simp
      try with_reducible rfl
    try simp only [Act.put, List.setIfInBounds_toArray, List.set_cons_zero, List.set_cons_succ, List.getElem_toArray, List.getElem_cons_zero, List.getElem_cons_succ]
    refine AllS.next (v := ?_) rfl rfl rfl (by kernel_rfl) ?_ ?_
    rotate_left
    · refine yieldsS_run (fun _ _ h => h.other (by decide) (by decide)) (by rfl) ?_
      intro L wx hS
      go_simp
      try with_reducible rfl
    try simp only [Act.put, List.setIfInBounds_toArray, List.set_cons_zero, List.set_cons_succ, List.getElem_toArray, List.getElem_cons_zero, List.getElem_cons_succ]
    refine AllS.next (v := .int .i64 (bq b.levels o2 + u)) rfl rfl rfl (by kernel_rfl) ?_ ?_
    · refine yieldsS_run (fun _ _ h => h.other (by decide) (by decide)) (by rfl) ?_
      intro L wx hS
      try rw [hwr]
      go_simp
      try with_reducible rfl
    try simp only [Act.put, List.setIfInBounds_toArray, List.set_cons_zero, List.set_cons_succ, List.getElem_toArray, List.getElem_cons_zero, List.getElem_cons_succ]
    refine AllS.next (v := ?_) rfl rfl rfl (by kernel_rfl) ?_ ?_
    rotate_left
    · refine yieldsS_run (fun _ _ h => h.other (by decide) (by decide)) (by rfl) ?_
      intro L wx hS
      go_simp
      try with_reducible rfl
    try simp only [Act.put, List.setIfInBounds_toArray, List.set_cons_zero, List.set_cons_succ, List.getElem_toArray, List.getElem_cons_zero, List.getElem_cons_succ]
    refine AllS.next (v := .bool (f.pushB (bq b.levels o2 + u) (i : Int))) rfl rfl rfl (by kernel_rfl) ?_ ?_
    · refine yieldsS_callq (f := 40) (args := #[.pointer (some ⟨gf, 0, none⟩), .int .i64 (bq b.levels o2 + u), .int .i64 (i : Int)]) (by rfl) ?_ ?_
      · intro wx
        go_simp
        try with_reducible rfl
      · intro L wx hL hS
        exact hS.fst hL (by decide) (by decide) (fun _ w h => by rw [hf1]; exact Bs.push h _ _)
    try simp only [Act.put, List.setIfInBounds_toArray, List.set_cons_zero, List.set_cons_succ, List.getElem_toArray, List.getElem_cons_zero, List.getElem_cons_succ]
    refine AllS.done rfl ?_
    intro w9 hS9
    have k8 : Bs V5 S5 ga gf gx g0 g1 k a1 x f1 d1 w9 := (Duo.fin1 hS9 (by rfl)).elim fun _ h => h
    clear hS9 k7
    go_wp2_with fail
    refine wp_region_S (S := fun L w => Duo 9 8 100 (J5x V5 S5 ga gf gx g0 g1 k (k + 1) a1 x x1 f1 d1) L w) (by kernel_rfl) (Duo.start 9 8 100 (Bs.below k8 (Below.refl _ _).drew)) ?_
    refine AllS.next (v := ?_) rfl rfl rfl (by kernel_rfl) ?_ ?_
    rotate_left
    · refine yieldsS_run (fun _ _ h => h.other (by decide) (by decide)) (by rfl) ?_
      intro L wx hS
      go_simp
      try with_reducible rfl
    try simp only [Act.put, List.setIfInBounds_toArray, List.set_cons_zero, List.set_cons_succ, List.getElem_toArray, List.getElem_cons_zero, List.getElem_cons_succ]
    refine AllS.next (v := ?_) rfl rfl rfl (by kernel_rfl) ?_ ?_
    rotate_left
    · refine yieldsS_run (fun _ _ h => h.other (by decide) (by decide)) (by rfl) ?_
      intro L wx hS
      go_simp
      try with_reducible rfl
    try simp only [Act.put, List.setIfInBounds_toArray, List.set_cons_zero, List.set_cons_succ, List.getElem_toArray, List.getElem_cons_zero, List.getElem_cons_succ]
    refine AllS.next (v := ?_) rfl rfl rfl (by kernel_rfl) ?_ ?_
    rotate_left
    · refine yieldsS_run (fun _ _ h => h.other (by decide) (by decide)) (by rfl) ?_
      intro L wx hS
      go_simp
      try with_reducible rfl
    try simp only [Act.put, List.setIfInBounds_toArray, List.set_cons_zero, List.set_cons_succ, List.getElem_toArray, List.getElem_cons_zero, List.getElem_cons_succ]
    refine AllS.next (v := ?_) rfl rfl rfl (by kernel_rfl) ?_ ?_
    rotate_left
    · refine yieldsS_run (fun _ _ h => h.other (by decide) (by decide)) (by rfl) ?_
      intro L wx hS
      obtain ⟨hq5, k5x⟩ := hx5 _ _ _ _ _ _ hS.at'
      obtain ⟨⟨c0, c5, c6⟩, ⟨y0, y1, y2, y3, y4, y5, y6⟩⟩ := bx _ _ _ _ _ _ k5x
      simp only at y0 y1 y2 y3 y4 y5 y6
      have e0 := hq5.cell_eq 0 _ rfl
      have e1 := hq5.cell_eq 1 _ rfl
      go_simp
      try with_reducible rfl
    try simp only [Act.put, List.setIfInBounds_toArray, List.set_cons_zero, List.set_cons_succ, List.getElem_toArray, List.getElem_cons_zero, List.getElem_cons_succ]
    refine AllS.next (v := ?_) rfl rfl rfl (by kernel_rfl) ?_ ?_
    rotate_left
    · refine yieldsS_run (fun _ _ h => h.other (by decide) (by decide)) (by rfl) ?_
      intro L wx hS
      go_simp
      try with_reducible rfl
    try simp only [Act.put, List.setIfInBounds_toArray, List.set_cons_zero, List.set_cons_succ, List.getElem_toArray, List.getElem_cons_zero, List.getElem_cons_succ]
    refine AllS.next (v := ?_) rfl rfl rfl (by kernel_rfl) ?_ ?_
    rotate_left
    · refine yieldsS_run (fun _ _ h => h.other (by decide) (by decide)) (by rfl) ?_
      intro L wx hS
      obtain ⟨hq5, k5x⟩ := hx5 _ _ _ _ _ _ hS.at'
      obtain ⟨⟨c0, c5, c6⟩, ⟨y0, y1, y2, y3, y4, y5, y6⟩⟩ := bx _ _ _ _ _ _ k5x
      simp only at y0 y1 y2 y3 y4 y5 y6
      have e0 := hq5.cell_eq 0 _ rfl
      have e1 := hq5.cell_eq 1 _ rfl
      go_simp
      try with_reducible rfl
    try simp only [Act.put, List.setIfInBounds_toArray, List.set_cons_zero, List.set_cons_succ, List.getElem_toArray, List.getElem_cons_zero, List.getElem_cons_succ]
    refine AllS.next (v := .agg #[.int .i64 0, .int .i64 o0]) rfl rfl rfl (by kernel_rfl) ?_ ?_
    · refine yieldsS_call (f := 42) (args := #[.int .i64 o0]) (by rfl) ?_ ?_
      · intro wx
        go_simp
        try with_reducible rfl
      · intro L wx hS
        exact ((key_any o0 wx).mono fun e w h => ⟨h.1, (hS.keep fun p q h' => Bs.below h' h.2).other (by decide) (by decide)⟩)
    try simp only [Act.put, List.setIfInBounds_toArray, List.set_cons_zero, List.set_cons_succ, List.getElem_toArray, List.getElem_cons_zero, List.getElem_cons_succ]
    refine AllS.next (v := ?_) rfl rfl rfl (by kernel_rfl) ?_ ?_
    rotate_left
    · refine yieldsS_run (fun _ _ h => h.other (by decide) (by decide)) (by rfl) ?_
      intro L wx hS
      go_simp
      try with_reducible rfl
    try simp only [Act.put, List.setIfInBounds_toArray, List.set_cons_zero, List.set_cons_succ, List.getElem_toArray, List.getElem_cons_zero, List.getElem_cons_succ]
    refine AllS.next (v := .bool (ixg x 0 o0).isNone) rfl rfl rfl (by kernel_rfl) ?_ ?_
    · refine yieldsS_callq (f := 41) (args := #[.pointer (some ⟨gx, 0, none⟩), .agg #[.int .i64 0, .int .i64 o0], .int .i64 (i : Int)]) (by rfl) ?_ ?_
      · intro wx
        go_simp
        try with_reducible rfl
      · intro L wx hL hS
        exact hS.fst hL (by decide) (by decide) (fun _ w h => by rw [hx1]; exact Bs.xput h hk hy0 hid hi64)
    try simp only [Act.put, List.setIfInBounds_toArray, List.set_cons_zero, List.set_cons_succ, List.getElem_toArray, List.getElem_cons_zero, List.getElem_cons_succ]
    refine AllS.done rfl ?_
    intro w10 hS10
    have k10 : Bs V5 S5 ga gf gx g0 g1 (k + 1) a1 x1 f1 d1 w10 := (Duo.fin1 hS10 (by rfl)).elim fun _ h => h
    go_wp2_with fail
    go_ret
    exact ⟨rfl, hfin _ (bxW _ _ _ _ _ _ (hx5 _ _ _ _ _ _ k10).2)⟩
  · have hadd : b.add o = b := by unfold Bk.add; rw [if_neg h0]
    rw [hadd]
    have hfin := fun w' hB => h5 w' k _ _ _ _ _ _ hB h2 rfl
    obtain ⟨v, hv⟩ : ∃ v, b.addF o = v := ⟨_, rfl⟩
    rw [hv] at cJ h0 ⊢
    have dv : (v == 0) = false := by simpa using h0
    have bxW := fun k' a' x' f' d' w' q => (hxV k' a' x' f' d' w' q).2
    clear h h1 h2 h3 h4 h5 hxV hBV hadd hv ho
    obtain ⟨o0, o1, o2, o3, o4, o5, o6⟩ := o
    simp only at y0'
    simp only [cOrd] at hV
    simp only [vOrd] at cJ ⊢
    obtain ⟨y0, y1, y2, y3, y4, y5, y6⟩ := y0'
    go_enter Tryd.func21, Tryd.ntmps21
    go_wp2_with (first
      | (rw [← hV]; clear hV)
      | (go_at_call 36; refine cJ.mono ?_; rintro e w1 ⟨rfl, hb1⟩; clear cJ y0 y1 y2 y3 y4 y5 y6; have kw := k1.below hb1; clear k1 hb1)
      | fail)
    go_ret
    obtain ⟨⟨S', hP, hS'⟩, hF⟩ := hfin _ (bxW _ _ _ _ _ _ kw)
    exact ⟨rfl, ⟨S', hP.mono (Nat.le_succ k), hS'⟩, hF⟩
end
end Go.Proofs.YtdmjcjheanedgaaDoor
namespace Go.Proofs.YtdmjcjheanedgaaDoor
open Go.RowKit
set_option linter.unusedSimpArgs false
section
variable {w w' W W0 V : World} {g k lv ga gf gx g0 g1 : Nat} {S T So S0 : Nat → Prop} {b : Bk} {a : Ar} {x : List Ixr} {f : Fq} {d : Int → Ld}
/-- From here on, with what has been laid behind them. -/
theorem Bs.base (h : Bs W0 S0 ga gf gx g0 g1 k a x f d w) (hb : Below w.heap.size w V) : ∃ S, Bs V S ga gf gx g0 g1 k a x f d V ∧ (∀ c, S c → c < w.heap.size) ∧
    ∀ S' : Nat → Prop, (∀ c, S' c → S c ∨ w.heap.size ≤ c) → ∀ k' a' x' f' d' w', Bs V S' ga gf gx g0 g1 k' a' x' f' d' w' → Bs W0 S0 ga gf gx g0 g1 k' a' x' f' d' w' := by
  obtain ⟨Sf, Sx, S1, S2, h1, h2⟩ := h.p
  refine ⟨fun c => ∃ i, own5 ga Sf Sx S1 S2 i c, ⟨Frm.refl _ _, Sf, Sx, S1, S2, h1.below hb, fun i c e => .inl ⟨i, e⟩⟩, fun c ⟨i, e⟩ => h1.lt i c e, fun S' hS' k' a' x' f' d' w' q => ?_⟩
  obtain ⟨Sf', Sx', S1', S2', h3, h4⟩ := q.p
  have hs0 := h.frm.size
  have hs1 := hb.size
  have hm : ∀ c, S' c → S0 c ∨ W0.heap.size ≤ c := fun c e => by
    rcases hS' c e with ⟨i, e'⟩ | e'
    · exact h2 i c e'
    · exact .inr (by omega)
  refine ⟨(h.frm.trans (Frm.of_below (S := fun _ => False) hb) (fun _ e => e.elim)).trans q.frm hm, Sf', Sx', S1', S2', h3, fun i c e => ?_⟩
  rcases h4 i c e with e' | e'
  · exact hm c e'
  · exact .inr (by omega)
theorem Bs.off {q : Nat} (h : Bs V S ga gf gx g0 g1 k a x f d w) (hn : ¬ S q) (hq : q < V.heap.size) (h2 : 2 ≤ q) (hf : Frm (fun c => c = q) w w') : Bs V (fun c => S c ∨ c = q) ga gf gx g0 g1 k a x f d w' := by
  obtain ⟨Sf, Sx, S1, S2, h3, h4⟩ := h.p
  refine ⟨(h.frm.mono (T := fun c => S c ∨ c = q) fun c _ e => .inl e).trans hf (fun c e => .inl (.inr e)), Sf, Sx, S1, S2, h3.frm hf (fun c e => ⟨by omega, fun i e' => ?_⟩), fun i c e => ?_⟩
  · subst e
    rcases h4 i _ e' with e'' | e''
    · exact hn e''
    · omega
  · rcases h4 i c e with e' | e'
    · exact .inl (.inl e')
    · exact .inr e'
theorem Bs.blk {q : Nat} {T : TypeId} {cs : Array Value} (h : Bs V S ga gf gx g0 g1 k a x f d w) (hq : Blk V q T cs) (hn : ¬ S q) : Blk w q T cs := (h.frm.block q hq.lt hn).trans hq
theorem cutBox (W : World) (o : Ord) (n : Int) : ∃ V2 V, V2 = (W.alloc (.cells (cOrd o) 44)).alloc (.cells (cOrd .zero) 44) ∧ V = V2.setCell ⟨W.heap.size, 4, none⟩ (.int .i64 n) ∧ V2.cell? ⟨W.heap.size, 4, none⟩ = some (.int .i64 o.qty) ∧ V2.frozen? ⟨W.heap.size, 4, none⟩ = false ∧
    Below W.heap.size W V ∧ Blk V W.heap.size 44 (cOrd { o with qty := n }) ∧ Blk V (W.heap.size + 1) 44 (cOrd .zero) := by
  have h1 : Blk ((W.alloc (.cells (cOrd o) 44)).alloc (.cells (cOrd .zero) 44)) W.heap.size 44 (cOrd o) := (Blk.new _ _ _).alloc _
  have h2 : Blk ((W.alloc (.cells (cOrd o) 44)).alloc (.cells (cOrd .zero) 44)) (W.heap.size + 1) 44 (cOrd .zero) := Blk.new' (by simp)
  exact ⟨_, _, rfl, rfl, h1.cell_eq 4 _ rfl, h1.free 4, (((Below.refl _ _).alloc (Nat.le_refl _) _).alloc (by simp) _).setCell (p := ⟨W.heap.size, 4, none⟩) (Nat.le_refl _) _, h1.set 4 _, h2.other (by simp) _⟩
set_option maxRecDepth 20000 in
set_option maxHeartbeats 4000000 in
theorem cut_red (o : Ord) (hid : In64 o.id) (y n : Int) (i : Nat) (h3 : Bs W0 S0 ga gf gx g0 g1 k a x f d W) (hg : ∀ k' a' x' f' d' w', Bs W0 S0 ga gf gx g0 g1 k' a' x' f' d' w' → Blk w' g 77 (cBook lv ga gf gx g0 g1)) (hs : o.side = 0 ∨ o.side = 1) (hwf : (d o.side).Wf 500) (ha : a.has i = true) (hw : IntKind.i64.wrap (o.qty - y) = n) (hn : n ≠ 0) :
    Calls Tryd.prog 52 #[.pointer (some ⟨g, 0, none⟩), .int .i64 (i : Int), vOrd o, .int .i64 y] W fun e w' => e = .returned (vOrd { o with qty := n }) ∧ Bs W0 S0 ga gf gx g0 g1 k (a.set i { o with qty := n }) x f (upd d o.side ((d o.side).takeS o.price y false)) w' := by
  obtain ⟨V2, V, hV2, hV, z4, zf, hbV, hq1, hq2⟩ := cutBox W o n
  obtain ⟨SV, k1, hSV, hbk⟩ := h3.base hbV
  have hgl := h3.gl.two
  have bxW : ∀ k' a' x' f' d' w', Bs V SV ga gf gx g0 g1 k' a' x' f' d' w' → Bs W0 S0 ga gf gx g0 g1 k' a' x' f' d' w' := hbk SV fun c e => .inl e
  have bxg : ∀ k' a' x' f' d' w', Bs V SV ga gf gx g0 g1 k' a' x' f' d' w' → Blk w' g 77 (cBook lv ga gf gx g0 g1) := fun k' a' x' f' d' w' q => hg _ _ _ _ _ _ (bxW _ _ _ _ _ _ q)
  have bx : ∀ k' a' x' f' d' w', Bs V SV ga gf gx g0 g1 k' a' x' f' d' w' → Bks g ga gf gx W.heap.size { o with qty := n } w' := fun k' a' x' f' d' w' q => Bks.of (bxg _ _ _ _ _ _ q) (q.blk hq1 fun e => by have := hSV _ e; omega)
  have hl2 := hq2.lt
  have hfin : ∀ k' a' x' f' d' w', Bs V SV ga gf gx g0 g1 k' a' x' f' d' w' → (w'.cell? ⟨W.heap.size + 1, 0, none⟩ = some (.int .i64 0) ∧ w'.cell? ⟨W.heap.size + 1, 1, none⟩ = some (.int .i64 0) ∧ w'.cell? ⟨W.heap.size + 1, 2, none⟩ = some (.int .i64 0) ∧ w'.cell? ⟨W.heap.size + 1, 3, none⟩ = some (.int .i64 0) ∧ w'.cell? ⟨W.heap.size + 1, 4, none⟩ = some (.int .i64 0) ∧ w'.cell? ⟨W.heap.size + 1, 5, none⟩ = some (.int .i64 0) ∧ w'.cell? ⟨W.heap.size + 1, 6, none⟩ = some (.int .i64 0)) ∧ (∀ i, w'.frozen? ⟨W.heap.size + 1, i, none⟩ = false) ∧
      ∀ V2, V2 = (((((((w'.setCell ⟨W.heap.size + 1, 0, none⟩ (.int .i64 o.id)).setCell ⟨W.heap.size + 1, 1, none⟩ (.int .i64 o.owner)).setCell ⟨W.heap.size + 1, 2, none⟩ (.int .i64 o.side)).setCell ⟨W.heap.size + 1, 3, none⟩ (.int .i64 o.price)).setCell ⟨W.heap.size + 1, 4, none⟩ (.int .i64 n)).setCell ⟨W.heap.size + 1, 5, none⟩ (.int .i64 o.flags)).setCell ⟨W.heap.size + 1, 6, none⟩ (.int .i64 o.seq)) → Blk V2 (W.heap.size + 1) 44 (cOrd { o with qty := n }) ∧ Bs W0 S0 ga gf gx g0 g1 k' a' x' f' d' V2 := fun k' a' x' f' d' w' q => by
    obtain ⟨e1, e2, e3⟩ := ordRes0 (q.blk hq2 fun e => by have := hSV _ e; omega) { o with qty := n }
    refine ⟨e1, e2, fun V2 e => ?_⟩
    obtain ⟨e4, e5⟩ := e3 V2 e
    exact ⟨e4, hbk _ (fun c e => e.elim .inl fun e => .inr (by omega)) _ _ _ _ _ _ (q.off (fun e => by have := hSV _ e; omega) hl2 (by omega) e5)⟩
  have z5 : V.cell? ⟨W.heap.size, 4, none⟩ = some (.int .i64 n) := hq1.cell_eq 4 _ rfl
  clear hbk hq1 hq2 h3 hg hbV hSV
  obtain ⟨o0, o1, o2, o3, o4, o5, o6⟩ := o
  simp only at hs hwf hid hw z4 hfin
  simp only [cOrd, Ord.zero] at hV2
  simp only [vOrd]
  have hy0 : In64 0 := by unfold In64; omega
  have hfld := half_field (.pointer (some ⟨gsd g0 g1 o2, 0, none⟩)) (.int .i64 (bq lv o2))
  obtain ⟨d1, hd1⟩ : ∃ d1, d1 = upd d o2 ((d o2).takeS o3 y false) := ⟨_, rfl⟩
  have dn : (n == 0) = false := by simpa using hn
  rw [← hd1]
  go_enter Tryd.func52, Tryd.ntmps52
  go_wp2_with (first
    | (rw [← hV2]; clear hV2)
    | (rw [← hV]; clear hV)
    | fail)
  refine wp_region_S (S := fun L w => Duo 10 9 100 (J5d V SV ga gf gx g0 g1 k a x f d d1) L w) (by kernel_rfl) (Duo.start 10 9 100 (Bs.below k1 (Below.refl _ _).drew)) ?_
  refine AllS.next (v := ?_) rfl rfl rfl (by kernel_rfl) ?_ ?_
  rotate_left
  · refine yieldsS_run (fun _ _ h => h.other (by decide) (by decide)) (by rfl) ?_
    intro L wx hS
    go_simp
    try with_reducible rfl
  try simp only [Act.put, List.setIfInBounds_toArray, List.set_cons_zero, List.set_cons_succ, List.getElem_toArray, List.getElem_cons_zero, List.getElem_cons_succ]
  refine AllS.next (v := ?_) rfl rfl rfl (by kernel_rfl) ?_ ?_
  rotate_left
  · refine yieldsS_run (fun _ _ h => h.other (by decide) (by decide)) (by rfl) ?_
    intro L wx hS
    go_simp
    try with_reducible rfl
  try simp only [Act.put, List.setIfInBounds_toArray, List.set_cons_zero, List.set_cons_succ, List.getElem_toArray, List.getElem_cons_zero, List.getElem_cons_succ]
  refine AllS.next (v := ?_) rfl rfl rfl (by kernel_rfl) ?_ ?_
  rotate_left
  · refine yieldsS_run (fun _ _ h => h.other (by decide) (by decide)) (by rfl) ?_
    intro L wx hS
    obtain ⟨⟨c0, c5, c6⟩, ⟨y0, y1, y2, y3, y4, y5, y6⟩⟩ := bx _ _ _ _ _ _ hS.at'
    simp only at y0 y1 y2 y3 y4 y5 y6
    go_simp
    try with_reducible rfl
  try simp only [Act.put, List.setIfInBounds_toArray, List.set_cons_zero, List.set_cons_succ, List.getElem_toArray, List.getElem_cons_zero, List.getElem_cons_succ]
  refine AllS.next (v := .agg #[.pointer (some ⟨gsd g0 g1 o2, 0, none⟩), .int .i64 (bq lv o2)]) rfl rfl rfl (by kernel_rfl) ?_ ?_
  · refine yieldsS_call (f := 38) (args := #[.pointer (some ⟨g, 0, none⟩), .int .i64 o2]) (by rfl) ?_ ?_
    · intro wx
      go_simp
      try with_reducible rfl
    · intro L wx hS
      exact ((half_yes o2 hs (bxg _ _ _ _ _ _ hS.at')).mono fun e w h => ⟨h.1, (hS.keep fun p q h' => Bs.below h' h.2).other (by decide) (by decide)⟩)
  try simp only [Act.put, List.setIfInBounds_toArray, List.set_cons_zero, List.set_cons_succ, List.getElem_toArray, List.getElem_cons_zero, List.getElem_cons_succ]
  refine AllS.next (v := ?_) rfl rfl rfl (by kernel_rfl) ?_ ?_
  rotate_left
  · refine yieldsS_run (fun _ _ h => h.other (by decide) (by decide)) (by rfl) ?_
    intro L wx hS
    go_simp
    try with_reducible rfl
  try simp only [Act.put, List.setIfInBounds_toArray, List.set_cons_zero, List.set_cons_succ, List.getElem_toArray, List.getElem_cons_zero, List.getElem_cons_succ]
  refine AllS.next (v := ?_) rfl rfl rfl (by kernel_rfl) ?_ ?_
  rotate_left
  · refine yieldsS_run (fun _ _ h => h.other (by decide) (by decide)) (by rfl) ?_
    intro L wx hS
    go_simp
    try with_reducible rfl
  try simp only [Act.put, List.setIfInBounds_toArray, List.set_cons_zero, List.set_cons_succ, List.getElem_toArray, List.getElem_cons_zero, List.getElem_cons_succ]
  refine AllS.next (v := ?_) rfl rfl rfl (by kernel_rfl) ?_ ?_
  rotate_left
  · refine yieldsS_run (fun _ _ h => h.other (by decide) (by decide)) (by rfl) ?_
    intro L wx hS
    obtain ⟨⟨c0, c5, c6⟩, ⟨y0, y1, y2, y3, y4, y5, y6⟩⟩ := bx _ _ _ _ _ _ hS.at'
    simp only at y0 y1 y2 y3 y4 y5 y6
    go_simp
    try with_reducible rfl
  try simp only [Act.put, List.setIfInBounds_toArray, List.set_cons_zero, List.set_cons_succ, List.getElem_toArray, List.getElem_cons_zero, List.getElem_cons_succ]
  refine AllS.next (v := ?_) rfl rfl rfl (by kernel_rfl) ?_ ?_
  rotate_left
  · refine yieldsS_run (fun _ _ h => h.other (by decide) (by decide)) (by rfl) ?_
    intro L wx hS
    go_simp
    try with_reducible rfl
  try simp only [Act.put, List.setIfInBounds_toArray, List.set_cons_zero, List.set_cons_succ, List.getElem_toArray, List.getElem_cons_zero, List.getElem_cons_succ]
  refine AllS.next (v := ?_) rfl rfl rfl (by kernel_rfl) ?_ ?_
  rotate_left
  · refine yieldsS_run (fun _ _ h => h.other (by decide) (by decide)) (by rfl) ?_
    intro L wx hS
    go_simp
    try with_reducible rfl
  try simp only [Act.put, List.setIfInBounds_toArray, List.set_cons_zero, List.set_cons_succ, List.getElem_toArray, List.getElem_cons_zero, List.getElem_cons_succ]
  refine AllS.next (v := .tuple #[.int .i64 ((d o2).takeR o3 y).1, .int .i64 ((d o2).takeR o3 y).2]) rfl rfl rfl (by kernel_rfl) ?_ ?_
  · refine yieldsS_callq (f := 68) (args := #[.pointer (some ⟨gsd g0 g1 o2, 0, none⟩), .int .i64 o3, .int .i64 y, .bool false]) (by rfl) ?_ ?_
    · intro wx
      go_simp
      try with_reducible rfl
    · intro L wx hL hS
      exact hS.fst hL (by decide) (by decide) (fun _ w h => by rw [hd1]; exact Bs.ltake h hs hwf o3 y false)
  try simp only [Act.put, List.setIfInBounds_toArray, List.set_cons_zero, List.set_cons_succ, List.getElem_toArray, List.getElem_cons_zero, List.getElem_cons_succ]
  refine AllS.done rfl ?_
  intro w9 hS9
  have k2 : Bs V SV ga gf gx g0 g1 k a x f d1 w9 := (Duo.fin1 hS9 (by rfl)).elim fun _ h => h
  clear hS9 k1
  go_wp2_with fail
  refine wp_region_S (S := fun L w => Duo 7 6 100 (J5a V SV ga gf gx g0 g1 k a (a.set i ⟨o0, o1, o2, o3, n, o5, o6⟩) x f d1) L w) (by kernel_rfl) (Duo.start 7 6 100 (Bs.below k2 (Below.refl _ _).drew)) ?_
  refine AllS.next (v := ?_) rfl rfl rfl (by kernel_rfl) ?_ ?_
  rotate_left
  · refine yieldsS_run (fun _ _ h => h.other (by decide) (by decide)) (by rfl) ?_
    intro L wx hS
    go_simp
    try with_reducible rfl
  try simp only [Act.put, List.setIfInBounds_toArray, List.set_cons_zero, List.set_cons_succ, List.getElem_toArray, List.getElem_cons_zero, List.getElem_cons_succ]
  refine AllS.next (v := ?_) rfl rfl rfl (by kernel_rfl) ?_ ?_
  rotate_left
  · refine yieldsS_run (fun _ _ h => h.other (by decide) (by decide)) (by rfl) ?_
    intro L wx hS
    go_simp
    try with_reducible rfl
  try simp only [Act.put, List.setIfInBounds_toArray, List.set_cons_zero, List.set_cons_succ, List.getElem_toArray, List.getElem_cons_zero, List.getElem_cons_succ]
  refine AllS.next (v := ?_) rfl rfl rfl (by kernel_rfl) ?_ ?_
  rotate_left
  · refine yieldsS_run (fun _ _ h => h.other (by decide) (by decide)) (by rfl) ?_
    intro L wx hS
    go_simp
    try with_reducible rfl
  try simp only [Act.put, List.setIfInBounds_toArray, List.set_cons_zero, List.set_cons_succ, List.getElem_toArray, List.getElem_cons_zero, List.getElem_cons_succ]
  refine AllS.next (v := ?_) rfl rfl rfl (by kernel_rfl) ?_ ?_
  rotate_left
  · refine yieldsS_run (fun _ _ h => h.other (by decide) (by decide)) (by rfl) ?_
    intro L wx hS
    obtain ⟨⟨c0, c5, c6⟩, ⟨y0, y1, y2, y3, y4, y5, y6⟩⟩ := bx _ _ _ _ _ _ hS.at'
    simp only at y0 y1 y2 y3 y4 y5 y6
    go_simp
    try with_reducible rfl
  try simp only [Act.put, List.setIfInBounds_toArray, List.set_cons_zero, List.set_cons_succ, List.getElem_toArray, List.getElem_cons_zero, List.getElem_cons_succ]
  refine AllS.next (v := ?_) rfl rfl rfl (by kernel_rfl) ?_ ?_
  rotate_left
  · refine yieldsS_run (fun _ _ h => h.other (by decide) (by decide)) (by rfl) ?_
    intro L wx hS
    go_simp
    try with_reducible rfl
  try simp only [Act.put, List.setIfInBounds_toArray, List.set_cons_zero, List.set_cons_succ, List.getElem_toArray, List.getElem_cons_zero, List.getElem_cons_succ]
  refine AllS.next (v := ?_) rfl rfl rfl (by kernel_rfl) ?_ ?_
  rotate_left
  · refine yieldsS_run (fun _ _ h => h.other (by decide) (by decide)) (by rfl) ?_
    intro L wx hS
    obtain ⟨⟨c0, c5, c6⟩, ⟨y0, y1, y2, y3, y4, y5, y6⟩⟩ := bx _ _ _ _ _ _ hS.at'
    simp only at y0 y1 y2 y3 y4 y5 y6
    go_simp
    try with_reducible rfl
  try simp only [Act.put, List.setIfInBounds_toArray, List.set_cons_zero, List.set_cons_succ, List.getElem_toArray, List.getElem_cons_zero, List.getElem_cons_succ]
  refine AllS.next (v := .bool true) rfl rfl rfl (by kernel_rfl) ?_ ?_
  · refine yieldsS_callq (f := 72) (args := #[.pointer (some ⟨ga, 0, none⟩), .int .i64 (i : Int), .agg #[.int .i64 o0, .int .i64 o1, .int .i64 o2, .int .i64 o3, .int .i64 n, .int .i64 o5, .int .i64 o6]]) (by rfl) ?_ ?_
    · intro wx
      go_simp
      try with_reducible rfl
    · intro L wx hL hS
      exact hS.fst hL (by decide) (by decide) (fun _ w h => Bs.set h ha _)
  try simp only [Act.put, List.setIfInBounds_toArray, List.set_cons_zero, List.set_cons_succ, List.getElem_toArray, List.getElem_cons_zero, List.getElem_cons_succ]
  refine AllS.done rfl ?_
  intro w10 hS10
  have k3 : Bs V SV ga gf gx g0 g1 k (a.set i ⟨o0, o1, o2, o3, n, o5, o6⟩) x f d1 w10 := (Duo.fin1 hS10 (by rfl)).elim fun _ h => h
  clear hS10 k2
  obtain ⟨⟨c0, c5, c6⟩, ⟨y0, y1, y2, y3, y4, y5, y6⟩⟩ := bx _ _ _ _ _ _ k3
  simp only at y0 y1 y2 y3 y4 y5 y6
  obtain ⟨⟨z0, z1, z2, z3, z4, z5, z6⟩, zf, hend⟩ := hfin _ _ _ _ _ _ k3
  obtain ⟨V9, hV9⟩ : ∃ V9, V9 = (((((((w10.setCell ⟨W.heap.size + 1, 0, none⟩ (.int .i64 o0)).setCell ⟨W.heap.size + 1, 1, none⟩ (.int .i64 o1)).setCell ⟨W.heap.size + 1, 2, none⟩ (.int .i64 o2)).setCell ⟨W.heap.size + 1, 3, none⟩ (.int .i64 o3)).setCell ⟨W.heap.size + 1, 4, none⟩ (.int .i64 n)).setCell ⟨W.heap.size + 1, 5, none⟩ (.int .i64 o5)).setCell ⟨W.heap.size + 1, 6, none⟩ (.int .i64 o6)) := ⟨_, rfl⟩
  obtain ⟨hB9, hend⟩ := hend V9 hV9
  obtain ⟨u0, u1, u2, u3, u4, u5, u6⟩ := Ord.cells (m := ⟨o0, o1, o2, o3, n, o5, o6⟩) hB9
  simp only at u0 u1 u2 u3 u4 u5 u6
  clear hfin
  go_wp2_with (first
    | (rw [← hV9]; clear hV9)
    | fail)
  refine bodyPost_ret (v := .agg #[.int .i64 o0, .int .i64 o1, .int .i64 o2, .int .i64 o3, .int .i64 n, .int .i64 o5, .int .i64 o6]) ?_ rfl ⟨rfl, hend⟩
  simp [results, Tryd.results52, go_sem, u0, u1, u2, u3, u4, u5, u6]
set_option maxRecDepth 20000 in
set_option maxHeartbeats 4000000 in
theorem cut_gone (o : Ord) (hid : In64 o.id) (y n : Int) (i : Nat) (h3 : Bs W0 S0 ga gf gx g0 g1 k a x f d W) (hg : ∀ k' a' x' f' d' w', Bs W0 S0 ga gf gx g0 g1 k' a' x' f' d' w' → Blk w' g 77 (cBook lv ga gf gx g0 g1)) (hs : o.side = 0 ∨ o.side = 1) (hwf : (d o.side).Wf 500) (ha : a.has i = true) (hw : IntKind.i64.wrap (o.qty - y) = n) (hn : n = 0) :
    Calls Tryd.prog 52 #[.pointer (some ⟨g, 0, none⟩), .int .i64 (i : Int), vOrd o, .int .i64 y] W fun e w' => e = .returned (vOrd { o with qty := n }) ∧ Bs W0 S0 ga gf gx g0 g1 k (a.drop i) (ixDrop x 0 o.id) (f.remS (i : Int)) (upd d o.side ((d o.side).takeS o.price y true)) w' := by
  obtain ⟨V2, V, hV2, hV, z4, zf, hbV, hq1, hq2⟩ := cutBox W o n
  obtain ⟨SV, k1, hSV, hbk⟩ := h3.base hbV
  have hgl := h3.gl.two
  have bxW : ∀ k' a' x' f' d' w', Bs V SV ga gf gx g0 g1 k' a' x' f' d' w' → Bs W0 S0 ga gf gx g0 g1 k' a' x' f' d' w' := hbk SV fun c e => .inl e
  have bxg : ∀ k' a' x' f' d' w', Bs V SV ga gf gx g0 g1 k' a' x' f' d' w' → Blk w' g 77 (cBook lv ga gf gx g0 g1) := fun k' a' x' f' d' w' q => hg _ _ _ _ _ _ (bxW _ _ _ _ _ _ q)
  have bx : ∀ k' a' x' f' d' w', Bs V SV ga gf gx g0 g1 k' a' x' f' d' w' → Bks g ga gf gx W.heap.size { o with qty := n } w' := fun k' a' x' f' d' w' q => Bks.of (bxg _ _ _ _ _ _ q) (q.blk hq1 fun e => by have := hSV _ e; omega)
  have hl2 := hq2.lt
  have hfin : ∀ k' a' x' f' d' w', Bs V SV ga gf gx g0 g1 k' a' x' f' d' w' → (w'.cell? ⟨W.heap.size + 1, 0, none⟩ = some (.int .i64 0) ∧ w'.cell? ⟨W.heap.size + 1, 1, none⟩ = some (.int .i64 0) ∧ w'.cell? ⟨W.heap.size + 1, 2, none⟩ = some (.int .i64 0) ∧ w'.cell? ⟨W.heap.size + 1, 3, none⟩ = some (.int .i64 0) ∧ w'.cell? ⟨W.heap.size + 1, 4, none⟩ = some (.int .i64 0) ∧ w'.cell? ⟨W.heap.size + 1, 5, none⟩ = some (.int .i64 0) ∧ w'.cell? ⟨W.heap.size + 1, 6, none⟩ = some (.int .i64 0)) ∧ (∀ i, w'.frozen? ⟨W.heap.size + 1, i, none⟩ = false) ∧
      ∀ V2, V2 = (((((((w'.setCell ⟨W.heap.size + 1, 0, none⟩ (.int .i64 o.id)).setCell ⟨W.heap.size + 1, 1, none⟩ (.int .i64 o.owner)).setCell ⟨W.heap.size + 1, 2, none⟩ (.int .i64 o.side)).setCell ⟨W.heap.size + 1, 3, none⟩ (.int .i64 o.price)).setCell ⟨W.heap.size + 1, 4, none⟩ (.int .i64 n)).setCell ⟨W.heap.size + 1, 5, none⟩ (.int .i64 o.flags)).setCell ⟨W.heap.size + 1, 6, none⟩ (.int .i64 o.seq)) → Blk V2 (W.heap.size + 1) 44 (cOrd { o with qty := n }) ∧ Bs W0 S0 ga gf gx g0 g1 k' a' x' f' d' V2 := fun k' a' x' f' d' w' q => by
    obtain ⟨e1, e2, e3⟩ := ordRes0 (q.blk hq2 fun e => by have := hSV _ e; omega) { o with qty := n }
    refine ⟨e1, e2, fun V2 e => ?_⟩
    obtain ⟨e4, e5⟩ := e3 V2 e
    exact ⟨e4, hbk _ (fun c e => e.elim .inl fun e => .inr (by omega)) _ _ _ _ _ _ (q.off (fun e => by have := hSV _ e; omega) hl2 (by omega) e5)⟩
  have z5 : V.cell? ⟨W.heap.size, 4, none⟩ = some (.int .i64 n) := hq1.cell_eq 4 _ rfl
  clear hbk hq1 hq2 h3 hg hbV hSV
  obtain ⟨o0, o1, o2, o3, o4, o5, o6⟩ := o
  simp only at hs hwf hid hw z4 hfin
  simp only [cOrd, Ord.zero] at hV2
  simp only [vOrd]
  have hy0 : In64 0 := by unfold In64; omega
  have hfld := half_field (.pointer (some ⟨gsd g0 g1 o2, 0, none⟩)) (.int .i64 (bq lv o2))
  obtain ⟨d1, hd1⟩ : ∃ d1, d1 = upd d o2 ((d o2).takeS o3 y true) := ⟨_, rfl⟩
  have dn : (n == 0) = true := by simpa using hn
  clear hn
  rw [← hd1]
  obtain ⟨f1, hf1⟩ : ∃ f1, f1 = f.remS (i : Int) := ⟨_, rfl⟩
  obtain ⟨x1, hx1⟩ : ∃ x1, x1 = ixDrop x 0 o0 := ⟨_, rfl⟩
  rw [← hf1, ← hx1]
  go_enter Tryd.func52, Tryd.ntmps52
  go_wp2_with (first
    | (rw [← hV2]; clear hV2)
    | (rw [← hV]; clear hV)
    | fail)
  refine wp_region_S (S := fun L w => Duo 10 9 100 (J5d V SV ga gf gx g0 g1 k a x f d d1) L w) (by kernel_rfl) (Duo.start 10 9 100 (Bs.below k1 (Below.refl _ _).drew)) ?_
  refine AllS.next (v := ?_) rfl rfl rfl (by kernel_rfl) ?_ ?_
  rotate_left
  · refine yieldsS_run (fun _ _ h => h.other (by decide) (by decide)) (by rfl) ?_
    intro L wx hS
    go_simp
    try with_reducible rfl
  try simp only [Act.put, List.setIfInBounds_toArray, List.set_cons_zero, List.set_cons_succ, List.getElem_toArray, List.getElem_cons_zero, List.getElem_cons_succ]
  refine AllS.next (v := ?_) rfl rfl rfl (by kernel_rfl) ?_ ?_
  rotate_left
  · refine yieldsS_run (fun _ _ h => h.other (by decide) (by decide)) (by rfl) ?_
    intro L wx hS
    go_simp
    try with_reducible rfl
  try simp only [Act.put, List.setIfInBounds_toArray, List.set_cons_zero, List.set_cons_succ, List.getElem_toArray, List.getElem_cons_zero, List.getElem_cons_succ]
  refine AllS.next (v := ?_) rfl rfl rfl (by kernel_rfl) ?_ ?_
  rotate_left
  · refine yieldsS_run (fun _ _ h => h.other (by decide) (by decide)) (by rfl) ?_
    intro L wx hS
    obtain ⟨⟨c0, c5, c6⟩, ⟨y0, y1, y2, y3, y4, y5, y6⟩⟩ := bx _ _ _ _ _ _ hS.at'
    simp only at y0 y1 y2 y3 y4 y5 y6
    go_simp
    try with_reducible rfl
  try simp only [Act.put, List.setIfInBounds_toArray, List.set_cons_zero, List.set_cons_succ, List.getElem_toArray, List.getElem_cons_zero, List.getElem_cons_succ]
  refine AllS.next (v := .agg #[.pointer (some ⟨gsd g0 g1 o2, 0, none⟩), .int .i64 (bq lv o2)]) rfl rfl rfl (by kernel_rfl) ?_ ?_
  · refine yieldsS_call (f := 38) (args := #[.pointer (some ⟨g, 0, none⟩), .int .i64 o2]) (by rfl) ?_ ?_
    · intro wx
      go_simp
      try with_reducible rfl
    · intro L wx hS
      exact ((half_yes o2 hs (bxg _ _ _ _ _ _ hS.at')).mono fun e w h => ⟨h.1, (hS.keep fun p q h' => Bs.below h' h.2).other (by decide) (by decide)⟩)
  try simp only [Act.put, List.setIfInBounds_toArray, List.set_cons_zero, List.set_cons_succ, List.getElem_toArray, List.getElem_cons_zero, List.getElem_cons_succ]
  refine AllS.next (v := ?_) rfl rfl rfl (by kernel_rfl) ?_ ?_
  rotate_left
  · refine yieldsS_run (fun _ _ h => h.other (by decide) (by decide)) (by rfl) ?_
    intro L wx hS
    go_simp
    try with_reducible rfl
  try simp only [Act.put, List.setIfInBounds_toArray, List.set_cons_zero, List.set_cons_succ, List.getElem_toArray, List.getElem_cons_zero, List.getElem_cons_succ]
  refine AllS.next (v := ?_) rfl rfl rfl (by kernel_rfl) ?_ ?_
  rotate_left
  · refine yieldsS_run (fun _ _ h => h.other (by decide) (by decide)) (by rfl) ?_
    intro L wx hS
    go_simp
    try with_reducible rfl
  try simp only [Act.put, List.setIfInBounds_toArray, List.set_cons_zero, List.set_cons_succ, List.getElem_toArray, List.getElem_cons_zero, List.getElem_cons_succ]
  refine AllS.next (v := ?_) rfl rfl rfl (by kernel_rfl) ?_ ?_
  rotate_left
  · refine yieldsS_run (fun _ _ h => h.other (by decide) (by decide)) (by rfl) ?_
    intro L wx hS
    obtain ⟨⟨c0, c5, c6⟩, ⟨y0, y1, y2, y3, y4, y5, y6⟩⟩ := bx _ _ _ _ _ _ hS.at'
    simp only at y0 y1 y2 y3 y4 y5 y6
    go_simp
    try with_reducible rfl
  try simp only [Act.put, List.setIfInBounds_toArray, List.set_cons_zero, List.set_cons_succ, List.getElem_toArray, List.getElem_cons_zero, List.getElem_cons_succ]
  refine AllS.next (v := ?_) rfl rfl rfl (by kernel_rfl) ?_ ?_
  rotate_left
  · refine yieldsS_run (fun _ _ h => h.other (by decide) (by decide)) (by rfl) ?_
    intro L wx hS
    go_simp
    try with_reducible rfl
  try simp only [Act.put, List.setIfInBounds_toArray, List.set_cons_zero, List.set_cons_succ, List.getElem_toArray, List.getElem_cons_zero, List.getElem_cons_succ]
  refine AllS.next (v := ?_) rfl rfl rfl (by kernel_rfl) ?_ ?_
  rotate_left
  · refine yieldsS_run (fun _ _ h => h.other (by decide) (by decide)) (by rfl) ?_
    intro L wx hS
    go_simp
    try with_reducible rfl
  try simp only [Act.put, List.setIfInBounds_toArray, List.set_cons_zero, List.set_cons_succ, List.getElem_toArray, List.getElem_cons_zero, List.getElem_cons_succ]
  refine AllS.next (v := .tuple #[.int .i64 ((d o2).takeR o3 y).1, .int .i64 ((d o2).takeR o3 y).2]) rfl rfl rfl (by kernel_rfl) ?_ ?_
  · refine yieldsS_callq (f := 68) (args := #[.pointer (some ⟨gsd g0 g1 o2, 0, none⟩), .int .i64 o3, .int .i64 y, .bool true]) (by rfl) ?_ ?_
    · intro wx
      go_simp
      try with_reducible rfl
    · intro L wx hL hS
      exact hS.fst hL (by decide) (by decide) (fun _ w h => by rw [hd1]; exact Bs.ltake h hs hwf o3 y true)
  try simp only [Act.put, List.setIfInBounds_toArray, List.set_cons_zero, List.set_cons_succ, List.getElem_toArray, List.getElem_cons_zero, List.getElem_cons_succ]
  refine AllS.done rfl ?_
  intro w9 hS9
  have k2 : Bs V SV ga gf gx g0 g1 k a x f d1 w9 := (Duo.fin1 hS9 (by rfl)).elim fun _ h => h
  clear hS9 k1
  obtain ⟨⟨c0, c5, c6⟩, ⟨y0, y1, y2, y3, y4, y5, y6⟩⟩ := bx _ _ _ _ _ _ k2
  simp only at y0 y1 y2 y3 y4 y5 y6
  have cR := k2.remove (i : Int)
  rw [← hf1] at cR
  go_wp2_with (first
    | (go_at_call 69; refine cR.mono ?_; rintro e w1 ⟨rfl, k3⟩; clear cR c0 c5 c6 y0 y1 y2 y3 y4 y5 y6 k2)
    | fail)
  refine wp_region_S (S := fun L w => Duo 8 7 100 (J5x V SV ga gf gx g0 g1 k k a x x1 f1 d1) L w) (by kernel_rfl) (Duo.start 8 7 100 (Bs.below k3 (Below.refl _ _).drew)) ?_
  refine AllS.next (v := ?_) rfl rfl rfl (by kernel_rfl) ?_ ?_
  rotate_left
  · refine yieldsS_run (fun _ _ h => h.other (by decide) (by decide)) (by rfl) ?_
    intro L wx hS
    go_simp
    try with_reducible rfl
  try simp only [Act.put, List.setIfInBounds_toArray, List.set_cons_zero, List.set_cons_succ, List.getElem_toArray, List.getElem_cons_zero, List.getElem_cons_succ]
  refine AllS.next (v := ?_) rfl rfl rfl (by kernel_rfl) ?_ ?_
  rotate_left
  · refine yieldsS_run (fun _ _ h => h.other (by decide) (by decide)) (by rfl) ?_
    intro L wx hS
    go_simp
    try with_reducible rfl
  try simp only [Act.put, List.setIfInBounds_toArray, List.set_cons_zero, List.set_cons_succ, List.getElem_toArray, List.getElem_cons_zero, List.getElem_cons_succ]
  refine AllS.next (v := ?_) rfl rfl rfl (by kernel_rfl) ?_ ?_
  rotate_left
  · refine yieldsS_run (fun _ _ h => h.other (by decide) (by decide)) (by rfl) ?_
    intro L wx hS
    go_simp
    try with_reducible rfl
  try simp only [Act.put, List.setIfInBounds_toArray, List.set_cons_zero, List.set_cons_succ, List.getElem_toArray, List.getElem_cons_zero, List.getElem_cons_succ]
  refine AllS.next (v := ?_) rfl rfl rfl (by kernel_rfl) ?_ ?_
  rotate_left
  · refine yieldsS_run (fun _ _ h => h.other (by decide) (by decide)) (by rfl) ?_
    intro L wx hS
    obtain ⟨⟨c0, c5, c6⟩, ⟨y0, y1, y2, y3, y4, y5, y6⟩⟩ := bx _ _ _ _ _ _ hS.at'
    simp only at y0 y1 y2 y3 y4 y5 y6
    go_simp
    try with_reducible rfl
  try simp only [Act.put, List.setIfInBounds_toArray, List.set_cons_zero, List.set_cons_succ, List.getElem_toArray, List.getElem_cons_zero, List.getElem_cons_succ]
  refine AllS.next (v := ?_) rfl rfl rfl (by kernel_rfl) ?_ ?_
  rotate_left
  · refine yieldsS_run (fun _ _ h => h.other (by decide) (by decide)) (by rfl) ?_
    intro L wx hS
    go_simp
    try with_reducible rfl
  try simp only [Act.put, List.setIfInBounds_toArray, List.set_cons_zero, List.set_cons_succ, List.getElem_toArray, List.getElem_cons_zero, List.getElem_cons_succ]
  refine AllS.next (v := ?_) rfl rfl rfl (by kernel_rfl) ?_ ?_
  rotate_left
  · refine yieldsS_run (fun _ _ h => h.other (by decide) (by decide)) (by rfl) ?_
    intro L wx hS
    obtain ⟨⟨c0, c5, c6⟩, ⟨y0, y1, y2, y3, y4, y5, y6⟩⟩ := bx _ _ _ _ _ _ hS.at'
    simp only at y0 y1 y2 y3 y4 y5 y6
    go_simp
    try with_reducible rfl
  try simp only [Act.put, List.setIfInBounds_toArray, List.set_cons_zero, List.set_cons_succ, List.getElem_toArray, List.getElem_cons_zero, List.getElem_cons_succ]
  refine AllS.next (v := .agg #[.int .i64 0, .int .i64 o0]) rfl rfl rfl (by kernel_rfl) ?_ ?_
  · refine yieldsS_call (f := 42) (args := #[.int .i64 o0]) (by rfl) ?_ ?_
    · intro wx
      go_simp
      try with_reducible rfl
    · intro L wx hS
      exact ((key_any o0 wx).mono fun e w h => ⟨h.1, (hS.keep fun p q h' => Bs.below h' h.2).other (by decide) (by decide)⟩)
  try simp only [Act.put, List.setIfInBounds_toArray, List.set_cons_zero, List.set_cons_succ, List.getElem_toArray, List.getElem_cons_zero, List.getElem_cons_succ]
  refine AllS.next (v := .bool (ixg x 0 o0).isSome) rfl rfl rfl (by kernel_rfl) ?_ ?_
  · refine yieldsS_callq (f := 70) (args := #[.pointer (some ⟨gx, 0, none⟩), .agg #[.int .i64 0, .int .i64 o0]]) (by rfl) ?_ ?_
    · intro wx
      go_simp
      try with_reducible rfl
    · intro L wx hL hS
      exact hS.fst hL (by decide) (by decide) (fun _ w h => by rw [hx1]; exact Bs.xdrop h hy0 hid)
  try simp only [Act.put, List.setIfInBounds_toArray, List.set_cons_zero, List.set_cons_succ, List.getElem_toArray, List.getElem_cons_zero, List.getElem_cons_succ]
  refine AllS.done rfl ?_
  intro w10 hS10
  have k4 : Bs V SV ga gf gx g0 g1 k a x1 f1 d1 w10 := (Duo.fin1 hS10 (by rfl)).elim fun _ h => h
  clear hS10 k3
  obtain ⟨⟨c0, c5, c6⟩, ⟨y0, y1, y2, y3, y4, y5, y6⟩⟩ := bx _ _ _ _ _ _ k4
  simp only at y0 y1 y2 y3 y4 y5 y6
  have cD := k4.drop ha
  go_wp2_with (first
    | (go_at_call 71; refine cD.mono ?_; rintro e w11 ⟨rfl, k5⟩; clear cD c0 c5 c6 y0 y1 y2 y3 y4 y5 y6 k4; obtain ⟨⟨c0, c5, c6⟩, ⟨y0, y1, y2, y3, y4, y5, y6⟩⟩ := bx _ _ _ _ _ _ k5; simp only at y0 y1 y2 y3 y4 y5 y6; obtain ⟨⟨z0, z1, z2, z3, z4, z5, z6⟩, zf, hend⟩ := hfin _ _ _ _ _ _ k5; obtain ⟨V9, hV9⟩ : ∃ V9, V9 = (((((((w11.setCell ⟨W.heap.size + 1, 0, none⟩ (.int .i64 o0)).setCell ⟨W.heap.size + 1, 1, none⟩ (.int .i64 o1)).setCell ⟨W.heap.size + 1, 2, none⟩ (.int .i64 o2)).setCell ⟨W.heap.size + 1, 3, none⟩ (.int .i64 o3)).setCell ⟨W.heap.size + 1, 4, none⟩ (.int .i64 n)).setCell ⟨W.heap.size + 1, 5, none⟩ (.int .i64 o5)).setCell ⟨W.heap.size + 1, 6, none⟩ (.int .i64 o6)) := ⟨_, rfl⟩; obtain ⟨hB9, hend⟩ := hend V9 hV9; obtain ⟨u0, u1, u2, u3, u4, u5, u6⟩ := Ord.cells (m := ⟨o0, o1, o2, o3, n, o5, o6⟩) hB9; simp only at u0 u1 u2 u3 u4 u5 u6; clear hfin)
    | (rw [← hV9]; clear hV9)
    | fail)
  refine bodyPost_ret (v := .agg #[.int .i64 o0, .int .i64 o1, .int .i64 o2, .int .i64 o3, .int .i64 n, .int .i64 o5, .int .i64 o6]) ?_ rfl ⟨rfl, hend⟩
  simp [results, Tryd.results52, go_sem, u0, u1, u2, u3, u4, u5, u6]
end
end Go.Proofs.YtdmjcjheanedgaaDoor
namespace Go.Proofs.YtdmjcjheanedgaaDoor
open Go.RowKit
set_option linter.unusedSimpArgs false
section
variable {w w' W W0 V : World} {g k lv ga gf gx g0 g1 : Nat} {S T So S0 : Nat → Prop} {b : Bk} {a : Ar} {x : List Ixr} {f : Fq} {d : Int → Ld}
def Ord.At (w : World) (q : Nat) (o : Ord) : Prop := w.cell? ⟨q, 0, none⟩ = some (.int .i64 o.id) ∧ w.cell? ⟨q, 1, none⟩ = some (.int .i64 o.owner) ∧ w.cell? ⟨q, 2, none⟩ = some (.int .i64 o.side) ∧ w.cell? ⟨q, 3, none⟩ = some (.int .i64 o.price) ∧ w.cell? ⟨q, 4, none⟩ = some (.int .i64 o.qty) ∧ w.cell? ⟨q, 5, none⟩ = some (.int .i64 o.flags) ∧ w.cell? ⟨q, 6, none⟩ = some (.int .i64 o.seq)
/-- Behind find: the box of what is found, the result's box, and the five. -/
theorem cutPre (h3 : Bs W So ga gf gx g0 g1 k a x f d W) (hbV : Below W.heap.size W V) (hBV : Blk V W.heap.size 44 (cOrd .zero)) (o m : Ord) {w1 : World} (h : Below V.heap.size V w1) :
    ∃ V3 SV, V3 = w1.alloc (.cells (cOrd o) 44) ∧ Below W.heap.size W V3 ∧ Bs V3 SV ga gf gx g0 g1 k a x f d V3 ∧ Ord.At V3 w1.heap.size o ∧ (∀ k' a' x' f' d' w', Bs V3 SV ga gf gx g0 g1 k' a' x' f' d' w' → Bs W So ga gf gx g0 g1 k' a' x' f' d' w') ∧
      ∀ k' a' x' f' d' w', Bs V3 SV ga gf gx g0 g1 k' a' x' f' d' w' → Ord.At w' w1.heap.size o ∧ (w'.cell? ⟨W.heap.size, 0, none⟩ = some (.int .i64 0) ∧ w'.cell? ⟨W.heap.size, 1, none⟩ = some (.int .i64 0) ∧ w'.cell? ⟨W.heap.size, 2, none⟩ = some (.int .i64 0) ∧ w'.cell? ⟨W.heap.size, 3, none⟩ = some (.int .i64 0) ∧ w'.cell? ⟨W.heap.size, 4, none⟩ = some (.int .i64 0) ∧ w'.cell? ⟨W.heap.size, 5, none⟩ = some (.int .i64 0) ∧ w'.cell? ⟨W.heap.size, 6, none⟩ = some (.int .i64 0)) ∧ (∀ i, w'.frozen? ⟨W.heap.size, i, none⟩ = false) ∧
        ∀ V9, V9 = (((((((w'.setCell ⟨W.heap.size, 0, none⟩ (.int .i64 m.id)).setCell ⟨W.heap.size, 1, none⟩ (.int .i64 m.owner)).setCell ⟨W.heap.size, 2, none⟩ (.int .i64 m.side)).setCell ⟨W.heap.size, 3, none⟩ (.int .i64 m.price)).setCell ⟨W.heap.size, 4, none⟩ (.int .i64 m.qty)).setCell ⟨W.heap.size, 5, none⟩ (.int .i64 m.flags)).setCell ⟨W.heap.size, 6, none⟩ (.int .i64 m.seq)) → Blk V9 W.heap.size 44 (cOrd m) ∧ Bs W So ga gf gx g0 g1 k' a' x' f' d' V9 := by
  have hn := Blk.new w1 44 (cOrd o)
  have hb1 : Below W.heap.size W w1 := hbV.trans (h.mono hbV.size)
  have hb3 : Below W.heap.size W (w1.alloc (.cells (cOrd o) 44)) := hb1.alloc hb1.size _
  have hq0 : Blk (w1.alloc (.cells (cOrd o) 44)) W.heap.size 44 (cOrd .zero) := (hBV.below h hBV.lt).alloc _
  obtain ⟨SV, k1, hSV, hbk⟩ := h3.base hb3
  have hgl := h3.gl.two
  have hs1 := hb1.size
  refine ⟨_, SV, rfl, hb3, k1, Ord.cells hn, hbk SV fun c e => .inl e, fun k' a' x' f' d' w' q => ?_⟩
  have hr := q.blk hq0 (fun e => by have := hSV _ e; omega)
  obtain ⟨e1, e2, e3⟩ := ordRes0 hr m
  refine ⟨Ord.cells (q.blk hn fun e => by have := hSV _ e; omega), e1, e2, fun V9 e => ?_⟩
  obtain ⟨e4, e5⟩ := e3 V9 e
  exact ⟨e4, hbk _ (fun c e => e.elim .inl fun e => .inr (by omega)) _ _ _ _ _ _ (q.off (fun e => by have := hSV _ e; omega) hq0.lt hgl e5)⟩
set_option maxRecDepth 20000 in
set_option maxHeartbeats 4000000 in
theorem red_no (id y : Int) (g : Nat) (W : World) (z : Ord) (cF0 : ∀ w, Below W.heap.size W w → Calls Tryd.prog 50 #[.pointer (some ⟨g, 0, none⟩), .int .i64 id] w fun e w' => e = .returned (.tuple #[.int .i64 0, vOrd z, .bool false]) ∧ Below w.heap.size w w') :
    Calls Tryd.prog 31 #[.pointer (some ⟨g, 0, none⟩), .int .i64 id, .int .i64 y] W fun e w' => e = .returned (.tuple #[vOrd .zero, .int .i64 5]) ∧ Below W.heap.size W w' := by
  obtain ⟨V, hV, hbV, hBV⟩ := ordBox W .zero
  have cF := cF0 V hbV
  have hnx : ∀ w, Below V.heap.size V w → ∃ V3 V4, V3 = w.alloc (.cells (cOrd z) 44) ∧ V4 = (((((((V3.setCell ⟨W.heap.size, 0, none⟩ (.int .i64 0)).setCell ⟨W.heap.size, 1, none⟩ (.int .i64 0)).setCell ⟨W.heap.size, 2, none⟩ (.int .i64 0)).setCell ⟨W.heap.size, 3, none⟩ (.int .i64 0)).setCell ⟨W.heap.size, 4, none⟩ (.int .i64 0)).setCell ⟨W.heap.size, 5, none⟩ (.int .i64 0)).setCell ⟨W.heap.size, 6, none⟩ (.int .i64 0)) ∧ Ord.At V3 W.heap.size .zero ∧ (∀ i, V3.frozen? ⟨W.heap.size, i, none⟩ = false) ∧ Ord.At V4 W.heap.size .zero ∧ Below W.heap.size W V4 := fun w h => by
    obtain ⟨V3, h1, h2, h3⟩ := ordBox w z
    have hb3 := hbV.trans ((h.trans (h2.mono h.size)).mono hbV.size)
    obtain ⟨V4, e1, e2, -, e3, e4⟩ := ordOut ((hBV.below h hBV.lt).below h2 (Nat.lt_of_lt_of_le hBV.lt h.size)) (Nat.le_refl _) hb3 .zero
    exact ⟨V3, V4, h1, e1, Ord.cells ((hBV.below h hBV.lt).below h2 (Nat.lt_of_lt_of_le hBV.lt h.size)), e2, Ord.cells e3, e4⟩
  simp only [Ord.zero, cOrd] at hV hnx
  obtain ⟨z0, z1, z2, z3, z4, z5, z6⟩ := z
  simp only [vOrd] at cF
  simp only [vOrd, Ord.zero]
  clear cF0 hBV
  go_enter Tryd.func31, Tryd.ntmps31
  go_wp2_with (first
    | (rw [← hV]; clear hV)
    | (go_at_call 50; refine cF.mono ?_; rintro e w1 ⟨rfl, hb1⟩; clear cF; obtain ⟨V3, V4, hV3, hV4, ⟨t0, t1, t2, t3, t4, t5, t6⟩, zf, ⟨u0, u1, u2, u3, u4, u5, u6⟩, hb4⟩ := hnx w1 hb1; simp only at t0 t1 t2 t3 t4 t5 t6 u0 u1 u2 u3 u4 u5 u6; clear hnx)
    | (rw [← hV3]; clear hV3)
    | (rw [← hV4]; clear hV4)
    | fail)
  refine bodyPost_ret (v := .tuple #[.agg #[.int .i64 0, .int .i64 0, .int .i64 0, .int .i64 0, .int .i64 0, .int .i64 0, .int .i64 0], .int .i64 5]) ?_ rfl ⟨rfl, hb4⟩
  simp [results, Tryd.results31, go_sem, u0, u1, u2, u3, u4, u5, u6]
set_option maxRecDepth 20000 in
set_option maxHeartbeats 4000000 in
theorem red_gone (id y n : Int) (hd : In64 id) (h1 : Blk W g 77 (cBook lv ga gf gx g0 g1)) (h3 : Bs W So ga gf gx g0 g1 k a x f d W) (h4 : ∀ w', Frm So W w' → Blk w' g 77 (cBook lv ga gf gx g0 g1)) {i : Nat} {o : Ord} (hx : ixg x 0 id = some (i : Int)) (ha : a.has i = true) (ho : a.O[i]? = some o) (he : o.id = id) (hs : o.side = 0 ∨ o.side = 1) (hwf : (d o.side).Wf 500) (hq : 1 ≤ o.qty ∧ o.qty ≤ 4294967296) (hy1 : 1 ≤ y) (hy2 : y ≤ o.qty) (hn : n = o.qty - y) (hz : n = 0) :
    Calls Tryd.prog 31 #[.pointer (some ⟨g, 0, none⟩), .int .i64 id, .int .i64 y] W fun e w' => e = .returned (.tuple #[vOrd { o with qty := n }, .int .i64 0]) ∧ Bs W So ga gf gx g0 g1 k (a.drop i) (ixDrop x 0 id) (f.remS (i : Int)) (upd d o.side ((d o.side).takeS o.price y true)) w' := by
  obtain ⟨V, hV, hbV, hBV⟩ := ordBox W .zero
  have cF := find_yes id hd (h1.below hbV h1.lt) (h3.here hbV) hx ha ho
  have hpre := fun w1 (h : Below V.heap.size V w1) => cutPre h3 hbV hBV o { o with qty := n } h
  have bxg : ∀ k' a' x' f' d' w', Bs W So ga gf gx g0 g1 k' a' x' f' d' w' → Blk w' g 77 (cBook lv ga gf gx g0 g1) := fun k' a' x' f' d' w' q => h4 w' q.frm
  have hcut := fun (V3 : World) (SV : Nat → Prop) (k1 : Bs V3 SV ga gf gx g0 g1 k a x f d V3) (hbW : ∀ k' a' x' f' d' w', Bs V3 SV ga gf gx g0 g1 k' a' x' f' d' w' → Bs W So ga gf gx g0 g1 k' a' x' f' d' w') => cut_gone o (by rw [he]; exact hd) y n i k1 (fun _ _ _ _ _ _ q => bxg _ _ _ _ _ _ (hbW _ _ _ _ _ _ q)) hs hwf ha (by rw [IntKind.wrap_i64]; omega) hz
  subst he
  clear h1 h3 h4 hx ha ho hs hwf hBV bxg
  obtain ⟨o0, o1, o2, o3, o4, o5, o6⟩ := o
  simp only [Ord.zero, cOrd] at hV
  simp only [cOrd] at hpre
  simp only at hq hpre hcut hy2
  simp only [vOrd] at cF hcut
  simp only [vOrd]
  have d1 : decide (y < 1) = false := decide_eq_false (by omega)
  have d2 : decide (o4 < y) = false := decide_eq_false (by omega)
  clear hy1 hy2 hq hn hz
  go_enter Tryd.func31, Tryd.ntmps31
  go_wp2_with (first
    | (rw [← hV]; clear hV)
    | (go_at_call 50; refine cF.mono ?_; rintro e w1 ⟨rfl, hb1⟩; clear cF; obtain ⟨V3, SV, hV3, hb3, k1, ⟨t0, t1, t2, t3, t4, t5, t6⟩, hbW, hfin⟩ := hpre w1 hb1; have cC := hcut _ _ k1 hbW; clear hpre hcut; simp only at t0 t1 t2 t3 t4 t5 t6)
    | (rw [← hV3]; clear hV3)
    | (go_at_call 52; refine cC.mono ?_; rintro e w5 ⟨rfl, k5⟩; clear cC t0 t1 t2 t3 t4 t5 t6; obtain ⟨⟨t0, t1, t2, t3, t4, t5, t6⟩, ⟨z0, z1, z2, z3, z4, z5, z6⟩, zf, hend⟩ := hfin _ _ _ _ _ _ k5; obtain ⟨V9, hV9⟩ : ∃ V9, V9 = (((((((w5.setCell ⟨W.heap.size, 0, none⟩ (.int .i64 o0)).setCell ⟨W.heap.size, 1, none⟩ (.int .i64 o1)).setCell ⟨W.heap.size, 2, none⟩ (.int .i64 o2)).setCell ⟨W.heap.size, 3, none⟩ (.int .i64 o3)).setCell ⟨W.heap.size, 4, none⟩ (.int .i64 n)).setCell ⟨W.heap.size, 5, none⟩ (.int .i64 o5)).setCell ⟨W.heap.size, 6, none⟩ (.int .i64 o6)) := ⟨_, rfl⟩; obtain ⟨hB9, hend⟩ := hend V9 hV9; obtain ⟨u0, u1, u2, u3, u4, u5, u6⟩ := Ord.cells (m := ⟨o0, o1, o2, o3, n, o5, o6⟩) hB9; simp only at t0 t1 t2 t3 t4 t5 t6 u0 u1 u2 u3 u4 u5 u6; clear hfin)
    | (rw [← hV9]; clear hV9)
    | fail)
  refine bodyPost_ret (v := .tuple #[.agg #[.int .i64 o0, .int .i64 o1, .int .i64 o2, .int .i64 o3, .int .i64 n, .int .i64 o5, .int .i64 o6], .int .i64 0]) ?_ rfl ⟨rfl, hend⟩
  simp [results, Tryd.results31, go_sem, u0, u1, u2, u3, u4, u5, u6]
set_option maxRecDepth 20000 in
set_option maxHeartbeats 4000000 in
theorem red_part (id y n : Int) (hd : In64 id) (h1 : Blk W g 77 (cBook lv ga gf gx g0 g1)) (h3 : Bs W So ga gf gx g0 g1 k a x f d W) (h4 : ∀ w', Frm So W w' → Blk w' g 77 (cBook lv ga gf gx g0 g1)) {i : Nat} {o : Ord} (hx : ixg x 0 id = some (i : Int)) (ha : a.has i = true) (ho : a.O[i]? = some o) (he : o.id = id) (hs : o.side = 0 ∨ o.side = 1) (hwf : (d o.side).Wf 500) (hq : 1 ≤ o.qty ∧ o.qty ≤ 4294967296) (hy1 : 1 ≤ y) (hy2 : y ≤ o.qty) (hn : n = o.qty - y) (hz : n ≠ 0) :
    Calls Tryd.prog 31 #[.pointer (some ⟨g, 0, none⟩), .int .i64 id, .int .i64 y] W fun e w' => e = .returned (.tuple #[vOrd { o with qty := n }, .int .i64 0]) ∧ Bs W So ga gf gx g0 g1 k (a.set i { o with qty := n }) x f (upd d o.side ((d o.side).takeS o.price y false)) w' := by
  obtain ⟨V, hV, hbV, hBV⟩ := ordBox W .zero
  have cF := find_yes id hd (h1.below hbV h1.lt) (h3.here hbV) hx ha ho
  have hpre := fun w1 (h : Below V.heap.size V w1) => cutPre h3 hbV hBV o { o with qty := n } h
  have bxg : ∀ k' a' x' f' d' w', Bs W So ga gf gx g0 g1 k' a' x' f' d' w' → Blk w' g 77 (cBook lv ga gf gx g0 g1) := fun k' a' x' f' d' w' q => h4 w' q.frm
  have hcut := fun (V3 : World) (SV : Nat → Prop) (k1 : Bs V3 SV ga gf gx g0 g1 k a x f d V3) (hbW : ∀ k' a' x' f' d' w', Bs V3 SV ga gf gx g0 g1 k' a' x' f' d' w' → Bs W So ga gf gx g0 g1 k' a' x' f' d' w') => cut_red o (by rw [he]; exact hd) y n i k1 (fun _ _ _ _ _ _ q => bxg _ _ _ _ _ _ (hbW _ _ _ _ _ _ q)) hs hwf ha (by rw [IntKind.wrap_i64]; omega) hz
  subst he
  clear h1 h3 h4 hx ha ho hs hwf hBV bxg
  obtain ⟨o0, o1, o2, o3, o4, o5, o6⟩ := o
  simp only [Ord.zero, cOrd] at hV
  simp only [cOrd] at hpre
  simp only at hq hpre hcut hy2
  simp only [vOrd] at cF hcut
  simp only [vOrd]
  have d1 : decide (y < 1) = false := decide_eq_false (by omega)
  have d2 : decide (o4 < y) = false := decide_eq_false (by omega)
  clear hy1 hy2 hq hn hz
  go_enter Tryd.func31, Tryd.ntmps31
  go_wp2_with (first
    | (rw [← hV]; clear hV)
    | (go_at_call 50; refine cF.mono ?_; rintro e w1 ⟨rfl, hb1⟩; clear cF; obtain ⟨V3, SV, hV3, hb3, k1, ⟨t0, t1, t2, t3, t4, t5, t6⟩, hbW, hfin⟩ := hpre w1 hb1; have cC := hcut _ _ k1 hbW; clear hpre hcut; simp only at t0 t1 t2 t3 t4 t5 t6)
    | (rw [← hV3]; clear hV3)
    | (go_at_call 52; refine cC.mono ?_; rintro e w5 ⟨rfl, k5⟩; clear cC t0 t1 t2 t3 t4 t5 t6; obtain ⟨⟨t0, t1, t2, t3, t4, t5, t6⟩, ⟨z0, z1, z2, z3, z4, z5, z6⟩, zf, hend⟩ := hfin _ _ _ _ _ _ k5; obtain ⟨V9, hV9⟩ : ∃ V9, V9 = (((((((w5.setCell ⟨W.heap.size, 0, none⟩ (.int .i64 o0)).setCell ⟨W.heap.size, 1, none⟩ (.int .i64 o1)).setCell ⟨W.heap.size, 2, none⟩ (.int .i64 o2)).setCell ⟨W.heap.size, 3, none⟩ (.int .i64 o3)).setCell ⟨W.heap.size, 4, none⟩ (.int .i64 n)).setCell ⟨W.heap.size, 5, none⟩ (.int .i64 o5)).setCell ⟨W.heap.size, 6, none⟩ (.int .i64 o6)) := ⟨_, rfl⟩; obtain ⟨hB9, hend⟩ := hend V9 hV9; obtain ⟨u0, u1, u2, u3, u4, u5, u6⟩ := Ord.cells (m := ⟨o0, o1, o2, o3, n, o5, o6⟩) hB9; simp only at t0 t1 t2 t3 t4 t5 t6 u0 u1 u2 u3 u4 u5 u6; clear hfin)
    | (rw [← hV9]; clear hV9)
    | fail)
  refine bodyPost_ret (v := .tuple #[.agg #[.int .i64 o0, .int .i64 o1, .int .i64 o2, .int .i64 o3, .int .i64 n, .int .i64 o5, .int .i64 o6], .int .i64 0]) ?_ rfl ⟨rfl, hend⟩
  simp [results, Tryd.results31, go_sem, u0, u1, u2, u3, u4, u5, u6]
set_option maxRecDepth 20000 in
set_option maxHeartbeats 4000000 in
theorem red_range (id y : Int) (hd : In64 id) (h1 : Blk W g 77 (cBook lv ga gf gx g0 g1)) (h3 : Bs W So ga gf gx g0 g1 k a x f d W) (_h4 : ∀ w', Frm So W w' → Blk w' g 77 (cBook lv ga gf gx g0 g1)) {i : Nat} {o : Ord} (hx : ixg x 0 id = some (i : Int)) (ha : a.has i = true) (ho : a.O[i]? = some o) (he : o.id = id) (_hs : o.side = 0 ∨ o.side = 1) (_hwf : (d o.side).Wf 500) (hq : 1 ≤ o.qty ∧ o.qty ≤ 4294967296) (hy : y < 1 ∨ o.qty < y) :
    Calls Tryd.prog 31 #[.pointer (some ⟨g, 0, none⟩), .int .i64 id, .int .i64 y] W fun e w' => e = .returned (.tuple #[vOrd .zero, .int .i64 9]) ∧ Bs W So ga gf gx g0 g1 k a x f d w' := by
  obtain ⟨V, hV, hbV, hBV⟩ := ordBox W .zero
  have cF := find_yes id hd (h1.below hbV h1.lt) (h3.here hbV) hx ha ho
  have hpre := fun w1 (h : Below V.heap.size V w1) => cutPre h3 hbV hBV o .zero h
  subst he
  clear h1 h3 hx ha ho hBV
  obtain ⟨o0, o1, o2, o3, o4, o5, o6⟩ := o
  simp only [Ord.zero, cOrd] at hV
  simp only [cOrd, Ord.zero] at hpre
  simp only at hq hpre hy
  simp only [vOrd] at cF
  simp only [vOrd, Ord.zero]
  have dd : decide (y < 1) = true ∨ (decide (y < 1) = false ∧ decide (o4 < y) = true) := by
    by_cases h : y < 1
    · exact .inl (decide_eq_true h)
    · exact .inr ⟨decide_eq_false h, decide_eq_true (by omega)⟩
  clear hy hq
  rcases dd with d1 | ⟨d1, d2⟩
  all_goals
    go_enter Tryd.func31, Tryd.ntmps31
    go_wp2_with (first
      | (rw [← hV]; clear hV)
      | (go_at_call 50; refine cF.mono ?_; rintro e w1 ⟨rfl, hb1⟩; clear cF; obtain ⟨V3, SV, hV3, hb3, k1, ⟨t0, t1, t2, t3, t4, t5, t6⟩, hbW, hfin⟩ := hpre w1 hb1; clear hpre; obtain ⟨-, ⟨z0, z1, z2, z3, z4, z5, z6⟩, zf, hend⟩ := hfin _ _ _ _ _ _ k1; obtain ⟨V9, hV9⟩ : ∃ V9, V9 = (((((((V3.setCell ⟨W.heap.size, 0, none⟩ (.int .i64 0)).setCell ⟨W.heap.size, 1, none⟩ (.int .i64 0)).setCell ⟨W.heap.size, 2, none⟩ (.int .i64 0)).setCell ⟨W.heap.size, 3, none⟩ (.int .i64 0)).setCell ⟨W.heap.size, 4, none⟩ (.int .i64 0)).setCell ⟨W.heap.size, 5, none⟩ (.int .i64 0)).setCell ⟨W.heap.size, 6, none⟩ (.int .i64 0)) := ⟨_, rfl⟩; obtain ⟨hB9, hend⟩ := hend V9 hV9; obtain ⟨u0, u1, u2, u3, u4, u5, u6⟩ := Ord.cells (m := ⟨0, 0, 0, 0, 0, 0, 0⟩) hB9; simp only at t0 t1 t2 t3 t4 t5 t6 u0 u1 u2 u3 u4 u5 u6; clear hfin hbW)
      | (rw [← hV3]; clear hV3)
      | (rw [← hV9]; clear hV9)
      | fail)
    refine bodyPost_ret (v := .tuple #[.agg #[.int .i64 0, .int .i64 0, .int .i64 0, .int .i64 0, .int .i64 0, .int .i64 0, .int .i64 0], .int .i64 9]) ?_ rfl ⟨rfl, hend⟩
    simp [results, Tryd.results31, go_sem, u0, u1, u2, u3, u4, u5, u6]
theorem pb_redq (id y : Int) (hd : In64 id) (h : PB W g S k b) : Calls Tryd.prog 31 #[.pointer (some ⟨g, 0, none⟩), .int .i64 id, .int .i64 y] W fun e w' => e = .returned (.tuple #[vOrd (b.redF id y).1, .int .i64 (b.redF id y).2]) ∧ (∃ S', PB w' g S' (k + 1) (b.red id y) ∧ ∀ c, S' c → S c ∨ W.heap.size ≤ c) ∧ Frm S W w' := by
  obtain ⟨ga, gf, gx, g0, g1, Z, a, x, f, d, So, h1, h2, h3, h4, h5⟩ := h.open
  rcases h2.find id with ⟨hf, hx, -⟩ | ⟨n, i, o, hf, hz, hbo, he, hx, -, hi, ha, ho, hok⟩
  · have e1 : b.redF id y = (.zero, 5) := by unfold Bk.redF; rw [hf]
    have e2 : b.red id y = b := by unfold Bk.red; rw [hf]
    rw [e1, e2]
    refine (red_no id y g W .zero fun w hb => find_no id hd (h1.below hb h1.lt) (h3.here hb) hx).mono ?_
    rintro e w' ⟨he, hb⟩
    obtain ⟨⟨S', hP, hS'⟩, hF⟩ := h5 w' k _ _ _ _ _ _ (h3.below hb) h2 rfl
    exact ⟨he, ⟨S', hP.mono (Nat.le_succ k), hS'⟩, hF⟩
  · have hs := hok.side
    have hwf := (h2.l o.side hs).wf
    have hq : 1 ≤ o.qty ∧ o.qty ≤ 4294967296 := ⟨hok.q1, hok.q2⟩
    by_cases hr : y < 1 ∨ o.qty < y
    · have e1 : b.redF id y = (.zero, 9) := by unfold Bk.redF; rw [hf]; simp [hbo, hr]
      have e2 : b.red id y = b := by unfold Bk.red; rw [hf]; simp [hbo, hr]
      rw [e1, e2]
      refine (red_range id y hd h1 h3 h4 hx ha ho he hs hwf hq hr).mono ?_
      rintro e w' ⟨he, hB⟩
      obtain ⟨⟨S', hP, hS'⟩, hF⟩ := h5 w' k _ _ _ _ _ _ hB h2 rfl
      exact ⟨he, ⟨S', hP.mono (Nat.le_succ k), hS'⟩, hF⟩
    · have e1 : b.redF id y = ({ o with qty := o.qty - y }, 0) := by unfold Bk.redF; rw [hf]; simp [hbo, hr]
      rw [e1]
      by_cases hz0 : o.qty = y
      · have e2 : b.red id y = { b with L := b.L.eraseIdx n } := by unfold Bk.red; rw [hf]; simp only [hbo, Option.getD_some]; rw [if_neg hr, if_pos hz0]
        rw [e2]
        obtain ⟨-, u, -, -, hR⟩ := h2.rem hf hz
        refine (red_gone id y (o.qty - y) hd h1 h3 h4 hx ha ho he hs hwf hq (by omega) (by omega) rfl (by omega)).mono ?_
        rintro e w' ⟨he, hB⟩
        rw [← hz0] at hB
        obtain ⟨⟨S', hP, hS'⟩, hF⟩ := h5 w' k _ _ _ _ _ _ hB hR rfl
        exact ⟨he, ⟨S', hP.mono (Nat.le_succ k), hS'⟩, hF⟩
      · have e2 : b.red id y = { b with L := b.L.set n { o with qty := o.qty - y } } := by unfold Bk.red; rw [hf]; simp only [hbo, Option.getD_some]; rw [if_neg hr, if_neg hz0]
        rw [e2]
        obtain ⟨-, u, -, hR⟩ := h2.red hz (by omega : 1 ≤ y) (by omega)
        refine (red_part id y (o.qty - y) hd h1 h3 h4 hx ha ho he hs hwf hq (by omega) (by omega) rfl (by omega)).mono ?_
        rintro e w' ⟨he, hB⟩
        obtain ⟨⟨S', hP, hS'⟩, hF⟩ := h5 w' k _ _ _ _ _ _ hB hR rfl
        exact ⟨he, ⟨S', hP.mono (Nat.le_succ k), hS'⟩, hF⟩
end
end Go.Proofs.YtdmjcjheanedgaaDoor
namespace Go.Proofs.YtdmjcjheanedgaaDoor
open Go.RowKit
set_option linter.unusedSimpArgs false
theorem newPl {w : World} {g : Nat} {S : Nat → Prop} {buy : Bool} {n : Nat} {F : List Nat} (h : PmB w g S none none 0 buy [] F) (hB : Bits F fun q => decide (q < n)) (hn : n ≤ 200) : PL w g S ⟨buy, n, []⟩ :=
  ⟨none, none, 0, [], F, h, Sord.nil buy, hB.congr fun q _ => (frb_nil n q).symm, hn⟩
/-- What New has made so far. -/
structure Nwb (W w : World) (n m q ga gf gx : Nat) (Sx Sf : Nat → Prop) : Prop where
  ix : PX w gx Sx 0 []
  xs : ∀ c, Sx c → W.heap.size ≤ c ∧ c < q
  ar : PAr w ga (Ar.new n)
  qa : q < ga
  fi : PFi w gf Sf (Fq.new n (2 * m))
  fs : ∀ c, Sf c → ga < c
  below : Below W.heap.size W w
  wq : W.heap.size ≤ q
  w0 : 2 ≤ W.heap.size
section
variable {W w w' : World} {n m q ga gf gx : Nat} {Sx Sf : Nat → Prop}
theorem Nwb.turn (h : Nwb W w n m q ga gf gx Sx Sf) (hf : Frm (fun c => c = q) w w') : Nwb W w' n m q ga gf gx Sx Sf := by
  have hq := h.qa
  have hw := h.wq
  exact ⟨h.ix.frmT hf (fun c e e' => by have := (h.xs c e').2; omega), h.xs, h.ar.frm hf (by show ¬ ga = q; omega), h.qa, h.fi.frm hf (fun c e => ⟨by have := h.w0; omega, fun e' => by have := h.fs c e'; omega⟩), h.fs, h.below.trans (hf.below h.below.size (fun c e => by omega)), h.wq, h.w0⟩
end
/-- How far the loop has come. -/
def NewSt (W : World) (n m q ga gf gx : Nat) (Sx Sf : Nat → Prop) : Nat → World → Prop
  | 0, w => Nwb W w n m q ga gf gx Sx Sf ∧ Blk w q 77 #[.pointer (some ⟨ga, 0, none⟩), .pointer none, .int .i64 0, .pointer none, .int .i64 0, .pointer (some ⟨gf, 0, none⟩), .pointer (some ⟨gx, 0, none⟩)]
  | 1, w => ∃ g0 S0 B1, Nwb W w n m q ga gf gx Sx Sf ∧ Blk w q 77 #[.pointer (some ⟨ga, 0, none⟩), .pointer (some ⟨g0, 0, none⟩), .int .i64 0, .pointer none, .int .i64 0, .pointer (some ⟨gf, 0, none⟩), .pointer (some ⟨gx, 0, none⟩)] ∧ PL w g0 S0 ⟨true, m, []⟩ ∧ (∀ c, Sf c → c < B1) ∧ (∀ c, S0 c → B1 ≤ c) ∧ ga < B1 ∧ B1 ≤ w.heap.size
  | _, w => ∃ g0 S0 B1 g1 S1 B2, Nwb W w n m q ga gf gx Sx Sf ∧ Blk w q 77 #[.pointer (some ⟨ga, 0, none⟩), .pointer (some ⟨g0, 0, none⟩), .int .i64 0, .pointer (some ⟨g1, 0, none⟩), .int .i64 (m : Int), .pointer (some ⟨gf, 0, none⟩), .pointer (some ⟨gx, 0, none⟩)] ∧ PL w g0 S0 ⟨true, m, []⟩ ∧ (∀ c, Sf c → c < B1) ∧ (∀ c, S0 c → B1 ≤ c) ∧ ga < B1 ∧ PL w g1 S1 ⟨false, m, []⟩ ∧ (∀ c, S0 c → c < B2) ∧ (∀ c, S1 c → B2 ≤ c) ∧ B1 ≤ B2
section
variable {W w w' : World} {n m q ga gf gx : Nat} {Sx Sf : Nat → Prop}
theorem NewSt.fin (h : NewSt W n m q ga gf gx Sx Sf 2 w) (h1 : 1 ≤ n) (h2 : n ≤ 500) (h3 : 1 ≤ m) (h4 : m ≤ 200) : ∃ S, PB w q S 0 (Bk.new n m) ∧ Below W.heap.size W w ∧ ∀ c, S c → W.heap.size ≤ c := by
  obtain ⟨g0, S0, B1, g1, S1, B2, k, hB, l0, a1, a2, a3, l1, a4, a5, a6⟩ := h
  have hq := k.qa
  have hw := k.wq
  have hw2 : 2 ≤ q := by have := k.w0; omega
  have hdj : ∀ i c, own5 ga Sf Sx S0 S1 i c → (i = 0 ∧ c = ga) ∨ (i = 1 ∧ ga < c ∧ c < B1) ∨ (i = 2 ∧ W.heap.size ≤ c ∧ c < q) ∨ (i = 3 ∧ B1 ≤ c ∧ c < B2) ∨ (i = 4 ∧ B2 ≤ c) := by
    rintro i c (⟨rfl, e⟩ | ⟨rfl, e⟩ | ⟨rfl, e⟩ | ⟨rfl, e⟩ | ⟨rfl, e⟩)
    · exact .inl ⟨rfl, e⟩
    · exact .inr (.inl ⟨rfl, k.fs c e, a1 c e⟩)
    · exact .inr (.inr (.inl ⟨rfl, k.xs c e⟩))
    · exact .inr (.inr (.inr (.inl ⟨rfl, a2 c e, a4 c e⟩)))
    · exact .inr (.inr (.inr (.inr ⟨rfl, a5 c e⟩)))
  have hgl := k.fi.gl
  refine ⟨fun c => c = q ∨ ∃ i, own5 ga Sf Sx S0 S1 i c, ⟨ga, gf, gx, g0, g1, Sf, Sx, S0, S1, [], Ar.new n, [], Fq.new n (2 * m), fun s => ⟨decide (s = 0), m, []⟩, hB, ⟨k.ar, k.fi, k.ix, l0, l1, ?_, ?_⟩, Rl.new h1 h2 h3 h4, hw2, fun i e => ?_, rfl⟩, k.below, ?_⟩
  · intro i j c hi hj
    have := hdj i c hi
    have := hdj j c hj
    omega
  · intro i c hi
    have := hdj i c hi
    have := k.w0
    omega
  · have := hdj i q e
    omega
  · rintro c (rfl | ⟨i, e⟩)
    · exact hw
    · have := hdj i c e
      omega
set_option maxRecDepth 20000 in
set_option maxHeartbeats 4000000 in
theorem pb_new (n m : Nat) (h1 : 1 ≤ n) (h2 : n ≤ 500) (h3 : 1 ≤ m) (h4 : m ≤ 200) (W : World) (hG : Gl W) : Calls Tryd.prog 19 #[.int .i64 n, .int .i64 m] W fun e w' => ∃ g S, e = .returned (.tuple #[.pointer (some ⟨g, 0, none⟩), .int .i64 0]) ∧ PB w' g S 0 (Bk.new n m) ∧ Below W.heap.size W w' ∧ ∀ c, S c → W.heap.size ≤ c := by
  have cX := xnew_any W
  have cA := fun w => new_any n h1 h2 w
  have cF : ∀ w, Gl w → Calls Tryd.prog 34 #[.int .i64 (n : Int), .int .i64 (2 * (m : Int))] w fun e w' => e = .returned (.tuple #[.pointer (some ⟨w.heap.size + 1 + 1 + 1, 0, none⟩), .int .i64 0]) ∧ Below w.heap.size w w' ∧ ∃ Sf, PFi w' (w.heap.size + 1 + 1 + 1) Sf (Fq.new n (2 * m)) ∧ ∀ c, Sf c → w.heap.size ≤ c := fun w hG => by
    have := fnew_any n (2 * m) h1 h2 (by omega) (by omega) w hG
    rw [show ((2 * m : Nat) : Int) = 2 * (m : Int) by omega] at this
    exact this.mono fun e w' ⟨he, hb, bl, be, bs, K, E, Z, hQ, hM, hF⟩ => ⟨he, hb, _, ⟨bl, be, bs, K, E, Z, hM, hF, rfl⟩, hQ⟩
  have cL : ∀ buy w, Calls Tryd.prog 35 #[.int .i64 (sdI buy), .int .i64 (m : Int)] w fun e w' => ∃ g S, e = .returned (.tuple #[.pointer (some ⟨g, 0, none⟩), .int .i64 0]) ∧ PL w' g S ⟨buy, m, []⟩ ∧ Below w.heap.size w w' ∧ ∀ b, S b → w.heap.size ≤ b := fun buy w =>
    (pnew_any buy m h3 h4 w).mono fun e w' ⟨g, S, F, he, h1, h2, h3, h5⟩ => ⟨g, S, he, newPl h1 h2 h4, h3, h5⟩
  have d0 : decide ((n : Int) < 1) = false := decide_eq_false (by omega)
  have d1 : decide (500 < (n : Int)) = false := decide_eq_false (by omega)
  have d2 : decide ((m : Int) < 1) = false := decide_eq_false (by omega)
  have d3 : decide (200 < (m : Int)) = false := decide_eq_false (by omega)
  have hw2 : IntKind.i64.wrap (2 * (m : Int)) = 2 * (m : Int) := by rw [IntKind.wrap_i64]; omega
  have hwm : IntKind.i64.wrap (m : Int) = (m : Int) := by rw [IntKind.wrap_i64]; omega
  have hG2 := hG.two
  have hn := Lib.hid (And.intro h1 (And.intro h2 (And.intro h3 h4)))
  clear h1 h2 h3 h4
  go_enter Tryd.func19, Tryd.ntmps19
  go_wp2_with (first
    | (go_at_call 32; refine cX.mono ?_; rintro e w1 ⟨gx, Sx, rfl, kX, kXs, hb1⟩; clear cX; have hXl := kX.lt; obtain ⟨V1, hV1⟩ : ∃ V1, V1 = w1.alloc (.cells #[.pointer none, .pointer none, .int .i64 0, .pointer none, .int .i64 0, .pointer none, .pointer (some ⟨gx, 0, none⟩)] 77) := ⟨_, rfl⟩; have hV1s := Lib.hid (show V1.heap.size = w1.heap.size + 1 by rw [hV1]; simp); have hbV1 : Below w1.heap.size w1 V1 := (by rw [hV1]; exact (Below.refl _ _).alloc (Nat.le_refl _) _); have hq1 : Blk V1 w1.heap.size 77 #[.pointer none, .pointer none, .int .i64 0, .pointer none, .int .i64 0, .pointer none, .pointer (some ⟨gx, 0, none⟩)] := (by rw [hV1]; exact Blk.new _ _ _))
    | (go_at_call 33; rw [← hV1]; refine (cA V1).mono ?_; rintro e w2 ⟨rfl, hb2, c, hBA, hAr⟩; clear cA hV1; have hb2z : w1.heap.size ≤ w2.heap.size := (by have := hb2.size; have := hbV1.size; omega); have hq2 := hq1.below hb2 hq1.lt; have c0 := hq2.cell_eq 0 _ rfl; have f0 := hq2.free 0; obtain ⟨V2, hV2⟩ : ∃ V2, V2 = w2.setCell ⟨w1.heap.size, 0, none⟩ (.pointer (some ⟨V1.heap.size, 0, none⟩)) := ⟨_, rfl⟩; have hq3 := hq2.set 0 (.pointer (some ⟨V1.heap.size, 0, none⟩)); rw [← hV2] at hq3; have hf2 : Frm (fun c => c = w1.heap.size) w2 V2 := (by rw [hV2]; exact (Frm.refl _ _).setCell _ _ (.inl rfl)); clear hq2 hq1)
    | (go_at_call 34; rw [← hV2]; refine (cF V2 (hG.below (hb1.trans (((hbV1.trans (hb2.mono hbV1.size)).trans (hf2.below hb2z (fun c e => by omega))).mono hb1.size)))).mono ?_; rintro e w3 ⟨rfl, hb3, Sf, hFi, hSf⟩; clear cF hV2 c0 f0; have hq4 := hq3.below hb3 hq3.lt; have c5 := hq4.cell_eq 5 _ rfl; have f5 := hq4.free 5; obtain ⟨V3, hV3⟩ : ∃ V3, V3 = w3.setCell ⟨w1.heap.size, 5, none⟩ (.pointer (some ⟨V2.heap.size + 1 + 1 + 1, 0, none⟩)) := ⟨_, rfl⟩; have hq5 := hq4.set 5 (.pointer (some ⟨V2.heap.size + 1 + 1 + 1, 0, none⟩)); rw [← hV3] at hq5; have hf3 : Frm (fun c => c = w1.heap.size) w3 V3 := (by rw [hV3]; exact (Frm.refl _ _).setCell _ _ (.inl rfl)); clear hq4 hq3)
    | fail)
  rw [← hV3]
  have hs12 := hb1.size
  have hsV1 := hbV1.size
  have hs2 := hb2.size
  have hsV2 := hf2.size
  have hs3 := hb3.size
  have hlt1 : w1.heap.size < V1.heap.size := by rw [hV1s.out]; omega
  have hF : Frm (fun c => c = w1.heap.size) V1 V3 := ((Frm.of_below (S := fun c => c = w1.heap.size) hb2).trans hf2 (fun c e => .inl e)).trans ((Frm.of_below (S := fun c => c = w1.heap.size) hb3).trans hf3 (fun c e => .inl e)) (fun c e => .inl e)
  have hF2 : Frm (fun c => c = w1.heap.size) w2 V3 := hf2.trans ((Frm.of_below (S := fun c => c = w1.heap.size) hb3).trans hf3 (fun c e => .inl e)) (fun c e => .inl e)
  have k0 : NewSt W n m w1.heap.size V1.heap.size (V2.heap.size + 1 + 1 + 1) gx Sx Sf 0 V3 := by
    refine ⟨⟨(kX.below hbV1).frmT hF (fun c e e' => by have := hXl c e'; omega), fun c e => ⟨kXs c e, hXl c e⟩, PAr.frm ⟨c, hBA, hAr⟩ hF2 (by omega), hlt1, hFi.frm hf3 (fun c e => ⟨by omega, fun e' => by have := hSf c e'; omega⟩), fun c e => by have := hSf c e; have := hBA.lt; omega, ?_, hs12, by omega⟩, hq5⟩
    exact hb1.trans ((hbV1.trans ((hF.below hsV1 (fun c e => by omega)))).mono hs12)
  clear kX kXs hXl hb1 hbV1 hb2 hb3 hBA hAr hFi hSf hf2 hf3 hF hF2 hq5 hV3 c5 f5
  go_loopg [43] 2 (fun j p43 wr => ∃ q : Nat, q + j = 2 ∧ p43 = .int .i64 (q : Int) ∧ NewSt W n m w1.heap.size V1.heap.size (V2.heap.size + 1 + 1 + 1) gx Sx Sf q wr)
  case atStart => exact ⟨0, by omega, rfl, k0⟩
  case round =>
    obtain ⟨q, hqj, rfl, kq⟩ := hrel
    have hj : q = 0 ∨ q = 1 ∨ q = 2 := by omega
    clear k0
    rcases hj with rfl | rfl | rfl
    · obtain ⟨kN, hq⟩ := kq
      have hlq := hq.lt
      go_wp2_with fail
      refine GoL.start (S := fun _ _ => True) (by kernel_rfl) (trivial) ?_
      refine GoL.take (i := 0) (v := ?_) rfl rfl (by kernel_rfl) (fun _ _ _ h => h) (fun _ _ => Iff.rfl) (by rfl) ?_ ?_
      rotate_left
      · intro wx hwx
        go_simp
        try with_reducible rfl
      try simp only [Act.put, List.setIfInBounds_toArray, List.set_cons_zero, List.set_cons_succ, List.getElem_toArray, List.getElem_cons_zero, List.getElem_cons_succ]
      refine GoL.take (i := 1) (v := ?_) rfl rfl (by kernel_rfl) (fun _ _ _ h => h) (fun _ _ => Iff.rfl) (by rfl) ?_ ?_
      rotate_left
      · intro wx hwx
        go_simp
        try with_reducible rfl
      try simp only [Act.put, List.setIfInBounds_toArray, List.set_cons_zero, List.set_cons_succ, List.getElem_toArray, List.getElem_cons_zero, List.getElem_cons_succ]
      refine GoL.take (i := 2) (v := ?_) rfl rfl (by kernel_rfl) (fun _ _ _ h => h) (fun _ _ => Iff.rfl) (by rfl) ?_ ?_
      rotate_left
      · intro wx hwx
        go_simp
        try with_reducible rfl
      try simp only [Act.put, List.setIfInBounds_toArray, List.set_cons_zero, List.set_cons_succ, List.getElem_toArray, List.getElem_cons_zero, List.getElem_cons_succ]
      refine GoL.take (i := 3) (v := ?_) rfl rfl (by kernel_rfl) (fun _ _ _ h => h) (fun _ _ => Iff.rfl) (by rfl) ?_ ?_
      rotate_left
      · intro wx hwx
        go_simp
        try with_reducible rfl
      try simp only [Act.put, List.setIfInBounds_toArray, List.set_cons_zero, List.set_cons_succ, List.getElem_toArray, List.getElem_cons_zero, List.getElem_cons_succ]
      refine GoL.take (i := 8) (v := ?_) rfl rfl (by kernel_rfl) (fun _ _ _ h => h) (fun _ _ => Iff.rfl) (by rfl) ?_ ?_
      rotate_left
      · intro wx hwx
        go_simp
        try with_reducible rfl
      try simp only [Act.put, List.setIfInBounds_toArray, List.set_cons_zero, List.set_cons_succ, List.getElem_toArray, List.getElem_cons_zero, List.getElem_cons_succ]
      refine GoL.take (i := 9) (v := ?_) rfl rfl (by kernel_rfl) (fun _ _ _ h => h) (fun _ _ => Iff.rfl) (by rfl) ?_ ?_
      rotate_left
      · intro wx hwx
        go_simp
        try with_reducible rfl
      try simp only [Act.put, List.setIfInBounds_toArray, List.set_cons_zero, List.set_cons_succ, List.getElem_toArray, List.getElem_cons_zero, List.getElem_cons_succ]
      refine GoL.on (rs := [4]) (by kernel_rfl) (by decide) ?_
      refine OnL.cons rfl ?_ OnL.nil
      intro K hK
      replace hK := Lib.hid hK
      go_simp
      refine (cL true _).mono ?_
      rintro e w4 ⟨gb, Sb, rfl, lb, hb4, hSb⟩
      have hb5 : Below wr.heap.size wr w4 := ((Below.refl _ _).drew).trans hb4
      have hq4 := hq.below hb5 hlq
      have c1 := hq4.cell_eq 1 _ rfl
      have f1 := hq4.free 1
      obtain ⟨V5, hV5⟩ : ∃ V5, V5 = w4.setCell ⟨w1.heap.size, 1, none⟩ (.pointer (some ⟨gb, 0, none⟩)) := ⟨_, rfl⟩
      have hq6 := hq4.set 1 (.pointer (some ⟨gb, 0, none⟩))
      rw [← hV5] at hq6
      have hf5 : Frm (fun c => c = w1.heap.size) w4 V5 := by rw [hV5]; exact (Frm.refl _ _).setCell _ _ (.inl rfl)
      refine hK.out _ _ trivial ?_
      clear hK
      try simp only [Act.put, List.setIfInBounds_toArray, List.set_cons_zero, List.set_cons_succ, List.getElem_toArray, List.getElem_cons_zero, List.getElem_cons_succ]
      refine GoL.take (i := 5) (v := ?_) rfl rfl (by kernel_rfl) (fun _ _ _ h => h) (fun _ _ => Iff.rfl) (by rfl) ?_ ?_
      rotate_left
      · intro wx hwx
        go_simp
        try with_reducible rfl
      try simp only [Act.put, List.setIfInBounds_toArray, List.set_cons_zero, List.set_cons_succ, List.getElem_toArray, List.getElem_cons_zero, List.getElem_cons_succ]
      refine GoL.take (i := 6) (v := ?_) rfl rfl (by kernel_rfl) (fun _ _ _ h => h) (fun _ _ => Iff.rfl) (by rfl) ?_ ?_
      rotate_left
      · intro wx hwx
        go_simp
        try with_reducible rfl
      try simp only [Act.put, List.setIfInBounds_toArray, List.set_cons_zero, List.set_cons_succ, List.getElem_toArray, List.getElem_cons_zero, List.getElem_cons_succ]
      refine GoL.take (i := 7) (v := ?_) rfl rfl (by kernel_rfl) (fun _ _ _ h => h) (fun _ _ => Iff.rfl) (by rfl) ?_ ?_
      rotate_left
      · intro wx hwx
        go_simp
        try with_reducible rfl
      try simp only [Act.put, List.setIfInBounds_toArray, List.set_cons_zero, List.set_cons_succ, List.getElem_toArray, List.getElem_cons_zero, List.getElem_cons_succ]
      refine GoL.take (i := 10) (v := ?_) rfl rfl (by kernel_rfl) (fun _ _ _ h => h) (fun _ _ => Iff.rfl) (by rfl) ?_ ?_
      rotate_left
      · intro wx hwx
        go_simp
        try with_reducible rfl
      try simp only [Act.put, List.setIfInBounds_toArray, List.set_cons_zero, List.set_cons_succ, List.getElem_toArray, List.getElem_cons_zero, List.getElem_cons_succ]
      refine GoL.take (i := 11) (v := ?_) rfl rfl (by kernel_rfl) (fun _ _ _ h => h) (fun _ _ => Iff.rfl) (by rfl) ?_ ?_
      rotate_left
      · intro wx hwx
        go_simp
        try with_reducible rfl
      try simp only [Act.put, List.setIfInBounds_toArray, List.set_cons_zero, List.set_cons_succ, List.getElem_toArray, List.getElem_cons_zero, List.getElem_cons_succ]
      refine GoL.on (rs := [12]) (by kernel_rfl) (by decide) ?_
      refine OnL.cons rfl ?_ OnL.nil
      intro K hK
      replace hK := Lib.hid hK
      go_simp
      rw [← hV5]
      refine hK.out _ _ trivial ?_
      clear hK hV5
      try simp only [Act.put, List.setIfInBounds_toArray, List.set_cons_zero, List.set_cons_succ, List.getElem_toArray, List.getElem_cons_zero, List.getElem_cons_succ]
      refine GoL.done (by kernel_rfl) ?_
      refine NoPanic.normal ?_
      have c2 := hq6.cell_eq 2 _ rfl
      have f2 := hq6.free 2
      obtain ⟨V6, hV6⟩ : ∃ V6, V6 = V5.setCell ⟨w1.heap.size, 2, none⟩ (.int .i64 0) := ⟨_, rfl⟩
      have hq7 := hq6.set 2 (.int .i64 0)
      rw [← hV6] at hq7
      have hf6 : Frm (fun c => c = w1.heap.size) V5 V6 := by rw [hV6]; exact (Frm.refl _ _).setCell _ _ (.inl rfl)
      have hF : Frm (fun c => c = w1.heap.size) wr V6 := ((Frm.of_below (S := fun c => c = w1.heap.size) hb5).trans hf5 (fun c e => .inl e)).trans hf6 (fun c e => .inl e)
      have hF4 : Frm (fun c => c = w1.heap.size) w4 V6 := hf5.trans hf6 (fun c e => .inl e)
      have kN' : NewSt W n m w1.heap.size V1.heap.size (V2.heap.size + 1 + 1 + 1) gx Sx Sf 1 V6 := ⟨gb, Sb, wr.heap.size, kN.turn hF, hq7, lb.frm hF4 (fun c e e' => by have := hSb c e'; have hd : wr.drew.heap.size = wr.heap.size := rfl; omega), kN.fi.lt, fun c e => hSb c e, kN.ar.lt, hF.size⟩
      go_wp2_with (first
        | (rw [← hV6]; clear hV6)
        | fail)
      go_roundg 1
      case measure => omega
      case rel => exact ⟨1, by omega, by go_num, kN'⟩
    · obtain ⟨g0, S0, B1, kN, hq, l0, a1, a2, a3, a4⟩ := kq
      have hlq := hq.lt
      go_wp2_with fail
      refine GoL.start (S := fun _ _ => True) (by kernel_rfl) (trivial) ?_
      refine GoL.take (i := 0) (v := ?_) rfl rfl (by kernel_rfl) (fun _ _ _ h => h) (fun _ _ => Iff.rfl) (by rfl) ?_ ?_
      rotate_left
      · intro wx hwx
        go_simp
        try with_reducible rfl
      try simp only [Act.put, List.setIfInBounds_toArray, List.set_cons_zero, List.set_cons_succ, List.getElem_toArray, List.getElem_cons_zero, List.getElem_cons_succ]
      refine GoL.take (i := 1) (v := ?_) rfl rfl (by kernel_rfl) (fun _ _ _ h => h) (fun _ _ => Iff.rfl) (by rfl) ?_ ?_
      rotate_left
      · intro wx hwx
        go_simp
        try with_reducible rfl
      try simp only [Act.put, List.setIfInBounds_toArray, List.set_cons_zero, List.set_cons_succ, List.getElem_toArray, List.getElem_cons_zero, List.getElem_cons_succ]
      refine GoL.take (i := 2) (v := ?_) rfl rfl (by kernel_rfl) (fun _ _ _ h => h) (fun _ _ => Iff.rfl) (by rfl) ?_ ?_
      rotate_left
      · intro wx hwx
        go_simp
        try with_reducible rfl
      try simp only [Act.put, List.setIfInBounds_toArray, List.set_cons_zero, List.set_cons_succ, List.getElem_toArray, List.getElem_cons_zero, List.getElem_cons_succ]
      refine GoL.take (i := 3) (v := ?_) rfl rfl (by kernel_rfl) (fun _ _ _ h => h) (fun _ _ => Iff.rfl) (by rfl) ?_ ?_
      rotate_left
      · intro wx hwx
        go_simp
        try with_reducible rfl
      try simp only [Act.put, List.setIfInBounds_toArray, List.set_cons_zero, List.set_cons_succ, List.getElem_toArray, List.getElem_cons_zero, List.getElem_cons_succ]
      refine GoL.take (i := 8) (v := ?_) rfl rfl (by kernel_rfl) (fun _ _ _ h => h) (fun _ _ => Iff.rfl) (by rfl) ?_ ?_
      rotate_left
      · intro wx hwx
        go_simp
        try with_reducible rfl
      try simp only [Act.put, List.setIfInBounds_toArray, List.set_cons_zero, List.set_cons_succ, List.getElem_toArray, List.getElem_cons_zero, List.getElem_cons_succ]
      refine GoL.take (i := 9) (v := ?_) rfl rfl (by kernel_rfl) (fun _ _ _ h => h) (fun _ _ => Iff.rfl) (by rfl) ?_ ?_
      rotate_left
      · intro wx hwx
        go_simp
        try with_reducible rfl
      try simp only [Act.put, List.setIfInBounds_toArray, List.set_cons_zero, List.set_cons_succ, List.getElem_toArray, List.getElem_cons_zero, List.getElem_cons_succ]
      refine GoL.on (rs := [4]) (by kernel_rfl) (by decide) ?_
      refine OnL.cons rfl ?_ OnL.nil
      intro K hK
      replace hK := Lib.hid hK
      go_simp
      refine (cL false _).mono ?_
      rintro e w4 ⟨gb, Sb, rfl, lb, hb4, hSb⟩
      have hb5 : Below wr.heap.size wr w4 := ((Below.refl _ _).drew).trans hb4
      have hq4 := hq.below hb5 hlq
      have c1 := hq4.cell_eq 3 _ rfl
      have f1 := hq4.free 3
      obtain ⟨V5, hV5⟩ : ∃ V5, V5 = w4.setCell ⟨w1.heap.size, 3, none⟩ (.pointer (some ⟨gb, 0, none⟩)) := ⟨_, rfl⟩
      have hq6 := hq4.set 3 (.pointer (some ⟨gb, 0, none⟩))
      rw [← hV5] at hq6
      have hf5 : Frm (fun c => c = w1.heap.size) w4 V5 := by rw [hV5]; exact (Frm.refl _ _).setCell _ _ (.inl rfl)
      refine hK.out _ _ trivial ?_
      clear hK
      try simp only [Act.put, List.setIfInBounds_toArray, List.set_cons_zero, List.set_cons_succ, List.getElem_toArray, List.getElem_cons_zero, List.getElem_cons_succ]
      refine GoL.take (i := 5) (v := ?_) rfl rfl (by kernel_rfl) (fun _ _ _ h => h) (fun _ _ => Iff.rfl) (by rfl) ?_ ?_
      rotate_left
      · intro wx hwx
        go_simp
        try with_reducible rfl
      try simp only [Act.put, List.setIfInBounds_toArray, List.set_cons_zero, List.set_cons_succ, List.getElem_toArray, List.getElem_cons_zero, List.getElem_cons_succ]
      refine GoL.take (i := 6) (v := ?_) rfl rfl (by kernel_rfl) (fun _ _ _ h => h) (fun _ _ => Iff.rfl) (by rfl) ?_ ?_
      rotate_left
      · intro wx hwx
        go_simp
        try with_reducible rfl
      try simp only [Act.put, List.setIfInBounds_toArray, List.set_cons_zero, List.set_cons_succ, List.getElem_toArray, List.getElem_cons_zero, List.getElem_cons_succ]
      refine GoL.take (i := 7) (v := ?_) rfl rfl (by kernel_rfl) (fun _ _ _ h => h) (fun _ _ => Iff.rfl) (by rfl) ?_ ?_
      rotate_left
      · intro wx hwx
        go_simp
        try with_reducible rfl
      try simp only [Act.put, List.setIfInBounds_toArray, List.set_cons_zero, List.set_cons_succ, List.getElem_toArray, List.getElem_cons_zero, List.getElem_cons_succ]
      refine GoL.take (i := 10) (v := ?_) rfl rfl (by kernel_rfl) (fun _ _ _ h => h) (fun _ _ => Iff.rfl) (by rfl) ?_ ?_
      rotate_left
      · intro wx hwx
        go_simp
        try with_reducible rfl
      try simp only [Act.put, List.setIfInBounds_toArray, List.set_cons_zero, List.set_cons_succ, List.getElem_toArray, List.getElem_cons_zero, List.getElem_cons_succ]
      refine GoL.take (i := 11) (v := ?_) rfl rfl (by kernel_rfl) (fun _ _ _ h => h) (fun _ _ => Iff.rfl) (by rfl) ?_ ?_
      rotate_left
      · intro wx hwx
        go_simp
        try with_reducible rfl
      try simp only [Act.put, List.setIfInBounds_toArray, List.set_cons_zero, List.set_cons_succ, List.getElem_toArray, List.getElem_cons_zero, List.getElem_cons_succ]
      refine GoL.on (rs := [12]) (by kernel_rfl) (by decide) ?_
      refine OnL.cons rfl ?_ OnL.nil
      intro K hK
      replace hK := Lib.hid hK
      go_simp
      rw [← hV5]
      refine hK.out _ _ trivial ?_
      clear hK hV5
      try simp only [Act.put, List.setIfInBounds_toArray, List.set_cons_zero, List.set_cons_succ, List.getElem_toArray, List.getElem_cons_zero, List.getElem_cons_succ]
      refine GoL.done (by kernel_rfl) ?_
      refine NoPanic.normal ?_
      have c2 := hq6.cell_eq 4 _ rfl
      have f2 := hq6.free 4
      obtain ⟨V6, hV6⟩ : ∃ V6, V6 = V5.setCell ⟨w1.heap.size, 4, none⟩ (.int .i64 (m : Int)) := ⟨_, rfl⟩
      have hq7 := hq6.set 4 (.int .i64 (m : Int))
      rw [← hV6] at hq7
      have hf6 : Frm (fun c => c = w1.heap.size) V5 V6 := by rw [hV6]; exact (Frm.refl _ _).setCell _ _ (.inl rfl)
      have hF : Frm (fun c => c = w1.heap.size) wr V6 := ((Frm.of_below (S := fun c => c = w1.heap.size) hb5).trans hf5 (fun c e => .inl e)).trans hf6 (fun c e => .inl e)
      have hF4 : Frm (fun c => c = w1.heap.size) w4 V6 := hf5.trans hf6 (fun c e => .inl e)
      have kN' : NewSt W n m w1.heap.size V1.heap.size (V2.heap.size + 1 + 1 + 1) gx Sx Sf 2 V6 := ⟨g0, S0, B1, gb, Sb, wr.heap.size, kN.turn hF, hq7, l0.frm hF (fun c e e' => by have := a2 c e'; have := kN.qa; omega), a1, a2, a3, lb.frm hF4 (fun c e e' => by have := hSb c e'; have hd : wr.drew.heap.size = wr.heap.size := rfl; omega), l0.lt, fun c e => hSb c e, a4⟩
      go_wp2_with (first
        | (rw [← hV6]; clear hV6)
        | fail)
      go_roundg 0
      case measure => omega
      case rel => exact ⟨2, by omega, by go_num, kN'⟩
    · obtain ⟨S', hP, hb, hS'⟩ := NewSt.fin kq hn.out.1 hn.out.2.1 hn.out.2.2.1 hn.out.2.2.2
      go_wp2_with fail
      go_ret2
      exact ⟨_, S', rfl, hP, hb, hS'⟩
end
end Go.Proofs.YtdmjcjheanedgaaDoor
