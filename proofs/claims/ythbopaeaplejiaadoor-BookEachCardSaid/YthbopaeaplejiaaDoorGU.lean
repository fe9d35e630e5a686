/-
  The document's book: parts of its row; Remove. (Written by gen/p_rbd.py.)
  The document's book: Reduce.
-/
import Derived.Test.YthbopaeaplejiaaDoorGJ
import Derived.StillTailTactics
namespace Go.Proofs.YthbopaeaplejiaaDoor
open Go.RowKit
set_option linter.unusedSimpArgs false
theorem ocs_drop : ∀ (L : List Ord) (m : Nat), ocs (L.drop m) = (ocs L).drop (m * 7)
  | L, 0 => by simp
  | [], m + 1 => by simp
  | x :: t, m + 1 => by
    have e : (m + 1) * 7 = 7 + m * 7 := by omega
    rw [List.drop_succ_cons, ocs_drop t m, e, ← List.drop_drop]
    rfl
theorem ocs_take : ∀ (L : List Ord) (m : Nat), ocs (L.take m) = (ocs L).take (m * 7)
  | L, 0 => by simp
  | [], m + 1 => by simp
  | x :: t, m + 1 => by
    have e : (m + 1) * 7 = m * 7 + 7 := by omega
    have h := ocs_take t m
    rw [e]
    simp [h]
theorem ors_lo {E : TypeId} (ko : Option Nat) (ao : Option Addr) (cap : Nat) (l : List Ord) (m : Nat) (hm : m ≤ l.length) (w : World) (hL : OwG E 7 w ko ao cap l.length (ocs l)) :
    ∃ ao2 cap2, (∀ w, (Instr.slice 37 (.slice ao l.length cap) (some (.int .i64 (m : Int))) none none).run Tryd.prog w = .ok (.slice ao2 (l.length - m) cap2) w) ∧ ∀ w', OwG E 7 w' ko ao cap l.length (ocs l) → SrcG 7 w' ao2 cap2 (l.length - m) (ocs (l.drop m)) := by
  have hl := hL.len
  have ht := hL.top
  unfold maxLen at ht
  have hu := Tryd.underlying37
  have hc := cells_Ord
  have hone : ∀ u ∈ ocs (l.drop m), u.oneCell' = true := ocs_one _
  have hlen : (ocs (l.drop m)).length = (l.length - m) * 7 := by rw [ocs_len, List.length_drop]
  by_cases h : cap = m
  · subst h
    have e : l.length = cap := by omega
    refine ⟨ao, 0, fun w => ?_, fun w' h' => ⟨hlen, hone, ?_⟩⟩
    · simp [go_sem, Instr.slice]
      intro h; omega
    · cases ao with
      | none => exact .inl ⟨rfl, rfl, by omega⟩
      | some a =>
        refine .inr ⟨a, rfl, fun j u hj => ?_⟩
        have hlt := (List.getElem?_eq_some_iff.1 hj).1
        omega
  · refine ⟨Option.map (fun x => x.add (m * 7)) ao, cap - m, fun w => ?_, fun w' h' => ⟨hlen, hone, ?_⟩⟩
    · simp [go_sem, Instr.slice]
      rw [if_pos hm, if_neg h]
    · rcases h'.at' with ⟨-, -, h0⟩ | ⟨k, cur, e1, e2, -⟩
      · omega
      · refine .inr ⟨_, by rw [e2]; rfl, fun j u hj => ?_⟩
        rw [ocs_drop, List.getElem?_drop] at hj
        obtain ⟨k', e3, -, h3, -⟩ := h'.cell _ u hj
        rw [e1] at e3
        cases e3
        show w'.cell? ((Addr.add ⟨k, 0, none⟩ (m * 7)).add j) = some u
        rw [Addr.add_mid, Addr.add_mid, Nat.zero_add]
        exact h3
theorem ors_hi {E : TypeId} (ko : Option Nat) (ao : Option Addr) (cap : Nat) (l : List Ord) (m : Nat) (hm : m ≤ l.length) (w : World) (hL : OwG E 7 w ko ao cap l.length (ocs l)) :
    (∀ w, (Instr.slice 37 (.slice ao l.length cap) none (some (.int .i64 (m : Int))) none).run Tryd.prog w = .ok (.slice ao m cap) w) ∧ ∀ w', OwG E 7 w' ko ao cap l.length (ocs l) → SrcG 7 w' ao cap m (ocs (l.take m)) := by
  have hl := hL.len
  have ht := hL.top
  unfold maxLen at ht
  have hu := Tryd.underlying37
  have hc := cells_Ord
  refine ⟨fun w => ?_, fun w' h' => ⟨by rw [ocs_len, List.length_take, Nat.min_eq_left hm], ocs_one _, ?_⟩⟩
  · simp [go_sem, Instr.slice]
    omega
  · rcases h'.at' with ⟨-, h1, h0⟩ | ⟨k, cur, e1, e2, -⟩
    · exact .inl ⟨h1, h0, by omega⟩
    · refine .inr ⟨_, e2, fun j u hj => ?_⟩
      rw [ocs_take, List.getElem?_take] at hj
      split at hj
      · obtain ⟨k', e3, -, h3, -⟩ := h'.cell _ u hj
        rw [e1] at e3
        cases e3
        rw [Addr.add_mid, Nat.zero_add]
        exact h3
      · cases hj
section
variable {w w' W : World} {r : Nat} {S T : Nat → Prop} {b : Bk} {ko : Option Nat} {ao : Option Addr} {cap : Nat}
set_option maxRecDepth 8000 in
set_option maxHeartbeats 4000000 in
theorem kremNo_any (d : Int) (h : RK W r S b) (hlen : b.L.length ≤ 100000) (hf : bkf b.L d = none) :
    Calls Tryd.prog 33 #[.pointer (some ⟨r, 0, none⟩), .int .i64 d] W fun e w' => e = .returned (.tuple #[vOrd .zero, .int .i64 5]) ∧ Below W.heap.size W w' := by
  obtain ⟨W1, hW1⟩ : ∃ W1, W1 = W.alloc (.cells (cOrd Ord.zero) 34) := ⟨_, rfl⟩
  have hBx : Blk W1 W.heap.size 34 (cOrd Ord.zero) := by rw [hW1]; exact Blk.new _ _ _
  have hF1 : Below W.heap.size W W1 := by rw [hW1]; exact (Below.refl _ _).alloc (Nat.le_refl _) _
  have cF := kfindR_any d (h.below hF1) hlen
  simp only [bkI, hf] at cF
  obtain ⟨⟨b0, b1, b2, b3, b4, b5, b6⟩, hfr, hx⟩ := ordRes hBx (Nat.le_refl _) hF1 Ord.zero
  obtain ⟨hlay, hbel, -⟩ := hx _ rfl
  obtain ⟨q0, q1, q2, q3, q4, q5, q6⟩ := Ord.cells hlay
  simp only [Ord.zero, cOrd] at hW1
  simp only [Ord.zero] at b0 b1 b2 b3 b4 b5 b6 q0 q1 q2 q3 q4 q5 q6 hbel
  simp only [Ord.zero, vOrd]
  clear hx hlay hBx h hf
  go_enter Tryd.func33, Tryd.ntmps33
  go_wp2_with (go_at_call 56; rw [← hW1]; (with_reducible refine cF.mono ?_); rintro e W1 ⟨rfl, rfl⟩; clear hW1)
  refine bodyPost_ret (v := .tuple #[.agg #[.int .i64 0, .int .i64 0, .int .i64 0, .int .i64 0, .int .i64 0, .int .i64 0, .int .i64 0], .int .i64 5]) ?_ rfl ⟨rfl, hbel⟩
  simp [results, Tryd.results33, go_sem, q0, q1, q2, q3, q4, q5, q6]
set_option maxRecDepth 8000 in
set_option maxHeartbeats 8000000 in
theorem kremYes_any (d : Int) (h : RK W r S b) (hlen : b.L.length ≤ 100000) {i : Nat} {x : Ord} (hf : bkf b.L d = some i) (hx : b.L[i]? = some x) :
    Calls Tryd.prog 33 #[.pointer (some ⟨r, 0, none⟩), .int .i64 d] W fun e w' => e = .returned (.tuple #[vOrd x, .int .i64 0]) ∧ (∃ S', RK w' r S' { b with L := b.L.eraseIdx i } ∧ ∀ c, S' c → S c ∨ W.heap.size ≤ c) ∧ Frm S W w' := by
  have hi := bkf_lt hf
  obtain ⟨W1, hW1⟩ : ∃ W1, W1 = W.alloc (.cells (cOrd Ord.zero) 34) := ⟨_, rfl⟩
  have hBx : Blk W1 W.heap.size 34 (cOrd Ord.zero) := by rw [hW1]; exact Blk.new _ _ _
  have hF1 : Below W.heap.size W W1 := by rw [hW1]; exact (Below.refl _ _).alloc (Nat.le_refl _) _
  have hs1 : W1.heap.size = W.heap.size + 1 := by rw [hW1]; simp
  have cF := kfindR_any d (h.below hF1) hlen
  simp only [bkI, hf] at cF
  have hSl := h.lt
  obtain ⟨ko, ao, cap, h⟩ := h
  have h1 := h.below hF1
  obtain ⟨bx, off, hao, y0, y1, y2, y3, y4, y5, y6⟩ := h1.rows.get hx
  replace y0 : W1.cell? ⟨bx, off + i * 7, none⟩ = some (.int .i64 x.id) := y0
  have c2 := h1.c2
  obtain ⟨W9, hW9⟩ : ∃ W9, W9 = W1.alloc (.cells (cOrd x) 34) := ⟨_, rfl⟩
  have h19 : Below W1.heap.size W1 W9 := by rw [hW9]; exact (Below.refl _ _).alloc (Nat.le_refl _) _
  have hBo : Blk W9 (W.heap.size + 1) 34 (cOrd x) := by rw [hW9]; exact Blk.new' hs1.symm
  have hB0 := hBx.below h19 hBx.lt
  have h9 := h1.below h19
  have hF9 : Below W.heap.size W W9 := hF1.trans (h19.mono hF1.size)
  have hs9 : W9.heap.size = W.heap.size + 2 := by rw [hW9]; simp [hs1]
  have hi2 : (i : Int) < (b.L.length : Int) := by omega
  have hi0 : ¬ (i : Int) < 0 := by omega
  have hd0 : decide ((i : Int) < 0) = false := decide_eq_false hi0
  obtain ⟨i1, hi1, e1⟩ := Option.map_eq_some_iff.1 infoKOrd
  simp only [Prod.mk.injEq] at e1
  obtain ⟨hz1, hsz1, hb1⟩ := e1
  have hO := h9.how
  obtain ⟨hsH, hH⟩ := ors_hi _ _ _ b.L i (by omega) W9 hO
  obtain ⟨ao4, cap4, hsL, hLo⟩ := ors_lo _ _ _ b.L (i + 1) (by omega) W9 hO
  rw [show ((i + 1 : Nat) : Int) = (i : Int) + 1 by omega] at hsL
  have hsrc1 : ∀ w, Below W9.heap.size W9 w → SrcG 7 w ao cap i (ocs (b.L.take i)) := fun w hb => hH w (h9.below hb).how
  have hsrc2 : ∀ w, Below W9.heap.size W9 w → SrcG 7 w ao4 cap4 (b.L.length - (i + 1)) (ocs (b.L.drop (i + 1))) := fun w hb => hLo w (h9.below hb).how
  have kcell : ∀ w, Below W9.heap.size W9 w → w.cell? ⟨r, 2, none⟩ = some (.slice ao b.L.length cap) := fun w hb => (h9.below hb).c2
  have hfz : ∀ w, Below W9.heap.size W9 w → w.frozen? ⟨r, 2, none⟩ = false := fun w hb => (h9.below hb).hr.free 2
  have fin : ∀ w2 ao2 cap2 ko2, Below W9.heap.size W9 w2 → (∀ k, ko2 = some k → W9.heap.size ≤ k) → OwG 34 7 w2 ko2 ao2 cap2 (i + (b.L.length - (i + 1))) (ocs (b.L.take i) ++ ocs (b.L.drop (i + 1))) →
      ∃ V, V = w2.setCell ⟨r, 2, none⟩ (.slice ao2 (i + (b.L.length - (i + 1))) cap2) ∧
      (V.cell? ⟨W.heap.size + 1, 0, none⟩ = some (.int .i64 x.id) ∧ V.cell? ⟨W.heap.size + 1, 1, none⟩ = some (.int .i64 x.owner) ∧ V.cell? ⟨W.heap.size + 1, 2, none⟩ = some (.int .i64 x.side) ∧ V.cell? ⟨W.heap.size + 1, 3, none⟩ = some (.int .i64 x.price) ∧ V.cell? ⟨W.heap.size + 1, 4, none⟩ = some (.int .i64 x.qty) ∧ V.cell? ⟨W.heap.size + 1, 5, none⟩ = some (.int .i64 x.flags) ∧ V.cell? ⟨W.heap.size + 1, 6, none⟩ = some (.int .i64 x.seq)) ∧
      (V.cell? ⟨W.heap.size, 0, none⟩ = some (.int .i64 0) ∧ V.cell? ⟨W.heap.size, 1, none⟩ = some (.int .i64 0) ∧ V.cell? ⟨W.heap.size, 2, none⟩ = some (.int .i64 0) ∧ V.cell? ⟨W.heap.size, 3, none⟩ = some (.int .i64 0) ∧ V.cell? ⟨W.heap.size, 4, none⟩ = some (.int .i64 0) ∧ V.cell? ⟨W.heap.size, 5, none⟩ = some (.int .i64 0) ∧ V.cell? ⟨W.heap.size, 6, none⟩ = some (.int .i64 0)) ∧ (∀ i, V.frozen? ⟨W.heap.size, i, none⟩ = false) ∧
      ((((((((V.setCell ⟨W.heap.size, 0, none⟩ (.int .i64 x.id)).setCell ⟨W.heap.size, 1, none⟩ (.int .i64 x.owner)).setCell ⟨W.heap.size, 2, none⟩ (.int .i64 x.side)).setCell ⟨W.heap.size, 3, none⟩ (.int .i64 x.price)).setCell ⟨W.heap.size, 4, none⟩ (.int .i64 x.qty)).setCell ⟨W.heap.size, 5, none⟩ (.int .i64 x.flags)).setCell ⟨W.heap.size, 6, none⟩ (.int .i64 x.seq)).cell? ⟨W.heap.size, 0, none⟩ = some (.int .i64 x.id) ∧ (((((((V.setCell ⟨W.heap.size, 0, none⟩ (.int .i64 x.id)).setCell ⟨W.heap.size, 1, none⟩ (.int .i64 x.owner)).setCell ⟨W.heap.size, 2, none⟩ (.int .i64 x.side)).setCell ⟨W.heap.size, 3, none⟩ (.int .i64 x.price)).setCell ⟨W.heap.size, 4, none⟩ (.int .i64 x.qty)).setCell ⟨W.heap.size, 5, none⟩ (.int .i64 x.flags)).setCell ⟨W.heap.size, 6, none⟩ (.int .i64 x.seq)).cell? ⟨W.heap.size, 1, none⟩ = some (.int .i64 x.owner) ∧ (((((((V.setCell ⟨W.heap.size, 0, none⟩ (.int .i64 x.id)).setCell ⟨W.heap.size, 1, none⟩ (.int .i64 x.owner)).setCell ⟨W.heap.size, 2, none⟩ (.int .i64 x.side)).setCell ⟨W.heap.size, 3, none⟩ (.int .i64 x.price)).setCell ⟨W.heap.size, 4, none⟩ (.int .i64 x.qty)).setCell ⟨W.heap.size, 5, none⟩ (.int .i64 x.flags)).setCell ⟨W.heap.size, 6, none⟩ (.int .i64 x.seq)).cell? ⟨W.heap.size, 2, none⟩ = some (.int .i64 x.side) ∧ (((((((V.setCell ⟨W.heap.size, 0, none⟩ (.int .i64 x.id)).setCell ⟨W.heap.size, 1, none⟩ (.int .i64 x.owner)).setCell ⟨W.heap.size, 2, none⟩ (.int .i64 x.side)).setCell ⟨W.heap.size, 3, none⟩ (.int .i64 x.price)).setCell ⟨W.heap.size, 4, none⟩ (.int .i64 x.qty)).setCell ⟨W.heap.size, 5, none⟩ (.int .i64 x.flags)).setCell ⟨W.heap.size, 6, none⟩ (.int .i64 x.seq)).cell? ⟨W.heap.size, 3, none⟩ = some (.int .i64 x.price) ∧ (((((((V.setCell ⟨W.heap.size, 0, none⟩ (.int .i64 x.id)).setCell ⟨W.heap.size, 1, none⟩ (.int .i64 x.owner)).setCell ⟨W.heap.size, 2, none⟩ (.int .i64 x.side)).setCell ⟨W.heap.size, 3, none⟩ (.int .i64 x.price)).setCell ⟨W.heap.size, 4, none⟩ (.int .i64 x.qty)).setCell ⟨W.heap.size, 5, none⟩ (.int .i64 x.flags)).setCell ⟨W.heap.size, 6, none⟩ (.int .i64 x.seq)).cell? ⟨W.heap.size, 4, none⟩ = some (.int .i64 x.qty) ∧ (((((((V.setCell ⟨W.heap.size, 0, none⟩ (.int .i64 x.id)).setCell ⟨W.heap.size, 1, none⟩ (.int .i64 x.owner)).setCell ⟨W.heap.size, 2, none⟩ (.int .i64 x.side)).setCell ⟨W.heap.size, 3, none⟩ (.int .i64 x.price)).setCell ⟨W.heap.size, 4, none⟩ (.int .i64 x.qty)).setCell ⟨W.heap.size, 5, none⟩ (.int .i64 x.flags)).setCell ⟨W.heap.size, 6, none⟩ (.int .i64 x.seq)).cell? ⟨W.heap.size, 5, none⟩ = some (.int .i64 x.flags) ∧ (((((((V.setCell ⟨W.heap.size, 0, none⟩ (.int .i64 x.id)).setCell ⟨W.heap.size, 1, none⟩ (.int .i64 x.owner)).setCell ⟨W.heap.size, 2, none⟩ (.int .i64 x.side)).setCell ⟨W.heap.size, 3, none⟩ (.int .i64 x.price)).setCell ⟨W.heap.size, 4, none⟩ (.int .i64 x.qty)).setCell ⟨W.heap.size, 5, none⟩ (.int .i64 x.flags)).setCell ⟨W.heap.size, 6, none⟩ (.int .i64 x.seq)).cell? ⟨W.heap.size, 6, none⟩ = some (.int .i64 x.seq)) ∧
      (∃ S', RK (((((((V.setCell ⟨W.heap.size, 0, none⟩ (.int .i64 x.id)).setCell ⟨W.heap.size, 1, none⟩ (.int .i64 x.owner)).setCell ⟨W.heap.size, 2, none⟩ (.int .i64 x.side)).setCell ⟨W.heap.size, 3, none⟩ (.int .i64 x.price)).setCell ⟨W.heap.size, 4, none⟩ (.int .i64 x.qty)).setCell ⟨W.heap.size, 5, none⟩ (.int .i64 x.flags)).setCell ⟨W.heap.size, 6, none⟩ (.int .i64 x.seq)) r S' { b with L := b.L.eraseIdx i } ∧ ∀ c, S' c → S c ∨ W.heap.size ≤ c) ∧ Frm S W (((((((V.setCell ⟨W.heap.size, 0, none⟩ (.int .i64 x.id)).setCell ⟨W.heap.size, 1, none⟩ (.int .i64 x.owner)).setCell ⟨W.heap.size, 2, none⟩ (.int .i64 x.side)).setCell ⟨W.heap.size, 3, none⟩ (.int .i64 x.price)).setCell ⟨W.heap.size, 4, none⟩ (.int .i64 x.qty)).setCell ⟨W.heap.size, 5, none⟩ (.int .i64 x.flags)).setCell ⟨W.heap.size, 6, none⟩ (.int .i64 x.seq)) := by
    intro w2 ao2 cap2 ko2 hb hk' ho
    have hl2 : i + (b.L.length - (i + 1)) = (b.L.eraseIdx i).length := by rw [List.length_eraseIdx, if_pos hi]; omega
    have hz2 : ocs (b.L.take i) ++ ocs (b.L.drop (i + 1)) = ocs (b.L.eraseIdx i) := by rw [List.eraseIdx_eq_take_drop_succ, ocs_app]
    rw [hl2, hz2] at ho
    rw [hl2]
    obtain ⟨⟨S', g1, g2⟩, g3⟩ := h9.lay hb (L := b.L.eraseIdx i) ho hk'
    obtain ⟨V, hV⟩ : ∃ V, V = w2.setCell ⟨r, 2, none⟩ (.slice ao2 (b.L.eraseIdx i).length cap2) := ⟨_, rfl⟩
    rw [← hV] at g1 g3 ⊢
    have hr := hSl r h.sr
    have k1 : Blk V (W.heap.size + 1) 34 (cOrd x) := by rw [hV]; exact (hBo.below hb hBo.lt).other (by show r ≠ _; omega) _
    have k0 : Blk V W.heap.size 34 (cOrd Ord.zero) := by rw [hV]; exact (hB0.below hb hB0.lt).other (by show r ≠ _; omega) _
    have hFV : Frm S W V := (Frm.of_below hF9).trans g3 (fun c e => .inl e)
    obtain ⟨z1, z2, z3⟩ := ordRes0 k0 x
    refine ⟨V, rfl, Ord.cells k1, z1, z2, ?_⟩
    obtain ⟨v1, v3⟩ := z3 _ rfl
    refine ⟨Ord.cells v1, ⟨S', g1.frm v3 (fun c e hc => ?_), fun c e => (g2 c e).imp id (fun g => by omega)⟩, hFV.trans v3 (fun c e => .inr (by omega))⟩
    subst e
    rcases g2 _ hc with g | g
    · have := hSl _ g; omega
    · omega
  have bD : Below W9.heap.size W9 W9.drew := (Below.refl _ _).drew
  have hw1 : IntKind.i64.wrap ((i : Int) + 1) = (i : Int) + 1 := by rw [IntKind.wrap_i64]; omega
  subst hao
  simp only [Ord.zero, cOrd] at hW1
  generalize hql : b.L.length = ql at *
  have hsz := Lib.hid hs1
  clear h h1 h9 hO hH hLo hql hf hx hBx hF1 hB0 hBo hF9 h19 hs1 hs9 hSl
  replace fin := Lib.hid fin
  replace fin := fin.out
  obtain ⟨x0, x1, x2, x3, x4, x5, x6⟩ := x
  simp only [vOrd, cOrd] at *
  go_enter Tryd.func33, Tryd.ntmps33
  go_wp2_with (first
    | (go_at_call 56; rw [← hW1]; (with_reducible refine cF.mono ?_); rintro e w1 ⟨rfl, hw1⟩; subst w1; clear hW1 cF)
    | (rw [← hW9]; clear hW9 y0 y1 y2 y3 y4 y5 y6 c2)
    | fail)
  rw [hsz.out]
  clear hsz
  refine GoL.start (S := Slq (fun w => Below W9.heap.size W9 w) 19) (by kernel_rfl) (fun _ => bD) ?_
  generalize W9.drew = U at bD ⊢
  have bV := bD
  clear bD
  have lV := bV.size
  refine GoL.take (i := 0) (v := ?_) rfl rfl (by kernel_rfl) (fun _ _ _ h => h) (fun _ _ => Slq.other (by decide)) (by rfl) ?_ ?_
  rotate_left
  · intro wx hwx
    go_simp
    try with_reducible rfl
  try simp only [Act.put, List.setIfInBounds_toArray, List.set_cons_zero, List.set_cons_succ, List.getElem_toArray, List.getElem_cons_zero, List.getElem_cons_succ, Nat.zero_add, List.nil_append]
  refine GoL.take (i := 2) (v := ?_) rfl rfl (by kernel_rfl) (fun _ _ _ h => h) (fun _ _ => Slq.other (by decide)) (by rfl) ?_ ?_
  rotate_left
  · intro wx hwx
    go_simp
    try with_reducible rfl
  try simp only [Act.put, List.setIfInBounds_toArray, List.set_cons_zero, List.set_cons_succ, List.getElem_toArray, List.getElem_cons_zero, List.getElem_cons_succ, Nat.zero_add, List.nil_append]
  refine GoL.take (i := 3) (v := ?_) rfl rfl (by kernel_rfl) (fun _ _ _ h => h) (fun _ _ => Slq.other (by decide)) (by rfl) ?_ ?_
  rotate_left
  · intro wx hwx
    go_simp
    try with_reducible rfl
  try simp only [Act.put, List.setIfInBounds_toArray, List.set_cons_zero, List.set_cons_succ, List.getElem_toArray, List.getElem_cons_zero, List.getElem_cons_succ, Nat.zero_add, List.nil_append]
  refine GoL.take (i := 4) (v := ?_) rfl rfl (by kernel_rfl) (fun _ _ _ h => h) (fun _ _ => Slq.other (by decide)) (by rfl) ?_ ?_
  rotate_left
  · intro wx hwx
    go_simp
    try with_reducible rfl
  try simp only [Act.put, List.setIfInBounds_toArray, List.set_cons_zero, List.set_cons_succ, List.getElem_toArray, List.getElem_cons_zero, List.getElem_cons_succ, Nat.zero_add, List.nil_append]
  refine GoL.take (i := 5) (v := ?_) rfl rfl (by kernel_rfl) (fun _ _ _ h => h) (fun _ _ => Slq.other (by decide)) (by rfl) ?_ ?_
  rotate_left
  · intro wx hwx
    have x9 := kcell _ (Slq.wi (fun L h1 h2 => (Closed.not h1 (i := 16) (by kernel_rfl) (Closed.not h1 (i := 8) (by kernel_rfl) (Closed.not h1 (i := 7) (by kernel_rfl) (Closed.not h1 (i := 5) (by kernel_rfl) (ready_not h2)))))) hwx)
    go_simp
    try with_reducible rfl
  try simp only [Act.put, List.setIfInBounds_toArray, List.set_cons_zero, List.set_cons_succ, List.getElem_toArray, List.getElem_cons_zero, List.getElem_cons_succ, Nat.zero_add, List.nil_append]
  refine GoL.take (i := 6) (v := ?_) rfl rfl (by kernel_rfl) (fun _ _ _ h => h) (fun _ _ => Slq.other (by decide)) (by rfl) ?_ ?_
  rotate_left
  · intro wx hwx
    go_simp
    try with_reducible rfl
  try simp only [Act.put, List.setIfInBounds_toArray, List.set_cons_zero, List.set_cons_succ, List.getElem_toArray, List.getElem_cons_zero, List.getElem_cons_succ, Nat.zero_add, List.nil_append]
  refine GoL.take (i := 7) (v := ?_) rfl rfl (by kernel_rfl) (fun _ _ _ h => h) (fun _ _ => Slq.other (by decide)) (by rfl) ?_ ?_
  rotate_left
  · intro wx hwx
    go_simp
    try with_reducible rfl
  try simp only [Act.put, List.setIfInBounds_toArray, List.set_cons_zero, List.set_cons_succ, List.getElem_toArray, List.getElem_cons_zero, List.getElem_cons_succ, Nat.zero_add, List.nil_append]
  refine GoL.take (i := 9) (v := ?_) rfl rfl (by kernel_rfl) (fun _ _ _ h => h) (fun _ _ => Slq.other (by decide)) (by rfl) ?_ ?_
  rotate_left
  · intro wx hwx
    go_simp
    try with_reducible rfl
  try simp only [Act.put, List.setIfInBounds_toArray, List.set_cons_zero, List.set_cons_succ, List.getElem_toArray, List.getElem_cons_zero, List.getElem_cons_succ, Nat.zero_add, List.nil_append]
  refine GoL.take (i := 10) (v := ?_) rfl rfl (by kernel_rfl) (fun _ _ _ h => h) (fun _ _ => Slq.other (by decide)) (by rfl) ?_ ?_
  rotate_left
  · intro wx hwx
    go_simp
    try with_reducible rfl
  try simp only [Act.put, List.setIfInBounds_toArray, List.set_cons_zero, List.set_cons_succ, List.getElem_toArray, List.getElem_cons_zero, List.getElem_cons_succ, Nat.zero_add, List.nil_append]
  refine GoL.take (i := 11) (v := ?_) rfl rfl (by kernel_rfl) (fun _ _ _ h => h) (fun _ _ => Slq.other (by decide)) (by rfl) ?_ ?_
  rotate_left
  · intro wx hwx
    go_simp
    try with_reducible rfl
  try simp only [Act.put, List.setIfInBounds_toArray, List.set_cons_zero, List.set_cons_succ, List.getElem_toArray, List.getElem_cons_zero, List.getElem_cons_succ, Nat.zero_add, List.nil_append]
  refine GoL.take (i := 12) (v := ?_) rfl rfl (by kernel_rfl) (fun _ _ _ h => h) (fun _ _ => Slq.other (by decide)) (by rfl) ?_ ?_
  rotate_left
  · intro wx hwx
    have x9 := kcell _ (Slq.wi (fun L h1 h2 => (Closed.not h1 (i := 16) (by kernel_rfl) (Closed.not h1 (i := 15) (by kernel_rfl) (Closed.not h1 (i := 12) (by kernel_rfl) (ready_not h2))))) hwx)
    go_simp
    try with_reducible rfl
  try simp only [Act.put, List.setIfInBounds_toArray, List.set_cons_zero, List.set_cons_succ, List.getElem_toArray, List.getElem_cons_zero, List.getElem_cons_succ, Nat.zero_add, List.nil_append]
  refine GoL.take (i := 13) (v := ?_) rfl rfl (by kernel_rfl) (fun _ _ _ h => h) (fun _ _ => Slq.other (by decide)) (by rfl) ?_ ?_
  rotate_left
  · intro wx hwx
    go_simp
    try with_reducible rfl
  try simp only [Act.put, List.setIfInBounds_toArray, List.set_cons_zero, List.set_cons_succ, List.getElem_toArray, List.getElem_cons_zero, List.getElem_cons_succ, Nat.zero_add, List.nil_append]
  refine GoL.take (i := 14) (v := ?_) rfl rfl (by kernel_rfl) (fun _ _ _ h => h) (fun _ _ => Slq.other (by decide)) (by rfl) ?_ ?_
  rotate_left
  · intro wx hwx
    go_simp
    try with_reducible rfl
  try simp only [Act.put, List.setIfInBounds_toArray, List.set_cons_zero, List.set_cons_succ, List.getElem_toArray, List.getElem_cons_zero, List.getElem_cons_succ, Nat.zero_add, List.nil_append]
  refine GoL.take (i := 15) (v := ?_) rfl rfl (by kernel_rfl) (fun _ _ _ h => h) (fun _ _ => Slq.other (by decide)) (by rfl) ?_ ?_
  rotate_left
  · intro wx hwx
    go_simp
    try with_reducible rfl
  try simp only [Act.put, List.setIfInBounds_toArray, List.set_cons_zero, List.set_cons_succ, List.getElem_toArray, List.getElem_cons_zero, List.getElem_cons_succ, Nat.zero_add, List.nil_append]
  refine GoL.on (rs := [1]) (by kernel_rfl) (by decide) ?_
  refine OnL.cons rfl ?_ OnL.nil
  intro K hK
  replace hK := Lib.hid hK
  go_simp
  have b1 := bV.alloc lV (.cells #[] 34)
  refine hK.out _ _ (fun _ => b1) ?_
  clear hK
  try simp only [Act.put, List.setIfInBounds_toArray, List.set_cons_zero, List.set_cons_succ, List.getElem_toArray, List.getElem_cons_zero, List.getElem_cons_succ, Nat.zero_add, List.nil_append]
  refine GoL.on (rs := [8]) (by kernel_rfl) (by decide) ?_
  refine OnL.cons rfl ?_ OnL.nil
  intro K hK
  replace hK := Lib.hid hK
  refine step_appG rfl (.tmp 22) (.tmp 28) 37 34 i1 _ 7 56 Tryd.underlying37 hi1 hz1 hsz1 hb1 rfl (by decide) rfl (OwG.emptyK _ _ U) (hsrc1 _ b1) rfl rfl (by omega) (by omega) ?_
  intro ao1 cap1 ko1 w2 ho1 hf1 hm1
  rw [Nat.zero_add, List.nil_append] at ho1
  obtain ⟨b2, hk1⟩ := app_newK b1 b1.size (fun k e => by cases e; exact lV) hf1 hm1
  clear hf1 hm1
  refine hK.out _ _ (fun _ => b2) ?_
  clear hK
  try simp only [Act.put, List.setIfInBounds_toArray, List.set_cons_zero, List.set_cons_succ, List.getElem_toArray, List.getElem_cons_zero, List.getElem_cons_succ, Nat.zero_add, List.nil_append]
  refine GoL.on (rs := [16]) (by kernel_rfl) (by decide) ?_
  refine OnL.cons rfl ?_ OnL.nil
  intro K hK
  replace hK := Lib.hid hK
  refine step_appG rfl (.tmp 29) (.tmp 36) 37 34 i1 _ 7 56 Tryd.underlying37 hi1 hz1 hsz1 hb1 rfl (by decide) rfl ho1 (hsrc2 _ b2) rfl rfl (by omega) (by omega) ?_
  intro ao2 cap2 ko2 w3 ho2 hf2 hm2
  obtain ⟨b4, hk2⟩ := app_newK b2 b2.size hk1 hf2 hm2
  obtain ⟨V, hV, hfin⟩ := fin w3 ao2 cap2 ko2 b4 hk2 ho2
  replace hfin := Lib.hid hfin
  have cst := kcell w3 b4
  have fst := hfz w3 b4
  clear hf2 hm2 ho2 ho1
  refine hK.out _ _ (fun _ => b4) ?_
  clear hK
  try simp only [Act.put, List.setIfInBounds_toArray, List.set_cons_zero, List.set_cons_succ, List.getElem_toArray, List.getElem_cons_zero, List.getElem_cons_succ, Nat.zero_add, List.nil_append]
  refine GoL.take (i := 17) (v := ?_) rfl rfl (by kernel_rfl) (fun _ _ _ h => h) (fun _ _ => Slq.other (by decide)) (by rfl) ?_ ?_
  rotate_left
  · intro wx hwx
    go_simp
    try with_reducible rfl
  try simp only [Act.put, List.setIfInBounds_toArray, List.set_cons_zero, List.set_cons_succ, List.getElem_toArray, List.getElem_cons_zero, List.getElem_cons_succ, Nat.zero_add, List.nil_append]
  refine GoL.take (i := 18) (v := ?_) rfl rfl (by kernel_rfl) (fun _ _ _ h => h) (fun _ _ => Slq.other (by decide)) (by rfl) ?_ ?_
  rotate_left
  · intro wx hwx
    go_simp
    try with_reducible rfl
  try simp only [Act.put, List.setIfInBounds_toArray, List.set_cons_zero, List.set_cons_succ, List.getElem_toArray, List.getElem_cons_zero, List.getElem_cons_succ, Nat.zero_add, List.nil_append]
  refine GoL.on (rs := [19]) (by kernel_rfl) (by decide) ?_
  refine OnL.cons rfl ?_ OnL.nil
  intro K hK
  replace hK := Lib.hid hK
  go_simp
  refine hK.out _ _ (Slq.last (by simp)) ?_
  clear hK
  try simp only [Act.put, List.setIfInBounds_toArray, List.set_cons_zero, List.set_cons_succ, List.getElem_toArray, List.getElem_cons_zero, List.getElem_cons_succ, Nat.zero_add, List.nil_append]
  refine GoL.done (by kernel_rfl) ?_
  refine NoPanic.normal ?_
  clear fin kcell hsrc1 hsrc2 bV hfz cst fst
  rw [← hV]
  clear hV
  obtain ⟨⟨e0, e1, e2, e3, e4, e5, e6⟩, ⟨b0, b1, b2, b3, b4, b5, b6⟩, hfr, ⟨q0, q1, q2, q3, q4, q5, q6⟩, hend⟩ := hfin.out
  replace hend := Lib.hid hend
  clear hfin
  go_wp2_with fail
  refine bodyPost_ret (v := .tuple #[.agg #[.int .i64 x0, .int .i64 x1, .int .i64 x2, .int .i64 x3, .int .i64 x4, .int .i64 x5, .int .i64 x6], .int .i64 0]) ?_ rfl ⟨rfl, hend.out⟩
  simp [results, Tryd.results33, go_sem, q0, q1, q2, q3, q4, q5, q6]
theorem krem_any (d : Int) (h : RK W r S b) (hlen : b.L.length ≤ 100000) :
    Calls Tryd.prog 33 #[.pointer (some ⟨r, 0, none⟩), .int .i64 d] W fun e w' => e = .returned (.tuple #[vOrd (b.remF d).1, .int .i64 (b.remF d).2]) ∧ (∃ S', RK w' r S' (b.rem d) ∧ ∀ c, S' c → S c ∨ W.heap.size ≤ c) ∧ Frm S W w' := by
  unfold Bk.remF Bk.rem
  cases hf : bkf b.L d with
  | none => exact (kremNo_any d h hlen hf).mono fun e w' ⟨h1, h2⟩ => ⟨h1, ⟨S, h.below h2, fun c e => .inl e⟩, Frm.of_below h2⟩
  | some i =>
    obtain ⟨x, hx, -⟩ := bkf_some hf
    have := kremYes_any d h hlen hf hx
    simp only [hx, Option.getD_some]
    exact this
end
end Go.Proofs.YthbopaeaplejiaaDoor
namespace Go.Proofs.YthbopaeaplejiaaDoor
open Go.RowKit
set_option linter.unusedSimpArgs false
theorem OwG.setK {E : TypeId} {sz : Nat} {w : World} {k : Nat} {ao : Option Addr} {cap n : Nat} {cs : List Value} (h : OwG E sz w (some k) ao cap n cs) (j : Nat) (v : Value) : OwG E sz (w.setCell ⟨k, j, none⟩ v) (some k) ao cap n (cs.set j v) := by
  refine ⟨by rw [List.length_set]; exact h.cells, h.len, h.top, ?_⟩
  rcases h.at' with ⟨h0, _⟩ | ⟨k', cur, h1, h2, h3, h4, h5⟩
  · cases h0
  · cases h1
    have hb : Blk w k E cur := h3
    refine .inr ⟨k, _, rfl, h2, hb.set j v, by simpa using h4, ?_⟩
    rw [← h5, Array.toList_setIfInBounds, List.take_set]
theorem ocs_set (y : Ord) : ∀ (L : List Ord) (i : Nat), i < L.length → ocs (L.set i y) = (((((((ocs L).set (i * 7) (.int .i64 y.id)).set (i * 7 + 1) (.int .i64 y.owner)).set (i * 7 + 2) (.int .i64 y.side)).set (i * 7 + 3) (.int .i64 y.price)).set (i * 7 + 4) (.int .i64 y.qty)).set (i * 7 + 5) (.int .i64 y.flags)).set (i * 7 + 6) (.int .i64 y.seq)
  | [], i, h => by simp at h
  | z :: t, 0, _ => by simp
  | z :: t, i + 1, h => by
    have := ocs_set y t i (by simpa using h)
    have e0 : (i + 1) * 7 = i * 7 + 7 := by omega
    have e1 : i * 7 + 7 + 1 = (i * 7 + 1) + 7 := by omega
    have e2 : i * 7 + 7 + 2 = (i * 7 + 2) + 7 := by omega
    have e3 : i * 7 + 7 + 3 = (i * 7 + 3) + 7 := by omega
    have e4 : i * 7 + 7 + 4 = (i * 7 + 4) + 7 := by omega
    have e5 : i * 7 + 7 + 5 = (i * 7 + 5) + 7 := by omega
    have e6 : i * 7 + 7 + 6 = (i * 7 + 6) + 7 := by omega
    rw [e0, e1, e2, e3, e4, e5, e6]
    simp [this]
theorem ocs_get {L : List Ord} : ∀ {i : Nat} {x : Ord}, L[i]? = some x → ∀ (j : Nat) (v : Value), (cOrd x)[j]? = some v → (ocs L)[i * 7 + j]? = some v := by
  induction L with
  | nil => intro i x hx; cases hx
  | cons z t ih =>
    intro i x hx j v hj
    have hlt : j < 7 := by
      have := (Array.getElem?_eq_some_iff.1 hj).1
      simpa using this
    cases i with
    | zero =>
      cases hx
      show ((cOrd z).toList ++ ocs t)[0 * 7 + j]? = some v
      rw [List.getElem?_append_left (by simp; omega), Nat.zero_mul, Nat.zero_add]
      simpa using hj
    | succ i =>
      have e : (i + 1) * 7 + j - 7 = i * 7 + j := by omega
      show ((cOrd z).toList ++ ocs t)[(i + 1) * 7 + j]? = some v
      rw [List.getElem?_append_right (by simp; omega)]
      have := ih (i := i) (by simpa using hx) j v hj
      simpa [e] using this
theorem drew_blkK {w : World} {g : Nat} {t : TypeId} {cs : Array Value} (h : Blk w g t cs) : Blk w.drew g t cs := h
section
variable {w w' W : World} {r : Nat} {S T : Nat → Prop} {b : Bk} {ko : Option Nat} {ao : Option Addr} {cap : Nat}
/-- An order of the book turned: its seven cells. -/
theorem RkB.turn (h : RkB w r S ko ao cap b) {i : Nat} {x : Ord} (hx : b.L[i]? = some x) (y : Ord) :
    ∃ k, ao = some ⟨k, 0, none⟩ ∧ S k ∧ k ≠ r ∧ (∀ j, j < 7 → ∃ v, w.cell? ⟨k, i * 7 + j, none⟩ = some v ∧ w.frozen? ⟨k, i * 7 + j, none⟩ = false) ∧ ∀ V, V = (((((((w.setCell ⟨k, i * 7, none⟩ (.int .i64 y.id)).setCell ⟨k, i * 7 + 1, none⟩ (.int .i64 y.owner)).setCell ⟨k, i * 7 + 2, none⟩ (.int .i64 y.side)).setCell ⟨k, i * 7 + 3, none⟩ (.int .i64 y.price)).setCell ⟨k, i * 7 + 4, none⟩ (.int .i64 y.qty)).setCell ⟨k, i * 7 + 5, none⟩ (.int .i64 y.flags)).setCell ⟨k, i * 7 + 6, none⟩ (.int .i64 y.seq)) →
      RkB V r S ko ao cap { b with L := b.L.set i y } ∧ Frm (fun c => c = k) w V := by
  have hi := (List.getElem?_eq_some_iff.1 hx).1
  obtain ⟨k, rfl, rfl, -, -⟩ := h.how.cell _ _ (ocs_get hx 0 _ rfl)
  obtain ⟨hk, hkr⟩ := h.sk k rfl
  refine ⟨k, rfl, hk, hkr, fun j hj => ?_, ?_⟩
  · obtain ⟨v, hv⟩ : ∃ v, (cOrd x)[j]? = some v := ⟨_, Array.getElem?_eq_getElem (by simpa using hj)⟩
    obtain ⟨k', h1, -, h2, h3⟩ := h.how.cell _ _ (ocs_get hx j v hv)
    cases h1
    exact ⟨v, h2, h3⟩
  · rintro V rfl
    have hF : Frm (fun c => c = k) w (((((((w.setCell ⟨k, i * 7, none⟩ (.int .i64 y.id)).setCell ⟨k, i * 7 + 1, none⟩ (.int .i64 y.owner)).setCell ⟨k, i * 7 + 2, none⟩ (.int .i64 y.side)).setCell ⟨k, i * 7 + 3, none⟩ (.int .i64 y.price)).setCell ⟨k, i * 7 + 4, none⟩ (.int .i64 y.qty)).setCell ⟨k, i * 7 + 5, none⟩ (.int .i64 y.flags)).setCell ⟨k, i * 7 + 6, none⟩ (.int .i64 y.seq)) :=
      ((((((((Frm.refl (fun c => c = k) w).setCell _ _ (.inl rfl)).setCell _ _ (.inl rfl)).setCell _ _ (.inl rfl)).setCell _ _ (.inl rfl)).setCell _ _ (.inl rfl)).setCell _ _ (.inl rfl)).setCell _ _ (.inl rfl))
    refine ⟨⟨?_, ?_, h.sr, h.sk, fun c hc => Nat.lt_of_lt_of_le (h.lt c hc) hF.size⟩, hF⟩
    · have e := (hF.block r (h.lt r h.sr) (fun e => hkr e.symm)).trans h.hr
      unfold Blk
      rw [List.length_set]
      exact e
    · rw [ocs_set y b.L i hi, List.length_set]
      exact ((((((h.how.setK _ _).setK _ _).setK _ _).setK _ _).setK _ _).setK _ _).setK _ _
set_option maxRecDepth 8000 in
set_option maxHeartbeats 4000000 in
theorem kredNo_any (d by' : Int) (h : RK W r S b) (hlen : b.L.length ≤ 100000) (hf : bkf b.L d = none) :
    Calls Tryd.prog 34 #[.pointer (some ⟨r, 0, none⟩), .int .i64 d, .int .i64 by'] W fun e w' => e = .returned (.tuple #[vOrd .zero, .int .i64 5]) ∧ Below W.heap.size W w' := by
  obtain ⟨W1, hW1⟩ : ∃ W1, W1 = W.alloc (.cells (cOrd Ord.zero) 34) := ⟨_, rfl⟩
  have hBx : Blk W1 W.heap.size 34 (cOrd Ord.zero) := by rw [hW1]; exact Blk.new _ _ _
  have hF1 : Below W.heap.size W W1 := by rw [hW1]; exact (Below.refl _ _).alloc (Nat.le_refl _) _
  have cF := kfindR_any d (h.below hF1) hlen
  simp only [bkI, hf] at cF
  obtain ⟨⟨b0, b1, b2, b3, b4, b5, b6⟩, hfr, hx⟩ := ordRes hBx (Nat.le_refl _) hF1 Ord.zero
  obtain ⟨hlay, hbel, -⟩ := hx _ rfl
  obtain ⟨q0, q1, q2, q3, q4, q5, q6⟩ := Ord.cells hlay
  simp only [Ord.zero, cOrd] at hW1
  simp only [Ord.zero] at b0 b1 b2 b3 b4 b5 b6 q0 q1 q2 q3 q4 q5 q6 hbel
  simp only [Ord.zero, vOrd]
  clear hx hlay hBx h hf
  go_enter Tryd.func34, Tryd.ntmps34
  go_wp2_with (go_at_call 56; rw [← hW1]; (with_reducible refine cF.mono ?_); rintro e W1 ⟨rfl, rfl⟩; clear hW1)
  refine bodyPost_ret (v := .tuple #[.agg #[.int .i64 0, .int .i64 0, .int .i64 0, .int .i64 0, .int .i64 0, .int .i64 0, .int .i64 0], .int .i64 5]) ?_ rfl ⟨rfl, hbel⟩
  simp [results, Tryd.results34, go_sem, q0, q1, q2, q3, q4, q5, q6]
/-- The boxes of a Reduce whose order is there. -/
theorem kred_box (h : RK W r S b) {i : Nat} {x : Ord} (hx : b.L[i]? = some x) (z : Ord) : ∃ W1, W1 = W.alloc (.cells (cOrd Ord.zero) 34) ∧ RK W1 r S b ∧ Below W.heap.size W W1 ∧ W1.heap.size = W.heap.size + 1 ∧
    (∃ bx off cap, W1.cell? ⟨r, 2, none⟩ = some (.slice (some ⟨bx, off, none⟩) b.L.length cap) ∧ W1.cell? ⟨bx, off + i * 7, none⟩ = some (.int .i64 x.id) ∧ W1.cell? ⟨bx, off + i * 7 + 1, none⟩ = some (.int .i64 x.owner) ∧ W1.cell? ⟨bx, off + i * 7 + 2, none⟩ = some (.int .i64 x.side) ∧ W1.cell? ⟨bx, off + i * 7 + 3, none⟩ = some (.int .i64 x.price) ∧ W1.cell? ⟨bx, off + i * 7 + 4, none⟩ = some (.int .i64 x.qty) ∧ W1.cell? ⟨bx, off + i * 7 + 5, none⟩ = some (.int .i64 x.flags) ∧ W1.cell? ⟨bx, off + i * 7 + 6, none⟩ = some (.int .i64 x.seq)) ∧
    (∀ c, S c → c < W.heap.size) ∧
    ∃ W9, W9 = W1.alloc (.cells (cOrd z) 34) ∧ RK W9 r S b ∧ Below W.heap.size W W9 ∧ W9.heap.size = W.heap.size + 2 ∧ Blk W9 (W.heap.size + 1) 34 (cOrd z) ∧ Blk W9 W.heap.size 34 (cOrd Ord.zero) := by
  have hF1 : Below W.heap.size W (W.alloc (.cells (cOrd Ord.zero) 34)) := (Below.refl _ _).alloc (Nat.le_refl _) _
  have h1 := h.below hF1
  have hSl := h.lt
  refine ⟨_, rfl, h1, hF1, by simp, ?_, hSl, _, rfl, ?_⟩
  · obtain ⟨ko, ao, cap, h2⟩ := h1
    obtain ⟨bx, off, rfl, y0, y1, y2, y3, y4, y5, y6⟩ := h2.rows.get hx
    exact ⟨bx, off, cap, h2.c2, y0, y1, y2, y3, y4, y5, y6⟩
  · generalize hW1 : W.alloc (.cells (cOrd Ord.zero) 34) = W1 at *
    have hs1 : W1.heap.size = W.heap.size + 1 := by rw [← hW1]; simp
    have h19 : Below W1.heap.size W1 (W1.alloc (.cells (cOrd z) 34)) := (Below.refl _ _).alloc (Nat.le_refl _) _
    have hBx : Blk W1 W.heap.size 34 (cOrd Ord.zero) := by rw [← hW1]; exact Blk.new _ _ _
    exact ⟨h1.below h19, hF1.trans (h19.mono hF1.size), by simp [hs1], Blk.new' hs1.symm, hBx.below h19 hBx.lt⟩
set_option maxRecDepth 8000 in
set_option maxHeartbeats 4000000 in
theorem kredRange_any (d by' : Int) (h : RK W r S b) (hlen : b.L.length ≤ 100000) {i : Nat} {x : Ord} (hf : bkf b.L d = some i) (hx : b.L[i]? = some x) (hb : by' < 1 ∨ x.qty < by') :
    Calls Tryd.prog 34 #[.pointer (some ⟨r, 0, none⟩), .int .i64 d, .int .i64 by'] W fun e w' => e = .returned (.tuple #[vOrd .zero, .int .i64 9]) ∧ Below W.heap.size W w' := by
  have hi := bkf_lt hf
  obtain ⟨W1, hW1, h1, hF1, hs1, ⟨bx, off, cap, c2, y0, y1, y2, y3, y4, y5, y6⟩, -, W9, hW9, h9, hF9, hs9, hBo, hB0⟩ := kred_box h hx x
  have cF := kfindR_any d h1 hlen
  simp only [bkI, hf] at cF
  obtain ⟨⟨b0, b1, b2, b3, b4, b5, b6⟩, hfr, hxx⟩ := ordRes hB0 (Nat.le_refl _) hF9 Ord.zero
  obtain ⟨hlay, hbel, -⟩ := hxx _ rfl
  obtain ⟨q0, q1, q2, q3, q4, q5, q6⟩ := Ord.cells hlay
  have k4 := hBo.cell_eq 4 (.int .i64 x.qty) rfl
  have hi2 : (i : Int) < (b.L.length : Int) := by omega
  have hi0 : ¬ (i : Int) < 0 := by omega
  have hd0 : decide ((i : Int) < 0) = false := decide_eq_false hi0
  have hcase : decide (by' < 1) = true ∨ (decide (by' < 1) = false ∧ decide (x.qty < by') = true) := by
    by_cases g : by' < 1
    · exact .inl (decide_eq_true g)
    · exact .inr ⟨decide_eq_false g, decide_eq_true (by omega)⟩
  simp only [Ord.zero, cOrd] at hW1
  simp only [cOrd] at hW9
  simp only [Ord.zero] at b0 b1 b2 b3 b4 b5 b6 q0 q1 q2 q3 q4 q5 q6 hbel
  simp only [Ord.zero, vOrd]
  replace hs1 := Lib.hid hs1
  clear hxx hlay h h1 h9 hf hx hb hBo hB0 hF1 hF9 hs9
  rcases hcase with g | ⟨g, g2⟩
  all_goals
    go_enter Tryd.func34, Tryd.ntmps34
    go_wp2_with (first
      | (go_at_call 56; rw [← hW1]; (with_reducible refine cF.mono ?_); rintro e w1 ⟨rfl, hw1⟩; subst w1; clear hW1 cF)
      | (rw [hs1.out, ← hW9]; clear hW9 y0 y1 y2 y3 y4 y5 y6 c2)
      | fail)
    refine bodyPost_ret (v := .tuple #[.agg #[.int .i64 0, .int .i64 0, .int .i64 0, .int .i64 0, .int .i64 0, .int .i64 0, .int .i64 0], .int .i64 9]) ?_ rfl ⟨rfl, hbel⟩
    simp [results, Tryd.results34, go_sem, q0, q1, q2, q3, q4, q5, q6]
/-- The end of a Reduce: the box of the order is read, the result is written. -/
theorem kred_end {V : World} {z : Ord} {b' : Bk} {S' : Nat → Prop} (hV : Frm S W V) (hR : RK V r S' b') (hS : ∀ c, S' c → c ≠ W.heap.size ∧ (S c ∨ W.heap.size ≤ c)) (hBo : Blk V (W.heap.size + 1) 34 (cOrd z)) (hB0 : Blk V W.heap.size 34 (cOrd Ord.zero)) :
    (V.cell? ⟨W.heap.size + 1, 0, none⟩ = some (.int .i64 z.id) ∧ V.cell? ⟨W.heap.size + 1, 1, none⟩ = some (.int .i64 z.owner) ∧ V.cell? ⟨W.heap.size + 1, 2, none⟩ = some (.int .i64 z.side) ∧ V.cell? ⟨W.heap.size + 1, 3, none⟩ = some (.int .i64 z.price) ∧ V.cell? ⟨W.heap.size + 1, 4, none⟩ = some (.int .i64 z.qty) ∧ V.cell? ⟨W.heap.size + 1, 5, none⟩ = some (.int .i64 z.flags) ∧ V.cell? ⟨W.heap.size + 1, 6, none⟩ = some (.int .i64 z.seq)) ∧
    (V.cell? ⟨W.heap.size, 0, none⟩ = some (.int .i64 0) ∧ V.cell? ⟨W.heap.size, 1, none⟩ = some (.int .i64 0) ∧ V.cell? ⟨W.heap.size, 2, none⟩ = some (.int .i64 0) ∧ V.cell? ⟨W.heap.size, 3, none⟩ = some (.int .i64 0) ∧ V.cell? ⟨W.heap.size, 4, none⟩ = some (.int .i64 0) ∧ V.cell? ⟨W.heap.size, 5, none⟩ = some (.int .i64 0) ∧ V.cell? ⟨W.heap.size, 6, none⟩ = some (.int .i64 0)) ∧ (∀ i, V.frozen? ⟨W.heap.size, i, none⟩ = false) ∧
    ((((((((V.setCell ⟨W.heap.size, 0, none⟩ (.int .i64 z.id)).setCell ⟨W.heap.size, 1, none⟩ (.int .i64 z.owner)).setCell ⟨W.heap.size, 2, none⟩ (.int .i64 z.side)).setCell ⟨W.heap.size, 3, none⟩ (.int .i64 z.price)).setCell ⟨W.heap.size, 4, none⟩ (.int .i64 z.qty)).setCell ⟨W.heap.size, 5, none⟩ (.int .i64 z.flags)).setCell ⟨W.heap.size, 6, none⟩ (.int .i64 z.seq)).cell? ⟨W.heap.size, 0, none⟩ = some (.int .i64 z.id) ∧ (((((((V.setCell ⟨W.heap.size, 0, none⟩ (.int .i64 z.id)).setCell ⟨W.heap.size, 1, none⟩ (.int .i64 z.owner)).setCell ⟨W.heap.size, 2, none⟩ (.int .i64 z.side)).setCell ⟨W.heap.size, 3, none⟩ (.int .i64 z.price)).setCell ⟨W.heap.size, 4, none⟩ (.int .i64 z.qty)).setCell ⟨W.heap.size, 5, none⟩ (.int .i64 z.flags)).setCell ⟨W.heap.size, 6, none⟩ (.int .i64 z.seq)).cell? ⟨W.heap.size, 1, none⟩ = some (.int .i64 z.owner) ∧ (((((((V.setCell ⟨W.heap.size, 0, none⟩ (.int .i64 z.id)).setCell ⟨W.heap.size, 1, none⟩ (.int .i64 z.owner)).setCell ⟨W.heap.size, 2, none⟩ (.int .i64 z.side)).setCell ⟨W.heap.size, 3, none⟩ (.int .i64 z.price)).setCell ⟨W.heap.size, 4, none⟩ (.int .i64 z.qty)).setCell ⟨W.heap.size, 5, none⟩ (.int .i64 z.flags)).setCell ⟨W.heap.size, 6, none⟩ (.int .i64 z.seq)).cell? ⟨W.heap.size, 2, none⟩ = some (.int .i64 z.side) ∧ (((((((V.setCell ⟨W.heap.size, 0, none⟩ (.int .i64 z.id)).setCell ⟨W.heap.size, 1, none⟩ (.int .i64 z.owner)).setCell ⟨W.heap.size, 2, none⟩ (.int .i64 z.side)).setCell ⟨W.heap.size, 3, none⟩ (.int .i64 z.price)).setCell ⟨W.heap.size, 4, none⟩ (.int .i64 z.qty)).setCell ⟨W.heap.size, 5, none⟩ (.int .i64 z.flags)).setCell ⟨W.heap.size, 6, none⟩ (.int .i64 z.seq)).cell? ⟨W.heap.size, 3, none⟩ = some (.int .i64 z.price) ∧ (((((((V.setCell ⟨W.heap.size, 0, none⟩ (.int .i64 z.id)).setCell ⟨W.heap.size, 1, none⟩ (.int .i64 z.owner)).setCell ⟨W.heap.size, 2, none⟩ (.int .i64 z.side)).setCell ⟨W.heap.size, 3, none⟩ (.int .i64 z.price)).setCell ⟨W.heap.size, 4, none⟩ (.int .i64 z.qty)).setCell ⟨W.heap.size, 5, none⟩ (.int .i64 z.flags)).setCell ⟨W.heap.size, 6, none⟩ (.int .i64 z.seq)).cell? ⟨W.heap.size, 4, none⟩ = some (.int .i64 z.qty) ∧ (((((((V.setCell ⟨W.heap.size, 0, none⟩ (.int .i64 z.id)).setCell ⟨W.heap.size, 1, none⟩ (.int .i64 z.owner)).setCell ⟨W.heap.size, 2, none⟩ (.int .i64 z.side)).setCell ⟨W.heap.size, 3, none⟩ (.int .i64 z.price)).setCell ⟨W.heap.size, 4, none⟩ (.int .i64 z.qty)).setCell ⟨W.heap.size, 5, none⟩ (.int .i64 z.flags)).setCell ⟨W.heap.size, 6, none⟩ (.int .i64 z.seq)).cell? ⟨W.heap.size, 5, none⟩ = some (.int .i64 z.flags) ∧ (((((((V.setCell ⟨W.heap.size, 0, none⟩ (.int .i64 z.id)).setCell ⟨W.heap.size, 1, none⟩ (.int .i64 z.owner)).setCell ⟨W.heap.size, 2, none⟩ (.int .i64 z.side)).setCell ⟨W.heap.size, 3, none⟩ (.int .i64 z.price)).setCell ⟨W.heap.size, 4, none⟩ (.int .i64 z.qty)).setCell ⟨W.heap.size, 5, none⟩ (.int .i64 z.flags)).setCell ⟨W.heap.size, 6, none⟩ (.int .i64 z.seq)).cell? ⟨W.heap.size, 6, none⟩ = some (.int .i64 z.seq)) ∧
    (∃ S', RK (((((((V.setCell ⟨W.heap.size, 0, none⟩ (.int .i64 z.id)).setCell ⟨W.heap.size, 1, none⟩ (.int .i64 z.owner)).setCell ⟨W.heap.size, 2, none⟩ (.int .i64 z.side)).setCell ⟨W.heap.size, 3, none⟩ (.int .i64 z.price)).setCell ⟨W.heap.size, 4, none⟩ (.int .i64 z.qty)).setCell ⟨W.heap.size, 5, none⟩ (.int .i64 z.flags)).setCell ⟨W.heap.size, 6, none⟩ (.int .i64 z.seq)) r S' b' ∧ ∀ c, S' c → S c ∨ W.heap.size ≤ c) ∧ Frm S W (((((((V.setCell ⟨W.heap.size, 0, none⟩ (.int .i64 z.id)).setCell ⟨W.heap.size, 1, none⟩ (.int .i64 z.owner)).setCell ⟨W.heap.size, 2, none⟩ (.int .i64 z.side)).setCell ⟨W.heap.size, 3, none⟩ (.int .i64 z.price)).setCell ⟨W.heap.size, 4, none⟩ (.int .i64 z.qty)).setCell ⟨W.heap.size, 5, none⟩ (.int .i64 z.flags)).setCell ⟨W.heap.size, 6, none⟩ (.int .i64 z.seq)) := by
  obtain ⟨z1, z2, z3⟩ := ordRes0 hB0 z
  obtain ⟨v1, v3⟩ := z3 _ rfl
  exact ⟨Ord.cells hBo, z1, z2, Ord.cells v1, ⟨S', hR.frm v3 (fun c e hc => (hS c hc).1 e), fun c e => (hS c e).2⟩, hV.trans v3 (fun c e => .inr (by omega))⟩
set_option maxRecDepth 8000 in
set_option maxHeartbeats 8000000 in
theorem kredGone_any (d : Int) (h : RK W r S b) (hlen : b.L.length ≤ 100000) {i : Nat} {x : Ord} (hf : bkf b.L d = some i) (hx : b.L[i]? = some x) (hq : 1 ≤ x.qty) :
    Calls Tryd.prog 34 #[.pointer (some ⟨r, 0, none⟩), .int .i64 d, .int .i64 x.qty] W fun e w' => e = .returned (.tuple #[vOrd { x with qty := 0 }, .int .i64 0]) ∧ (∃ S', RK w' r S' { b with L := b.L.eraseIdx i } ∧ ∀ c, S' c → S c ∨ W.heap.size ≤ c) ∧ Frm S W w' := by
  have hi := bkf_lt hf
  obtain ⟨W1, hW1, h1, hF1, hs1, ⟨bx, off, cap, c2, y0, y1, y2, y3, y4, y5, y6⟩, hSl, W9, hW9, h9, hF9, hs9, hBo, hB0⟩ := kred_box h hx { x with qty := 0 }
  have cF := kfindR_any d h1 hlen
  simp only [bkI, hf] at cF
  have cR := kremYes_any d h9 hlen hf hx
  have hi2 : (i : Int) < (b.L.length : Int) := by omega
  have hi0 : ¬ (i : Int) < 0 := by omega
  have hd0 : decide ((i : Int) < 0) = false := decide_eq_false hi0
  have g1 : decide (x.qty < 1) = false := decide_eq_false (by omega)
  have k4 : W9.cell? ⟨W.heap.size + 1, 4, none⟩ = some (.int .i64 0) := hBo.cell_eq 4 _ rfl
  have hfin : ∀ V, (∃ S', RK V r S' { b with L := b.L.eraseIdx i } ∧ ∀ c, S' c → S c ∨ W9.heap.size ≤ c) → Frm S W9 V → _ := fun V hR hf2 =>
    kred_end (S := S) (z := { x with qty := 0 }) ((Frm.of_below hF9).trans hf2 (fun c e => .inl e)) hR.choose_spec.1 (fun c e => by
      rcases hR.choose_spec.2 c e with g | g
      · have := hSl c g; exact ⟨by omega, .inl g⟩
      · exact ⟨by omega, .inr (by omega)⟩) (blk_frmK hBo hf2 (fun e => by have := hSl _ e; omega)) (blk_frmK hB0 hf2 (fun e => by have := hSl _ e; omega))
  obtain ⟨x0, x1, x2, x3, x4, x5, x6⟩ := x
  simp only [Ord.zero, cOrd] at hW1
  simp only [cOrd] at hW9
  simp only [vOrd] at *
  have hw0 : IntKind.i64.wrap (x4 - x4) = 0 := by rw [Int.sub_self]; rfl
  replace hs1 := Lib.hid hs1
  replace hfin := Lib.hid hfin
  clear h h1 h9 hf hx hBo hB0 hF1 hF9 hs9 hq hSl hlen
  go_enter Tryd.func34, Tryd.ntmps34
  go_wp2_with (first
    | (go_at_call 56; rw [← hW1]; (with_reducible refine cF.mono ?_); rintro e w1 ⟨rfl, hw1⟩; subst w1; clear hW1 cF)
    | (rw [hs1.out, ← hW9]; clear hW9 y0 y1 y2 y3 y4 y5 y6 c2)
    | (go_at_call 33; (with_reducible refine cR.mono ?_); rintro e V ⟨rfl, hR, hf2⟩; obtain ⟨⟨e0, e1, e2, e3, e4, e5, e6⟩, ⟨b0, b1, b2, b3, b4, b5, b6⟩, hfr, ⟨q0, q1, q2, q3, q4, q5, q6⟩, hend⟩ := hfin.out V hR hf2; replace hend := Lib.hid hend; clear cR hR hf2 hfin k4)
    | fail)
  refine bodyPost_ret (v := .tuple #[.agg #[.int .i64 x0, .int .i64 x1, .int .i64 x2, .int .i64 x3, .int .i64 0, .int .i64 x5, .int .i64 x6], .int .i64 0]) ?_ rfl ⟨rfl, hend.out⟩
  simp [results, Tryd.results34, go_sem, q0, q1, q2, q3, q4, q5, q6]
set_option maxRecDepth 8000 in
set_option maxHeartbeats 8000000 in
theorem kredCut_any (d by' : Int) (h : RK W r S b) (hlen : b.L.length ≤ 100000) {i : Nat} {x : Ord} (hf : bkf b.L d = some i) (hx : b.L[i]? = some x) (hq : 1 ≤ by') (hq2 : by' < x.qty) (hq3 : In64 x.qty) :
    Calls Tryd.prog 34 #[.pointer (some ⟨r, 0, none⟩), .int .i64 d, .int .i64 by'] W fun e w' => e = .returned (.tuple #[vOrd { x with qty := x.qty - by' }, .int .i64 0]) ∧ (∃ S', RK w' r S' { b with L := b.L.set i { x with qty := x.qty - by' } } ∧ ∀ c, S' c → S c ∨ W.heap.size ≤ c) ∧ Frm S W w' := by
  have hi := bkf_lt hf
  obtain ⟨n, hn⟩ : ∃ n, n = x.qty - by' := ⟨_, rfl⟩
  have hw0 : IntKind.i64.wrap (x.qty - by') = n := by
    unfold In64 at hq3
    rw [IntKind.wrap_i64]
    omega
  have hn0 : (n == 0) = false := by simp; omega
  have g1 : decide (by' < 1) = false := decide_eq_false (by omega)
  have g2 : decide (x.qty < by') = false := decide_eq_false (by omega)
  rw [← hn]
  obtain ⟨W1, hW1, h1, hF1, hs1, ⟨bx, off, cap, c2, y0, y1, y2, y3, y4, y5, y6⟩, hSl, W9, hW9, h9, hF9, hs9, hBo, hB0⟩ := kred_box h hx { x with qty := n }
  have cF := kfindR_any d h1 hlen
  simp only [bkI, hf] at cF
  have hi2 : (i : Int) < (b.L.length : Int) := by omega
  have hi0 : ¬ (i : Int) < 0 := by omega
  have hd0 : decide ((i : Int) < 0) = false := decide_eq_false hi0
  have k4 : W9.cell? ⟨W.heap.size + 1, 4, none⟩ = some (.int .i64 n) := hBo.cell_eq 4 _ rfl
  obtain ⟨z, hz⟩ : ∃ z, z = { x with qty := n } := ⟨_, rfl⟩
  rw [← hz] at hBo
  obtain ⟨ko, ao, cap9, h9⟩ := h9
  obtain ⟨i1, hi1, e1⟩ := Option.map_eq_some_iff.1 infoKOrd
  simp only [Prod.mk.injEq] at e1
  obtain ⟨hz1, hsz1, hb1⟩ := e1
  have hL7 := ocs_one b.L
  have hK : ∀ w, Below W9.heap.size W9 w → SrcG 7 w ao cap9 b.L.length (ocs b.L) ∧ w.cell? ⟨r, 2, none⟩ = some (.slice ao b.L.length cap9) ∧ w.frozen? ⟨r, 2, none⟩ = false := fun w hb => ⟨(h9.below hb).how.src hL7, (h9.below hb).c2, (h9.below hb).hr.free 2⟩
  have hfin : ∀ w2 ao2 cap2 ko2, Below W9.heap.size W9 w2 → (∀ k, ko2 = some k → W9.heap.size ≤ k) → OwG 34 7 w2 ko2 ao2 cap2 b.L.length (ocs b.L) →
      ∃ V1, V1 = w2.setCell ⟨r, 2, none⟩ (.slice ao2 b.L.length cap2) ∧ ∃ k cap', V1.cell? ⟨r, 2, none⟩ = some (.slice (some ⟨k, 0, none⟩) b.L.length cap') ∧ (V1.cell? ⟨W.heap.size + 1, 0, none⟩ = some (.int .i64 z.id) ∧ V1.cell? ⟨W.heap.size + 1, 1, none⟩ = some (.int .i64 z.owner) ∧ V1.cell? ⟨W.heap.size + 1, 2, none⟩ = some (.int .i64 z.side) ∧ V1.cell? ⟨W.heap.size + 1, 3, none⟩ = some (.int .i64 z.price) ∧ V1.cell? ⟨W.heap.size + 1, 4, none⟩ = some (.int .i64 z.qty) ∧ V1.cell? ⟨W.heap.size + 1, 5, none⟩ = some (.int .i64 z.flags) ∧ V1.cell? ⟨W.heap.size + 1, 6, none⟩ = some (.int .i64 z.seq)) ∧ ∀ V3, V3 = V1.drew → (∃ v0 v1 v2 v3 v4 v5 v6, V3.cell? ⟨k, i * 7, none⟩ = some v0 ∧ V3.cell? ⟨k, i * 7 + 1, none⟩ = some v1 ∧ V3.cell? ⟨k, i * 7 + 2, none⟩ = some v2 ∧ V3.cell? ⟨k, i * 7 + 3, none⟩ = some v3 ∧ V3.cell? ⟨k, i * 7 + 4, none⟩ = some v4 ∧ V3.cell? ⟨k, i * 7 + 5, none⟩ = some v5 ∧ V3.cell? ⟨k, i * 7 + 6, none⟩ = some v6) ∧ (∀ j, j < 7 → V3.frozen? ⟨k, i * 7 + j, none⟩ = false) ∧
        ∃ V4, V4 = (((((((V3.setCell ⟨k, i * 7, none⟩ (.int .i64 z.id)).setCell ⟨k, i * 7 + 1, none⟩ (.int .i64 z.owner)).setCell ⟨k, i * 7 + 2, none⟩ (.int .i64 z.side)).setCell ⟨k, i * 7 + 3, none⟩ (.int .i64 z.price)).setCell ⟨k, i * 7 + 4, none⟩ (.int .i64 z.qty)).setCell ⟨k, i * 7 + 5, none⟩ (.int .i64 z.flags)).setCell ⟨k, i * 7 + 6, none⟩ (.int .i64 z.seq)) ∧ (V4.cell? ⟨W.heap.size + 1, 0, none⟩ = some (.int .i64 z.id) ∧ V4.cell? ⟨W.heap.size + 1, 1, none⟩ = some (.int .i64 z.owner) ∧ V4.cell? ⟨W.heap.size + 1, 2, none⟩ = some (.int .i64 z.side) ∧ V4.cell? ⟨W.heap.size + 1, 3, none⟩ = some (.int .i64 z.price) ∧ V4.cell? ⟨W.heap.size + 1, 4, none⟩ = some (.int .i64 z.qty) ∧ V4.cell? ⟨W.heap.size + 1, 5, none⟩ = some (.int .i64 z.flags) ∧ V4.cell? ⟨W.heap.size + 1, 6, none⟩ = some (.int .i64 z.seq)) ∧ (V4.cell? ⟨W.heap.size, 0, none⟩ = some (.int .i64 0) ∧ V4.cell? ⟨W.heap.size, 1, none⟩ = some (.int .i64 0) ∧ V4.cell? ⟨W.heap.size, 2, none⟩ = some (.int .i64 0) ∧ V4.cell? ⟨W.heap.size, 3, none⟩ = some (.int .i64 0) ∧ V4.cell? ⟨W.heap.size, 4, none⟩ = some (.int .i64 0) ∧ V4.cell? ⟨W.heap.size, 5, none⟩ = some (.int .i64 0) ∧ V4.cell? ⟨W.heap.size, 6, none⟩ = some (.int .i64 0)) ∧ (∀ i, V4.frozen? ⟨W.heap.size, i, none⟩ = false) ∧ ((((((((V4.setCell ⟨W.heap.size, 0, none⟩ (.int .i64 z.id)).setCell ⟨W.heap.size, 1, none⟩ (.int .i64 z.owner)).setCell ⟨W.heap.size, 2, none⟩ (.int .i64 z.side)).setCell ⟨W.heap.size, 3, none⟩ (.int .i64 z.price)).setCell ⟨W.heap.size, 4, none⟩ (.int .i64 z.qty)).setCell ⟨W.heap.size, 5, none⟩ (.int .i64 z.flags)).setCell ⟨W.heap.size, 6, none⟩ (.int .i64 z.seq)).cell? ⟨W.heap.size, 0, none⟩ = some (.int .i64 z.id) ∧ (((((((V4.setCell ⟨W.heap.size, 0, none⟩ (.int .i64 z.id)).setCell ⟨W.heap.size, 1, none⟩ (.int .i64 z.owner)).setCell ⟨W.heap.size, 2, none⟩ (.int .i64 z.side)).setCell ⟨W.heap.size, 3, none⟩ (.int .i64 z.price)).setCell ⟨W.heap.size, 4, none⟩ (.int .i64 z.qty)).setCell ⟨W.heap.size, 5, none⟩ (.int .i64 z.flags)).setCell ⟨W.heap.size, 6, none⟩ (.int .i64 z.seq)).cell? ⟨W.heap.size, 1, none⟩ = some (.int .i64 z.owner) ∧ (((((((V4.setCell ⟨W.heap.size, 0, none⟩ (.int .i64 z.id)).setCell ⟨W.heap.size, 1, none⟩ (.int .i64 z.owner)).setCell ⟨W.heap.size, 2, none⟩ (.int .i64 z.side)).setCell ⟨W.heap.size, 3, none⟩ (.int .i64 z.price)).setCell ⟨W.heap.size, 4, none⟩ (.int .i64 z.qty)).setCell ⟨W.heap.size, 5, none⟩ (.int .i64 z.flags)).setCell ⟨W.heap.size, 6, none⟩ (.int .i64 z.seq)).cell? ⟨W.heap.size, 2, none⟩ = some (.int .i64 z.side) ∧ (((((((V4.setCell ⟨W.heap.size, 0, none⟩ (.int .i64 z.id)).setCell ⟨W.heap.size, 1, none⟩ (.int .i64 z.owner)).setCell ⟨W.heap.size, 2, none⟩ (.int .i64 z.side)).setCell ⟨W.heap.size, 3, none⟩ (.int .i64 z.price)).setCell ⟨W.heap.size, 4, none⟩ (.int .i64 z.qty)).setCell ⟨W.heap.size, 5, none⟩ (.int .i64 z.flags)).setCell ⟨W.heap.size, 6, none⟩ (.int .i64 z.seq)).cell? ⟨W.heap.size, 3, none⟩ = some (.int .i64 z.price) ∧ (((((((V4.setCell ⟨W.heap.size, 0, none⟩ (.int .i64 z.id)).setCell ⟨W.heap.size, 1, none⟩ (.int .i64 z.owner)).setCell ⟨W.heap.size, 2, none⟩ (.int .i64 z.side)).setCell ⟨W.heap.size, 3, none⟩ (.int .i64 z.price)).setCell ⟨W.heap.size, 4, none⟩ (.int .i64 z.qty)).setCell ⟨W.heap.size, 5, none⟩ (.int .i64 z.flags)).setCell ⟨W.heap.size, 6, none⟩ (.int .i64 z.seq)).cell? ⟨W.heap.size, 4, none⟩ = some (.int .i64 z.qty) ∧ (((((((V4.setCell ⟨W.heap.size, 0, none⟩ (.int .i64 z.id)).setCell ⟨W.heap.size, 1, none⟩ (.int .i64 z.owner)).setCell ⟨W.heap.size, 2, none⟩ (.int .i64 z.side)).setCell ⟨W.heap.size, 3, none⟩ (.int .i64 z.price)).setCell ⟨W.heap.size, 4, none⟩ (.int .i64 z.qty)).setCell ⟨W.heap.size, 5, none⟩ (.int .i64 z.flags)).setCell ⟨W.heap.size, 6, none⟩ (.int .i64 z.seq)).cell? ⟨W.heap.size, 5, none⟩ = some (.int .i64 z.flags) ∧ (((((((V4.setCell ⟨W.heap.size, 0, none⟩ (.int .i64 z.id)).setCell ⟨W.heap.size, 1, none⟩ (.int .i64 z.owner)).setCell ⟨W.heap.size, 2, none⟩ (.int .i64 z.side)).setCell ⟨W.heap.size, 3, none⟩ (.int .i64 z.price)).setCell ⟨W.heap.size, 4, none⟩ (.int .i64 z.qty)).setCell ⟨W.heap.size, 5, none⟩ (.int .i64 z.flags)).setCell ⟨W.heap.size, 6, none⟩ (.int .i64 z.seq)).cell? ⟨W.heap.size, 6, none⟩ = some (.int .i64 z.seq)) ∧ (∃ S', RK (((((((V4.setCell ⟨W.heap.size, 0, none⟩ (.int .i64 z.id)).setCell ⟨W.heap.size, 1, none⟩ (.int .i64 z.owner)).setCell ⟨W.heap.size, 2, none⟩ (.int .i64 z.side)).setCell ⟨W.heap.size, 3, none⟩ (.int .i64 z.price)).setCell ⟨W.heap.size, 4, none⟩ (.int .i64 z.qty)).setCell ⟨W.heap.size, 5, none⟩ (.int .i64 z.flags)).setCell ⟨W.heap.size, 6, none⟩ (.int .i64 z.seq)) r S' { b with L := b.L.set i z } ∧ ∀ c, S' c → S c ∨ W.heap.size ≤ c) ∧ Frm S W (((((((V4.setCell ⟨W.heap.size, 0, none⟩ (.int .i64 z.id)).setCell ⟨W.heap.size, 1, none⟩ (.int .i64 z.owner)).setCell ⟨W.heap.size, 2, none⟩ (.int .i64 z.side)).setCell ⟨W.heap.size, 3, none⟩ (.int .i64 z.price)).setCell ⟨W.heap.size, 4, none⟩ (.int .i64 z.qty)).setCell ⟨W.heap.size, 5, none⟩ (.int .i64 z.flags)).setCell ⟨W.heap.size, 6, none⟩ (.int .i64 z.seq)) := by
    intro w2 ao2 cap2 ko2 hb hk' ho
    obtain ⟨⟨S', g1, g2⟩, g3⟩ := h9.lay hb (L := b.L) ho hk'
    obtain ⟨V1, hV1⟩ : ∃ V1, V1 = w2.setCell ⟨r, 2, none⟩ (.slice ao2 b.L.length cap2) := ⟨_, rfl⟩
    rw [← hV1] at g1 g3 ⊢
    have hr := hSl r h9.sr
    have k1 : Blk V1 (W.heap.size + 1) 34 (cOrd z) := by rw [hV1]; exact (hBo.below hb hBo.lt).other (by show r ≠ _; omega) _
    have k0 : Blk V1 W.heap.size 34 (cOrd Ord.zero) := by rw [hV1]; exact (hB0.below hb hB0.lt).other (by show r ≠ _; omega) _
    obtain ⟨ko3, ao3, cap3, g1⟩ := g1
    have g1d : RkB V1.drew r S' ko3 ao3 cap3 b := g1.below (Below.refl _ _).drew
    obtain ⟨k, rfl, hSk, hkr, hcells, hturn⟩ := g1d.turn hx z
    refine ⟨V1, rfl, k, cap3, g1.c2, Ord.cells k1, ?_⟩
    rintro V3 rfl
    obtain ⟨v0, u0, -⟩ := hcells 0 (by omega)
    obtain ⟨v1, u1, -⟩ := hcells 1 (by omega)
    obtain ⟨v2, u2, -⟩ := hcells 2 (by omega)
    obtain ⟨v3, u3, -⟩ := hcells 3 (by omega)
    obtain ⟨v4, u4, -⟩ := hcells 4 (by omega)
    obtain ⟨v5, u5, -⟩ := hcells 5 (by omega)
    obtain ⟨v6, u6, -⟩ := hcells 6 (by omega)
    refine ⟨⟨v0, v1, v2, v3, v4, v5, v6, u0, u1, u2, u3, u4, u5, u6⟩, fun j hj => by obtain ⟨v, -, hf⟩ := hcells j hj; exact hf, _, rfl, ?_⟩
    obtain ⟨t1, t2⟩ := hturn _ rfl
    have hkne : k ≠ W.heap.size ∧ k ≠ W.heap.size + 1 := by
      rcases g2 k hSk with g | g
      · have := hSl k g; omega
      · omega
    refine kred_end (S := S) (z := z) ?_ ⟨_, _, _, t1⟩ (fun c e => ?_) (blk_frmK (drew_blkK k1) t2 (fun e => hkne.2 e.symm)) (blk_frmK (drew_blkK k0) t2 (fun e => hkne.1 e.symm))
    · refine ((Frm.of_below hF9).trans g3 (fun c e => .inl e)).trans (((Frm.refl (fun c => c = k) V1).drew).trans t2 (fun c e => .inl e)) (fun c e => ?_)
      subst e
      rcases g2 _ hSk with g | g
      · exact .inl g
      · exact .inr (by omega)
    · rcases g2 c e with g | g
      · have := hSl c g; exact ⟨by omega, .inl g⟩
      · exact ⟨by omega, .inr (by omega)⟩
  have app : ∀ ao1 cap1 ko1 w1, OwG 34 7 w1 ko1 ao1 cap1 b.L.length (ocs b.L) → Frm (fun c => some W9.heap.size = some c) (W9.alloc (.cells #[] 34)) w1 → Moved (W9.alloc (.cells #[] 34)) (some W9.heap.size) ko1 → Below W9.heap.size W9 w1 ∧ ∀ k, ko1 = some k → W9.heap.size ≤ k := by
    intro ao1 cap1 ko1 w1 ho1 hf1 hm1
    exact app_newK (B := W9.heap.size) ((Below.refl W9.heap.size W9).alloc (Nat.le_refl _) (.cells #[] 34)) (by simp) (fun k e => by cases e; exact Nat.le_refl _) hf1 hm1
  have hbA : Below W9.heap.size W9 (W9.alloc (.cells #[] 34)) := (Below.refl _ _).alloc (Nat.le_refl _) _
  have cA := (hK _ hbA).2.1
  have hsrcA := (hK _ hbA).1
  obtain ⟨x0, x1, x2, x3, x4, x5, x6⟩ := x
  simp only at hz hw0 hn g2 y0 y1 y2 y3 y4 y5 y6
  have hzz : z = ⟨x0, x1, x2, x3, n, x5, x6⟩ := hz
  subst hzz
  simp only [Ord.zero, cOrd] at hW1
  simp only [cOrd] at hW9
  simp only [vOrd] at *
  replace hs1 := Lib.hid hs1
  replace hfin := Lib.hid hfin
  replace app := Lib.hid app
  replace hK := Lib.hid hK
  clear h h1 h9 hf hx hBo hB0 hF1 hF9 hs9 hq hq2 hq3 hSl hn hz hL7
  generalize b.L.length = m at *
  go_enter Tryd.func34, Tryd.ntmps34
  go_wp2_with (first
    | (go_at_call 56; rw [← hW1]; (with_reducible refine cF.mono ?_); rintro e w1 ⟨rfl, hw1⟩; subst w1; clear hW1 cF)
    | (rw [hs1.out, ← hW9]; clear hW9 y0 y1 y2 y3 y4 y5 y6 c2)
    | (at_builtin; refine wpList_appG rfl (.tmp 45) (.tmp 49) 37 34 i1 _ 7 56 Tryd.underlying37 hi1 hz1 hsz1 hb1 rfl (by decide) rfl (OwG.emptyK _ _ _) hsrcA rfl rfl (by omega) (by omega) ?_; intro ao1 cap1 ko1 w1 ho1 hf1 hm1; rw [Nat.zero_add, List.nil_append] at ho1; try simp only [Nat.zero_add]; obtain ⟨hb2, hk2⟩ := app.out _ _ _ _ ho1 hf1 hm1; obtain ⟨V1, hV1, hfin2⟩ := hfin.out _ _ _ _ hb2 hk2 ho1; obtain ⟨-, t1, t2⟩ := hK.out _ hb2; replace hfin2 := Lib.hid hfin2; clear ho1 hf1 hm1 hb2 hk2 hfin app hK cA hsrcA k4)
    | (rw [← hV1]; clear hV1 t1 t2)
    | fail)
  obtain ⟨k, cap', c2, ⟨e0, e1, e2, e3, e4, e5, e6⟩, hV3⟩ := hfin2.out
  clear hfin2
  obtain ⟨V3, hV3e⟩ : ∃ V3, V3 = V1.drew := ⟨_, rfl⟩
  obtain ⟨⟨v0, v1, v2, v3, v4, v5, v6, u0, u1, u2, u3, u4, u5, u6⟩, hfk, V4, hV4, hrest⟩ := hV3 V3 hV3e
  replace hrest := Lib.hid hrest
  have f0 := hfk 0 (by omega)
  have f1 := hfk 1 (by omega)
  have f2 := hfk 2 (by omega)
  have f3 := hfk 3 (by omega)
  have f4 := hfk 4 (by omega)
  have f5 := hfk 5 (by omega)
  have f6 := hfk 6 (by omega)
  rw [Nat.add_zero] at f0
  clear hV3 hfk
  replace hV4 := Lib.hid hV4
  go_still_tail 7, (by kernel_rfl)
  change wpList _ _ _ _ _ (World.drew _)
  rw [← hV3e]
  clear hV3e e0 e1 e2 e3 e4 e5 e6 c2
  replace hV4 := hV4.out
  go_wp2_with (first | (rw [← hV4]; clear hV4 u0 u1 u2 u3 u4 u5 u6 f0 f1 f2 f3 f4 f5 f6; obtain ⟨⟨e0, e1, e2, e3, e4, e5, e6⟩, ⟨b0, b1, b2, b3, b4, b5, b6⟩, hfr, ⟨q0, q1, q2, q3, q4, q5, q6⟩, hend⟩ := hrest.out; replace hend := Lib.hid hend; clear hrest) | fail)
  refine bodyPost_ret (v := .tuple #[.agg #[.int .i64 x0, .int .i64 x1, .int .i64 x2, .int .i64 x3, .int .i64 n, .int .i64 x5, .int .i64 x6], .int .i64 0]) ?_ rfl ⟨rfl, hend.out⟩
  simp [results, Tryd.results34, go_sem, q0, q1, q2, q3, q4, q5, q6]
theorem kred_any (d by' : Int) (h : RK W r S b) (hlen : b.L.length ≤ 100000) (hfit : ∀ x ∈ b.L, In64 x.qty ∧ 1 ≤ x.qty) :
    Calls Tryd.prog 34 #[.pointer (some ⟨r, 0, none⟩), .int .i64 d, .int .i64 by'] W fun e w' => e = .returned (.tuple #[vOrd (b.redF d by').1, .int .i64 (b.redF d by').2]) ∧ (∃ S', RK w' r S' (b.red d by') ∧ ∀ c, S' c → S c ∨ W.heap.size ≤ c) ∧ Frm S W w' := by
  unfold Bk.redF Bk.red
  cases hf : bkf b.L d with
  | none => exact (kredNo_any d by' h hlen hf).mono fun e w' ⟨h1, h2⟩ => ⟨h1, ⟨S, h.below h2, fun c e => .inl e⟩, Frm.of_below h2⟩
  | some i =>
    obtain ⟨x, hx, -⟩ := bkf_some hf
    simp only [hx, Option.getD_some]
    by_cases hb : by' < 1 ∨ x.qty < by'
    · rw [if_pos hb, if_pos hb]
      exact (kredRange_any d by' h hlen hf hx hb).mono fun e w' ⟨h1, h2⟩ => ⟨h1, ⟨S, h.below h2, fun c e => .inl e⟩, Frm.of_below h2⟩
    · rw [if_neg hb, if_neg hb]
      obtain ⟨g1, g2⟩ := hfit x (List.mem_of_getElem? hx)
      by_cases he : x.qty = by'
      · rw [if_pos he]
        subst he
        rw [Int.sub_self]
        exact kredGone_any d h hlen hf hx g2
      · rw [if_neg he]
        exact kredCut_any d by' h hlen hf hx (by omega) (by omega) g1
end
end Go.Proofs.YthbopaeaplejiaaDoor
