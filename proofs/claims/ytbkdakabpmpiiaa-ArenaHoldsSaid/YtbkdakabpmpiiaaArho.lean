/-
  The walk of ArenaHolds.
-/
import Derived.Test.YtbkdakabpmpiiaaArk
import Derived.Laws.MakeOwn
namespace Go.Proofs.Ytbkdakabpmpiiaa
open Go.RowKit
/-- An arena that has taken in the first q of l, and dropped none. -/
structure Fi (s : Ar) (n q : Nat) (l : List Ord) : Prop where
  n : s.n = n
  d : s.D = []
  nx : s.nx = q
  has : ∀ i, s.has i = decide (i < q)
  ord : ∀ i o, i < q → l[i]? = some o → s.O[i]? = some o
theorem Fi.new (n : Nat) (l : List Ord) : Fi (Ar.new n) n 0 l := by
  refine ⟨rfl, rfl, rfl, fun i => ?_, fun i o h => absurd h (Nat.not_lt_zero _)⟩
  unfold Ar.has Ar.new
  simp only [List.getElem?_replicate]
  split <;> simp
theorem Fi.next {s : Ar} {n q : Nat} {l : List Ord} (h : Fi s n q l) (hq : q < n) : s.next = some q := by
  unfold Ar.next
  rw [if_pos h.d, h.n, h.nx, if_pos hq]
theorem Fi.full {s : Ar} {n q : Nat} {l : List Ord} (h : Fi s n q l) (hq : n ≤ q) : s.next = none := by
  unfold Ar.next
  rw [if_pos h.d, h.n, h.nx, if_neg (by omega)]
theorem Fi.put {s : Ar} {n q : Nat} {l : List Ord} {o : Ord} (hw : s.Wf) (h : Fi s n q l) (hq : q < n) (ho : l[q]? = some o) : Fi (s.put q o) n (q + 1) l := by
  refine ⟨h.n, by simp [Ar.put, h.d], by simp [Ar.put, h.d, h.nx], fun i => ?_, fun i x hi hx => ?_⟩
  · have h1 := h.has i
    unfold Ar.has at h1 ⊢
    show (s.T.set q true)[i]?.getD false = _
    rw [List.getElem?_set]
    by_cases he : q = i
    · subst he
      rw [if_pos rfl, if_pos (by rw [hw.lenT, h.n]; exact hq)]
      simp
    · rw [if_neg he, h1]
      simp; omega
  · show (s.O.set q o)[i]? = some x
    rw [List.getElem?_set]
    by_cases he : q = i
    · subst he
      rw [if_pos rfl, if_pos (by rw [hw.lenO, h.n]; exact hq)]
      rw [ho] at hx
      exact hx
    · rw [if_neg he]
      exact h.ord i x (by omega) hx
theorem infoN : (Try.prog.info? 3).map (fun i => (i.zero, i.size, i.bytes)) = some (some (.int .i64 0), 1, 8) := by kernel_rfl
theorem make_N (n : Nat) (hn : n ≤ 500) : ∀ w, (Instr.makeSlice 44 (.int .i64 (n : Int)) (.int .i64 (n : Int))).run Try.prog w = .ok (.slice (some ⟨w.heap.size, 0, none⟩) n n) (w.alloc (.cells (madeCells #[.int .i64 0] n) 3)) := by
  intro w
  obtain ⟨i1, hi1, e1⟩ := Option.map_eq_some_iff.1 infoN
  simp only [Prod.mk.injEq] at e1
  obtain ⟨hz1, hs1, hb1⟩ := e1
  have := run_make (P := Try.prog) w 44 3 i1 _ Try.underlying44 hi1 hz1 .i64 .i64 (n : Int) (n : Int) (by omega) (by omega) (by rw [hb1]; omega) (by omega)
  rw [hs1, Int.toNat_natCast, Nat.mul_one] at this
  exact this
/-- Which order stands in each slot: behind q of them. -/
structure At (w : World) (b n q : Nat) (c : Array Value) : Prop where
  blk : Blk w b 3 c
  size : c.size = n
  cell : ∀ j, j < n → c[j]? = some (.int .i64 (if j < q then (j : Int) + 1 else 0))
theorem At.set {w : World} {b n q : Nat} {c : Array Value} (h : At w b n q c) (hq : q < n) : At (w.setCell ⟨b, q, none⟩ (.int .i64 ((q : Int) + 1))) b n (q + 1) (c.setIfInBounds q (.int .i64 ((q : Int) + 1))) := by
  refine ⟨h.blk.set _ _, by simp [h.size], fun j hj => ?_⟩
  by_cases he : q = j
  · subst he
    rw [Array.getElem?_setIfInBounds_self_of_lt (by rw [h.size]; exact hq), if_pos (by omega)]
  · rw [Array.getElem?_setIfInBounds_ne he, h.cell j hj]
    by_cases h1 : j < q
    · rw [if_pos h1, if_pos (by omega)]
    · rw [if_neg h1, if_neg (by omega)]
/-- All of it: the arena in block g, the slice in block b. -/
structure Hd (W : World) (g b n q q2 : Nat) (l : List Ord) (w : World) : Prop where
  bel : Below W.heap.size W w
  hg : W.heap.size ≤ g
  hb : W.heap.size ≤ b
  ne : b ≠ g
  arn : ∃ c s, Blk w g 58 c ∧ Arn c s ∧ Fi s n q l
  at' : ∃ c, At w b n q2 c
theorem Hd.keep {W w w' : World} {g b n q q2 : Nat} {l : List Ord} (h : Hd W g b n q q2 l w) (hb : Below w.heap.size w w') : Hd W g b n q q2 l w' := by
  obtain ⟨c, s, h1, h2, h3⟩ := h.arn
  obtain ⟨c', h4⟩ := h.at'
  exact ⟨h.bel.trans (hb.mono h.bel.size), h.hg, h.hb, h.ne, ⟨c, s, h1.below hb h1.lt, h2, h3⟩, c', h4.blk.below hb h4.blk.lt, h4.size, h4.cell⟩
theorem blk_frm2 {S : Nat → Prop} {w w' : World} {g : Nat} {t : TypeId} {cs : Array Value} (h : Blk w g t cs) (hf : Frm S w w') (hg : ¬ S g) : Blk w' g t cs := (hf.block g h.lt hg).trans h
theorem Hd.take {W w : World} {g b n q : Nat} {l : List Ord} {o : Ord} (h : Hd W g b n q q l w) (hq : q < n) (ho : l[q]? = some o) :
    Calls Try.prog 16 #[.pointer (some ⟨g, 0, none⟩), vOrd o] w fun e w' => e = .returned (.tuple #[.int .i64 (q : Int), .int .i64 0]) ∧ Hd W g b n (q + 1) q l w' := by
  obtain ⟨c, s, h1, h2, h3⟩ := h.arn
  obtain ⟨c', h4⟩ := h.at'
  refine (take_any g c s o q w h1 h2 (h3.next hq)).mono fun e w' ⟨he, hf, c2, hB, hA⟩ => ⟨he, ?_⟩
  have hg := h.hg
  exact ⟨h.bel.trans (hf.below h.bel.size (fun k hk => by omega)), h.hg, h.hb, h.ne, ⟨c2, s.put q o, hB, hA, h3.put h2.wf hq ho⟩, c', blk_frm2 h4.blk hf h.ne, h4.size, h4.cell⟩
theorem Hd.takeFull {W w : World} {g b n q q2 : Nat} {l : List Ord} (o : Ord) (h : Hd W g b n q q2 l w) (hq : n ≤ q) :
    Calls Try.prog 16 #[.pointer (some ⟨g, 0, none⟩), vOrd o] w fun e w' => e = .returned (.tuple #[.int .i64 0, .int .i64 7]) ∧ Hd W g b n q q2 l w' := by
  obtain ⟨c, s, h1, h2, h3⟩ := h.arn
  exact (takeFull_any g c s o w h1 h2 (h3.full hq)).mono fun e w' ⟨he, hb⟩ => ⟨he, h.keep hb⟩
theorem Hd.set {W w : World} {g b n q q2 : Nat} {l : List Ord} (h : Hd W g b n q q2 l w) (hq : q2 < n) : Hd W g b n q (q2 + 1) l (w.setCell ⟨b, q2, none⟩ (.int .i64 ((q2 : Int) + 1))) := by
  obtain ⟨c, s, h1, h2, h3⟩ := h.arn
  obtain ⟨c', h4⟩ := h.at'
  exact ⟨h.bel.setCell (p := ⟨b, q2, none⟩) h.hb _, h.hg, h.hb, h.ne, ⟨c, s, h1.other (a := ⟨b, q2, none⟩) h.ne _, h2, h3⟩, _, h4.set hq⟩
theorem Hd.cell {W w : World} {g b n q q2 : Nat} {l : List Ord} (h : Hd W g b n q q2 l w) {j : Nat} (hj : j < n) : w.cell? ⟨b, j, none⟩ = some (.int .i64 (if j < q2 then (j : Int) + 1 else 0)) ∧ w.frozen? ⟨b, j, none⟩ = false := by
  obtain ⟨c', h4⟩ := h.at'
  exact ⟨h4.blk.cell_eq _ _ (h4.cell j hj), h4.blk.free _⟩
theorem Hd.getYes {W w : World} {g b n q q2 : Nat} {l : List Ord} {o : Ord} (h : Hd W g b n q q2 l w) {j : Nat} (hj : j < q) (ho : l[j]? = some o) :
    Calls Try.prog 17 #[.pointer (some ⟨g, 0, none⟩), .int .i64 (j : Int)] w fun e w' => e = .returned (.tuple #[vOrd o, .bool true]) ∧ Below w.heap.size w w' := by
  obtain ⟨c, s, h1, h2, h3⟩ := h.arn
  exact get_yes g c s j o w h1 h2 (by rw [h3.has]; simpa using hj) (h3.ord j o hj ho)
theorem Hd.getNo {W w : World} {g b n q q2 : Nat} {l : List Ord} (h : Hd W g b n q q2 l w) {j : Nat} (hj : q ≤ j) :
    Calls Try.prog 17 #[.pointer (some ⟨g, 0, none⟩), .int .i64 (j : Int)] w fun e w' => e = .returned (.tuple #[vOrd Ord.zero, .bool false]) ∧ Below w.heap.size w w' := by
  obtain ⟨c, s, h1, h2, h3⟩ := h.arn
  refine get_no _ _ w fun w2 hb => ?_
  have := holds_any g c s (j : Int) w2 (h1.below hb h1.lt) h2
  rwa [s.hasI_nat, h3.has, decide_eq_false (by omega)] at this
set_option maxRecDepth 8000 in
set_option maxHeartbeats 1000000 in
theorem aholds_any (x : Int) (ao : Option Addr) (cap : Nat) (l : List Ord) (W : World) (hL : Ords W ao cap l) :
    Calls Try.prog 5 #[.int .i64 x, .slice ao l.length cap] W fun e w' => e = .returned (.bool true) ∧ Below W.heap.size W w' := by
  have cA := fun w => alive9_any w
  have hl1 := hL.len
  have hl2 := hL.top
  unfold maxLen at hl2
  by_cases hx : 60 < l.length ∨ x < 1 ∨ 60 < x
  · go_enter Try.func5, Try.ntmps5
    go_wp2_with (go_at_call 7; refine (cA _).mono ?_; rintro e w4 ⟨rfl, hb4⟩)
    all_goals first
      | (exfalso; omega)
      | (go_ret
         exact ⟨by simp, hb4⟩)
  · obtain ⟨n, rfl, hn1, hn2⟩ : ∃ n : Nat, x = (n : Int) ∧ 1 ≤ n ∧ n ≤ 60 := ⟨x.toNat, by omega, by omega, by omega⟩
    have hll : l.length ≤ 60 := by omega
    clear hx
    have c1 := new_any n hn1 (by omega) W
    have mN := make_N n (by omega)
    have hM : ∀ w : World, At (w.alloc (.cells (madeCells #[.int .i64 0] n) 3)) w.heap.size n 0 (madeCells #[.int .i64 0] n) := fun w => by
      have hz : madeCells #[.int .i64 0] n = (List.replicate n (Value.int .i64 0)).toArray := made_rep _ _ (by simp) (by simp) n
      refine ⟨Blk.new _ _ _, by rw [hz]; simp, fun j hj => ?_⟩
      rw [hz, if_neg (by omega)]
      simp [hj]
    generalize madeCells #[.int .i64 0] n = z at mN hM
    go_enter Try.func5, Try.ntmps5
    go_wp2_with (go_at_call 8; refine c1.mono ?_; rintro e w1 ⟨rfl, hb1, c, hB1, hA1⟩; clear c1)
    have hs1 := hb1.size
    have hlt := hB1.lt
    have hd0 : Hd W W.heap.size w1.heap.size n 0 0 l (w1.alloc (.cells z 3)) :=
      ⟨hb1.alloc hs1 _, Nat.le_refl _, hs1, by omega, ⟨c, _, hB1.alloc _, hA1, Fi.new n l⟩, z, hM w1⟩
    generalize w1.alloc (.cells z 3) = w2 at hd0 ⊢
    generalize w1.heap.size = b at hd0 ⊢
    obtain ⟨g, hg⟩ : ∃ g, g = W.heap.size := ⟨_, rfl⟩
    rw [← hg] at hd0 ⊢
    clear hg hs1 hlt hB1 hA1 hb1 hM mN
    go_loopg [8] l.length (fun j p8 wr => ∃ q : Nat, q + j = l.length ∧ p8 = .int .i64 (q : Int) ∧ Hd W g b n (min q n) (min q n) l wr)
    case atStart => exact ⟨0, by omega, rfl, by rw [Nat.zero_min]; exact hd0⟩
    case round =>
      clear hd0
      obtain ⟨q, hq, rfl, hd⟩ := hrel
      by_cases hj : q < l.length
      · obtain ⟨o, ho⟩ : ∃ o, l[q]? = some o := ⟨l[q], List.getElem?_eq_getElem hj⟩
        obtain ⟨lb, off, rfl, y0, y1, y2, y3, y4, y5, y6⟩ := (hL.below hd.bel).get ho
        replace y0 : wr.cell? ⟨lb, off + q * 7, none⟩ = some (.int .i64 o.id) := y0
        by_cases hn : q < n
        · rw [Nat.min_eq_left (by omega)] at hd
          have cT := hd.take hn ho
          clear ho hL hd
          obtain ⟨a1, a2, a3, a4, a5, a6, a7⟩ := o
          simp only at y0 y1 y2 y3 y4 y5 y6
          go_wp2_with (go_at_call 16; refine cT.mono ?_; rintro e w3 ⟨rfl, hd⟩; clear cT y0 y1 y2 y3 y4 y5 y6; have hd9 := hd.set hn; obtain ⟨z0, z1⟩ := hd.cell hn; rw [if_neg (Nat.lt_irrefl q)] at z0)
          go_roundg (l.length - (q + 1))
          case measure => omega
          case rel => exact ⟨q + 1, by omega, by go_num, by rw [Nat.min_eq_left (by omega)]; exact hd9⟩
        · rw [Nat.min_eq_right (by omega)] at hd
          have cT := hd.takeFull o (Nat.le_refl _)
          clear ho hL hd
          obtain ⟨a1, a2, a3, a4, a5, a6, a7⟩ := o
          simp only at y0 y1 y2 y3 y4 y5 y6
          go_wp2_with (go_at_call 16; refine cT.mono ?_; rintro e w3 ⟨rfl, hd⟩; clear cT y0 y1 y2 y3 y4 y5 y6)
          go_roundg (l.length - (q + 1))
          case measure => omega
          case rel => exact ⟨q + 1, by omega, by go_num, by rw [Nat.min_eq_right (by omega)]; exact hd⟩
      · have hqe : q = l.length := by omega
        subst hqe
        go_wp2_with fail
        generalize hm : min l.length n = m at hd
        clear hj hq
        go_loopg [11] n (fun j p11 wr => ∃ q : Nat, q + j = n ∧ p11 = .int .i64 (q : Int) ∧ Hd W g b n m m l wr)
        case atStart => exact ⟨0, by omega, rfl, hd⟩
        case round =>
          clear hd
          obtain ⟨q, hq, rfl, hd⟩ := hrel
          by_cases hj : q < n
          · by_cases hqm : q < m
            · obtain ⟨o, ho⟩ : ∃ o, l[q]? = some o := ⟨l[q]'(by omega), List.getElem?_eq_getElem _⟩
              have cG := hd.getYes hqm ho
              have hE := fun w => neq_Ord o o w
              rw [eqOrd_self] at hE
              have hOs : ∀ w, Below W.heap.size W w → _ := fun w hb => (hL.below hb).get ho
              have hal : ∀ w, Hd W g b n m m l w → ∃ w', w' = w.alloc (.cells (cOrd o) 33) ∧ Hd W g b n m m l w' ∧ Blk w' w.heap.size 33 (cOrd o) := fun w h => ⟨_, rfl, h.keep ((Below.refl _ _).alloc (Nat.le_refl _) _), Blk.new _ _ _⟩
              clear ho hL
              obtain ⟨a1, a2, a3, a4, a5, a6, a7⟩ := o
              simp only at hOs
              go_wp2_with (go_at_call 17; refine cG.mono ?_; rintro e w3 ⟨rfl, hb3⟩; clear cG; have hd3 := hd.keep hb3)
              obtain ⟨w4, hw4, hd4, hB4⟩ := hal w3 hd3
              simp only [cOrd] at hw4
              rw [← hw4]
              clear hw4 hal
              obtain ⟨z0, z1⟩ := hd4.cell hj
              rw [if_pos hqm] at z0
              obtain ⟨lb, off, rfl, y0, y1, y2, y3, y4, y5, y6⟩ := hOs w4 hd4.bel
              replace y0 : w4.cell? ⟨lb, off + q * 7, none⟩ = some (.int .i64 a1) := y0
              obtain ⟨x0, x1, x2, x3, x4, x5, x6⟩ := Ord.cells hB4
              simp only at x0 x1 x2 x3 x4 x5 x6
              have hgt : decide ((0 : Int) < (q : Int) + 1) = true := decide_eq_true (by omega)
              go_quiet (fail)
              have hd5 := hd4.keep (below_drewN (Below.refl _ w4) nq)
              clear z0 z1 y0 y1 y2 y3 y4 y5 y6 x0 x1 x2 x3 x4 x5 x6 hd4 hB4
              go_wp2_with fail
              go_roundg (n - (q + 1))
              case measure => omega
              case rel => exact ⟨q + 1, by omega, by go_num, hd5⟩
            · have cG := hd.getNo (j := q) (by omega)
              simp only [Ord.zero] at cG
              have hal : ∀ w, Hd W g b n m m l w → ∃ w', w' = w.alloc (.cells (cOrd ⟨0, 0, 0, 0, 0, 0, 0⟩) 33) ∧ Hd W g b n m m l w' := fun w h => ⟨_, rfl, h.keep ((Below.refl _ _).alloc (Nat.le_refl _) _)⟩
              clear hL
              go_wp2_with (go_at_call 17; refine cG.mono ?_; rintro e w3 ⟨rfl, hb3⟩; clear cG; have hd3 := hd.keep hb3)
              obtain ⟨w4, hw4, hd4⟩ := hal w3 hd3
              simp only [cOrd] at hw4
              rw [← hw4]
              clear hw4 hal
              obtain ⟨z0, z1⟩ := hd4.cell hj
              rw [if_neg hqm] at z0
              go_quiet (fail)
              have hd5 := hd4.keep (below_drewN (Below.refl _ w4) nq)
              clear z0 z1 hd4
              go_wp2_with fail
              go_roundg (n - (q + 1))
              case measure => omega
              case rel => exact ⟨q + 1, by omega, by go_num, hd5⟩
          · go_wp2_with (go_at_call 7; refine (cA _).mono ?_; rintro e w4 ⟨rfl, hb4⟩)
            go_ret
            exact ⟨rfl, (hd.keep hb4).bel⟩
end Go.Proofs.Ytbkdakabpmpiiaa
