/-
  The law's boxes beside the program's book; the law's place.
-/
import Derived.Test.YthbopaeaplejiaaDoorBalq
import Derived.Test.YthbopaeaplejiaaDoorGb
import Derived.Test.YthbopaeaplejiaaDoorGR
namespace Go.Proofs.YthbopaeaplejiaaDoor
open Go.RowKit
set_option linter.unusedSimpArgs false
/-- The program's book among blocks behind W, and boxes that hold orders. -/
structure Pg (W : World) (bs : List (Nat × Ord)) (g k : Nat) (b : Bk) (w : World) : Prop where
  two : 2 ≤ W.heap.size
  bel : Below W.heap.size W w
  pb : ∃ S, PB w g S k b ∧ ∀ c, S c → W.heap.size ≤ c ∧ ∀ p ∈ bs, c ≠ p.1
  box : ∀ p ∈ bs, Blk w p.1 34 (cOrd p.2) ∧ W.heap.size ≤ p.1
section
variable {W w w' : World} {bs bs' : List (Nat × Ord)} {g k : Nat} {b : Bk}
theorem Pg.of (h : Pz W g k b w) : Pg W [] g k b w := by
  obtain ⟨S, h1, h2⟩ := h.pb
  exact ⟨h.two, h.bel, ⟨S, h1, fun c hc => ⟨h2 c hc, fun p hp => by cases hp⟩⟩, fun p hp => by cases hp⟩
theorem Pg.z (h : Pg W bs g k b w) : Pz W g k b w := by
  obtain ⟨S, h1, h2⟩ := h.pb
  exact ⟨h.two, h.bel, S, h1, fun c hc => (h2 c hc).1⟩
theorem Pg.sub (h : Pg W bs g k b w) (hs : ∀ p ∈ bs', p ∈ bs) : Pg W bs' g k b w := by
  obtain ⟨S, h1, h2⟩ := h.pb
  exact ⟨h.two, h.bel, ⟨S, h1, fun c hc => ⟨(h2 c hc).1, fun p hp => (h2 c hc).2 p (hs p hp)⟩⟩, fun p hp => h.box p (hs p hp)⟩
theorem Pg.below (h : Pg W bs g k b w) (hb : Below w.heap.size w w') : Pg W bs g k b w' := by
  obtain ⟨S, h1, h2⟩ := h.pb
  exact ⟨h.two, h.bel.trans (hb.mono h.bel.size), ⟨S, h1.below hb, h2⟩, fun p hp => ⟨(h.box p hp).1.below hb (h.box p hp).1.lt, (h.box p hp).2⟩⟩
theorem Pg.push (h : Pg W bs g k b w) (o : Ord) : ∃ w3, w3 = w.alloc (.cells (cOrd o) 34) ∧ Pg W ((w.heap.size, o) :: bs) g k b w3 := by
  obtain ⟨S, h1, h2⟩ := h.pb
  have hb : Below w.heap.size w (w.alloc (.cells (cOrd o) 34)) := (Below.refl _ _).alloc (Nat.le_refl _) _
  refine ⟨_, rfl, h.two, h.bel.trans (hb.mono h.bel.size), ⟨S, h1.below hb, fun c hc => ⟨(h2 c hc).1, fun p hp => ?_⟩⟩, fun p hp => ?_⟩
  · rcases List.mem_cons.1 hp with rfl | hp
    · have := h1.lt c hc; simp only; omega
    · exact (h2 c hc).2 p hp
  · rcases List.mem_cons.1 hp with rfl | hp
    · exact ⟨Blk.new _ _ _, h.bel.size⟩
    · exact ⟨(h.box p hp).1.below hb (h.box p hp).1.lt, (h.box p hp).2⟩
theorem Pg.front (h : Pg W bs g k b w) (s : Int) : Calls Tryd.prog 15 #[.pointer (some ⟨g, 0, none⟩), .int .i64 s] w fun e w' => e = .returned (.tuple #[vOrd ((b.front s).getD .zero), .bool (b.front s).isSome]) ∧ Pg W bs g k b w' := by
  obtain ⟨S, h1, h2⟩ := h.pb
  exact (pb_front s h1).mono fun e w' ⟨he, hb⟩ => ⟨he, h.below hb⟩
theorem Pg.rem (h : Pg W bs g k b w) (hk : k < 100000) {d : Int} (hd : In64 d) : Calls Tryd.prog 18 #[.pointer (some ⟨g, 0, none⟩), .int .i64 d] w fun e w' => e = .returned (.tuple #[vOrd (b.remF d).1, .int .i64 (b.remF d).2]) ∧ Pg W bs g (k + 1) (b.rem d) w' := by
  obtain ⟨S, h1, h2⟩ := h.pb
  refine (pb_rem d hd h1 hk).mono ?_
  rintro e w' ⟨he, ⟨S', h3, h4⟩, hf⟩
  refine ⟨he, h.two, h.bel.trans (hf.below h.bel.size (fun c hc => (h2 c hc).1)), ⟨S', h3, fun c hc => ?_⟩, fun p hp => ?_⟩
  · rcases h4 c hc with g | g
    · exact h2 c g
    · refine ⟨Nat.le_trans h.bel.size g, fun p hp => ?_⟩
      have := (h.box p hp).1.lt
      omega
  · obtain ⟨q1, q2⟩ := h.box p hp
    exact ⟨(hf.block _ q1.lt (fun e => (h2 _ e).2 p hp rfl)).trans q1, q2⟩
/-- An order is stored into a box that stands alone. -/
theorem Pg.set {q : Nat} {z : Ord} (h : Pg W [(q, z)] g k b w) (m : Ord) : (w.cell? ⟨q, 0, none⟩ = some (.int .i64 z.id) ∧ w.cell? ⟨q, 1, none⟩ = some (.int .i64 z.owner) ∧ w.cell? ⟨q, 2, none⟩ = some (.int .i64 z.side) ∧ w.cell? ⟨q, 3, none⟩ = some (.int .i64 z.price) ∧ w.cell? ⟨q, 4, none⟩ = some (.int .i64 z.qty) ∧ w.cell? ⟨q, 5, none⟩ = some (.int .i64 z.flags) ∧ w.cell? ⟨q, 6, none⟩ = some (.int .i64 z.seq)) ∧ (∀ i, w.frozen? ⟨q, i, none⟩ = false) ∧
    ∃ V2, V2 = (((((((w.setCell ⟨q, 0, none⟩ (.int .i64 m.id)).setCell ⟨q, 1, none⟩ (.int .i64 m.owner)).setCell ⟨q, 2, none⟩ (.int .i64 m.side)).setCell ⟨q, 3, none⟩ (.int .i64 m.price)).setCell ⟨q, 4, none⟩ (.int .i64 m.qty)).setCell ⟨q, 5, none⟩ (.int .i64 m.flags)).setCell ⟨q, 6, none⟩ (.int .i64 m.seq)) ∧ Pg W [(q, m)] g k b V2 := by
  obtain ⟨S, h1, h2⟩ := h.pb
  obtain ⟨q1, q2⟩ := h.box (q, z) List.mem_cons_self
  obtain ⟨z1, z2, z3⟩ := ordRes0 q1 m
  refine ⟨z1, z2, _, rfl, ?_⟩
  obtain ⟨v1, v3⟩ := z3 _ rfl
  refine ⟨h.two, h.bel.trans (v3.below h.bel.size (fun c e => by subst e; exact q2)), ⟨S, h1.frm v3 (fun c e hc => (h2 c hc).2 (q, z) List.mem_cons_self e) (fun c e => by subst e; exact Nat.le_trans h.two q2), fun c hc => ⟨(h2 c hc).1, fun p hp => ?_⟩⟩, fun p hp => ?_⟩
  · rw [List.mem_singleton.1 hp]
    exact (h2 c hc).2 (q, z) List.mem_cons_self
  · rw [List.mem_singleton.1 hp]
    exact ⟨v1, q2⟩
end
set_option maxRecDepth 8000 in
set_option maxHeartbeats 2000000 in
theorem place_any (ao : Option Addr) (cap : Nat) (l : List Ord) (o : Ord) (W : World) (hL : Ords W ao cap l) (hlen : l.length ≤ 100000) :
    Calls Tryd.prog 17 #[.slice ao l.length cap, vOrd o] W fun e w' => e = .returned (.int .i64 (oplI l o)) ∧ Below W.heap.size W w' := by
  obtain ⟨W1, hW1⟩ : ∃ W1, W1 = W.alloc (.cells (cOrd o) 34) := ⟨_, rfl⟩
  have hB : Blk W1 W.heap.size 34 (cOrd o) := by rw [hW1]; exact Blk.new _ _ _
  have hb1 : Below W.heap.size W W1 := by rw [hW1]; exact (Below.refl _ _).alloc (Nat.le_refl _) _
  have hL1 := hL.below hb1
  have hno : (∀ j : Nat, l[j]? ≠ some o) → oplI l o = -1 := fun h => by unfold oplI; rw [opl_no h]
  have hyes : ∀ (i : Nat), l[i]? = some o → (∀ j : Nat, j < i → l[j]? ≠ some o) → oplI l o = (i : Int) := fun i h1 h2 => by unfold oplI; rw [opl_at h1 h2]
  obtain ⟨b0, b1, b2, b3, b4, b5, b6⟩ := Ord.cells hB
  have hE := fun x => eql_Ord x o
  generalize oplI l o = P at *
  obtain ⟨n, hn⟩ : ∃ n, n = l.length := ⟨_, rfl⟩
  rw [← hn] at hlen ⊢
  replace hn := Lib.hid hn
  replace hno := Lib.hid hno
  replace hyes := Lib.hid hyes
  replace hE := Lib.hid hE
  clear hL hB

  obtain ⟨o0, o1, o2, o3, o4, o5, o6⟩ := o
  simp only [cOrd] at hW1
  simp only [vOrd] at *
  try simp only at b0 b1 b2 b3 b4 b5 b6
  have hbf : ∀ m, Below W.heap.size W (W1.drewN m) := fun m => belowK hb1 m
  go_enter Tryd.func17, Tryd.ntmps17
  go_wp2_with fail
  rw [← hW1]
  clear hW1
  go_loopg [5] n (fun j p5 wr => ∃ i : Nat, i + j = n ∧ p5 = .int .i64 (i : Int) ∧ Hid (∀ j' : Nat, j' < i → l[j']? ≠ some ⟨o0, o1, o2, o3, o4, o5, o6⟩) ∧ ∃ m, wr = W1.drewN m)
  case atStart => exact ⟨0, by omega, rfl, Lib.hid (fun j h => by omega), 0, rfl⟩
  case round =>
    obtain ⟨i, hi, rfl, hP, m, rfl⟩ := hrel
    by_cases him : i < n
    · obtain ⟨x, hx⟩ : ∃ x, l[i]? = some x := ⟨_, List.getElem?_eq_getElem (by rw [← hn.out]; exact him)⟩
      obtain ⟨q, off, rfl, y0, y1, y2, y3, y4, y5, y6⟩ := hL1.get hx
      replace y0 : W1.cell? ⟨q, off + i * 7, none⟩ = some (.int .i64 x.id) := y0
      have hi2 : (i : Int) < (n : Int) := by omega
      have hEx := hE.out x
      by_cases e : x = ⟨o0, o1, o2, o3, o4, o5, o6⟩
      · subst e
        have e1 := hyes.out i hx hP.out
        rw [eqOrd_self] at hEx
        try simp only at y0 y1 y2 y3 y4 y5 y6
        try simp only [vOrd] at hEx
        clear hno hyes hP hx hL1 hE hn
        go_wp2_with fail
        go_quiet (fail)
        go_wp2_with fail
        go_ret
        exact ⟨by rw [e1]; rfl, by first | exact hbf _ | (rw [World.drewN_drewN]; exact hbf _)⟩
      · have hq : eqOrd x ⟨o0, o1, o2, o3, o4, o5, o6⟩ = false := by
          cases h : eqOrd x ⟨o0, o1, o2, o3, o4, o5, o6⟩ with
          | false => rfl
          | true => exact absurd (eqOrd_true.1 h) e
        rw [hq] at hEx
        have hP' := Lib.hid (p := ∀ j' : Nat, j' < i + 1 → l[j']? ≠ some ⟨o0, o1, o2, o3, o4, o5, o6⟩) (by
          intro j' hj hh
          rcases Nat.lt_succ_iff_lt_or_eq.1 hj with g | rfl
          · exact hP.out j' g hh
          · rw [hx] at hh; cases hh; exact e rfl)
        obtain ⟨x0, x1, x2, x3, x4, x5, x6⟩ := x
        try simp only at y0 y1 y2 y3 y4 y5 y6
        try simp only [vOrd] at hEx
        clear hno hyes hP hx hL1 hE hn e hq
        go_wp2_with fail
        go_quiet (fail)
        go_wp2_with fail
        go_roundg (n - (i + 1))
        case measure => omega
        case rel => exact ⟨i + 1, by omega, by go_num, hP', m + nq, by first | rfl | rw [World.drewN_drewN]⟩
    · obtain rfl : i = n := by omega
      have e1 := hno.out fun j hh => by
        have hj := (List.getElem?_eq_some_iff.1 hh).1
        exact hP.out j (by rw [hn.out]; exact hj) hh
      clear hno hyes hP hL1 hE hn
      go_wp2_with fail
      go_ret
      exact ⟨by rw [e1]; rfl, hbf _⟩
end Go.Proofs.YthbopaeaplejiaaDoor
