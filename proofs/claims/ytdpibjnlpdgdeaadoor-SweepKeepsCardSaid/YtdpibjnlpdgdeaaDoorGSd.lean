/-
  The document's half of stage 14: a side's front, worse than a limit, whether a price is reached.
  The program's sweep and the document's, on books that lie side by side.
  alive of stage 14's law.
  Own of stage 14's law: a taker copied.
-/
import Derived.Test.YtdpibjnlpdgdeaaDoorRbfq
import Derived.Test.YtdpibjnlpdgdeaaDoorGSa
import Derived.Test.YtdpibjnlpdgdeaaDoorSboq
import Derived.Test.YtdpibjnlpdgdeaaDoorGSc
namespace Go.Proofs.YtdpibjnlpdgdeaaDoor
open Go.RowKit
set_option linter.unusedSimpArgs false
theorem swr_eq (b : Bk) (side limit : Int) : swr b side limit = (decide (side = 0 ∨ side = 1) && ((b.front (1 - side)).isSome && !swo side ((b.front (1 - side)).getD .zero).price limit)) := by
  unfold swr
  cases b.front (1 - side) <;> simp
section
variable {w w' W : World} {r : Nat} {S : Nat → Prop}
theorem rworse_any (side a c : Int) (W : World) : Calls Tryd.prog 23 #[.int .i64 side, .int .i64 a, .int .i64 c] W fun e w' => e = .returned (.bool (swo side a c)) ∧ w' = W := by
  have cB := kbetter_any side a c W
  unfold swo
  generalize bett side a c = B at *
  by_cases e0 : c = 0
  · subst e0
    simp only [bne_self_eq_false, Bool.false_and]
    go_enter Tryd.func23, Tryd.ntmps23
    go_wp2_with fail
    go_ret
    trivial
  · have e1 : (c != 0) = true := by simpa using e0
    rw [e1]
    simp only [Bool.true_and]
    go_enter Tryd.func23, Tryd.ntmps23
    go_wp2_with (go_at_call 46; (with_reducible refine cB.mono ?_); rintro e w2 ⟨rfl, rfl⟩)
    go_ret
    trivial
set_option maxRecDepth 8000 in
set_option maxHeartbeats 1000000 in
theorem kfront_any (s : Int) {b : Bk} (h : RK W r S b) (hlen : b.L.length ≤ 100000) :
    Calls Tryd.prog 22 #[.pointer (some ⟨r, 0, none⟩), .int .i64 s] W fun e w' => e = .returned (.tuple #[vOrd ((b.front s).getD .zero), .bool (b.front s).isSome]) ∧ Below W.heap.size W w' := by
  obtain ⟨W1, hW1⟩ : ∃ W1, W1 = W.alloc (.cells (cOrd Ord.zero) 45) := ⟨_, rfl⟩
  have hBx : Blk W1 W.heap.size 45 (cOrd Ord.zero) := by rw [hW1]; exact Blk.new _ _ _
  have hF1 : Below W.heap.size W W1 := by rw [hW1]; exact (Below.refl _ _).alloc (Nat.le_refl _) _
  have h1 := h.below hF1
  have cO := kof_any s h1 hlen
  simp only [Ord.zero, cOrd] at hW1
  unfold Bk.front
  generalize bkOf b.L s = l at *
  clear h h1
  cases l with
  | nil =>
    simp only [List.length_nil] at cO
    go_enter Tryd.func22, Tryd.ntmps22
    go_wp2_with (go_at_call 45; rw [← hW1]; (with_reducible refine cO.mono ?_); rintro e w2 ⟨ko, cap, ao, rfl, hG⟩; have hb2 := hF1.trans (hG.bel.mono hF1.size); have hB2 := hBx.below hG.bel hBx.lt; obtain ⟨⟨b0, b1, b2, b3, b4, b5, b6⟩, hfr, hx⟩ := ordRes hB2 (Nat.le_refl _) hb2 Ord.zero; obtain ⟨hlay, hbel, -⟩ := hx _ rfl; obtain ⟨q0, q1, q2, q3, q4, q5, q6⟩ := Ord.cells hlay; simp only [Ord.zero] at b0 b1 b2 b3 b4 b5 b6 q0 q1 q2 q3 q4 q5 q6 hbel; clear hx hlay hB2 hBx hW1 cO)
    refine bodyPost_ret (v := .tuple #[.agg #[.int .i64 0, .int .i64 0, .int .i64 0, .int .i64 0, .int .i64 0, .int .i64 0, .int .i64 0], .bool false]) ?_ rfl ⟨rfl, hbel⟩
    simp [results, Tryd.results22, go_sem, q0, q1, q2, q3, q4, q5, q6]
  | cons x l =>
    obtain ⟨n, hn⟩ : ∃ n, n = (x :: l).length := ⟨_, rfl⟩
    rw [← hn] at cO
    have hn1 : 1 ≤ n := by rw [hn]; simp
    have cP : Calls Tryd.prog 45 #[.pointer (some ⟨r, 0, none⟩), .int .i64 s] W1 fun e w' => ∃ cap q off, e = .returned (.slice (some ⟨q, off, none⟩) n cap) ∧ (w'.cell? ⟨q, off, none⟩ = some (.int .i64 x.id) ∧ w'.cell? ⟨q, off + 1, none⟩ = some (.int .i64 x.owner) ∧ w'.cell? ⟨q, off + 2, none⟩ = some (.int .i64 x.side) ∧ w'.cell? ⟨q, off + 3, none⟩ = some (.int .i64 x.price) ∧ w'.cell? ⟨q, off + 4, none⟩ = some (.int .i64 x.qty) ∧ w'.cell? ⟨q, off + 5, none⟩ = some (.int .i64 x.flags) ∧ w'.cell? ⟨q, off + 6, none⟩ = some (.int .i64 x.seq)) ∧ Below W1.heap.size W1 w' := by
      refine cO.mono ?_
      rintro e w2 ⟨ko, cap, ao, rfl, hG⟩
      obtain ⟨q, off, rfl, y0, y1, y2, y3, y4, y5, y6⟩ := (Ords.of_own hG.ow).get (i := 0) rfl
      simp only [Nat.zero_mul, Nat.add_zero] at y0 y1 y2 y3 y4 y5 y6
      exact ⟨cap, q, off, rfl, ⟨y0, y1, y2, y3, y4, y5, y6⟩, hG.bel⟩
    clear cO hn
    have hi2 : (0 : Int) < (n : Int) := by omega
    have hne : ((n : Int) == 0) = false := by simpa using (by omega : (n : Int) ≠ 0)
    clear hn1
    simp only [List.head?_cons, Option.getD_some, Option.isSome_some, vOrd]
    go_enter Tryd.func22, Tryd.ntmps22
    go_wp2_with (go_at_call 45; rw [← hW1]; (with_reducible refine cP.mono ?_); rintro e w2 ⟨cap, q, off, rfl, ⟨y0, y1, y2, y3, y4, y5, y6⟩, hbel2⟩; have hb2 := hF1.trans (hbel2.mono hF1.size); have hB2 := hBx.below hbel2 hBx.lt; obtain ⟨⟨b0, b1, b2, b3, b4, b5, b6⟩, hfr, hx⟩ := ordRes hB2 (Nat.le_refl _) hb2 x; obtain ⟨hlay, hbel, -⟩ := hx _ rfl; obtain ⟨q0, q1, q2, q3, q4, q5, q6⟩ := Ord.cells hlay; simp only [Ord.zero] at b0 b1 b2 b3 b4 b5 b6; clear hx hlay hB2 hBx hW1 cP hbel2)
    refine bodyPost_ret (v := .tuple #[.agg #[.int .i64 x.id, .int .i64 x.owner, .int .i64 x.side, .int .i64 x.price, .int .i64 x.qty, .int .i64 x.flags, .int .i64 x.seq], .bool true]) ?_ rfl ⟨rfl, hbel⟩
    simp [results, Tryd.results22, go_sem, q0, q1, q2, q3, q4, q5, q6]
set_option maxRecDepth 8000 in
set_option maxHeartbeats 1000000 in
theorem rreaches_any (side limit : Int) {b : Bk} (h : RK W r S b) (hlen : b.L.length ≤ 100000) :
    Calls Tryd.prog 8 #[.pointer (some ⟨r, 0, none⟩), .int .i64 side, .int .i64 limit] W fun e w' => e = .returned (.bool (swr b side limit)) ∧ Below W.heap.size W w' := by
  by_cases hs : side = 0 ∨ side = 1
  rotate_left
  · have e0 : swr b side limit = false := by unfold swr; rw [decide_eq_false hs]; rfl
    have n0 : (side != 0) = true := by simpa using fun e => hs (.inl e)
    have n1 : (side != 1) = true := by simpa using fun e => hs (.inr e)
    rw [e0]
    clear e0 hs h
    go_enter Tryd.func8, Tryd.ntmps8
    go_wp2_with fail
    go_ret
    exact ⟨rfl, Below.refl _ _⟩
  have cF := kfront_any (1 - side) h hlen
  have cW := fun a w => rworse_any side a limit w
  rw [swr_eq, decide_eq_true hs]
  simp only [Bool.true_and]
  generalize b.front (1 - side) = f at *
  clear h hlen
  obtain ⟨z, hz⟩ : ∃ z, z = f.getD .zero := ⟨_, rfl⟩
  obtain ⟨q, hq⟩ : ∃ q, q = f.isSome := ⟨_, rfl⟩
  rw [← hz, ← hq] at cF
  rw [← hz, ← hq]
  clear hz hq
  simp only [vOrd] at cF
  rcases hs with e | e <;> subst e <;> simp only [Int.sub_zero, Int.sub_self] at cF <;> cases q
  all_goals
    go_enter Tryd.func8, Tryd.ntmps8
    go_wp2_with (first
      | (go_at_call 22; (with_reducible refine cF.mono ?_); rintro e w2 ⟨rfl, hb2⟩; clear cF; obtain ⟨w3, hw3⟩ : ∃ w3, w3 = w2.alloc (.cells (cOrd z) 45) := ⟨_, rfl⟩; have hb3 : Below W.heap.size W w3 := (by rw [hw3]; exact hb2.alloc hb2.size _); have hc3 : w3.cell? ⟨w2.heap.size, 3, none⟩ = some (.int .i64 z.price) := (by rw [hw3]; exact (Blk.new _ _ _).cell_eq 3 _ rfl); simp only [cOrd] at hw3)
      | (rw [← hw3]; clear hw3)
      | (go_at_call 23; (with_reducible refine (cW _ _).mono ?_); rintro e w4 ⟨rfl, rfl⟩)
      | fail)
    go_ret
    exact ⟨by simp, hb3⟩
end
end Go.Proofs.YtdpibjnlpdgdeaaDoor
namespace Go.Proofs.YtdpibjnlpdgdeaaDoor
open Go.RowKit
section
variable {w0 w : World} {S0 : Nat → Prop} {g r k : Nat} {b t : Bk}
theorem bbReaches (side limit : Int) (h : Bb w0 S0 g r k b t w) : Calls Tryd.prog 7 #[.pointer (some ⟨g, 0, none⟩), .int .i64 side, .int .i64 limit] w fun e w' => e = .returned (.bool (swr b side limit)) ∧ Bb w0 S0 g r k b t w' := by
  obtain ⟨Sp, Sr, h1, h2, h3, h4⟩ := h.both
  exact (sw_reaches side limit h1).mono fun e w' ⟨he, hb⟩ => ⟨he, h.below hb⟩
theorem bbReachesR (side limit : Int) (h : Bb w0 S0 g r k b t w) (ht : t.Ok) : Calls Tryd.prog 8 #[.pointer (some ⟨r, 0, none⟩), .int .i64 side, .int .i64 limit] w fun e w' => e = .returned (.bool (swr t side limit)) ∧ Bb w0 S0 g r k b t w' := by
  obtain ⟨Sp, Sr, h1, h2, h3, h4⟩ := h.both
  have h5 := ht.len
  have h6 := ht.s2
  exact (rreaches_any side limit h2 (by omega)).mono fun e w' ⟨he, hb⟩ => ⟨he, h.below hb⟩
theorem bbMake (x : Tkr) (hx : x.Fit) (h : Bb w0 S0 g r k b t w) : Calls Tryd.prog 9 #[.pointer (some ⟨g, 0, none⟩), vTkr x] w fun e w' => ∃ ao cap, e = .returned (.agg #[.slice ao (swm b x).fills.length cap, .int .i64 (swm b x).left, .int .i64 (swm b x).stop]) ∧ Flls w' ao cap (swm b x).fills ∧ (∀ c off s, ao = some ⟨c, off, s⟩ → w.heap.size ≤ c) ∧ Bb w0 S0 g r k b t w' := by
  obtain ⟨Sp, Sr, h1, h2, h3, h4⟩ := h.both
  exact (sw_make x hx h1).mono fun e w' ⟨ao, cap, he, h5, h6, hb⟩ => ⟨ao, cap, he, h5, h6, h.below hb⟩
end
end Go.Proofs.YtdpibjnlpdgdeaaDoor
namespace Go.Proofs.YtdpibjnlpdgdeaaDoor
open Go.RowKit
set_option linter.unusedSimpArgs false
def os1 : Ord := ⟨1, 0, 1, 10, 3, 0, 0⟩
def os2 : Ord := ⟨2, 0, 1, 11, 5, 0, 0⟩
def tk1 : Tkr := ⟨0, 0, 11, 6, ⟨1, 100⟩, 0⟩
theorem os_fit : os1.Fit ∧ os2.Fit ∧ tk1.Fit := by
  refine ⟨⟨?_, ?_, ?_, ?_, ?_, ?_, ?_⟩, ⟨?_, ?_, ?_, ?_, ?_, ?_, ?_⟩, ⟨?_, ?_, ?_, ?_, ⟨?_, ?_⟩, ?_⟩⟩ <;> (unfold In64; simp only [os1, os2, tk1]; omega)
theorem swm_ex : swm (bks [os1, os2]) tk1 = ⟨[⟨1, 10, 3, false⟩, ⟨2, 11, 3, false⟩], 0, 0⟩ := rfl
set_option maxRecDepth 8000 in
set_option maxHeartbeats 4000000 in
theorem alive_any (W : World) (hG : Gl W) : Calls Tryd.prog 5 #[] W fun e w' => e = .returned (.bool true) ∧ Below W.heap.size W w' := by
  obtain ⟨f1, f2, f3⟩ := os_fit
  obtain ⟨W1, hW1⟩ : ∃ W1, W1 = W.alloc (.cells #[.int .i64 1, .int .i64 0, .int .i64 1, .int .i64 10, .int .i64 3, .int .i64 0, .int .i64 0, .int .i64 2, .int .i64 0, .int .i64 1, .int .i64 11, .int .i64 5, .int .i64 0, .int .i64 0] 45) := ⟨_, rfl⟩
  have hb1 : Below W.heap.size W W1 := by rw [hW1]; exact (Below.refl _ _).alloc (Nat.le_refl _) _
  have hB1 : Blk W1 W.heap.size 45 #[.int .i64 1, .int .i64 0, .int .i64 1, .int .i64 10, .int .i64 3, .int .i64 0, .int .i64 0, .int .i64 2, .int .i64 0, .int .i64 1, .int .i64 11, .int .i64 5, .int .i64 0, .int .i64 0] := by rw [hW1]; exact Blk.new _ _ _
  have hL : Ords W1 (some ⟨W.heap.size, 0, none⟩) 2 [os1, os2] := by
    refine ⟨by simp, by simp [maxLen], .inr ⟨_, _, rfl, fun i m hi j v hj => ?_⟩⟩
    rcases i with _ | _ | i
    · cases hi
      have hlt : j < 7 := (Array.getElem?_eq_some_iff.1 hj).1
      refine hB1.cell_eq _ _ ?_
      rcases j with _ | _ | _ | _ | _ | _ | _ | j <;> first | exact hj | omega
    · cases hi
      have hlt : j < 7 := (Array.getElem?_eq_some_iff.1 hj).1
      refine hB1.cell_eq _ _ ?_
      rcases j with _ | _ | _ | _ | _ | _ | _ | j <;> first | exact hj | omega
    · simp at hi
  have hFF : ∀ m ∈ [os1, os2], m.Fit := by
    intro m hm
    simp only [List.mem_cons, List.not_mem_nil, or_false] at hm
    rcases hm with rfl | rfl
    · exact f1
    · exact f2
  have cB : Calls Tryd.prog 6 #[.slice (some ⟨W.heap.size, 0, none⟩) 2 2] W1 _ := books_any _ _ [os1, os2] W1 (hG.below hb1) hL hFF (by simp)
  have fin : ∀ g r k b t w, Bb W1 (fun _ => False) g r k b t w → Below W.heap.size W w := fun g r k b t w h => hb1.trans ((h.frm.below (Nat.le_refl _) (fun _ f => f.elim)).mono hb1.size)
  have cM : ∀ g r w, Bb W1 (fun _ => False) g r 2 (bks [os1, os2]) (bks [os1, os2]) w → Calls Tryd.prog 9 #[.pointer (some ⟨g, 0, none⟩), .agg #[.int .i64 0, .int .i64 0, .int .i64 11, .int .i64 6, .int .i64 1, .int .i64 100, .int .i64 0]] w fun e w' => ∃ b off cap, e = .returned (.agg #[.slice (some ⟨b, off, none⟩) 2 cap, .int .i64 0, .int .i64 0]) ∧ (w'.cell? ⟨b, off + 2, none⟩ = some (.int .i64 3) ∧ w'.cell? ⟨b, off + 4 + 2, none⟩ = some (.int .i64 3)) ∧ Flls w' (some ⟨b, off, none⟩) cap [⟨1, 10, 3, false⟩, ⟨2, 11, 3, false⟩] ∧ Below W.heap.size W w' := by
    intro g r w h
    have c := bbMake tk1 f3 h
    rw [swm_ex] at c
    refine c.mono ?_
    rintro e w' ⟨ao, cap, he, h1, -, h2⟩
    obtain ⟨b, off, rfl, -, -, y2, -⟩ := h1.get (i := 0) rfl
    obtain ⟨b', off', e1, -, -, z2, -⟩ := h1.get (i := 1) rfl
    cases e1
    exact ⟨b, off, cap, he, ⟨by simpa using y2, by simpa using z2⟩, h1, fin _ _ _ _ _ _ h2⟩
  have cT : ∀ ao cap w, Flls w ao cap [⟨1, 10, 3, false⟩, ⟨2, 11, 3, false⟩] → Calls Tryd.prog 11 #[.agg #[.slice ao 2 cap, .int .i64 0, .int .i64 0]] w fun e w' => e = .returned (.int .i64 6) ∧ Below w.heap.size w w' := fun ao cap w h => sw_traded 0 0 h (by
    intro n
    rcases n with _ | _ | _ | n <;> simp [trd])
  clear hB1 hL hFF f1 f2 f3
  go_enter Tryd.func5, Tryd.ntmps5
  go_wp2_with (first
    | (go_at_call 6; rw [← hW1]; refine cB.mono ?_; rintro e w2 ⟨g, r, rfl, k2⟩; clear cB hW1)
    | (go_at_call 9; (with_reducible refine (cM _ _ _ k2).mono ?_); rintro e w3 ⟨b, off, cap, rfl, ⟨y0, y1⟩, hL3, hb3⟩; clear cM; obtain ⟨w4, hw4⟩ : ∃ w4, w4 = w3.alloc (.cells #[.slice (some ⟨b, off, none⟩) 2 cap, .int .i64 0, .int .i64 0] 37) := ⟨_, rfl⟩; have hbb : Below w3.heap.size w3 w4 := (by rw [hw4]; exact (Below.refl _ _).alloc (Nat.le_refl _) _); have hB4 : Blk w4 w3.heap.size 37 #[.slice (some ⟨b, off, none⟩) 2 cap, .int .i64 0, .int .i64 0] := (by rw [hw4]; exact Blk.new _ _ _); have x0 := hB4.cell_eq 0 _ rfl; have x1 := hB4.cell_eq 1 _ rfl; have x2 := hB4.cell_eq 2 _ rfl; replace y0 := (World.cell?_of_block (hbb.block _ (World.block_lt_of_cell? _ _ y0))).trans y0; replace y1 := (World.cell?_of_block (hbb.block _ (World.block_lt_of_cell? _ _ y1))).trans y1; have hL4 := hL3.below hbb; have hb4 := hb3.trans (hbb.mono hb3.size); clear hL3 hbb hB4)
    | (rw [← hw4]; clear hw4)
    | (go_at_call 11; (with_reducible refine (cT _ _ _ hL4).mono ?_); rintro e w5 ⟨rfl, hb5⟩; clear cT)
    | fail)
  go_ret
  exact ⟨rfl, hb4.trans (hb5.mono hb4.size)⟩
end Go.Proofs.YtdpibjnlpdgdeaaDoor
namespace Go.Proofs.YtdpibjnlpdgdeaaDoor
open Go.RowKit
set_option linter.unusedSimpArgs false
set_option maxRecDepth 8000 in
set_option maxHeartbeats 2000000 in
theorem own_any (t : Tkr) (W : World) : Calls Tryd.prog 10 #[vTkr t] W fun e w' => e = .returned (vTkr t) ∧ Below W.heap.size W w' := by
  obtain ⟨a, b, c, d, ⟨lo, hi⟩, f⟩ := t
  obtain ⟨W1, hW1⟩ : ∃ W1, W1 = (W.alloc (.cells #[.int .i64 a, .int .i64 b, .int .i64 c, .int .i64 d, .int .i64 lo, .int .i64 hi, .int .i64 f] 34)).alloc (.cells #[.int .i64 0, .int .i64 0, .int .i64 0, .int .i64 0, .int .i64 0, .int .i64 0, .int .i64 0] 39) := ⟨_, rfl⟩
  have m1 : Mem W [(W.heap.size + 1, 39, #[.int .i64 0, .int .i64 0, .int .i64 0, .int .i64 0, .int .i64 0, .int .i64 0, .int .i64 0]), (W.heap.size, 34, #[.int .i64 a, .int .i64 b, .int .i64 c, .int .i64 d, .int .i64 lo, .int .i64 hi, .int .i64 f])] W1 := by
    rw [hW1]
    exact ((Mem.start W).new _ _).new' _ _ (by simp)
  have hB := m1.blk W.heap.size 34 #[.int .i64 a, .int .i64 b, .int .i64 c, .int .i64 d, .int .i64 lo, .int .i64 hi, .int .i64 f] (by simp)
  have hC := m1.blk (W.heap.size + 1) 39 #[.int .i64 0, .int .i64 0, .int .i64 0, .int .i64 0, .int .i64 0, .int .i64 0, .int .i64 0] (by simp)
  obtain ⟨x0, x1, x2, x3, x4, x5, x6⟩ := seven_cells hB
  obtain ⟨z0, z1, z2, z3, z4, z5, z6⟩ := seven_cells hC
  have hfr := hC.free
  have hD := seven_lay hC (.int .i64 a) (.int .i64 b) (.int .i64 c) (.int .i64 d) (.int .i64 lo) (.int .i64 hi) (.int .i64 f)
  obtain ⟨q0, q1, q2, q3, q4, q5, q6⟩ := seven_cells hD
  have hbel := seven_below m1.below (b := W.heap.size + 1) (by omega) (.int .i64 a) (.int .i64 b) (.int .i64 c) (.int .i64 d) (.int .i64 lo) (.int .i64 hi) (.int .i64 f)
  clear m1 hB hC hD
  go_enter Tryd.func10, Tryd.ntmps10
  go_wp2_with (rw [← hW1]; clear hW1)
  refine bodyPost_ret (v := .agg #[.int .i64 a, .int .i64 b, .int .i64 c, .int .i64 d, .int .i64 lo, .int .i64 hi, .int .i64 f]) ?_ rfl ⟨rfl, hbel⟩
  simp [results, Tryd.results10, go_sem, q0, q1, q2, q3, q4, q5, q6]
end Go.Proofs.YtdpibjnlpdgdeaaDoor
