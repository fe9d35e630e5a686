/-
  AllotTotal.
-/
import Derived.Test.YtdmjcjheanedgaaDoorAlhq
import Derived.Test.YtdmjcjheanedgaaDoorGHe
import Derived.Test.YtdmjcjheanedgaaDoorCvnq
namespace Go.Proofs.YtdmjcjheanedgaaDoor
open Go.RowKit
set_option linter.unusedSimpArgs false
theorem prsL_pos (L : List Ord) (price : Int) : ∀ p ∈ prsL L price, 0 ≤ p.qty := by
  intro p hp
  unfold prsL at hp
  split at hp
  · cases hp
  · have := (prsF_mem _ p hp).2.2
    omega
theorem prsL_tot {b : Bk} (hb : b.Ok) {price : Int} (hp : 1 ≤ price ∧ price ≤ 1099511627776) : totP (prsL b.L price) ≤ 9223372036854775807 := by
  rw [prs_volume hb hp]
  obtain ⟨h1, h2⟩ := part_le hb 0 price
  have h3 := sq_le _ h1
  rw [part_buy] at h3
  unfold volP
  split <;> omega
set_option maxRecDepth 8000 in
set_option maxHeartbeats 8000000 in
theorem atotal_any (ao : Option Addr) (cap : Nat) (l : List Ord) (price : Int) (W : World) (hG : Gl W) (hL : Ords W ao cap l) (hF : ∀ m ∈ l, m.Fit) :
    Calls Tryd.prog 4 #[.slice ao l.length cap, .int .i64 price] W fun e w' => e = .returned (.bool true) ∧ Below W.heap.size W w' := by
  have hl1 := hL.len
  have hl2 := hL.top
  unfold maxLen at hl2
  have hl3 : l.length ≤ 9223372036854775807 := by omega
  clear hl1 hl2
  have cA := fun w (h : Gl w) => alive18_any w h
  have key : (decide ((60 : Int) < (l.length : Int)) = true ∨ (decide ((60 : Int) < (l.length : Int)) = false ∧ (decide (price < 1) = true ∨ (decide (price < 1) = false ∧ decide (1099511627776 < price) = true)))) ∨
      (decide ((60 : Int) < (l.length : Int)) = false ∧ decide (price < 1) = false ∧ decide (1099511627776 < price) = false ∧ l.length ≤ 60 ∧ 1 ≤ price ∧ price ≤ 1099511627776) := by
    simp only [decide_eq_true_eq, decide_eq_false_iff_not]
    omega
  rcases key with key | ⟨d60, d1, d2, h60, q1, q2⟩
  · rcases key with d60 | ⟨d60, d1 | ⟨d1, d2⟩⟩
    all_goals
      go_enter Tryd.func4, Tryd.ntmps4
      go_wp2_with (first
        | (go_at_call 6; refine (cA _ hG).mono ?_; rintro e w3 ⟨rfl, hb3⟩; clear cA)
        | fail)
      go_ret
      exact ⟨rfl, hb3⟩
  have cB := books_any ao cap l W hG hL hF (by omega)
  have hok : (bks l).Ok := bks_ok hF
  clear hL hF h60 hl3
  generalize bks l = b at *
  have hvol := prs_volume hok ⟨q1, q2⟩
  have happ := prs_applies hok ⟨q1, q2⟩
  have htot := prsL_tot hok ⟨q1, q2⟩
  have hpos := prsL_pos b.L price
  have hbnd : Hid (∀ o ∈ b.L, 0 ≤ ofP (prsL b.L price) o.id ∧ ofP (prsL b.L price) o.id ≤ o.qty ∧ (0 < ofP (prsL b.L price) o.id → bett o.side price o.price = false)) := Lib.hid fun o ho => of_bounds hok ⟨q1, q2⟩ ho
  have hlen : b.L.length ≤ 500 := by
    have := hok.len
    have := hok.s2
    omega
  have cP := fun g t k w (h : Bb W (fun _ => False) g t k b b w) => bbPairs2 price h
  have cT := fun w ao cap h => al_total (W := w) (ao := ao) (cap := cap) (prsL b.L price) hpos htot h
  have cO := fun id w ao cap h => al_of (W := w) (ao := ao) (cap := cap) (prsL b.L price) hpos htot id h
  have cR : ∀ g t k w, Bb W (fun _ => False) g t k b b w → Calls Tryd.prog 15 #[.pointer (some ⟨t, 0, none⟩), .int .i64 price] w fun e w' => e = .returned (vPnt (catL b.L price)) ∧ Below w.heap.size w w' := fun g t k w h => by
    obtain ⟨Sp, Sr, -, h2, -⟩ := h.both
    exact rat_any price hok h2
  have cV := fun w => rvol_any (catL b.L price) w
  rw [← hvol] at cV
  have cQ := fun s p w => pb_better s price p w
  have hfit := prsL_fit hok hpos htot
  have cY : ∀ g k ao cap w, ApB W g k b ao w → Prs w ao cap (prsL b.L price) → Calls Tryd.prog 18 #[.pointer (some ⟨g, 0, none⟩), .slice ao (prsL b.L price).length cap] w fun e w' => e = .returned (.int .i64 0) ∧ Below W.heap.size W w' := fun g k ao cap w ⟨hb, Sp, h1, h2, h3⟩ hP => by
    refine (al_apply _ h1 hP hfit h3).mono ?_
    rintro e w' ⟨he, hf⟩
    rw [happ] at he
    exact ⟨he, hb.trans (hf.below hb.size h2)⟩
  have fin : ∀ g t k w, Bb W (fun _ => False) g t k b b w → Below W.heap.size W w := fun g t k w h => h.frm.below (Nat.le_refl _) (fun _ f => f.elim)
  have hrow : ∀ g t k w, Bb W (fun _ => False) g t k b b w → ∃ ro rc, ∀ w', Below w.heap.size w w' → w'.cell? ⟨t, 2, none⟩ = some (.slice ro b.L.length rc) ∧ Ords w' ro rc b.L := fun g t k w h => by
    obtain ⟨Sp, Sr, -, h2, -⟩ := h.both
    obtain ⟨ko, ro, rc, h⟩ := h2
    exact ⟨ro, rc, fun w' hb => ⟨(h.below hb).c2, (h.below hb).rows⟩⟩
  clear hvol happ htot hpos hok q1 q2 hfit
  generalize catL b.L price = pt at *
  generalize prsL b.L price = P at *
  obtain ⟨pa, pb, pc⟩ := pt
  generalize totP P = tot at *
  obtain ⟨n, hn⟩ : ∃ n, n = b.L.length := ⟨_, rfl⟩
  simp only [← hn] at hrow hlen
  simp only [vPnt, cPnt] at cR cV
  replace hn := Lib.hid hn
  go_enter Tryd.func4, Tryd.ntmps4
  go_wp2_with (first
    | (go_at_call 7; refine cB.mono ?_; rintro e w2 ⟨g, t, rfl, k2⟩; clear cB)
    | (go_at_call 10; (with_reducible refine (cP _ _ _ _ k2).mono ?_); rintro e w3 ⟨ao3, cap3, rfl, hP3, k3, s3⟩; clear cP)
    | (go_at_call 13; refine (cT _ _ _ hP3).mono ?_; rintro e w4 ⟨rfl, hb4⟩; clear cT; have k4 := k3.below hb4; have hP4 := hP3.below hb4; have s4 := s3.below hb4; clear k3 hP3 s3)
    | (go_at_call 15; refine (cR _ _ _ _ k4).mono ?_; rintro e w5 ⟨rfl, hb5⟩; clear cR; have k5 := k4.below hb5; have hP5 := hP4.below hb5; have s5 := s4.below hb5; clear k4 hP4 s4)
    | (go_at_call 14; refine (cV _).mono ?_; rintro e V ⟨rfl, hb6⟩; clear cV; have k6 := k5.below hb6; have hP6 := hP5.below hb6; have s6 := s5.below hb6; clear k5 hP5 s5; obtain ⟨ro, rc, hC⟩ := hrow _ _ _ _ k6; clear hrow)
    | fail)
  go_loopg [8] n (fun j p8 wr => ∃ q : Nat, q + j = n ∧ p8 = .int .i64 (q : Int) ∧ Below V.heap.size V wr)
  case atStart => exact ⟨0, by omega, rfl, Below.refl _ _⟩
  case round =>
    obtain ⟨q, hqj, rfl, hb⟩ := hrel
    have c2 := (hC wr hb).1
    by_cases hqn : q < n
    · obtain ⟨x, hx⟩ : ∃ x, b.L[q]? = some x := ⟨_, List.getElem?_eq_getElem (by rw [← hn.out]; exact hqn)⟩
      obtain ⟨bx, offx, rfl, y0, y1, y2, y3, y4, y5, y6⟩ := (hC wr hb).2.get hx
      replace y0 : wr.cell? ⟨bx, offx + q * 7, none⟩ = some (.int .i64 x.id) := y0
      obtain ⟨b1, b2, b3⟩ := hbnd.out x (List.mem_of_getElem? hx)
      have hql : (q : Int) < (n : Int) := by omega
      obtain ⟨U, hU⟩ : ∃ U, U = wr.alloc (.cells (cOrd x) 44) := ⟨_, rfl⟩
      have hbU : Below wr.heap.size wr U := by rw [hU]; exact (Below.refl _ _).alloc (Nat.le_refl _) _
      have hbV : Below V.heap.size V U := hb.trans (hbU.mono hb.size)
      have hPU := hP6.below hbV
      have hBU : ∀ w, Below U.heap.size U w → w.cell? ⟨wr.heap.size, 0, none⟩ = some (.int .i64 x.id) ∧ w.cell? ⟨wr.heap.size, 2, none⟩ = some (.int .i64 x.side) ∧ w.cell? ⟨wr.heap.size, 3, none⟩ = some (.int .i64 x.price) ∧ w.cell? ⟨wr.heap.size, 4, none⟩ = some (.int .i64 x.qty) ∧ Below V.heap.size V w := fun w h => by
        have hN : Blk U wr.heap.size 44 (cOrd x) := by rw [hU]; exact Blk.new _ _ _
        have := hN.below h hN.lt
        exact ⟨this.cell_eq 0 _ rfl, this.cell_eq 2 _ rfl, this.cell_eq 3 _ rfl, this.cell_eq 4 _ rfl, hbV.trans (h.mono hbV.size)⟩
      obtain ⟨z0, z2, z3, z4, -⟩ := hBU U (Below.refl _ _)
      have cO' := cO x.id U _ _ hPU
      have cQ' := fun w => cQ x.side x.price w
      have key : (decide (0 < ofP P x.id) = false) ∨ (decide (0 < ofP P x.id) = true ∧ bett x.side price x.price = false) := by
        by_cases g : 0 < ofP P x.id
        · exact .inr ⟨decide_eq_true g, b3 g⟩
        · exact .inl (decide_eq_false g)
      have e1 : decide (ofP P x.id < 0) = false := decide_eq_false (by omega)
      have e2 : decide (x.qty < ofP P x.id) = false := decide_eq_false (by omega)
      generalize bett x.side price x.price = bt at *
      generalize ofP P x.id = m at *
      clear hx hbnd b1 b2 b3 cQ cO hC hPU hP6 k6 s6
      obtain ⟨x0, x1, x2, x3, x4, x5, x6⟩ := x
      simp only at y0 y1 y2 y3 y4 y5 y6 z0 z2 z3 z4 cO' cQ' e1 e2 key hBU
      simp only [cOrd] at hU
      rcases key with e3 | ⟨e3, rfl⟩
      all_goals
        go_wp2_with (first
          | (rw [← hU]; clear hU)
          | (go_at_call 16; refine cO'.mono ?_; rintro e w7 ⟨rfl, hb7⟩; clear cO' z0 z2 z3 z4; obtain ⟨z0, z2, z3, z4, hbe⟩ := hBU w7 hb7)
          | (go_at_call 17; refine (cQ' _).mono ?_; rintro e w8 ⟨rfl, hw8⟩; subst w8; clear cQ')
          | fail)
        go_roundg (n - (q + 1))
        case measure => omega
        case rel => exact ⟨q + 1, by omega, by go_num, hbe⟩
    · have e : q = n := by omega
      subst e
      have hqn : ¬ (q : Int) < (q : Int) := by omega
      have k7 := s6.below hb
      have hP7 := hP6.below hb
      clear hC hbnd k6 hP6 cO cQ hn s6
      go_wp2_with (first
        | (go_at_call 18; refine (cY _ _ _ _ _ k7 hP7).mono ?_; rintro e w8 ⟨rfl, hb8⟩; clear cY)
        | (go_at_call 6; refine (cA _ (hG.below hb8)).mono ?_; rintro e w9 ⟨rfl, hb9⟩; clear cA)
        | fail)
      go_ret
      exact ⟨rfl, hb8.trans (hb9.mono hb8.size)⟩
end Go.Proofs.YtdmjcjheanedgaaDoor
