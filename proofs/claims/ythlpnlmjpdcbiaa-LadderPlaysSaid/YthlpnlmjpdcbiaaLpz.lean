/-
  LadderPlays. (Written by gen/p_lpz.py.)
-/
import Derived.Test.YthlpnlmjpdcbiaaLpy
namespace Go.Proofs.Ythlpnlmjpdcbiaa
open Go.RowKit
set_option linter.unusedSimpArgs false
theorem qRowB {w0 w w' : World} {S0 : Nat → Prop} {g r : Nat} {s t : Ld} {ao : Option Addr} {n cap : Nat} (h : Bl w0 S0 g r s t w) (hb : Below w.heap.size w w') (hc : w.cell? ⟨r, 2, none⟩ = some (.slice ao n cap)) : w'.cell? ⟨r, 2, none⟩ = some (.slice ao n cap) :=
  ((bcell hb).1 r 2 (World.block_lt_of_cell? w _ hc)).trans hc
set_option maxRecDepth 8000 in
set_option maxHeartbeats 4000000 in
theorem plays_any (x y : Int) (ao : Option Addr) (cap : Nat) (l : List Lac) (W : World) (hL : Lacs W ao cap l) (hF : ∀ m ∈ l, m.Fit) :
    Calls Try.prog 3 #[.int .i64 x, .int .i64 y, .slice ao l.length cap] W fun e w' => e = .returned (.bool true) ∧ Below W.heap.size W w' := by
  have cA := fun w => alive_any w
  have cR := right_any ao cap l W hL
  have hl2 := hL.top
  unfold maxLen at hl2
  by_cases hx : x ≠ 0 ∧ x ≠ 1
  · have c1 := pnewSide_any x y hx.1 hx.2 W
    have c2 := lnewSide_any x y hx.1 hx.2 W
    clear hx
    go_enter Try.func3, Try.ntmps3
    go_wp2_with (first
      | (go_at_call 7; refine cR.mono ?_; rintro e w1 ⟨R, rfl, -, hw1⟩; subst w1; clear cR; cases R)
      | (go_at_call 8; refine (cA _).mono ?_; rintro e w4 ⟨rfl, hb4⟩)
      | (go_at_call 9; refine c1.mono ?_; rintro e w1 ⟨rfl, hw1⟩; subst w1)
      | (go_at_call 10; refine c2.mono ?_; rintro e w2 ⟨rfl, hw2⟩; subst w2)
      | fail)
    all_goals go_ret
    all_goals exact ⟨by simp, hb4⟩
  obtain ⟨buy, rfl⟩ : ∃ buy, x = sdI buy := by
    by_cases h0 : x = 0
    · exact ⟨true, by simp [sdI, h0]⟩
    · exact ⟨false, by simp [sdI]; omega⟩
  clear hx
  by_cases hy : y < 1 ∨ 200 < y
  · have c1 := pnewRange_any buy y hy W
    have c2 := lnewRange_any buy y hy W
    clear hy
    generalize sdI buy = x at *
    go_enter Try.func3, Try.ntmps3
    go_wp2_with (first
      | (go_at_call 7; refine cR.mono ?_; rintro e w1 ⟨R, rfl, -, hw1⟩; subst w1; clear cR; cases R)
      | (go_at_call 8; refine (cA _).mono ?_; rintro e w4 ⟨rfl, hb4⟩)
      | (go_at_call 9; refine c1.mono ?_; rintro e w1 ⟨rfl, hw1⟩; subst w1)
      | (go_at_call 10; refine c2.mono ?_; rintro e w2 ⟨rfl, hw2⟩; subst w2)
      | fail)
    all_goals go_ret
    all_goals exact ⟨by simp, hb4⟩
  obtain ⟨n, rfl, hn1, hn2⟩ : ∃ n : Nat, y = (n : Int) ∧ 1 ≤ n ∧ n ≤ 200 := ⟨y.toNat, by omega, by omega, by omega⟩
  clear hy
  have c1 : Calls Try.prog 9 #[.int .i64 (sdI buy), .int .i64 (n : Int)] W fun e w' => ∃ g S, e = .returned (.tuple #[.pointer (some ⟨g, 0, none⟩), .int .i64 0]) ∧ PL w' g S ⟨buy, n, []⟩ ∧ Below W.heap.size W w' ∧ ∀ b, S b → W.heap.size ≤ b :=
    (pnew_any buy n hn1 hn2 W).mono fun e w' ⟨g, S, F, he, h1, h2, h3, h4⟩ => ⟨g, S, he, new_pl h1 h2 hn2, h3, h4⟩
  have c2 := fun w => lnew_any buy n hn1 hn2 w
  have hw0 : (Ld.mk buy n []).Wf 0 := Ld.new_wf buy n
  have hs0 := Lib.hid hw0
  clear hw0 hn1 hn2
  generalize sdI buy = x at *
  go_enter Try.func3, Try.ntmps3
  go_wp2_with (first
    | (go_at_call 7; refine cR.mono ?_; rintro e w1 ⟨R, rfl, hlen, hw1⟩; subst w1; clear cR; cases R)
    | (go_at_call 8; refine (cA _).mono ?_; rintro e w4 ⟨rfl, hb4⟩)
    | (go_at_call 9; refine c1.mono ?_; rintro e w1 ⟨g, Sp, rfl, hP, hb1, hSp⟩; clear c1)
    | (go_at_call 10; refine (c2 w1).mono ?_; rintro e w2 ⟨r, Sr, rfl, hR, hb2, hSr⟩; have k0 := Bl.start hb1 hP hSp hb2 hR hSr; clear c2)
    | fail)
  · go_ret
    exact ⟨by simp, hb4⟩
  have hl120 := hlen (by simp)
  clear hlen hP hR hb1 hb2 hSp hSr
  generalize Ld.mk buy n [] = s0 at *
  go_loopg [11] l.length (fun j p11 wr => ∃ (q : Nat) (s : Ld), q + j = l.length ∧ p11 = .int .i64 (q : Int) ∧ Hid (s.Wf q) ∧ Bl W (fun _ => False) g r s s wr)
  case atStart => exact ⟨0, s0, by omega, rfl, hs0, k0⟩
  case round =>
    clear k0 hs0
    obtain ⟨q, s, hqj, rfl, hs, k⟩ := hrel
    by_cases hj : q < l.length
    · obtain ⟨a, hm⟩ : ∃ a, l[q]? = some a := ⟨l[q], List.getElem?_eq_getElem hj⟩
      have hfit := hF a (List.mem_of_getElem? hm)
      have hb := k.bel
      obtain ⟨b, off, rfl, hyy⟩ : ∃ b off, ao = some ⟨b, off, none⟩ ∧ ∀ w, Below W.heap.size W w → w.cell? ⟨b, off + q * 4, none⟩ = some (.int .i64 a.kind) ∧ w.cell? ⟨b, off + q * 4 + 1, none⟩ = some (.int .i64 a.price) ∧ w.cell? ⟨b, off + q * 4 + 2, none⟩ = some (.int .i64 a.qty) ∧ w.cell? ⟨b, off + q * 4 + 3, none⟩ = some (.bool a.gone) := by
        obtain ⟨b, off, e, -⟩ := hL.get hm
        refine ⟨b, off, e, fun w hw => ?_⟩
        obtain ⟨b', off', e', y0, y1, y2, y3⟩ := (hL.below hw).get hm
        rw [e] at e'
        cases e'
        exact ⟨y0, y1, y2, y3⟩
      obtain ⟨y0, y1, y2, y3⟩ := hyy wr hb
      have hy3 := fun w (h : Bl W (fun _ => False) g r (s.act a) (s.act a) w) => hyy w h.bel
      have cX := act_any (k.below ((Below.refl _ _).drew)) hs.out (by omega) a hfit
      have hw2 := Ld.act_wf hs.out hfit
      have hs2 := Lib.hid hw2
      generalize s.act a = s' at *
      obtain ⟨kind, price, qty, gone⟩ := a
      simp only at y0 y1 y2 y3 hy3
      have hql : (q : Int) < (l.length : Int) := by omega
      clear hyy hm hb hs k hL cA hfit hF
      go_wp2_with fail
      · skip
        refine GoL.start (S := fun _ w => w.cell? ⟨b, off + q * 4, none⟩ = some (.int .i64 kind) ∧ w.cell? ⟨b, off + q * 4 + 1, none⟩ = some (.int .i64 price) ∧ w.cell? ⟨b, off + q * 4 + 2, none⟩ = some (.int .i64 qty) ∧ w.cell? ⟨b, off + q * 4 + 3, none⟩ = some (.bool gone)) (by kernel_rfl) ⟨y0, y1, y2, y3⟩ ?_
        clear y0 y1 y2 y3
        refine GoL.take (i := 0) (v := ?_) rfl rfl (by kernel_rfl) (fun _ _ _ h => h) (fun _ _ => Iff.rfl) (by rfl) ?_ ?_
        rotate_left
        · intro wx hwx
          go_simp
          try with_reducible rfl
        try simp only [Act.put, List.setIfInBounds_toArray, List.set_cons_zero, List.set_cons_succ, List.getElem_toArray, List.getElem_cons_zero, List.getElem_cons_succ, Nat.zero_add, List.nil_append]
        refine GoL.take (i := 1) (v := ?_) rfl rfl (by kernel_rfl) (fun _ _ _ h => h) (fun _ _ => Iff.rfl) (by rfl) ?_ ?_
        rotate_left
        · intro wx hwx
          go_simp
          try with_reducible rfl
        try simp only [Act.put, List.setIfInBounds_toArray, List.set_cons_zero, List.set_cons_succ, List.getElem_toArray, List.getElem_cons_zero, List.getElem_cons_succ, Nat.zero_add, List.nil_append]
        refine GoL.take (i := 2) (v := ?_) rfl rfl (by kernel_rfl) (fun _ _ _ h => h) (fun _ _ => Iff.rfl) (by rfl) ?_ ?_
        rotate_left
        · intro wx hwx
          go_simp
          try with_reducible rfl
        try simp only [Act.put, List.setIfInBounds_toArray, List.set_cons_zero, List.set_cons_succ, List.getElem_toArray, List.getElem_cons_zero, List.getElem_cons_succ, Nat.zero_add, List.nil_append]
        refine GoL.take (i := 3) (v := ?_) rfl rfl (by kernel_rfl) (fun _ _ _ h => h) (fun _ _ => Iff.rfl) (by rfl) ?_ ?_
        rotate_left
        · intro wx hwx
          go_simp
          try with_reducible rfl
        try simp only [Act.put, List.setIfInBounds_toArray, List.set_cons_zero, List.set_cons_succ, List.getElem_toArray, List.getElem_cons_zero, List.getElem_cons_succ, Nat.zero_add, List.nil_append]
        refine GoL.take (i := 4) (v := ?_) rfl rfl (by kernel_rfl) (fun _ _ _ h => h) (fun _ _ => Iff.rfl) (by rfl) ?_ ?_
        rotate_left
        · intro wx hwx
          go_simp
          try with_reducible rfl
        try simp only [Act.put, List.setIfInBounds_toArray, List.set_cons_zero, List.set_cons_succ, List.getElem_toArray, List.getElem_cons_zero, List.getElem_cons_succ, Nat.zero_add, List.nil_append]
        refine GoL.take (i := 5) (v := ?_) rfl rfl (by kernel_rfl) (fun _ _ _ h => h) (fun _ _ => Iff.rfl) (by rfl) ?_ ?_
        rotate_left
        · intro wx hwx
          have x0 := hwx.at'
          obtain ⟨y0, y1, y2, y3⟩ := x0
          go_simp
          try with_reducible rfl
        try simp only [Act.put, List.setIfInBounds_toArray, List.set_cons_zero, List.set_cons_succ, List.getElem_toArray, List.getElem_cons_zero, List.getElem_cons_succ, Nat.zero_add, List.nil_append]
        refine GoL.on (rs := [6]) (by kernel_rfl) (by decide) ?_
        refine OnL.cons rfl ?_ OnL.nil
        intro K hK
        replace hK := Lib.hid hK
        go_simp
        refine (cX).mono ?_
        rintro e wz ⟨rfl, k3⟩
        clear cX
        refine hK.out _ _ (hy3 _ k3) ?_
        clear hK
        try simp only [Act.put, List.setIfInBounds_toArray, List.set_cons_zero, List.set_cons_succ, List.getElem_toArray, List.getElem_cons_zero, List.getElem_cons_succ, Nat.zero_add, List.nil_append]
        obtain ⟨y0, y1, y2, y3⟩ := hy3 _ k3
        refine GoL.to (S' := fun _ w => w = wz) (fun _ w e => by subst e; exact ⟨y0, y1, y2, y3⟩) rfl ?_
        clear y0 y1 y2 y3 hy3
        have cL := qLen k3
        obtain ⟨ao3, cap3, c1⟩ := qRow k3
        have hc1 := fun w (hb : Below wz.heap.size wz w) => qRowB k3 hb c1
        have hSo := fun w hb => qSorted k3 hw2 w hb
        have hBe := qBest k3 hw2
        have kz := k3
        have hO := s'.srt_ord hw2.uniP
        generalize s'.srt hw2.uniP = P at *
        have hPl := hO.len
        generalize hnl : s'.L.length = nl at *
        clear hO k3
        refine GoL.take (i := 7) (v := ?_) rfl rfl (by kernel_rfl) (fun _ _ _ h => h) (fun _ _ => Iff.rfl) (by rfl) ?_ ?_
        rotate_left
        · intro wx hwx
          go_simp
          try with_reducible rfl
        try simp only [Act.put, List.setIfInBounds_toArray, List.set_cons_zero, List.set_cons_succ, List.getElem_toArray, List.getElem_cons_zero, List.getElem_cons_succ, Nat.zero_add, List.nil_append]
        refine GoL.take (i := 8) (v := ?_) rfl rfl (by kernel_rfl) (fun _ _ _ h => h) (fun _ _ => Iff.rfl) (by rfl) ?_ ?_
        rotate_left
        · intro wx hwx
          go_simp
          try with_reducible rfl
        try simp only [Act.put, List.setIfInBounds_toArray, List.set_cons_zero, List.set_cons_succ, List.getElem_toArray, List.getElem_cons_zero, List.getElem_cons_succ, Nat.zero_add, List.nil_append]
        refine GoL.take (i := 9) (v := ?_) rfl rfl (by kernel_rfl) (fun _ _ _ h => h) (fun _ _ => Iff.rfl) (by rfl) ?_ ?_
        rotate_left
        · intro wx hwx
          go_simp
          try with_reducible rfl
        try simp only [Act.put, List.setIfInBounds_toArray, List.set_cons_zero, List.set_cons_succ, List.getElem_toArray, List.getElem_cons_zero, List.getElem_cons_succ, Nat.zero_add, List.nil_append]
        refine GoL.take (i := 11) (v := ?_) rfl rfl (by kernel_rfl) (fun _ _ _ h => h) (fun _ _ => Iff.rfl) (by rfl) ?_ ?_
        rotate_left
        · intro wx hwx
          go_simp
          try with_reducible rfl
        try simp only [Act.put, List.setIfInBounds_toArray, List.set_cons_zero, List.set_cons_succ, List.getElem_toArray, List.getElem_cons_zero, List.getElem_cons_succ, Nat.zero_add, List.nil_append]
        refine GoL.take (i := 12) (v := ?_) rfl rfl (by kernel_rfl) (fun _ _ _ h => h) (fun _ _ => Iff.rfl) (by rfl) ?_ ?_
        rotate_left
        · intro wx hwx
          go_simp
          try with_reducible rfl
        try simp only [Act.put, List.setIfInBounds_toArray, List.set_cons_zero, List.set_cons_succ, List.getElem_toArray, List.getElem_cons_zero, List.getElem_cons_succ, Nat.zero_add, List.nil_append]
        refine GoL.take (i := 13) (v := ?_) rfl rfl (by kernel_rfl) (fun _ _ _ h => h) (fun _ _ => Iff.rfl) (by rfl) ?_ ?_
        rotate_left
        · intro wx hwx
          go_simp
          try with_reducible rfl
        try simp only [Act.put, List.setIfInBounds_toArray, List.set_cons_zero, List.set_cons_succ, List.getElem_toArray, List.getElem_cons_zero, List.getElem_cons_succ, Nat.zero_add, List.nil_append]
        refine GoL.take (i := 14) (v := ?_) rfl rfl (by kernel_rfl) (fun _ _ _ h => h) (fun _ _ => Iff.rfl) (by rfl) ?_ ?_
        rotate_left
        · intro wx hwx
          have x0 := hwx.at'
          subst x0
          go_simp
          try with_reducible rfl
        try simp only [Act.put, List.setIfInBounds_toArray, List.set_cons_zero, List.set_cons_succ, List.getElem_toArray, List.getElem_cons_zero, List.getElem_cons_succ, Nat.zero_add, List.nil_append]
        refine GoL.take (i := 15) (v := ?_) rfl rfl (by kernel_rfl) (fun _ _ _ h => h) (fun _ _ => Iff.rfl) (by rfl) ?_ ?_
        rotate_left
        · intro wx hwx
          go_simp
          try with_reducible rfl
        try simp only [Act.put, List.setIfInBounds_toArray, List.set_cons_zero, List.set_cons_succ, List.getElem_toArray, List.getElem_cons_zero, List.getElem_cons_succ, Nat.zero_add, List.nil_append]
        refine GoL.on (rs := [10]) (by kernel_rfl) (by decide) ?_
        refine OnL.cons rfl ?_ OnL.nil
        intro K hK
        replace hK := Lib.hid hK
        go_simp
        refine (cL).mono ?_
        rintro e wz ⟨rfl, rfl⟩
        clear cL
        refine hK.out _ _ rfl ?_
        clear hK
        try simp only [Act.put, List.setIfInBounds_toArray, List.set_cons_zero, List.set_cons_succ, List.getElem_toArray, List.getElem_cons_zero, List.getElem_cons_succ, Nat.zero_add, List.nil_append]
        refine GoL.take (i := 16) (v := ?_) rfl rfl (by kernel_rfl) (fun _ _ _ h => h) (fun _ _ => Iff.rfl) (by rfl) ?_ ?_
        rotate_left
        · intro wx hwx
          go_simp
          try with_reducible rfl
        try simp only [Act.put, List.setIfInBounds_toArray, List.set_cons_zero, List.set_cons_succ, List.getElem_toArray, List.getElem_cons_zero, List.getElem_cons_succ, Nat.zero_add, List.nil_append]
        refine GoL.take (i := 17) (v := ?_) rfl rfl (by kernel_rfl) (fun _ _ _ h => h) (fun _ _ => Iff.rfl) (by rfl) ?_ ?_
        rotate_left
        · intro wx hwx
          go_simp
          try with_reducible rfl
        try simp only [Act.put, List.setIfInBounds_toArray, List.set_cons_zero, List.set_cons_succ, List.getElem_toArray, List.getElem_cons_zero, List.getElem_cons_succ, Nat.zero_add, List.nil_append]
        refine GoL.done (by kernel_rfl) ?_
        refine NoPanic.normal ?_
        cases P with
        | nil =>
          obtain rfl : nl = 0 := by simpa using hPl.symm
          simp only [List.getElem?_nil, Option.getD_none, Nat.lt_irrefl, decide_false, Lvl.zero] at hBe
          clear hnl hPl
          go_wp2_with (go_at_call 13; (with_reducible refine hBe.mono ?_); rintro e wb ⟨rfl, hbb⟩; clear hBe)
          have bA : Below wz.heap.size wz (wb.alloc (.cells (cLvl ⟨0, 0, 0, 0⟩) 40)) := hbb.alloc hbb.size _
          have hR2 := fun w (hb : Below (wb.alloc (.cells (cLvl ⟨0, 0, 0, 0⟩) 40)).heap.size (wb.alloc (.cells (cLvl ⟨0, 0, 0, 0⟩) 40)) w) => hc1 w (bA.trans (hb.mono bA.size))
          have hB3 := fun w (hb : Below (wb.alloc (.cells (cLvl ⟨0, 0, 0, 0⟩) 40)).heap.size (wb.alloc (.cells (cLvl ⟨0, 0, 0, 0⟩) 40)) w) => Lvl.cells ((Blk.new wb 40 (cLvl ⟨0, 0, 0, 0⟩)).below hb (by simp))
          have hK2 := fun w (hb : Below (wb.alloc (.cells (cLvl ⟨0, 0, 0, 0⟩) 40)).heap.size (wb.alloc (.cells (cLvl ⟨0, 0, 0, 0⟩) 40)) w) => kz.below (bA.trans (hb.mono bA.size))
          have hS2 := fun w (hb : Below (wb.alloc (.cells (cLvl ⟨0, 0, 0, 0⟩) 40)).heap.size (wb.alloc (.cells (cLvl ⟨0, 0, 0, 0⟩) 40)) w) => hSo w (bA.trans (hb.mono bA.size))
          have bD := (Below.refl (wb.alloc (.cells (cLvl ⟨0, 0, 0, 0⟩) 40)).heap.size (wb.alloc (.cells (cLvl ⟨0, 0, 0, 0⟩) 40))).drew
          clear bA hSo hc1 kz
          simp only [cLvl] at *
          generalize wb.alloc (.cells #[.int .i64 0, .int .i64 0, .int .i64 0, .int .i64 0] 40) = wA at *
          refine GoL.start (S := fun _ w => Below wA.heap.size wA w) (by kernel_rfl) bD ?_
          generalize wA.drew = U at bD ⊢
          refine GoL.take (i := 0) (v := ?_) rfl rfl (by kernel_rfl) (fun _ _ _ h => h) (fun _ _ => Iff.rfl) (by rfl) ?_ ?_
          rotate_left
          · intro wx hwx
            go_simp
            try with_reducible rfl
          try simp only [Act.put, List.setIfInBounds_toArray, List.set_cons_zero, List.set_cons_succ, List.getElem_toArray, List.getElem_cons_zero, List.getElem_cons_succ, Nat.zero_add, List.nil_append]
          refine GoL.take (i := 1) (v := ?_) rfl rfl (by kernel_rfl) (fun _ _ _ h => h) (fun _ _ => Iff.rfl) (by rfl) ?_ ?_
          rotate_left
          · intro wx hwx
            go_simp
            try with_reducible rfl
          try simp only [Act.put, List.setIfInBounds_toArray, List.set_cons_zero, List.set_cons_succ, List.getElem_toArray, List.getElem_cons_zero, List.getElem_cons_succ, Nat.zero_add, List.nil_append]
          refine GoL.take (i := 2) (v := ?_) rfl rfl (by kernel_rfl) (fun _ _ _ h => h) (fun _ _ => Iff.rfl) (by rfl) ?_ ?_
          rotate_left
          · intro wx hwx
            go_simp
            try with_reducible rfl
          try simp only [Act.put, List.setIfInBounds_toArray, List.set_cons_zero, List.set_cons_succ, List.getElem_toArray, List.getElem_cons_zero, List.getElem_cons_succ, Nat.zero_add, List.nil_append]
          refine GoL.take (i := 3) (v := ?_) rfl rfl (by kernel_rfl) (fun _ _ _ h => h) (fun _ _ => Iff.rfl) (by rfl) ?_ ?_
          rotate_left
          · intro wx hwx
            go_simp
            try with_reducible rfl
          try simp only [Act.put, List.setIfInBounds_toArray, List.set_cons_zero, List.set_cons_succ, List.getElem_toArray, List.getElem_cons_zero, List.getElem_cons_succ, Nat.zero_add, List.nil_append]
          refine GoL.take (i := 4) (v := ?_) rfl rfl (by kernel_rfl) (fun _ _ _ h => h) (fun _ _ => Iff.rfl) (by rfl) ?_ ?_
          rotate_left
          · intro wx hwx
            have x0 := hR2 _ hwx.at'
            go_simp
            try with_reducible rfl
          try simp only [Act.put, List.setIfInBounds_toArray, List.set_cons_zero, List.set_cons_succ, List.getElem_toArray, List.getElem_cons_zero, List.getElem_cons_succ, Nat.zero_add, List.nil_append]
          refine GoL.take (i := 5) (v := ?_) rfl rfl (by kernel_rfl) (fun _ _ _ h => h) (fun _ _ => Iff.rfl) (by rfl) ?_ ?_
          rotate_left
          · intro wx hwx
            go_simp
            try with_reducible rfl
          try simp only [Act.put, List.setIfInBounds_toArray, List.set_cons_zero, List.set_cons_succ, List.getElem_toArray, List.getElem_cons_zero, List.getElem_cons_succ, Nat.zero_add, List.nil_append]
          refine GoL.take (i := 6) (v := ?_) rfl rfl (by kernel_rfl) (fun _ _ _ h => h) (fun _ _ => Iff.rfl) (by rfl) ?_ ?_
          rotate_left
          · intro wx hwx
            go_simp
            try with_reducible rfl
          try simp only [Act.put, List.setIfInBounds_toArray, List.set_cons_zero, List.set_cons_succ, List.getElem_toArray, List.getElem_cons_zero, List.getElem_cons_succ, Nat.zero_add, List.nil_append]
          refine GoL.take (i := 7) (v := ?_) rfl rfl (by kernel_rfl) (fun _ _ _ h => h) (fun _ _ => Iff.rfl) (by rfl) ?_ ?_
          rotate_left
          · intro wx hwx
            go_simp
            try with_reducible rfl
          try simp only [Act.put, List.setIfInBounds_toArray, List.set_cons_zero, List.set_cons_succ, List.getElem_toArray, List.getElem_cons_zero, List.getElem_cons_succ, Nat.zero_add, List.nil_append]
          refine GoL.take (i := 8) (v := ?_) rfl rfl (by kernel_rfl) (fun _ _ _ h => h) (fun _ _ => Iff.rfl) (by rfl) ?_ ?_
          rotate_left
          · intro wx hwx
            go_simp
            try with_reducible rfl
          try simp only [Act.put, List.setIfInBounds_toArray, List.set_cons_zero, List.set_cons_succ, List.getElem_toArray, List.getElem_cons_zero, List.getElem_cons_succ, Nat.zero_add, List.nil_append]
          refine GoL.take (i := 9) (v := ?_) rfl rfl (by kernel_rfl) (fun _ _ _ h => h) (fun _ _ => Iff.rfl) (by rfl) ?_ ?_
          rotate_left
          · intro wx hwx
            go_simp
            try with_reducible rfl
          try simp only [Act.put, List.setIfInBounds_toArray, List.set_cons_zero, List.set_cons_succ, List.getElem_toArray, List.getElem_cons_zero, List.getElem_cons_succ, Nat.zero_add, List.nil_append]
          refine GoL.take (i := 10) (v := ?_) rfl rfl (by kernel_rfl) (fun _ _ _ h => h) (fun _ _ => Iff.rfl) (by rfl) ?_ ?_
          rotate_left
          · intro wx hwx
            go_simp
            try with_reducible rfl
          try simp only [Act.put, List.setIfInBounds_toArray, List.set_cons_zero, List.set_cons_succ, List.getElem_toArray, List.getElem_cons_zero, List.getElem_cons_succ, Nat.zero_add, List.nil_append]
          refine GoL.skip (i := 11) rfl rfl (by kernel_rfl) (fun _ _ _ h => h) (fun _ _ => Iff.rfl) (by rfl) ?_
          try simp only [Act.put, List.setIfInBounds_toArray, List.set_cons_zero, List.set_cons_succ, List.getElem_toArray, List.getElem_cons_zero, List.getElem_cons_succ, Nat.zero_add, List.nil_append]
          refine GoL.skip (i := 12) rfl rfl (by kernel_rfl) (fun _ _ _ h => h) (fun _ _ => Iff.rfl) (by rfl) ?_
          try simp only [Act.put, List.setIfInBounds_toArray, List.set_cons_zero, List.set_cons_succ, List.getElem_toArray, List.getElem_cons_zero, List.getElem_cons_succ, Nat.zero_add, List.nil_append]
          refine GoL.skip (i := 13) rfl rfl (by kernel_rfl) (fun _ _ _ h => h) (fun _ _ => Iff.rfl) (by rfl) ?_
          try simp only [Act.put, List.setIfInBounds_toArray, List.set_cons_zero, List.set_cons_succ, List.getElem_toArray, List.getElem_cons_zero, List.getElem_cons_succ, Nat.zero_add, List.nil_append]
          refine GoL.skip (i := 14) rfl rfl (by kernel_rfl) (fun _ _ _ h => h) (fun _ _ => Iff.rfl) (by rfl) ?_
          try simp only [Act.put, List.setIfInBounds_toArray, List.set_cons_zero, List.set_cons_succ, List.getElem_toArray, List.getElem_cons_zero, List.getElem_cons_succ, Nat.zero_add, List.nil_append]
          refine GoL.skip (i := 15) rfl rfl (by kernel_rfl) (fun _ _ _ h => h) (fun _ _ => Iff.rfl) (by rfl) ?_
          try simp only [Act.put, List.setIfInBounds_toArray, List.set_cons_zero, List.set_cons_succ, List.getElem_toArray, List.getElem_cons_zero, List.getElem_cons_succ, Nat.zero_add, List.nil_append]
          refine GoL.skip (i := 16) rfl rfl (by kernel_rfl) (fun _ _ _ h => h) (fun _ _ => Iff.rfl) (by rfl) ?_
          try simp only [Act.put, List.setIfInBounds_toArray, List.set_cons_zero, List.set_cons_succ, List.getElem_toArray, List.getElem_cons_zero, List.getElem_cons_succ, Nat.zero_add, List.nil_append]
          refine GoL.skip (i := 17) rfl rfl (by kernel_rfl) (fun _ _ _ h => h) (fun _ _ => Iff.rfl) (by rfl) ?_
          try simp only [Act.put, List.setIfInBounds_toArray, List.set_cons_zero, List.set_cons_succ, List.getElem_toArray, List.getElem_cons_zero, List.getElem_cons_succ, Nat.zero_add, List.nil_append]
          refine GoL.take (i := 18) (v := ?_) rfl rfl (by kernel_rfl) (fun _ _ _ h => h) (fun _ _ => Iff.rfl) (by rfl) ?_ ?_
          rotate_left
          · intro wx hwx
            go_simp
            try with_reducible rfl
          try simp only [Act.put, List.setIfInBounds_toArray, List.set_cons_zero, List.set_cons_succ, List.getElem_toArray, List.getElem_cons_zero, List.getElem_cons_succ, Nat.zero_add, List.nil_append]
          refine GoL.take (i := 19) (v := ?_) rfl rfl (by kernel_rfl) (fun _ _ _ h => h) (fun _ _ => Iff.rfl) (by rfl) ?_ ?_
          rotate_left
          · intro wx hwx
            go_simp
            try with_reducible rfl
          try simp only [Act.put, List.setIfInBounds_toArray, List.set_cons_zero, List.set_cons_succ, List.getElem_toArray, List.getElem_cons_zero, List.getElem_cons_succ, Nat.zero_add, List.nil_append]
          refine GoL.done (by kernel_rfl) ?_
          refine NoPanic.normal ?_
          have k9 := hK2 _ bD
          clear hR2 hB3 hK2 hS2
          go_wp2_with fail
          go_roundg (l.length - (q + 1))
          case measure => omega
          case rel => exact ⟨q + 1, s', by omega, by go_num, hs2, k9⟩
        | cons v P' =>
          obtain ⟨v0, v1, v2, v3⟩ := v
          have hx0 : ((⟨v0, v1, v2, v3⟩ : Lvl) :: P')[0]? = some ⟨v0, v1, v2, v3⟩ := rfl
          have hn0 : 0 < nl := by rw [← hPl]; simp
          have hd : decide (0 < nl) = true := decide_eq_true hn0
          have hd2 : decide ((0 : Int) < (nl : Int)) = true := decide_eq_true (by omega)
          have hd3 : (0 : Int) < (nl : Int) := by omega
          rw [hd] at hBe
          simp only [List.getElem?_cons_zero, Option.getD_some] at hBe
          clear hnl hPl
          go_wp2_with (go_at_call 13; (with_reducible refine hBe.mono ?_); rintro e wb ⟨rfl, hbb⟩; clear hBe)
          have bA : Below wz.heap.size wz (wb.alloc (.cells (cLvl ⟨v0, v1, v2, v3⟩) 40)) := hbb.alloc hbb.size _
          have hR2 := fun w (hb : Below (wb.alloc (.cells (cLvl ⟨v0, v1, v2, v3⟩) 40)).heap.size (wb.alloc (.cells (cLvl ⟨v0, v1, v2, v3⟩) 40)) w) => hc1 w (bA.trans (hb.mono bA.size))
          have hB3 := fun w (hb : Below (wb.alloc (.cells (cLvl ⟨v0, v1, v2, v3⟩) 40)).heap.size (wb.alloc (.cells (cLvl ⟨v0, v1, v2, v3⟩) 40)) w) => Lvl.cells ((Blk.new wb 40 (cLvl ⟨v0, v1, v2, v3⟩)).below hb (by simp))
          have hK2 := fun w (hb : Below (wb.alloc (.cells (cLvl ⟨v0, v1, v2, v3⟩) 40)).heap.size (wb.alloc (.cells (cLvl ⟨v0, v1, v2, v3⟩) 40)) w) => kz.below (bA.trans (hb.mono bA.size))
          have hS2 := fun w (hb : Below (wb.alloc (.cells (cLvl ⟨v0, v1, v2, v3⟩) 40)).heap.size (wb.alloc (.cells (cLvl ⟨v0, v1, v2, v3⟩) 40)) w) => hSo w (bA.trans (hb.mono bA.size))
          have bD := (Below.refl (wb.alloc (.cells (cLvl ⟨v0, v1, v2, v3⟩) 40)).heap.size (wb.alloc (.cells (cLvl ⟨v0, v1, v2, v3⟩) 40))).drew
          clear bA hSo hc1 kz
          simp only [cLvl] at *
          generalize wb.alloc (.cells #[.int .i64 v0, .int .i64 v1, .int .i64 v2, .int .i64 v3] 40) = wA at *
          refine GoL.start (S := fun _ w => Below wA.heap.size wA w) (by kernel_rfl) bD ?_
          generalize wA.drew = U at bD ⊢
          refine GoL.take (i := 0) (v := ?_) rfl rfl (by kernel_rfl) (fun _ _ _ h => h) (fun _ _ => Iff.rfl) (by rfl) ?_ ?_
          rotate_left
          · intro wx hwx
            go_simp
            try with_reducible rfl
          try simp only [Act.put, List.setIfInBounds_toArray, List.set_cons_zero, List.set_cons_succ, List.getElem_toArray, List.getElem_cons_zero, List.getElem_cons_succ, Nat.zero_add, List.nil_append]
          refine GoL.take (i := 1) (v := ?_) rfl rfl (by kernel_rfl) (fun _ _ _ h => h) (fun _ _ => Iff.rfl) (by rfl) ?_ ?_
          rotate_left
          · intro wx hwx
            go_simp
            try with_reducible rfl
          try simp only [Act.put, List.setIfInBounds_toArray, List.set_cons_zero, List.set_cons_succ, List.getElem_toArray, List.getElem_cons_zero, List.getElem_cons_succ, Nat.zero_add, List.nil_append]
          refine GoL.take (i := 2) (v := ?_) rfl rfl (by kernel_rfl) (fun _ _ _ h => h) (fun _ _ => Iff.rfl) (by rfl) ?_ ?_
          rotate_left
          · intro wx hwx
            go_simp
            try with_reducible rfl
          try simp only [Act.put, List.setIfInBounds_toArray, List.set_cons_zero, List.set_cons_succ, List.getElem_toArray, List.getElem_cons_zero, List.getElem_cons_succ, Nat.zero_add, List.nil_append]
          refine GoL.take (i := 3) (v := ?_) rfl rfl (by kernel_rfl) (fun _ _ _ h => h) (fun _ _ => Iff.rfl) (by rfl) ?_ ?_
          rotate_left
          · intro wx hwx
            go_simp
            try with_reducible rfl
          try simp only [Act.put, List.setIfInBounds_toArray, List.set_cons_zero, List.set_cons_succ, List.getElem_toArray, List.getElem_cons_zero, List.getElem_cons_succ, Nat.zero_add, List.nil_append]
          refine GoL.take (i := 4) (v := ?_) rfl rfl (by kernel_rfl) (fun _ _ _ h => h) (fun _ _ => Iff.rfl) (by rfl) ?_ ?_
          rotate_left
          · intro wx hwx
            have x0 := hR2 _ hwx.at'
            go_simp
            try with_reducible rfl
          try simp only [Act.put, List.setIfInBounds_toArray, List.set_cons_zero, List.set_cons_succ, List.getElem_toArray, List.getElem_cons_zero, List.getElem_cons_succ, Nat.zero_add, List.nil_append]
          refine GoL.take (i := 5) (v := ?_) rfl rfl (by kernel_rfl) (fun _ _ _ h => h) (fun _ _ => Iff.rfl) (by rfl) ?_ ?_
          rotate_left
          · intro wx hwx
            go_simp
            try with_reducible rfl
          try simp only [Act.put, List.setIfInBounds_toArray, List.set_cons_zero, List.set_cons_succ, List.getElem_toArray, List.getElem_cons_zero, List.getElem_cons_succ, Nat.zero_add, List.nil_append]
          refine GoL.take (i := 6) (v := ?_) rfl rfl (by kernel_rfl) (fun _ _ _ h => h) (fun _ _ => Iff.rfl) (by rfl) ?_ ?_
          rotate_left
          · intro wx hwx
            go_simp
            try with_reducible rfl
          try simp only [Act.put, List.setIfInBounds_toArray, List.set_cons_zero, List.set_cons_succ, List.getElem_toArray, List.getElem_cons_zero, List.getElem_cons_succ, Nat.zero_add, List.nil_append]
          refine GoL.take (i := 7) (v := ?_) rfl rfl (by kernel_rfl) (fun _ _ _ h => h) (fun _ _ => Iff.rfl) (by rfl) ?_ ?_
          rotate_left
          · intro wx hwx
            go_simp
            try with_reducible rfl
          try simp only [Act.put, List.setIfInBounds_toArray, List.set_cons_zero, List.set_cons_succ, List.getElem_toArray, List.getElem_cons_zero, List.getElem_cons_succ, Nat.zero_add, List.nil_append]
          refine GoL.take (i := 8) (v := ?_) rfl rfl (by kernel_rfl) (fun _ _ _ h => h) (fun _ _ => Iff.rfl) (by rfl) ?_ ?_
          rotate_left
          · intro wx hwx
            go_simp
            try with_reducible rfl
          try simp only [Act.put, List.setIfInBounds_toArray, List.set_cons_zero, List.set_cons_succ, List.getElem_toArray, List.getElem_cons_zero, List.getElem_cons_succ, Nat.zero_add, List.nil_append]
          refine GoL.take (i := 9) (v := ?_) rfl rfl (by kernel_rfl) (fun _ _ _ h => h) (fun _ _ => Iff.rfl) (by rfl) ?_ ?_
          rotate_left
          · intro wx hwx
            go_simp
            try with_reducible rfl
          try simp only [Act.put, List.setIfInBounds_toArray, List.set_cons_zero, List.set_cons_succ, List.getElem_toArray, List.getElem_cons_zero, List.getElem_cons_succ, Nat.zero_add, List.nil_append]
          refine GoL.take (i := 10) (v := ?_) rfl rfl (by kernel_rfl) (fun _ _ _ h => h) (fun _ _ => Iff.rfl) (by rfl) ?_ ?_
          rotate_left
          · intro wx hwx
            go_simp
            try with_reducible rfl
          try simp only [Act.put, List.setIfInBounds_toArray, List.set_cons_zero, List.set_cons_succ, List.getElem_toArray, List.getElem_cons_zero, List.getElem_cons_succ, Nat.zero_add, List.nil_append]
          refine GoL.take (i := 11) (v := ?_) rfl rfl (by kernel_rfl) (fun _ _ _ h => h) (fun _ _ => Iff.rfl) (by rfl) ?_ ?_
          rotate_left
          · intro wx hwx
            obtain ⟨z0, z1, z2, z3⟩ := hB3 _ hwx.at'
            go_simp
            try with_reducible rfl
          try simp only [Act.put, List.setIfInBounds_toArray, List.set_cons_zero, List.set_cons_succ, List.getElem_toArray, List.getElem_cons_zero, List.getElem_cons_succ, Nat.zero_add, List.nil_append]
          refine GoL.take (i := 12) (v := ?_) rfl rfl (by kernel_rfl) (fun _ _ _ h => h) (fun _ _ => Iff.rfl) (by rfl) ?_ ?_
          rotate_left
          · intro wx hwx
            go_simp
            try with_reducible rfl
          try simp only [Act.put, List.setIfInBounds_toArray, List.set_cons_zero, List.set_cons_succ, List.getElem_toArray, List.getElem_cons_zero, List.getElem_cons_succ, Nat.zero_add, List.nil_append]
          refine GoL.on (rs := [13]) (by kernel_rfl) (by decide) ?_
          refine OnL.cons rfl ?_ OnL.nil
          intro K hK
          replace hK := Lib.hid hK
          go_simp
          refine (hS2 _ bD).mono ?_
          rintro e wz ⟨ao5, cap5, rfl, hP5, hb5⟩
          have hb6 := bD.trans (hb5.mono bD.size)
          clear hS2
          refine hK.out _ _ hb6 ?_
          clear hK
          try simp only [Act.put, List.setIfInBounds_toArray, List.set_cons_zero, List.set_cons_succ, List.getElem_toArray, List.getElem_cons_zero, List.getElem_cons_succ, Nat.zero_add, List.nil_append]
          obtain ⟨b5, off5, rfl, hU⟩ : ∃ b off, ao5 = some ⟨b, off, none⟩ ∧ ∀ w, Below wz.heap.size wz w → w.cell? ⟨b, off, none⟩ = some (.int .i64 v0) ∧ w.cell? ⟨b, off + 1, none⟩ = some (.int .i64 v1) ∧ w.cell? ⟨b, off + 2, none⟩ = some (.int .i64 v2) ∧ w.cell? ⟨b, off + 3, none⟩ = some (.int .i64 v3) := by
            obtain ⟨b5, off5, e5, -⟩ := hP5.get hx0
            refine ⟨b5, off5, e5, fun w hb => ?_⟩
            obtain ⟨b6, off6, e6, u0, u1, u2, u3⟩ := (hP5.below hb).get hx0
            rw [e5] at e6
            cases e6
            simp only [Nat.zero_mul, Nat.add_zero] at u0 u1 u2 u3
            exact ⟨u0, u1, u2, u3⟩
          refine GoL.to (S' := fun _ w => Below wz.heap.size wz w) (fun _ w e => hb6.trans (e.mono hb6.size)) (Below.refl _ _) ?_
          refine GoL.take (i := 14) (v := ?_) rfl rfl (by kernel_rfl) (fun _ _ _ h => h) (fun _ _ => Iff.rfl) (by rfl) ?_ ?_
          rotate_left
          · intro wx hwx
            go_simp
            try with_reducible rfl
          try simp only [Act.put, List.setIfInBounds_toArray, List.set_cons_zero, List.set_cons_succ, List.getElem_toArray, List.getElem_cons_zero, List.getElem_cons_succ, Nat.zero_add, List.nil_append]
          refine GoL.take (i := 15) (v := ?_) rfl rfl (by kernel_rfl) (fun _ _ _ h => h) (fun _ _ => Iff.rfl) (by rfl) ?_ ?_
          rotate_left
          · intro wx hwx
            obtain ⟨u0, u1, u2, u3⟩ := hU _ hwx.at'
            go_simp
            try with_reducible rfl
          try simp only [Act.put, List.setIfInBounds_toArray, List.set_cons_zero, List.set_cons_succ, List.getElem_toArray, List.getElem_cons_zero, List.getElem_cons_succ, Nat.zero_add, List.nil_append]
          refine GoL.on (rs := [16]) (by kernel_rfl) (by decide) ?_
          refine OnL.cons rfl ?_ OnL.nil
          intro K hK
          replace hK := Lib.hid hK
          go_simp
          refine (same_any ⟨v0, v1, v2, v3⟩ wz).mono ?_
          rintro e wy ⟨rfl, hb7⟩
          have k9 := hK2 _ (hb6.trans (hb7.mono hb6.size))
          refine hK.out _ _ hb7 ?_
          clear hK
          try simp only [Act.put, List.setIfInBounds_toArray, List.set_cons_zero, List.set_cons_succ, List.getElem_toArray, List.getElem_cons_zero, List.getElem_cons_succ, Nat.zero_add, List.nil_append]
          refine GoL.take (i := 17) (v := ?_) rfl rfl (by kernel_rfl) (fun _ _ _ h => h) (fun _ _ => Iff.rfl) (by rfl) ?_ ?_
          rotate_left
          · intro wx hwx
            go_simp
            try with_reducible rfl
          try simp only [Act.put, List.setIfInBounds_toArray, List.set_cons_zero, List.set_cons_succ, List.getElem_toArray, List.getElem_cons_zero, List.getElem_cons_succ, Nat.zero_add, List.nil_append]
          refine GoL.take (i := 18) (v := ?_) rfl rfl (by kernel_rfl) (fun _ _ _ h => h) (fun _ _ => Iff.rfl) (by rfl) ?_ ?_
          rotate_left
          · intro wx hwx
            go_simp
            try with_reducible rfl
          try simp only [Act.put, List.setIfInBounds_toArray, List.set_cons_zero, List.set_cons_succ, List.getElem_toArray, List.getElem_cons_zero, List.getElem_cons_succ, Nat.zero_add, List.nil_append]
          refine GoL.take (i := 19) (v := ?_) rfl rfl (by kernel_rfl) (fun _ _ _ h => h) (fun _ _ => Iff.rfl) (by rfl) ?_ ?_
          rotate_left
          · intro wx hwx
            go_simp
            try with_reducible rfl
          try simp only [Act.put, List.setIfInBounds_toArray, List.set_cons_zero, List.set_cons_succ, List.getElem_toArray, List.getElem_cons_zero, List.getElem_cons_succ, Nat.zero_add, List.nil_append]
          refine GoL.done (by kernel_rfl) ?_
          refine NoPanic.normal ?_
          clear hR2 hB3 hK2 hU hP5
          go_wp2_with fail
          go_roundg (l.length - (q + 1))
          case measure => omega
          case rel => exact ⟨q + 1, s', by omega, by go_num, hs2, k9⟩
    · clear hF hL hs
      have cA' := cA wr
      clear cA
      go_wp2_with (go_at_call 8; (with_reducible refine cA'.mono ?_); rintro e w4 ⟨rfl, hb4⟩)
      all_goals go_ret
      all_goals exact ⟨by simp, (k.below hb4).bel⟩
end Go.Proofs.Ythlpnlmjpdcbiaa
