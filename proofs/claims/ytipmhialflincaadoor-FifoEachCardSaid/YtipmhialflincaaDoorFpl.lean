/-
  FifoPlays. (Written by gen/p_fpl.py.)
-/
import Derived.Test.YtipmhialflincaaDoorFbo
namespace Go.Proofs.YtipmhialflincaaDoor
open Go.RowKit
set_option linter.unusedSimpArgs false
theorem Gl.of_bq {w0 w : World} {S0 : Nat → Prop} {g bl be bs r : Nat} {s t : Fq} (h : Bq w0 S0 g bl be bs r s t w) : Gl w := by
  obtain ⟨K, E, Z, h1, -⟩ := h.prog
  exact h1.gl
/-- The two as they begin. -/
theorem Bq.start {W w1 w2 : World} {g bl be bs n m : Nat} {K : List Lk} {E : List En} {Z : List Int} (hb1 : Below W.heap.size W w1) (hP : PM w1 g bl be bs K E Z) (hF : Fqp K E Z (Fq.new n m)) (hb2 : Below w1.heap.size w1 w2)
    (hR : RQ w2 (w1.heap.size + 1) (fun b => w1.heap.size ≤ b ∧ b < w1.heap.size + 2) (Fq.new n m)) : Bq W (fun _ => False) g bl be bs (w1.heap.size + 1) (Fq.new n m) (Fq.new n m) w2 := by
  have h2 := hP.gl.two
  have hs := hb1.size
  refine ⟨(Frm.of_below hb1).trans (Frm.of_below (S := fun _ => False) hb2) (fun _ f => f.elim), ⟨K, E, Z, hP.below hb2, hF⟩, _, hR, fun b hb => ⟨by omega, fun e => by have := hP.lt b e; omega⟩, fun b hb => .inr (by omega)⟩
theorem Bq.bel {W w : World} {g bl be bs r : Nat} {s t : Fq} (h : Bq W (fun _ => False) g bl be bs r s t w) (hq : ∀ b, Qb g bl be bs b → W.heap.size ≤ b) : Below W.heap.size W w :=
  h.frm.below (Nat.le_refl _) (fun b hb => by rcases hb with hb | hb; exact hq b hb; exact hb.elim)
set_option maxRecDepth 8000 in
set_option maxHeartbeats 4000000 in
theorem plays_any (x y : Int) (ao : Option Addr) (cap : Nat) (l : List Fac) (W : World) (hG : Gl W) (hL : Facs W ao cap l) :
    Calls Tryd.prog 3 #[.int .i64 x, .int .i64 y, .slice ao l.length cap] W fun e w' => e = .returned (.bool true) ∧ Below W.heap.size W w' := by
  have cA := fun w (h : Gl w) => alive_any w h
  have hl1 := hL.len
  have hl2 := hL.top
  unfold maxLen at hl2
  by_cases hlen : 200 < l.length
  · go_enter Tryd.func3, Tryd.ntmps3
    go_wp2_with (go_at_call 7; refine (cA _ hG).mono ?_; rintro e w4 ⟨rfl, hb4⟩)
    go_ret
    exact ⟨by simp, hb4⟩
  by_cases hx : x < 1 ∨ 500 < x ∨ y < 1 ∨ 400 < y
  · have c1 := newNo_any x y hx W
    have c2 := rnewNo_any x y hx W
    clear hx
    go_enter Tryd.func3, Tryd.ntmps3
    go_wp2_with (first
      | (go_at_call 7; refine (cA _ hG).mono ?_; rintro e w4 ⟨rfl, hb4⟩)
      | (go_at_call 8; refine c1.mono ?_; rintro e w1 ⟨rfl, rfl⟩)
      | (go_at_call 9; refine c2.mono ?_; rintro e w2 ⟨rfl, rfl⟩))
    all_goals
      go_ret
      exact ⟨by simp, hb4⟩
  · obtain ⟨n, rfl, hn1, hn2⟩ : ∃ n : Nat, x = (n : Int) ∧ 1 ≤ n ∧ n ≤ 500 := ⟨x.toNat, by omega, by omega, by omega⟩
    obtain ⟨m, rfl, hm1, hm2⟩ : ∃ m : Nat, y = (m : Int) ∧ 1 ≤ m ∧ m ≤ 400 := ⟨y.toNat, by omega, by omega, by omega⟩
    clear hx
    have c1 := new_any n m hn1 hn2 hm1 hm2 W hG
    have c2 := fun w => rnew_any n m hn1 hn2 hm1 hm2 w
    obtain ⟨s0, h0⟩ : ∃ s0, s0 = Fq.new n m := ⟨_, rfl⟩
    have hs0 : Hid (s0.L.length = m) := Lib.hid (by rw [h0]; simp [Fq.new])
    generalize W.heap.size + 1 + 1 + 1 = g at *
    go_enter Tryd.func3, Tryd.ntmps3
    go_wp2_with (first
      | (go_at_call 8; refine c1.mono ?_; rintro e w1 ⟨rfl, hb1, bl, be, bs, K, E, Z, hq, hP, hF⟩; clear c1)
      | (go_at_call 9; refine (c2 w1).mono ?_; rintro e w2 ⟨rfl, hb2, hR⟩; have k0 := Bq.start hb1 hP hF hb2 hR; clear c2))
    rw [← h0] at k0
    clear hP hF hR hb1 hb2 h0
    generalize w1.heap.size + 1 = r at k0 ⊢
    go_loopg [11] l.length (fun j p11 wr => ∃ (q : Nat) (s : Fq), q + j = l.length ∧ p11 = .int .i64 (q : Int) ∧ Hid (s.L.length = m) ∧ Bq W (fun _ => False) g bl be bs r s s wr)
    case atStart => exact ⟨0, s0, by omega, rfl, hs0, k0⟩
    case round =>
      clear k0 hs0
      obtain ⟨q, s, hqj, rfl, hs, k⟩ := hrel
      by_cases hj : q < l.length
      · obtain ⟨a, hm⟩ : ∃ a, l[q]? = some a := ⟨l[q], List.getElem?_eq_getElem hj⟩
        have hb := k.bel hq
        obtain ⟨b, off, rfl, hyy⟩ : ∃ b off, ao = some ⟨b, off, none⟩ ∧ ∀ w, Below W.heap.size W w → w.cell? ⟨b, off + q * 3, none⟩ = some (.int .i64 a.kind) ∧ w.cell? ⟨b, off + q * 3 + 1, none⟩ = some (.int .i64 a.queue) ∧ w.cell? ⟨b, off + q * 3 + 2, none⟩ = some (.int .i64 a.node) := by
          obtain ⟨b, off, e, -⟩ := hL.get hm
          refine ⟨b, off, e, fun w hw => ?_⟩
          obtain ⟨b', off', e', y0, y1, y2⟩ := (hL.below hw).get hm
          rw [e] at e'
          cases e'
          exact ⟨y0, y1, y2⟩
        obtain ⟨y0, y1, y2⟩ := hyy wr hb
        have hy3 := fun w (h : Bq W (fun _ => False) g bl be bs r (s.act a) (s.act a) w) => hyy w (h.bel hq)
        have cX := act_any (k.below ((Below.refl _ _).drew)) a
        have hs2 : Hid ((s.act a).L.length = m) := Lib.hid (by rw [(s.act_nm a).2]; exact hs.out)
        generalize s.act a = s' at *
        obtain ⟨kind, queue, node⟩ := a
        simp only at y0 y1 y2 hy3
        have hql : (q : Int) < (l.length : Int) := by omega
        clear hyy hm hb hs k hL cA
        go_wp2_with fail
        cases hhas : s'.hasQ queue with
        | false =>
          refine GoL.start (S := fun _ w => w.cell? ⟨b, off + q * 3, none⟩ = some (.int .i64 kind) ∧ w.cell? ⟨b, off + q * 3 + 1, none⟩ = some (.int .i64 queue) ∧ w.cell? ⟨b, off + q * 3 + 2, none⟩ = some (.int .i64 node)) (by kernel_rfl) ⟨y0, y1, y2⟩ ?_
          clear y0 y1 y2
          refine GoL.take (i := 0) (v := ?_) rfl rfl (by kernel_rfl) (fun _ _ _ h => h) (fun _ _ => Iff.rfl) (by rfl) ?_ ?_
          rotate_left
          · intro wx hwx
            go_simp
            try with_reducible rfl
          try simp only [Act.put, List.setIfInBounds_toArray, List.set_cons_zero, List.set_cons_succ, List.getElem_toArray, List.getElem_cons_zero, List.getElem_cons_succ, Nat.zero_add, List.nil_append]
          refine GoL.take (i := 1) (v := ?_) rfl rfl (by kernel_rfl) (fun _ _ _ h => h) (fun _ _ => Iff.rfl) (by rfl) ?_ ?_
          rotate_left
          · intro wx hwx
            go_simp
            try with_reducible rfl
          try simp only [Act.put, List.setIfInBounds_toArray, List.set_cons_zero, List.set_cons_succ, List.getElem_toArray, List.getElem_cons_zero, List.getElem_cons_succ, Nat.zero_add, List.nil_append]
          refine GoL.take (i := 2) (v := ?_) rfl rfl (by kernel_rfl) (fun _ _ _ h => h) (fun _ _ => Iff.rfl) (by rfl) ?_ ?_
          rotate_left
          · intro wx hwx
            go_simp
            try with_reducible rfl
          try simp only [Act.put, List.setIfInBounds_toArray, List.set_cons_zero, List.set_cons_succ, List.getElem_toArray, List.getElem_cons_zero, List.getElem_cons_succ, Nat.zero_add, List.nil_append]
          refine GoL.take (i := 3) (v := ?_) rfl rfl (by kernel_rfl) (fun _ _ _ h => h) (fun _ _ => Iff.rfl) (by rfl) ?_ ?_
          rotate_left
          · intro wx hwx
            go_simp
            try with_reducible rfl
          try simp only [Act.put, List.setIfInBounds_toArray, List.set_cons_zero, List.set_cons_succ, List.getElem_toArray, List.getElem_cons_zero, List.getElem_cons_succ, Nat.zero_add, List.nil_append]
          refine GoL.take (i := 4) (v := ?_) rfl rfl (by kernel_rfl) (fun _ _ _ h => h) (fun _ _ => Iff.rfl) (by rfl) ?_ ?_
          rotate_left
          · intro wx hwx
            go_simp
            try with_reducible rfl
          try simp only [Act.put, List.setIfInBounds_toArray, List.set_cons_zero, List.set_cons_succ, List.getElem_toArray, List.getElem_cons_zero, List.getElem_cons_succ, Nat.zero_add, List.nil_append]
          refine GoL.take (i := 5) (v := ?_) rfl rfl (by kernel_rfl) (fun _ _ _ h => h) (fun _ _ => Iff.rfl) (by rfl) ?_ ?_
          rotate_left
          · intro wx hwx
            have x0 := hwx.at'
            obtain ⟨y0, y1, y2⟩ := x0
            go_simp
            try with_reducible rfl
          try simp only [Act.put, List.setIfInBounds_toArray, List.set_cons_zero, List.set_cons_succ, List.getElem_toArray, List.getElem_cons_zero, List.getElem_cons_succ, Nat.zero_add, List.nil_append]
          refine GoL.on (rs := [6]) (by kernel_rfl) (by decide) ?_
          refine OnL.cons rfl ?_ OnL.nil
          intro K hK
          replace hK := Lib.hid hK
          go_simp
          refine (cX).mono ?_
          rintro e wz ⟨rfl, k3⟩
          clear cX
          refine hK.out _ _ (hy3 _ k3) ?_
          clear hK
          try simp only [Act.put, List.setIfInBounds_toArray, List.set_cons_zero, List.set_cons_succ, List.getElem_toArray, List.getElem_cons_zero, List.getElem_cons_succ, Nat.zero_add, List.nil_append]
          obtain ⟨y0, y1, y2⟩ := hy3 _ k3
          refine GoL.to (S' := fun _ w => w = wz) (fun _ w e => by subst e; exact ⟨y0, y1, y2⟩) rfl ?_
          have cH := qHasR k3 queue
          have cL := qLen k3 queue
          have hGz := Gl.of_bq k3
          have kz := k3
          rw [hhas] at cH
          clear k3
          refine GoL.take (i := 7) (v := ?_) rfl rfl (by kernel_rfl) (fun _ _ _ h => h) (fun _ _ => Iff.rfl) (by rfl) ?_ ?_
          rotate_left
          · intro wx hwx
            go_simp
            try with_reducible rfl
          try simp only [Act.put, List.setIfInBounds_toArray, List.set_cons_zero, List.set_cons_succ, List.getElem_toArray, List.getElem_cons_zero, List.getElem_cons_succ, Nat.zero_add, List.nil_append]
          refine GoL.take (i := 8) (v := ?_) rfl rfl (by kernel_rfl) (fun _ _ _ h => h) (fun _ _ => Iff.rfl) (by rfl) ?_ ?_
          rotate_left
          · intro wx hwx
            go_simp
            try with_reducible rfl
          try simp only [Act.put, List.setIfInBounds_toArray, List.set_cons_zero, List.set_cons_succ, List.getElem_toArray, List.getElem_cons_zero, List.getElem_cons_succ, Nat.zero_add, List.nil_append]
          refine GoL.take (i := 9) (v := ?_) rfl rfl (by kernel_rfl) (fun _ _ _ h => h) (fun _ _ => Iff.rfl) (by rfl) ?_ ?_
          rotate_left
          · intro wx hwx
            go_simp
            try with_reducible rfl
          try simp only [Act.put, List.setIfInBounds_toArray, List.set_cons_zero, List.set_cons_succ, List.getElem_toArray, List.getElem_cons_zero, List.getElem_cons_succ, Nat.zero_add, List.nil_append]
          refine GoL.take (i := 10) (v := ?_) rfl rfl (by kernel_rfl) (fun _ _ _ h => h) (fun _ _ => Iff.rfl) (by rfl) ?_ ?_
          rotate_left
          · intro wx hwx
            go_simp
            try with_reducible rfl
          try simp only [Act.put, List.setIfInBounds_toArray, List.set_cons_zero, List.set_cons_succ, List.getElem_toArray, List.getElem_cons_zero, List.getElem_cons_succ, Nat.zero_add, List.nil_append]
          refine GoL.take (i := 11) (v := ?_) rfl rfl (by kernel_rfl) (fun _ _ _ h => h) (fun _ _ => Iff.rfl) (by rfl) ?_ ?_
          rotate_left
          · intro wx hwx
            go_simp
            try with_reducible rfl
          try simp only [Act.put, List.setIfInBounds_toArray, List.set_cons_zero, List.set_cons_succ, List.getElem_toArray, List.getElem_cons_zero, List.getElem_cons_succ, Nat.zero_add, List.nil_append]
          refine GoL.take (i := 12) (v := ?_) rfl rfl (by kernel_rfl) (fun _ _ _ h => h) (fun _ _ => Iff.rfl) (by rfl) ?_ ?_
          rotate_left
          · intro wx hwx
            go_simp
            try with_reducible rfl
          try simp only [Act.put, List.setIfInBounds_toArray, List.set_cons_zero, List.set_cons_succ, List.getElem_toArray, List.getElem_cons_zero, List.getElem_cons_succ, Nat.zero_add, List.nil_append]
          refine GoL.take (i := 13) (v := ?_) rfl rfl (by kernel_rfl) (fun _ _ _ h => h) (fun _ _ => Iff.rfl) (by rfl) ?_ ?_
          rotate_left
          · intro wx hwx
            go_simp
            try with_reducible rfl
          try simp only [Act.put, List.setIfInBounds_toArray, List.set_cons_zero, List.set_cons_succ, List.getElem_toArray, List.getElem_cons_zero, List.getElem_cons_succ, Nat.zero_add, List.nil_append]
          refine GoL.take (i := 14) (v := ?_) rfl rfl (by kernel_rfl) (fun _ _ _ h => h) (fun _ _ => Iff.rfl) (by rfl) ?_ ?_
          rotate_left
          · intro wx hwx
            have x0 := hwx.at'
            subst x0
            go_simp
            try with_reducible rfl
          try simp only [Act.put, List.setIfInBounds_toArray, List.set_cons_zero, List.set_cons_succ, List.getElem_toArray, List.getElem_cons_zero, List.getElem_cons_succ, Nat.zero_add, List.nil_append]
          refine GoL.on (rs := [15]) (by kernel_rfl) (by decide) ?_
          refine OnL.cons rfl ?_ OnL.nil
          intro K hK
          replace hK := Lib.hid hK
          go_simp
          refine (cH).mono ?_
          rintro e wz ⟨rfl, rfl⟩
          clear cH
          refine hK.out _ _ rfl ?_
          clear hK
          try simp only [Act.put, List.setIfInBounds_toArray, List.set_cons_zero, List.set_cons_succ, List.getElem_toArray, List.getElem_cons_zero, List.getElem_cons_succ, Nat.zero_add, List.nil_append]
          refine GoL.take (i := 16) (v := ?_) rfl rfl (by kernel_rfl) (fun _ _ _ h => h) (fun _ _ => Iff.rfl) (by rfl) ?_ ?_
          rotate_left
          · intro wx hwx
            go_simp
            try with_reducible rfl
          try simp only [Act.put, List.setIfInBounds_toArray, List.set_cons_zero, List.set_cons_succ, List.getElem_toArray, List.getElem_cons_zero, List.getElem_cons_succ, Nat.zero_add, List.nil_append]
          refine GoL.skip (i := 17) rfl rfl (by kernel_rfl) (fun _ _ _ h => h) (fun _ _ => Iff.rfl) (by rfl) ?_
          try simp only [Act.put, List.setIfInBounds_toArray, List.set_cons_zero, List.set_cons_succ, List.getElem_toArray, List.getElem_cons_zero, List.getElem_cons_succ, Nat.zero_add, List.nil_append]
          refine GoL.skip (i := 18) rfl rfl (by kernel_rfl) (fun _ _ _ h => h) (fun _ _ => Iff.rfl) (by rfl) ?_
          try simp only [Act.put, List.setIfInBounds_toArray, List.set_cons_zero, List.set_cons_succ, List.getElem_toArray, List.getElem_cons_zero, List.getElem_cons_succ, Nat.zero_add, List.nil_append]
          refine GoL.skip (i := 19) rfl rfl (by kernel_rfl) (fun _ _ _ h => h) (fun _ _ => Iff.rfl) (by rfl) ?_
          try simp only [Act.put, List.setIfInBounds_toArray, List.set_cons_zero, List.set_cons_succ, List.getElem_toArray, List.getElem_cons_zero, List.getElem_cons_succ, Nat.zero_add, List.nil_append]
          refine GoL.skip (i := 20) rfl rfl (by kernel_rfl) (fun _ _ _ h => h) (fun _ _ => Iff.rfl) (by rfl) ?_
          try simp only [Act.put, List.setIfInBounds_toArray, List.set_cons_zero, List.set_cons_succ, List.getElem_toArray, List.getElem_cons_zero, List.getElem_cons_succ, Nat.zero_add, List.nil_append]
          refine GoL.skip (i := 21) rfl rfl (by kernel_rfl) (fun _ _ _ h => h) (fun _ _ => Iff.rfl) (by rfl) ?_
          try simp only [Act.put, List.setIfInBounds_toArray, List.set_cons_zero, List.set_cons_succ, List.getElem_toArray, List.getElem_cons_zero, List.getElem_cons_succ, Nat.zero_add, List.nil_append]
          refine GoL.skip (i := 22) rfl rfl (by kernel_rfl) (fun _ _ _ h => h) (fun _ _ => Iff.rfl) (by rfl) ?_
          try simp only [Act.put, List.setIfInBounds_toArray, List.set_cons_zero, List.set_cons_succ, List.getElem_toArray, List.getElem_cons_zero, List.getElem_cons_succ, Nat.zero_add, List.nil_append]
          refine GoL.skip (i := 23) rfl rfl (by kernel_rfl) (fun _ _ _ h => h) (fun _ _ => Iff.rfl) (by rfl) ?_
          try simp only [Act.put, List.setIfInBounds_toArray, List.set_cons_zero, List.set_cons_succ, List.getElem_toArray, List.getElem_cons_zero, List.getElem_cons_succ, Nat.zero_add, List.nil_append]
          refine GoL.skip (i := 24) rfl rfl (by kernel_rfl) (fun _ _ _ h => h) (fun _ _ => Iff.rfl) (by rfl) ?_
          try simp only [Act.put, List.setIfInBounds_toArray, List.set_cons_zero, List.set_cons_succ, List.getElem_toArray, List.getElem_cons_zero, List.getElem_cons_succ, Nat.zero_add, List.nil_append]
          refine GoL.skip (i := 25) rfl rfl (by kernel_rfl) (fun _ _ _ h => h) (fun _ _ => Iff.rfl) (by rfl) ?_
          try simp only [Act.put, List.setIfInBounds_toArray, List.set_cons_zero, List.set_cons_succ, List.getElem_toArray, List.getElem_cons_zero, List.getElem_cons_succ, Nat.zero_add, List.nil_append]
          refine GoL.skip (i := 26) rfl rfl (by kernel_rfl) (fun _ _ _ h => h) (fun _ _ => Iff.rfl) (by rfl) ?_
          try simp only [Act.put, List.setIfInBounds_toArray, List.set_cons_zero, List.set_cons_succ, List.getElem_toArray, List.getElem_cons_zero, List.getElem_cons_succ, Nat.zero_add, List.nil_append]
          refine GoL.skip (i := 27) rfl rfl (by kernel_rfl) (fun _ _ _ h => h) (fun _ _ => Iff.rfl) (by rfl) ?_
          try simp only [Act.put, List.setIfInBounds_toArray, List.set_cons_zero, List.set_cons_succ, List.getElem_toArray, List.getElem_cons_zero, List.getElem_cons_succ, Nat.zero_add, List.nil_append]
          refine GoL.skip (i := 28) rfl rfl (by kernel_rfl) (fun _ _ _ h => h) (fun _ _ => Iff.rfl) (by rfl) ?_
          try simp only [Act.put, List.setIfInBounds_toArray, List.set_cons_zero, List.set_cons_succ, List.getElem_toArray, List.getElem_cons_zero, List.getElem_cons_succ, Nat.zero_add, List.nil_append]
          refine GoL.skip (i := 29) rfl rfl (by kernel_rfl) (fun _ _ _ h => h) (fun _ _ => Iff.rfl) (by rfl) ?_
          try simp only [Act.put, List.setIfInBounds_toArray, List.set_cons_zero, List.set_cons_succ, List.getElem_toArray, List.getElem_cons_zero, List.getElem_cons_succ, Nat.zero_add, List.nil_append]
          refine GoL.skip (i := 30) rfl rfl (by kernel_rfl) (fun _ _ _ h => h) (fun _ _ => Iff.rfl) (by rfl) ?_
          try simp only [Act.put, List.setIfInBounds_toArray, List.set_cons_zero, List.set_cons_succ, List.getElem_toArray, List.getElem_cons_zero, List.getElem_cons_succ, Nat.zero_add, List.nil_append]
          refine GoL.skip (i := 31) rfl rfl (by kernel_rfl) (fun _ _ _ h => h) (fun _ _ => Iff.rfl) (by rfl) ?_
          try simp only [Act.put, List.setIfInBounds_toArray, List.set_cons_zero, List.set_cons_succ, List.getElem_toArray, List.getElem_cons_zero, List.getElem_cons_succ, Nat.zero_add, List.nil_append]
          refine GoL.skip (i := 32) rfl rfl (by kernel_rfl) (fun _ _ _ h => h) (fun _ _ => Iff.rfl) (by rfl) ?_
          try simp only [Act.put, List.setIfInBounds_toArray, List.set_cons_zero, List.set_cons_succ, List.getElem_toArray, List.getElem_cons_zero, List.getElem_cons_succ, Nat.zero_add, List.nil_append]
          refine GoL.skip (i := 33) rfl rfl (by kernel_rfl) (fun _ _ _ h => h) (fun _ _ => Iff.rfl) (by rfl) ?_
          try simp only [Act.put, List.setIfInBounds_toArray, List.set_cons_zero, List.set_cons_succ, List.getElem_toArray, List.getElem_cons_zero, List.getElem_cons_succ, Nat.zero_add, List.nil_append]
          refine GoL.skip (i := 34) rfl rfl (by kernel_rfl) (fun _ _ _ h => h) (fun _ _ => Iff.rfl) (by rfl) ?_
          try simp only [Act.put, List.setIfInBounds_toArray, List.set_cons_zero, List.set_cons_succ, List.getElem_toArray, List.getElem_cons_zero, List.getElem_cons_succ, Nat.zero_add, List.nil_append]
          refine GoL.skip (i := 35) rfl rfl (by kernel_rfl) (fun _ _ _ h => h) (fun _ _ => Iff.rfl) (by rfl) ?_
          try simp only [Act.put, List.setIfInBounds_toArray, List.set_cons_zero, List.set_cons_succ, List.getElem_toArray, List.getElem_cons_zero, List.getElem_cons_succ, Nat.zero_add, List.nil_append]
          refine GoL.skip (i := 36) rfl rfl (by kernel_rfl) (fun _ _ _ h => h) (fun _ _ => Iff.rfl) (by rfl) ?_
          try simp only [Act.put, List.setIfInBounds_toArray, List.set_cons_zero, List.set_cons_succ, List.getElem_toArray, List.getElem_cons_zero, List.getElem_cons_succ, Nat.zero_add, List.nil_append]
          refine GoL.take (i := 37) (v := ?_) rfl rfl (by kernel_rfl) (fun _ _ _ h => h) (fun _ _ => Iff.rfl) (by rfl) ?_ ?_
          rotate_left
          · intro wx hwx
            go_simp
            try with_reducible rfl
          try simp only [Act.put, List.setIfInBounds_toArray, List.set_cons_zero, List.set_cons_succ, List.getElem_toArray, List.getElem_cons_zero, List.getElem_cons_succ, Nat.zero_add, List.nil_append]
          refine GoL.take (i := 38) (v := ?_) rfl rfl (by kernel_rfl) (fun _ _ _ h => h) (fun _ _ => Iff.rfl) (by rfl) ?_ ?_
          rotate_left
          · intro wx hwx
            go_simp
            try with_reducible rfl
          try simp only [Act.put, List.setIfInBounds_toArray, List.set_cons_zero, List.set_cons_succ, List.getElem_toArray, List.getElem_cons_zero, List.getElem_cons_succ, Nat.zero_add, List.nil_append]
          refine GoL.done (by kernel_rfl) ?_
          refine NoPanic.normal ?_
          go_wp2_with fail
          go_roundg (l.length - (q + 1))
          case measure => omega
          case rel => exact ⟨q + 1, s', by omega, by go_num, hs2, kz⟩
        | true =>
          refine GoL.start (S := fun _ w => w.cell? ⟨b, off + q * 3, none⟩ = some (.int .i64 kind) ∧ w.cell? ⟨b, off + q * 3 + 1, none⟩ = some (.int .i64 queue) ∧ w.cell? ⟨b, off + q * 3 + 2, none⟩ = some (.int .i64 node)) (by kernel_rfl) ⟨y0, y1, y2⟩ ?_
          clear y0 y1 y2
          refine GoL.take (i := 0) (v := ?_) rfl rfl (by kernel_rfl) (fun _ _ _ h => h) (fun _ _ => Iff.rfl) (by rfl) ?_ ?_
          rotate_left
          · intro wx hwx
            go_simp
            try with_reducible rfl
          try simp only [Act.put, List.setIfInBounds_toArray, List.set_cons_zero, List.set_cons_succ, List.getElem_toArray, List.getElem_cons_zero, List.getElem_cons_succ, Nat.zero_add, List.nil_append]
          refine GoL.take (i := 1) (v := ?_) rfl rfl (by kernel_rfl) (fun _ _ _ h => h) (fun _ _ => Iff.rfl) (by rfl) ?_ ?_
          rotate_left
          · intro wx hwx
            go_simp
            try with_reducible rfl
          try simp only [Act.put, List.setIfInBounds_toArray, List.set_cons_zero, List.set_cons_succ, List.getElem_toArray, List.getElem_cons_zero, List.getElem_cons_succ, Nat.zero_add, List.nil_append]
          refine GoL.take (i := 2) (v := ?_) rfl rfl (by kernel_rfl) (fun _ _ _ h => h) (fun _ _ => Iff.rfl) (by rfl) ?_ ?_
          rotate_left
          · intro wx hwx
            go_simp
            try with_reducible rfl
          try simp only [Act.put, List.setIfInBounds_toArray, List.set_cons_zero, List.set_cons_succ, List.getElem_toArray, List.getElem_cons_zero, List.getElem_cons_succ, Nat.zero_add, List.nil_append]
          refine GoL.take (i := 3) (v := ?_) rfl rfl (by kernel_rfl) (fun _ _ _ h => h) (fun _ _ => Iff.rfl) (by rfl) ?_ ?_
          rotate_left
          · intro wx hwx
            go_simp
            try with_reducible rfl
          try simp only [Act.put, List.setIfInBounds_toArray, List.set_cons_zero, List.set_cons_succ, List.getElem_toArray, List.getElem_cons_zero, List.getElem_cons_succ, Nat.zero_add, List.nil_append]
          refine GoL.take (i := 4) (v := ?_) rfl rfl (by kernel_rfl) (fun _ _ _ h => h) (fun _ _ => Iff.rfl) (by rfl) ?_ ?_
          rotate_left
          · intro wx hwx
            go_simp
            try with_reducible rfl
          try simp only [Act.put, List.setIfInBounds_toArray, List.set_cons_zero, List.set_cons_succ, List.getElem_toArray, List.getElem_cons_zero, List.getElem_cons_succ, Nat.zero_add, List.nil_append]
          refine GoL.take (i := 5) (v := ?_) rfl rfl (by kernel_rfl) (fun _ _ _ h => h) (fun _ _ => Iff.rfl) (by rfl) ?_ ?_
          rotate_left
          · intro wx hwx
            have x0 := hwx.at'
            obtain ⟨y0, y1, y2⟩ := x0
            go_simp
            try with_reducible rfl
          try simp only [Act.put, List.setIfInBounds_toArray, List.set_cons_zero, List.set_cons_succ, List.getElem_toArray, List.getElem_cons_zero, List.getElem_cons_succ, Nat.zero_add, List.nil_append]
          refine GoL.on (rs := [6]) (by kernel_rfl) (by decide) ?_
          refine OnL.cons rfl ?_ OnL.nil
          intro K hK
          replace hK := Lib.hid hK
          go_simp
          refine (cX).mono ?_
          rintro e wz ⟨rfl, k3⟩
          clear cX
          refine hK.out _ _ (hy3 _ k3) ?_
          clear hK
          try simp only [Act.put, List.setIfInBounds_toArray, List.set_cons_zero, List.set_cons_succ, List.getElem_toArray, List.getElem_cons_zero, List.getElem_cons_succ, Nat.zero_add, List.nil_append]
          obtain ⟨y0, y1, y2⟩ := hy3 _ k3
          refine GoL.to (S' := fun _ w => w = wz) (fun _ w e => by subst e; exact ⟨y0, y1, y2⟩) rfl ?_
          have cH := qHasR k3 queue
          have cL := qLen k3 queue
          have hGz := Gl.of_bq k3
          have kz := k3
          rw [hhas] at cH
          obtain ⟨S, ⟨bm, c, hR⟩, -⟩ := k3.ref
          obtain ⟨iq, qq, rfl, hiq, hqq, hqi⟩ := Fq.hasQ_pos hhas
          obtain ⟨ao3, cap3, hcell, -, -⟩ := hR.head hqq
          have c1 := hR.c1
          have hnm := hR.nm
          have hql := hR.len hqq
          rw [hqi] at cL
          have hiq2 : (iq : Int) < (s'.L.length : Int) := by omega
          generalize qq.length = ql at *
          generalize s'.L.length = ml at c1 hnm hiq2
          clear hR hqq hqi hiq hhas k3
          refine GoL.take (i := 7) (v := ?_) rfl rfl (by kernel_rfl) (fun _ _ _ h => h) (fun _ _ => Iff.rfl) (by rfl) ?_ ?_
          rotate_left
          · intro wx hwx
            go_simp
            try with_reducible rfl
          try simp only [Act.put, List.setIfInBounds_toArray, List.set_cons_zero, List.set_cons_succ, List.getElem_toArray, List.getElem_cons_zero, List.getElem_cons_succ, Nat.zero_add, List.nil_append]
          refine GoL.take (i := 8) (v := ?_) rfl rfl (by kernel_rfl) (fun _ _ _ h => h) (fun _ _ => Iff.rfl) (by rfl) ?_ ?_
          rotate_left
          · intro wx hwx
            go_simp
            try with_reducible rfl
          try simp only [Act.put, List.setIfInBounds_toArray, List.set_cons_zero, List.set_cons_succ, List.getElem_toArray, List.getElem_cons_zero, List.getElem_cons_succ, Nat.zero_add, List.nil_append]
          refine GoL.take (i := 9) (v := ?_) rfl rfl (by kernel_rfl) (fun _ _ _ h => h) (fun _ _ => Iff.rfl) (by rfl) ?_ ?_
          rotate_left
          · intro wx hwx
            go_simp
            try with_reducible rfl
          try simp only [Act.put, List.setIfInBounds_toArray, List.set_cons_zero, List.set_cons_succ, List.getElem_toArray, List.getElem_cons_zero, List.getElem_cons_succ, Nat.zero_add, List.nil_append]
          refine GoL.take (i := 10) (v := ?_) rfl rfl (by kernel_rfl) (fun _ _ _ h => h) (fun _ _ => Iff.rfl) (by rfl) ?_ ?_
          rotate_left
          · intro wx hwx
            go_simp
            try with_reducible rfl
          try simp only [Act.put, List.setIfInBounds_toArray, List.set_cons_zero, List.set_cons_succ, List.getElem_toArray, List.getElem_cons_zero, List.getElem_cons_succ, Nat.zero_add, List.nil_append]
          refine GoL.take (i := 11) (v := ?_) rfl rfl (by kernel_rfl) (fun _ _ _ h => h) (fun _ _ => Iff.rfl) (by rfl) ?_ ?_
          rotate_left
          · intro wx hwx
            go_simp
            try with_reducible rfl
          try simp only [Act.put, List.setIfInBounds_toArray, List.set_cons_zero, List.set_cons_succ, List.getElem_toArray, List.getElem_cons_zero, List.getElem_cons_succ, Nat.zero_add, List.nil_append]
          refine GoL.take (i := 12) (v := ?_) rfl rfl (by kernel_rfl) (fun _ _ _ h => h) (fun _ _ => Iff.rfl) (by rfl) ?_ ?_
          rotate_left
          · intro wx hwx
            go_simp
            try with_reducible rfl
          try simp only [Act.put, List.setIfInBounds_toArray, List.set_cons_zero, List.set_cons_succ, List.getElem_toArray, List.getElem_cons_zero, List.getElem_cons_succ, Nat.zero_add, List.nil_append]
          refine GoL.take (i := 13) (v := ?_) rfl rfl (by kernel_rfl) (fun _ _ _ h => h) (fun _ _ => Iff.rfl) (by rfl) ?_ ?_
          rotate_left
          · intro wx hwx
            go_simp
            try with_reducible rfl
          try simp only [Act.put, List.setIfInBounds_toArray, List.set_cons_zero, List.set_cons_succ, List.getElem_toArray, List.getElem_cons_zero, List.getElem_cons_succ, Nat.zero_add, List.nil_append]
          refine GoL.take (i := 14) (v := ?_) rfl rfl (by kernel_rfl) (fun _ _ _ h => h) (fun _ _ => Iff.rfl) (by rfl) ?_ ?_
          rotate_left
          · intro wx hwx
            have x0 := hwx.at'
            subst x0
            go_simp
            try with_reducible rfl
          try simp only [Act.put, List.setIfInBounds_toArray, List.set_cons_zero, List.set_cons_succ, List.getElem_toArray, List.getElem_cons_zero, List.getElem_cons_succ, Nat.zero_add, List.nil_append]
          refine GoL.on (rs := [15]) (by kernel_rfl) (by decide) ?_
          refine OnL.cons rfl ?_ OnL.nil
          intro K hK
          replace hK := Lib.hid hK
          go_simp
          refine (cH).mono ?_
          rintro e wz ⟨rfl, rfl⟩
          clear cH
          refine hK.out _ _ rfl ?_
          clear hK
          try simp only [Act.put, List.setIfInBounds_toArray, List.set_cons_zero, List.set_cons_succ, List.getElem_toArray, List.getElem_cons_zero, List.getElem_cons_succ, Nat.zero_add, List.nil_append]
          refine GoL.take (i := 16) (v := ?_) rfl rfl (by kernel_rfl) (fun _ _ _ h => h) (fun _ _ => Iff.rfl) (by rfl) ?_ ?_
          rotate_left
          · intro wx hwx
            go_simp
            try with_reducible rfl
          try simp only [Act.put, List.setIfInBounds_toArray, List.set_cons_zero, List.set_cons_succ, List.getElem_toArray, List.getElem_cons_zero, List.getElem_cons_succ, Nat.zero_add, List.nil_append]
          refine GoL.take (i := 17) (v := ?_) rfl rfl (by kernel_rfl) (fun _ _ _ h => h) (fun _ _ => Iff.rfl) (by rfl) ?_ ?_
          rotate_left
          · intro wx hwx
            go_simp
            try with_reducible rfl
          try simp only [Act.put, List.setIfInBounds_toArray, List.set_cons_zero, List.set_cons_succ, List.getElem_toArray, List.getElem_cons_zero, List.getElem_cons_succ, Nat.zero_add, List.nil_append]
          refine GoL.take (i := 18) (v := ?_) rfl rfl (by kernel_rfl) (fun _ _ _ h => h) (fun _ _ => Iff.rfl) (by rfl) ?_ ?_
          rotate_left
          · intro wx hwx
            go_simp
            try with_reducible rfl
          try simp only [Act.put, List.setIfInBounds_toArray, List.set_cons_zero, List.set_cons_succ, List.getElem_toArray, List.getElem_cons_zero, List.getElem_cons_succ, Nat.zero_add, List.nil_append]
          refine GoL.take (i := 19) (v := ?_) rfl rfl (by kernel_rfl) (fun _ _ _ h => h) (fun _ _ => Iff.rfl) (by rfl) ?_ ?_
          rotate_left
          · intro wx hwx
            go_simp
            try with_reducible rfl
          try simp only [Act.put, List.setIfInBounds_toArray, List.set_cons_zero, List.set_cons_succ, List.getElem_toArray, List.getElem_cons_zero, List.getElem_cons_succ, Nat.zero_add, List.nil_append]
          refine GoL.take (i := 20) (v := ?_) rfl rfl (by kernel_rfl) (fun _ _ _ h => h) (fun _ _ => Iff.rfl) (by rfl) ?_ ?_
          rotate_left
          · intro wx hwx
            go_simp
            try with_reducible rfl
          try simp only [Act.put, List.setIfInBounds_toArray, List.set_cons_zero, List.set_cons_succ, List.getElem_toArray, List.getElem_cons_zero, List.getElem_cons_succ, Nat.zero_add, List.nil_append]
          refine GoL.take (i := 21) (v := ?_) rfl rfl (by kernel_rfl) (fun _ _ _ h => h) (fun _ _ => Iff.rfl) (by rfl) ?_ ?_
          rotate_left
          · intro wx hwx
            go_simp
            try with_reducible rfl
          try simp only [Act.put, List.setIfInBounds_toArray, List.set_cons_zero, List.set_cons_succ, List.getElem_toArray, List.getElem_cons_zero, List.getElem_cons_succ, Nat.zero_add, List.nil_append]
          refine GoL.take (i := 22) (v := ?_) rfl rfl (by kernel_rfl) (fun _ _ _ h => h) (fun _ _ => Iff.rfl) (by rfl) ?_ ?_
          rotate_left
          · intro wx hwx
            have x0 := hwx.at'
            subst x0
            go_simp
            try with_reducible rfl
          try simp only [Act.put, List.setIfInBounds_toArray, List.set_cons_zero, List.set_cons_succ, List.getElem_toArray, List.getElem_cons_zero, List.getElem_cons_succ, Nat.zero_add, List.nil_append]
          refine GoL.take (i := 24) (v := ?_) rfl rfl (by kernel_rfl) (fun _ _ _ h => h) (fun _ _ => Iff.rfl) (by rfl) ?_ ?_
          rotate_left
          · intro wx hwx
            go_simp
            try with_reducible rfl
          try simp only [Act.put, List.setIfInBounds_toArray, List.set_cons_zero, List.set_cons_succ, List.getElem_toArray, List.getElem_cons_zero, List.getElem_cons_succ, Nat.zero_add, List.nil_append]
          refine GoL.take (i := 25) (v := ?_) rfl rfl (by kernel_rfl) (fun _ _ _ h => h) (fun _ _ => Iff.rfl) (by rfl) ?_ ?_
          rotate_left
          · intro wx hwx
            go_simp
            try with_reducible rfl
          try simp only [Act.put, List.setIfInBounds_toArray, List.set_cons_zero, List.set_cons_succ, List.getElem_toArray, List.getElem_cons_zero, List.getElem_cons_succ, Nat.zero_add, List.nil_append]
          refine GoL.take (i := 26) (v := ?_) rfl rfl (by kernel_rfl) (fun _ _ _ h => h) (fun _ _ => Iff.rfl) (by rfl) ?_ ?_
          rotate_left
          · intro wx hwx
            go_simp
            try with_reducible rfl
          try simp only [Act.put, List.setIfInBounds_toArray, List.set_cons_zero, List.set_cons_succ, List.getElem_toArray, List.getElem_cons_zero, List.getElem_cons_succ, Nat.zero_add, List.nil_append]
          refine GoL.take (i := 27) (v := ?_) rfl rfl (by kernel_rfl) (fun _ _ _ h => h) (fun _ _ => Iff.rfl) (by rfl) ?_ ?_
          rotate_left
          · intro wx hwx
            have x0 := hwx.at'
            subst x0
            go_simp
            try with_reducible rfl
          try simp only [Act.put, List.setIfInBounds_toArray, List.set_cons_zero, List.set_cons_succ, List.getElem_toArray, List.getElem_cons_zero, List.getElem_cons_succ, Nat.zero_add, List.nil_append]
          refine GoL.take (i := 28) (v := ?_) rfl rfl (by kernel_rfl) (fun _ _ _ h => h) (fun _ _ => Iff.rfl) (by rfl) ?_ ?_
          rotate_left
          · intro wx hwx
            go_simp
            try with_reducible rfl
          try simp only [Act.put, List.setIfInBounds_toArray, List.set_cons_zero, List.set_cons_succ, List.getElem_toArray, List.getElem_cons_zero, List.getElem_cons_succ, Nat.zero_add, List.nil_append]
          refine GoL.take (i := 29) (v := ?_) rfl rfl (by kernel_rfl) (fun _ _ _ h => h) (fun _ _ => Iff.rfl) (by rfl) ?_ ?_
          rotate_left
          · intro wx hwx
            go_simp
            try with_reducible rfl
          try simp only [Act.put, List.setIfInBounds_toArray, List.set_cons_zero, List.set_cons_succ, List.getElem_toArray, List.getElem_cons_zero, List.getElem_cons_succ, Nat.zero_add, List.nil_append]
          refine GoL.take (i := 30) (v := ?_) rfl rfl (by kernel_rfl) (fun _ _ _ h => h) (fun _ _ => Iff.rfl) (by rfl) ?_ ?_
          rotate_left
          · intro wx hwx
            go_simp
            try with_reducible rfl
          try simp only [Act.put, List.setIfInBounds_toArray, List.set_cons_zero, List.set_cons_succ, List.getElem_toArray, List.getElem_cons_zero, List.getElem_cons_succ, Nat.zero_add, List.nil_append]
          refine GoL.take (i := 31) (v := ?_) rfl rfl (by kernel_rfl) (fun _ _ _ h => h) (fun _ _ => Iff.rfl) (by rfl) ?_ ?_
          rotate_left
          · intro wx hwx
            go_simp
            try with_reducible rfl
          try simp only [Act.put, List.setIfInBounds_toArray, List.set_cons_zero, List.set_cons_succ, List.getElem_toArray, List.getElem_cons_zero, List.getElem_cons_succ, Nat.zero_add, List.nil_append]
          refine GoL.take (i := 32) (v := ?_) rfl rfl (by kernel_rfl) (fun _ _ _ h => h) (fun _ _ => Iff.rfl) (by rfl) ?_ ?_
          rotate_left
          · intro wx hwx
            have x0 := hwx.at'
            subst x0
            go_simp
            try with_reducible rfl
          try simp only [Act.put, List.setIfInBounds_toArray, List.set_cons_zero, List.set_cons_succ, List.getElem_toArray, List.getElem_cons_zero, List.getElem_cons_succ, Nat.zero_add, List.nil_append]
          refine GoL.take (i := 33) (v := ?_) rfl rfl (by kernel_rfl) (fun _ _ _ h => h) (fun _ _ => Iff.rfl) (by rfl) ?_ ?_
          rotate_left
          · intro wx hwx
            go_simp
            try with_reducible rfl
          try simp only [Act.put, List.setIfInBounds_toArray, List.set_cons_zero, List.set_cons_succ, List.getElem_toArray, List.getElem_cons_zero, List.getElem_cons_succ, Nat.zero_add, List.nil_append]
          refine GoL.take (i := 34) (v := ?_) rfl rfl (by kernel_rfl) (fun _ _ _ h => h) (fun _ _ => Iff.rfl) (by rfl) ?_ ?_
          rotate_left
          · intro wx hwx
            have x0 := hwx.at'
            subst x0
            go_simp
            try with_reducible rfl
          try simp only [Act.put, List.setIfInBounds_toArray, List.set_cons_zero, List.set_cons_succ, List.getElem_toArray, List.getElem_cons_zero, List.getElem_cons_succ, Nat.zero_add, List.nil_append]
          refine GoL.take (i := 35) (v := ?_) rfl rfl (by kernel_rfl) (fun _ _ _ h => h) (fun _ _ => Iff.rfl) (by rfl) ?_ ?_
          rotate_left
          · intro wx hwx
            go_simp
            try with_reducible rfl
          try simp only [Act.put, List.setIfInBounds_toArray, List.set_cons_zero, List.set_cons_succ, List.getElem_toArray, List.getElem_cons_zero, List.getElem_cons_succ, Nat.zero_add, List.nil_append]
          refine GoL.on (rs := [23]) (by kernel_rfl) (by decide) ?_
          refine OnL.cons rfl ?_ OnL.nil
          intro K hK
          replace hK := Lib.hid hK
          go_simp
          refine (cL).mono ?_
          rintro e wz ⟨rfl, rfl⟩
          clear cL
          refine hK.out _ _ rfl ?_
          clear hK
          try simp only [Act.put, List.setIfInBounds_toArray, List.set_cons_zero, List.set_cons_succ, List.getElem_toArray, List.getElem_cons_zero, List.getElem_cons_succ, Nat.zero_add, List.nil_append]
          refine GoL.take (i := 36) (v := ?_) rfl rfl (by kernel_rfl) (fun _ _ _ h => h) (fun _ _ => Iff.rfl) (by rfl) ?_ ?_
          rotate_left
          · intro wx hwx
            go_simp
            try with_reducible rfl
          try simp only [Act.put, List.setIfInBounds_toArray, List.set_cons_zero, List.set_cons_succ, List.getElem_toArray, List.getElem_cons_zero, List.getElem_cons_succ, Nat.zero_add, List.nil_append]
          refine GoL.take (i := 37) (v := ?_) rfl rfl (by kernel_rfl) (fun _ _ _ h => h) (fun _ _ => Iff.rfl) (by rfl) ?_ ?_
          rotate_left
          · intro wx hwx
            go_simp
            try with_reducible rfl
          try simp only [Act.put, List.setIfInBounds_toArray, List.set_cons_zero, List.set_cons_succ, List.getElem_toArray, List.getElem_cons_zero, List.getElem_cons_succ, Nat.zero_add, List.nil_append]
          refine GoL.take (i := 38) (v := ?_) rfl rfl (by kernel_rfl) (fun _ _ _ h => h) (fun _ _ => Iff.rfl) (by rfl) ?_ ?_
          rotate_left
          · intro wx hwx
            go_simp
            try with_reducible rfl
          try simp only [Act.put, List.setIfInBounds_toArray, List.set_cons_zero, List.set_cons_succ, List.getElem_toArray, List.getElem_cons_zero, List.getElem_cons_succ, Nat.zero_add, List.nil_append]
          refine GoL.done (by kernel_rfl) ?_
          refine NoPanic.normal ?_
          go_wp2_with fail
          go_roundg (l.length - (q + 1))
          case measure => omega
          case rel => exact ⟨q + 1, s', by omega, by go_num, hs2, kz⟩
      · have hn1' : s.qi (-1) = [] := by unfold Fq.qi; rw [if_neg (by omega)]
        have hn2' : s.qi (m : Int) = [] := by rw [s.qi_nat, List.getElem?_eq_none (by rw [hs.out]; exact Nat.le_refl _)]; rfl
        have cL1 := qLen k (-1)
        have cL2 := qLen k (m : Int)
        rw [hn1'] at cL1
        rw [hn2'] at cL2
        have cA' := cA wr (Gl.of_bq k)
        clear cA hn1' hn2' hs
        go_wp2_with (first
          | (go_at_call 12; (with_reducible refine cL1.mono ?_); rintro e w4 ⟨rfl, rfl⟩; clear cL1)
          | (go_at_call 12; (with_reducible refine cL2.mono ?_); rintro e w4 ⟨rfl, rfl⟩; clear cL2)
          | (go_at_call 7; (with_reducible refine cA'.mono ?_); rintro e w4 ⟨rfl, hb4⟩))
        go_ret
        exact ⟨rfl, (k.below hb4).bel hq⟩
end Go.Proofs.YtipmhialflincaaDoor
