/-
  WindowPlays. (Written by gen/p_wpl.py.)
-/
import Derived.Test.YteljjjdejjkgfaaWnvq
import Derived.Test.YteljjjdejjkgfaaWnhq
import Derived.Test.YteljjjdejjkgfaaRegLq
namespace Go.Proofs.Yteljjjdejjkgfaa
open Go.RowKit
set_option linter.unusedSimpArgs false
section
variable {W w w' : World} {S1 : Nat → Prop} {g r : Nat} {mp mr : Wn}
theorem Wk.cells (h : Wk W S1 w g r mp mr) : ∃ ao cap, ∀ w', Below w.heap.size w w' → Wk W S1 w' g r mp mr ∧ w'.cell? ⟨r, 2, none⟩ = some (.int .i64 mr.ref) ∧ w'.cell? ⟨r, 4, none⟩ = some (.slice ao mr.L.length cap) := by
  have h0 := h
  obtain ⟨Sp, Sr, -, ⟨ko, ao, cap, hb⟩, -⟩ := h
  refine ⟨ao, cap, fun w' hw => ?_⟩
  have := hb.frm (Frm.of_below (S := fun _ => False) hw) (fun _ f => f.elim)
  exact ⟨h0.keep hw, this.hr.cell_eq 2 _ rfl, this.hr.cell_eq 4 _ rfl⟩
theorem Wk.refP (h : Wk W S1 w g r mp mr) : Calls Try.prog 11 #[.pointer (some ⟨g, 0, none⟩)] w fun e w' => e = .returned (.int .i64 mp.ref) ∧ Below w.heap.size w w' := by
  obtain ⟨Sp, Sr, h, -⟩ := h
  exact wp_ref h
theorem Wk.lenP (h : Wk W S1 w g r mp mr) : Calls Try.prog 12 #[.pointer (some ⟨g, 0, none⟩)] w fun e w' => e = .returned (.int .i64 mp.L.length) ∧ Below w.heap.size w w' := by
  obtain ⟨Sp, Sr, h, -⟩ := h
  exact wp_len h
theorem Wk.start {w1 w2 : World} {Sp Sr : Nat → Prop} (hp : WP w1 g Sp mp) (hb1 : Below W.heap.size W w1) (hr : RW w2 r Sr mr) (hb2 : Below w1.heap.size w1 w2) (h1 : ∀ c, Sp c → W.heap.size ≤ c) (h2 : ∀ c, Sr c → w1.heap.size ≤ c) : Wk W (fun _ => False) w2 g r mp mr :=
  ⟨Sp, Sr, hp.below hb2, hr, (Frm.of_below hb1).trans (Frm.of_below (S := fun _ => False) hb2) (fun _ f => f.elim), fun c e => .inr (h1 c e), fun c e => .inr (Nat.le_trans hb1.size (h2 c e)), fun c e e' => by
    have := hp.lt c e
    have := h2 c e'
    omega⟩
theorem Wk.bel (h : Wk W (fun _ => False) w g r mp mr) : Below W.heap.size W w := by
  obtain ⟨Sp, Sr, -, -, h, -⟩ := h
  exact h.below (Nat.le_refl _) (fun c hc => hc.elim)
theorem Wk.okP (h : Wk W S1 w g r mp mr) : mp.Ok := by
  obtain ⟨Sp, Sr, h, -⟩ := h
  exact h.ok
end
set_option maxRecDepth 8000 in
set_option maxHeartbeats 4000000 in
theorem wplays_any (span grid start : Int) (hs : In64 span) (hg : In64 grid) (hst : In64 start) (ao : Option Addr) (cap : Nat) (l : List Wat) (W : World) (hL : Wats W ao cap l) (hF : ∀ m ∈ l, m.Fit) :
    Calls Try.prog 3 #[.int .i64 span, .int .i64 grid, .int .i64 start, .slice ao l.length cap] W fun e w' => e = .returned (.bool true) ∧ Below W.heap.size W w' := by
  have cA := fun w => alive19_any w
  have hl1 := hL.len
  have hl2 := hL.top
  unfold maxLen at hl2
  by_cases hlen : 100 < l.length
  · go_enter Try.func3, Try.ntmps3
    go_wp2_with (go_at_call 7; refine (cA _).mono ?_; rintro e w4 ⟨rfl, hb4⟩)
    go_ret
    exact ⟨rfl, hb4⟩
  have d1 := wp_new span grid start hs hg hst W
  have d2 := fun w => rwnew_any span grid start hst w
  rcases hn : wnNew span grid start with _ | m
  · have c1 : Calls Try.prog 8 #[.int .i64 span, .int .i64 grid, .int .i64 start] W fun e w' => e = .returned (.tuple #[.pointer none, .int .i64 9]) ∧ Below W.heap.size W w' := d1.mono fun e w' h => by
      rcases h with ⟨-, h1, h2⟩ | ⟨r, m, S, h, -⟩
      · exact ⟨h1, h2⟩
      · rw [hn] at h; cases h
    have c2 : ∀ w, Calls Try.prog 9 #[.int .i64 span, .int .i64 grid, .int .i64 start] w fun e w' => e = .returned (.tuple #[.pointer none, .int .i64 9]) ∧ Below w.heap.size w w' := fun w => (d2 w).mono fun e w' h => by
      rcases h with ⟨-, h1, h2⟩ | ⟨r, m, S, h, -⟩
      · exact ⟨h1, h2⟩
      · rw [hn] at h; cases h
    clear d1 d2 hn
    go_enter Try.func3, Try.ntmps3
    go_wp2_with (first
      | (go_at_call 8; refine c1.mono ?_; rintro e w1 ⟨rfl, b1⟩; clear c1)
      | (go_at_call 9; refine (c2 _).mono ?_; rintro e w2 ⟨rfl, b2⟩; clear c2; replace b1 := b1.trans (b2.mono b1.size))
      | (go_at_call 7; refine (cA _).mono ?_; rintro e w3 ⟨rfl, b3⟩; clear cA; replace b1 := b1.trans (b3.mono b1.size))
      | fail)
    all_goals go_ret
    all_goals exact ⟨rfl, b1⟩
  have c1 : Calls Try.prog 8 #[.int .i64 span, .int .i64 grid, .int .i64 start] W fun e w' => ∃ g S, e = .returned (.tuple #[.pointer (some ⟨g, 0, none⟩), .int .i64 0]) ∧ WP w' g S m ∧ Below W.heap.size W w' ∧ ∀ c, S c → W.heap.size ≤ c := d1.mono fun e w' h => by
    rcases h with ⟨h, -⟩ | ⟨r, m, S, h, h1, h2, h3, h4⟩
    · rw [hn] at h; cases h
    · rw [hn] at h; cases h
      exact ⟨r, S, h1, h2, h3, h4⟩
  have c2 : ∀ w, Calls Try.prog 9 #[.int .i64 span, .int .i64 grid, .int .i64 start] w fun e w' => ∃ g S, e = .returned (.tuple #[.pointer (some ⟨g, 0, none⟩), .int .i64 0]) ∧ RW w' g S m ∧ Below w.heap.size w w' ∧ ∀ c, S c → w.heap.size ≤ c := fun w => (d2 w).mono fun e w' h => by
    rcases h with ⟨h, -⟩ | ⟨r, m, S, h, h1, h2, h3, h4⟩
    · rw [hn] at h; cases h
    · rw [hn] at h; cases h
      exact ⟨r, S, h1, h2, h3, h4⟩
  have hm0 : m.L = [] := by
    unfold wnNew at hn
    split at hn
    · cases hn; rfl
    · cases hn
  have hs0 : Hid (m.L.length ≤ 0) := Lib.hid (by rw [hm0]; exact Nat.le_refl _)
  clear d1 d2 hn hm0
  go_enter Try.func3, Try.ntmps3
  go_wp2_with (first
    | (go_at_call 8; refine c1.mono ?_; rintro e w1 ⟨g, Sp, rfl, hp, b1, h1⟩; clear c1)
    | (go_at_call 9; refine (c2 _).mono ?_; rintro e w2 ⟨r, Sr, rfl, hr, b2, h2⟩; clear c2; have k0 := Wk.start hp b1 hr b2 h1 h2; clear hp b1 hr b2 h1 h2)
    | fail)
  go_loopg [13] l.length (fun j p13 wr => ∃ (q : Nat) (s : Wn), q + j = l.length ∧ p13 = .int .i64 (q : Int) ∧ Hid (s.L.length ≤ q) ∧ Wk W (fun _ => False) wr g r s s)
  case atStart => exact ⟨0, m, by omega, rfl, hs0, k0⟩
  case round =>
    clear k0 hs0
    obtain ⟨q, s, hqj, rfl, hs, k⟩ := hrel
    by_cases hj : q < l.length
    · obtain ⟨a, hm⟩ : ∃ a, l[q]? = some a := ⟨l[q], List.getElem?_eq_getElem hj⟩
      have hfit := hF a (List.mem_of_getElem? hm)
      have hb := k.bel
      obtain ⟨b, off, rfl, hyy⟩ : ∃ b off, ao = some ⟨b, off, none⟩ ∧ ∀ w, Below W.heap.size W w → w.cell? ⟨b, off + q * 5, none⟩ = some (.int .i64 a.kind) ∧ w.cell? ⟨b, off + q * 5 + 1, none⟩ = some (.int .i64 a.tick) ∧ w.cell? ⟨b, off + q * 5 + 2, none⟩ = some (.int .i64 a.price) ∧ w.cell? ⟨b, off + q * 5 + 3, none⟩ = some (.int .i64 a.qty) ∧ w.cell? ⟨b, off + q * 5 + 4, none⟩ = some (.int .i64 a.bps) := by
        obtain ⟨b, off, e, -⟩ := hL.get hm
        refine ⟨b, off, e, fun w hw => ?_⟩
        obtain ⟨b', off', e', y0, y1, y2, y3, y4⟩ := (hL.below hw).get hm
        rw [e] at e'
        cases e'
        exact ⟨y0, y1, y2, y3, y4⟩
      obtain ⟨y0, y1, y2, y3, y4⟩ := hyy wr hb
      have hy3 := fun w (h : Wk W (fun _ => False) w g r (s.act a) (s.act a)) => hyy w h.bel
      have hlen3 : s.L.length ≤ 1000000 := by have := hs.out; omega
      have cX := wact_any a hfit (k.keep (Below.refl _ _).drew) k.okP hlen3
      have hs2 : Hid ((s.act a).L.length ≤ q + 1) := Lib.hid (by have := s.act_len a; have := hs.out; omega)
      generalize s.act a = s' at *
      obtain ⟨a0, a1, a2, a3, a4⟩ := a
      simp only [vWat, cWat] at y0 y1 y2 y3 y4 hy3 cX
      have hql : (q : Int) < (l.length : Int) := by omega
      clear hyy hm hb hs k hL cA hfit hF hlen3
      go_wp2_with fail
      · skip
        refine GoL.start (S := fun _ w => w.cell? ⟨b, off + q * 5, none⟩ = some (.int .i64 a0) ∧ w.cell? ⟨b, off + q * 5 + 1, none⟩ = some (.int .i64 a1) ∧ w.cell? ⟨b, off + q * 5 + 2, none⟩ = some (.int .i64 a2) ∧ w.cell? ⟨b, off + q * 5 + 3, none⟩ = some (.int .i64 a3) ∧ w.cell? ⟨b, off + q * 5 + 4, none⟩ = some (.int .i64 a4)) (by kernel_rfl) ⟨y0, y1, y2, y3, y4⟩ ?_
        clear y0 y1 y2 y3 y4
        refine GoL.take (i := 0) (v := ?_) rfl rfl (by kernel_rfl) (fun _ _ _ h => h) (fun _ _ => Iff.rfl) (by rfl) ?_ ?_
        rotate_left
        · intro wx hwx
          go_simp
          try with_reducible rfl
        try simp only [Act.put, List.setIfInBounds_toArray, List.set_cons_zero, List.set_cons_succ, List.getElem_toArray, List.getElem_cons_zero, List.getElem_cons_succ, Nat.zero_add, List.nil_append]
        refine GoL.take (i := 1) (v := ?_) rfl rfl (by kernel_rfl) (fun _ _ _ h => h) (fun _ _ => Iff.rfl) (by rfl) ?_ ?_
        rotate_left
        · intro wx hwx
          go_simp
          try with_reducible rfl
        try simp only [Act.put, List.setIfInBounds_toArray, List.set_cons_zero, List.set_cons_succ, List.getElem_toArray, List.getElem_cons_zero, List.getElem_cons_succ, Nat.zero_add, List.nil_append]
        refine GoL.take (i := 2) (v := ?_) rfl rfl (by kernel_rfl) (fun _ _ _ h => h) (fun _ _ => Iff.rfl) (by rfl) ?_ ?_
        rotate_left
        · intro wx hwx
          go_simp
          try with_reducible rfl
        try simp only [Act.put, List.setIfInBounds_toArray, List.set_cons_zero, List.set_cons_succ, List.getElem_toArray, List.getElem_cons_zero, List.getElem_cons_succ, Nat.zero_add, List.nil_append]
        refine GoL.take (i := 3) (v := ?_) rfl rfl (by kernel_rfl) (fun _ _ _ h => h) (fun _ _ => Iff.rfl) (by rfl) ?_ ?_
        rotate_left
        · intro wx hwx
          go_simp
          try with_reducible rfl
        try simp only [Act.put, List.setIfInBounds_toArray, List.set_cons_zero, List.set_cons_succ, List.getElem_toArray, List.getElem_cons_zero, List.getElem_cons_succ, Nat.zero_add, List.nil_append]
        refine GoL.take (i := 4) (v := ?_) rfl rfl (by kernel_rfl) (fun _ _ _ h => h) (fun _ _ => Iff.rfl) (by rfl) ?_ ?_
        rotate_left
        · intro wx hwx
          go_simp
          try with_reducible rfl
        try simp only [Act.put, List.setIfInBounds_toArray, List.set_cons_zero, List.set_cons_succ, List.getElem_toArray, List.getElem_cons_zero, List.getElem_cons_succ, Nat.zero_add, List.nil_append]
        refine GoL.take (i := 5) (v := ?_) rfl rfl (by kernel_rfl) (fun _ _ _ h => h) (fun _ _ => Iff.rfl) (by rfl) ?_ ?_
        rotate_left
        · intro wx hwx
          have x0 := hwx.at'
          obtain ⟨y0, y1, y2, y3, y4⟩ := x0
          go_simp
          try with_reducible rfl
        try simp only [Act.put, List.setIfInBounds_toArray, List.set_cons_zero, List.set_cons_succ, List.getElem_toArray, List.getElem_cons_zero, List.getElem_cons_succ, Nat.zero_add, List.nil_append]
        refine GoL.on (rs := [6]) (by kernel_rfl) (by decide) ?_
        refine OnL.cons rfl ?_ OnL.nil
        intro K hK
        replace hK := Lib.hid hK
        go_simp
        refine (cX).mono ?_
        rintro e wz ⟨rfl, k3⟩
        clear cX
        refine hK.out _ _ (hy3 _ k3) ?_
        clear hK
        try simp only [Act.put, List.setIfInBounds_toArray, List.set_cons_zero, List.set_cons_succ, List.getElem_toArray, List.getElem_cons_zero, List.getElem_cons_succ, Nat.zero_add, List.nil_append]
        obtain ⟨ao3, cap3, hV⟩ := k3.cells
        have cH := k3.refP
        have cL := fun w k => Wk.lenP (W := W) (S1 := fun _ => False) (w := w) (g := g) (r := r) (mp := s') (mr := s') k
        generalize s'.ref = rf at *
        obtain ⟨ln, hln⟩ : ∃ ln, ln = s'.L.length := ⟨_, rfl⟩
        rw [← hln] at hV
        simp only [← hln] at cL
        clear hln
        refine GoL.to (S' := fun _ w => Below wz.heap.size wz w) (fun _ w e => hy3 _ (hV w e).1) (Below.refl _ _) ?_
        refine GoL.take (i := 7) (v := ?_) rfl rfl (by kernel_rfl) (fun _ _ _ h => h) (fun _ _ => Iff.rfl) (by rfl) ?_ ?_
        rotate_left
        · intro wx hwx
          go_simp
          try with_reducible rfl
        try simp only [Act.put, List.setIfInBounds_toArray, List.set_cons_zero, List.set_cons_succ, List.getElem_toArray, List.getElem_cons_zero, List.getElem_cons_succ, Nat.zero_add, List.nil_append]
        refine GoL.take (i := 8) (v := ?_) rfl rfl (by kernel_rfl) (fun _ _ _ h => h) (fun _ _ => Iff.rfl) (by rfl) ?_ ?_
        rotate_left
        · intro wx hwx
          go_simp
          try with_reducible rfl
        try simp only [Act.put, List.setIfInBounds_toArray, List.set_cons_zero, List.set_cons_succ, List.getElem_toArray, List.getElem_cons_zero, List.getElem_cons_succ, Nat.zero_add, List.nil_append]
        refine GoL.take (i := 9) (v := ?_) rfl rfl (by kernel_rfl) (fun _ _ _ h => h) (fun _ _ => Iff.rfl) (by rfl) ?_ ?_
        rotate_left
        · intro wx hwx
          go_simp
          try with_reducible rfl
        try simp only [Act.put, List.setIfInBounds_toArray, List.set_cons_zero, List.set_cons_succ, List.getElem_toArray, List.getElem_cons_zero, List.getElem_cons_succ, Nat.zero_add, List.nil_append]
        refine GoL.take (i := 11) (v := ?_) rfl rfl (by kernel_rfl) (fun _ _ _ h => h) (fun _ _ => Iff.rfl) (by rfl) ?_ ?_
        rotate_left
        · intro wx hwx
          go_simp
          try with_reducible rfl
        try simp only [Act.put, List.setIfInBounds_toArray, List.set_cons_zero, List.set_cons_succ, List.getElem_toArray, List.getElem_cons_zero, List.getElem_cons_succ, Nat.zero_add, List.nil_append]
        refine GoL.take (i := 12) (v := ?_) rfl rfl (by kernel_rfl) (fun _ _ _ h => h) (fun _ _ => Iff.rfl) (by rfl) ?_ ?_
        rotate_left
        · intro wx hwx
          go_simp
          try with_reducible rfl
        try simp only [Act.put, List.setIfInBounds_toArray, List.set_cons_zero, List.set_cons_succ, List.getElem_toArray, List.getElem_cons_zero, List.getElem_cons_succ, Nat.zero_add, List.nil_append]
        refine GoL.take (i := 13) (v := ?_) rfl rfl (by kernel_rfl) (fun _ _ _ h => h) (fun _ _ => Iff.rfl) (by rfl) ?_ ?_
        rotate_left
        · intro wx hwx
          go_simp
          try with_reducible rfl
        try simp only [Act.put, List.setIfInBounds_toArray, List.set_cons_zero, List.set_cons_succ, List.getElem_toArray, List.getElem_cons_zero, List.getElem_cons_succ, Nat.zero_add, List.nil_append]
        refine GoL.take (i := 14) (v := ?_) rfl rfl (by kernel_rfl) (fun _ _ _ h => h) (fun _ _ => Iff.rfl) (by rfl) ?_ ?_
        rotate_left
        · intro wx hwx
          obtain ⟨-, z2, z4⟩ := hV wx hwx.at'
          go_simp
          try with_reducible rfl
        try simp only [Act.put, List.setIfInBounds_toArray, List.set_cons_zero, List.set_cons_succ, List.getElem_toArray, List.getElem_cons_zero, List.getElem_cons_succ, Nat.zero_add, List.nil_append]
        refine GoL.on (rs := [10]) (by kernel_rfl) (by decide) ?_
        refine OnL.cons rfl ?_ OnL.nil
        intro K hK
        replace hK := Lib.hid hK
        go_simp
        refine (cH).mono ?_
        rintro e w4 ⟨rfl, b4⟩
        clear cH
        refine hK.out _ _ b4 ?_
        clear hK
        try simp only [Act.put, List.setIfInBounds_toArray, List.set_cons_zero, List.set_cons_succ, List.getElem_toArray, List.getElem_cons_zero, List.getElem_cons_succ, Nat.zero_add, List.nil_append]
        refine GoL.take (i := 15) (v := ?_) rfl rfl (by kernel_rfl) (fun _ _ _ h => h) (fun _ _ => Iff.rfl) (by rfl) ?_ ?_
        rotate_left
        · intro wx hwx
          go_simp
          try with_reducible rfl
        try simp only [Act.put, List.setIfInBounds_toArray, List.set_cons_zero, List.set_cons_succ, List.getElem_toArray, List.getElem_cons_zero, List.getElem_cons_succ, Nat.zero_add, List.nil_append]
        refine GoL.take (i := 16) (v := ?_) rfl rfl (by kernel_rfl) (fun _ _ _ h => h) (fun _ _ => Iff.rfl) (by rfl) ?_ ?_
        rotate_left
        · intro wx hwx
          go_simp
          try with_reducible rfl
        try simp only [Act.put, List.setIfInBounds_toArray, List.set_cons_zero, List.set_cons_succ, List.getElem_toArray, List.getElem_cons_zero, List.getElem_cons_succ, Nat.zero_add, List.nil_append]
        refine GoL.take (i := 17) (v := ?_) rfl rfl (by kernel_rfl) (fun _ _ _ h => h) (fun _ _ => Iff.rfl) (by rfl) ?_ ?_
        rotate_left
        · intro wx hwx
          go_simp
          try with_reducible rfl
        try simp only [Act.put, List.setIfInBounds_toArray, List.set_cons_zero, List.set_cons_succ, List.getElem_toArray, List.getElem_cons_zero, List.getElem_cons_succ, Nat.zero_add, List.nil_append]
        refine GoL.take (i := 18) (v := ?_) rfl rfl (by kernel_rfl) (fun _ _ _ h => h) (fun _ _ => Iff.rfl) (by rfl) ?_ ?_
        rotate_left
        · intro wx hwx
          go_simp
          try with_reducible rfl
        try simp only [Act.put, List.setIfInBounds_toArray, List.set_cons_zero, List.set_cons_succ, List.getElem_toArray, List.getElem_cons_zero, List.getElem_cons_succ, Nat.zero_add, List.nil_append]
        refine GoL.take (i := 20) (v := ?_) rfl rfl (by kernel_rfl) (fun _ _ _ h => h) (fun _ _ => Iff.rfl) (by rfl) ?_ ?_
        rotate_left
        · intro wx hwx
          go_simp
          try with_reducible rfl
        try simp only [Act.put, List.setIfInBounds_toArray, List.set_cons_zero, List.set_cons_succ, List.getElem_toArray, List.getElem_cons_zero, List.getElem_cons_succ, Nat.zero_add, List.nil_append]
        refine GoL.take (i := 21) (v := ?_) rfl rfl (by kernel_rfl) (fun _ _ _ h => h) (fun _ _ => Iff.rfl) (by rfl) ?_ ?_
        rotate_left
        · intro wx hwx
          go_simp
          try with_reducible rfl
        try simp only [Act.put, List.setIfInBounds_toArray, List.set_cons_zero, List.set_cons_succ, List.getElem_toArray, List.getElem_cons_zero, List.getElem_cons_succ, Nat.zero_add, List.nil_append]
        refine GoL.take (i := 22) (v := ?_) rfl rfl (by kernel_rfl) (fun _ _ _ h => h) (fun _ _ => Iff.rfl) (by rfl) ?_ ?_
        rotate_left
        · intro wx hwx
          go_simp
          try with_reducible rfl
        try simp only [Act.put, List.setIfInBounds_toArray, List.set_cons_zero, List.set_cons_succ, List.getElem_toArray, List.getElem_cons_zero, List.getElem_cons_succ, Nat.zero_add, List.nil_append]
        refine GoL.take (i := 23) (v := ?_) rfl rfl (by kernel_rfl) (fun _ _ _ h => h) (fun _ _ => Iff.rfl) (by rfl) ?_ ?_
        rotate_left
        · intro wx hwx
          obtain ⟨-, z2, z4⟩ := hV wx hwx.at'
          go_simp
          try with_reducible rfl
        try simp only [Act.put, List.setIfInBounds_toArray, List.set_cons_zero, List.set_cons_succ, List.getElem_toArray, List.getElem_cons_zero, List.getElem_cons_succ, Nat.zero_add, List.nil_append]
        refine GoL.take (i := 24) (v := ?_) rfl rfl (by kernel_rfl) (fun _ _ _ h => h) (fun _ _ => Iff.rfl) (by rfl) ?_ ?_
        rotate_left
        · intro wx hwx
          go_simp
          try with_reducible rfl
        try simp only [Act.put, List.setIfInBounds_toArray, List.set_cons_zero, List.set_cons_succ, List.getElem_toArray, List.getElem_cons_zero, List.getElem_cons_succ, Nat.zero_add, List.nil_append]
        refine GoL.on (rs := [19]) (by kernel_rfl) (by decide) ?_
        refine OnL.cons rfl ?_ OnL.nil
        intro K hK
        replace hK := Lib.hid hK
        go_simp
        refine (cL _ (hV _ b4).1).mono ?_
        rintro e w5 ⟨rfl, b5⟩
        clear cL
        have k5 := b4.trans (b5.mono b4.size)
        refine hK.out _ _ k5 ?_
        clear hK
        try simp only [Act.put, List.setIfInBounds_toArray, List.set_cons_zero, List.set_cons_succ, List.getElem_toArray, List.getElem_cons_zero, List.getElem_cons_succ, Nat.zero_add, List.nil_append]
        refine GoL.take (i := 25) (v := ?_) rfl rfl (by kernel_rfl) (fun _ _ _ h => h) (fun _ _ => Iff.rfl) (by rfl) ?_ ?_
        rotate_left
        · intro wx hwx
          go_simp
          try with_reducible rfl
        try simp only [Act.put, List.setIfInBounds_toArray, List.set_cons_zero, List.set_cons_succ, List.getElem_toArray, List.getElem_cons_zero, List.getElem_cons_succ, Nat.zero_add, List.nil_append]
        refine GoL.take (i := 26) (v := ?_) rfl rfl (by kernel_rfl) (fun _ _ _ h => h) (fun _ _ => Iff.rfl) (by rfl) ?_ ?_
        rotate_left
        · intro wx hwx
          go_simp
          try with_reducible rfl
        try simp only [Act.put, List.setIfInBounds_toArray, List.set_cons_zero, List.set_cons_succ, List.getElem_toArray, List.getElem_cons_zero, List.getElem_cons_succ, Nat.zero_add, List.nil_append]
        refine GoL.done (by kernel_rfl) ?_
        refine NoPanic.normal ?_
        go_wp2_with fail
        go_roundg (l.length - (q + 1))
        case measure => omega
        case rel => exact ⟨q + 1, s', by omega, by go_num, hs2, (hV _ k5).1⟩
    · have e : q = l.length := by omega
      subst e
      have hil : ¬ (l.length : Int) < (l.length : Int) := by omega
      go_wp2_with (go_at_call 7; (with_reducible refine (cA _).mono ?_); rintro e w4 ⟨rfl, hb4⟩)
      go_ret
      exact ⟨rfl, (k.keep hb4).bel⟩
end Go.Proofs.Yteljjjdejjkgfaa
