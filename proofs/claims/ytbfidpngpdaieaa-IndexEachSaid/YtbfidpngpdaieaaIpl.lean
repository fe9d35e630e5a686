/-
  IndexPlays. (Written by gen/p_ipl.py.)
-/
import Derived.Test.YtbfidpngpdaieaaIbx
import Derived.Test.YtbfidpngpdaieaaRegL
namespace Go.Proofs.Ytbfidpngpdaieaa
open Go.RowKit
set_option linter.unusedSimpArgs false
theorem Bx.start {W w1 : World} {g : Nat} {S : Nat → Prop} (h : PX w1 g S 0 []) (hS : ∀ c, S c → W.heap.size ≤ c) (hb : Below W.heap.size W w1) : Bx W (fun _ => False) g w1.heap.size 0 [] [] (w1.alloc (.cells #[.slice none 0 0] 29)) := by
  have hb1 : Below w1.heap.size w1 (w1.alloc (.cells #[.slice none 0 0] 29)) := (Below.refl _ _).alloc (Nat.le_refl _) _
  refine ⟨Frm.of_below (hb.alloc hb.size _), S, _, h.below hb1, RI.new w1, fun b e e2 => ?_, fun b e => ?_⟩
  · have := h.lt b e; omega
  · rcases e with e | e
    · exact .inr (hS b e)
    · have := hb.size; exact .inr (by omega)
theorem Bx.bel {W w : World} {g r k : Nat} {l t : List Ixr} (h : Bx W (fun _ => False) g r k l t w) : Below W.heap.size W w := h.frm.below (Nat.le_refl _) (fun _ f => f.elim)
theorem xqOf {w0 w : World} {S0 : Nat → Prop} {g r k : Nat} {l : List Ixr} (h : Bx w0 S0 g r k l l w) (hl : l.length ≤ 100000) (s : Int) : Calls Try.prog 10 #[.pointer (some ⟨r, 0, none⟩), .int .i64 s] w fun e w' => ∃ ao cap, e = .returned (.slice ao (ixIs l s).length cap) ∧ Below w.heap.size w w' := by
  obtain ⟨Sp, Sr, h1, h2, h3, h4⟩ := h.both
  refine (iof_any s h2 hl h1.u).mono ?_
  rintro e w' ⟨ko, cap, ao, he, hG⟩
  exact ⟨ao, cap, by rw [he, (ixOf_perm l s).length_eq], hG.bel⟩
theorem xqLenB {w0 w : World} {S0 : Nat → Prop} {g r k : Nat} {l t : List Ixr} (h : Bx w0 S0 g r k l t w) (hl : l.length ≤ 100000) (s : Int) : Calls Try.prog 9 #[.pointer (some ⟨g, 0, none⟩), .int .i64 s] w fun e w' => e = .returned (.int .i64 ((ixIs l s).length : Nat)) ∧ Below w.heap.size w w' := by
  obtain ⟨Sp, Sr, h1, h2, h3, h4⟩ := h.both
  exact xlen_any s h1 hl
set_option maxRecDepth 8000 in
set_option maxHeartbeats 8000000 in
theorem iplays_any (ao : Option Addr) (cap : Nat) (l : List Iac) (W : World) (hL : Iacs W ao cap l) (hF : ∀ m ∈ l, m.Fit) :
    Calls Try.prog 3 #[.slice ao l.length cap] W fun e w' => e = .returned (.bool true) ∧ Below W.heap.size W w' := by
  have cA := fun w => alive_any w
  have hl2 := hL.top
  unfold maxLen at hl2
  by_cases h200 : 200 < l.length
  · go_enter Try.func3, Try.ntmps3
    go_wp2_with (go_at_call 6; refine (cA _).mono ?_; rintro e w4 ⟨rfl, hb4⟩)
    all_goals go_ret
    all_goals exact ⟨rfl, hb4⟩
  have d200 : decide ((200 : Int) < (l.length : Int)) = false := decide_eq_false (by omega)
  have hll : l.length ≤ 200 := by omega
  clear h200
  have c1 := xnew_any W
  go_enter Try.func3, Try.ntmps3
  go_wp2_with (go_at_call 7; refine c1.mono ?_; rintro e w1 ⟨g, Sp, rfl, hP, hSp, hb1⟩; clear c1; have k0 := Bx.start hP hSp hb1; clear hP hSp hb1; generalize hs0 : ([] : List Ixr) = s0 at k0; have hz0 : s0.length = 0 := (by rw [← hs0]; rfl); clear hs0)
  go_loopg [5] l.length (fun j p5 wr => ∃ (q : Nat) (s : List Ixr), q + j = l.length ∧ p5 = .int .i64 (q : Int) ∧ Hid (s.length ≤ q) ∧ Bx W (fun _ => False) g w1.heap.size q s s wr)
  case atStart => exact ⟨0, s0, by omega, rfl, Lib.hid (by omega), k0⟩
  case round =>
    clear k0 hz0
    generalize w1.heap.size = r at *
    obtain ⟨q, s, hqj, rfl, hs, k⟩ := hrel
    by_cases hj : q < l.length
    · obtain ⟨a, hm⟩ : ∃ a, l[q]? = some a := ⟨l[q], List.getElem?_eq_getElem hj⟩
      have hfit := hF a (List.mem_of_getElem? hm)
      have hb := k.bel
      obtain ⟨b, off, rfl, hyy⟩ : ∃ b off, ao = some ⟨b, off, none⟩ ∧ ∀ w, Below W.heap.size W w → w.cell? ⟨b, off + q * 4, none⟩ = some (.int .i64 a.kind) ∧ w.cell? ⟨b, off + q * 4 + 1, none⟩ = some (.int .i64 a.sym) ∧ w.cell? ⟨b, off + q * 4 + 2, none⟩ = some (.int .i64 a.slot) ∧ w.cell? ⟨b, off + q * 4 + 3, none⟩ = some (.int .i64 a.id) := by
        obtain ⟨b, off, e, -⟩ := hL.get hm
        refine ⟨b, off, e, fun w hw => ?_⟩
        obtain ⟨b', off', e', y0, y1, y2, y3⟩ := (hL.below hw).get hm
        rw [e] at e'
        cases e'
        exact ⟨y0, y1, y2, y3⟩
      obtain ⟨y0, y1, y2, y3⟩ := hyy wr hb
      have hy3 := fun w (h : Bx W (fun _ => False) g r (q + 1) (ixAct s a) (ixAct s a) w) => hyy w h.bel
      have hsl := hs.out
      have cX := iact_any (k.below ((Below.refl _ _).drew)) (by omega) (by omega) a hfit
      have hal := ixAct_len s a
      have hs2 := Lib.hid (show (ixAct s a).length ≤ q + 1 by omega)
      have hsm : (ixAct s a).length ≤ 100000 := by omega
      clear hal hsl
      generalize ixAct s a = s' at *
      obtain ⟨kind, sym, slot, id⟩ := a
      have hcL := fun w (h : Bx W (fun _ => False) g r (q + 1) s' s' w) => (xqLenB h hsm sym)
      have hcO := fun w (h : Bx W (fun _ => False) g r (q + 1) s' s' w) => (xqOf h hsm sym)
      have hnb : (ixIs s' sym).length ≤ 100000 := Nat.le_trans (List.length_filter_le _ _) hsm
      generalize (ixIs s' sym).length = n at *
      simp only at y0 y1 y2 y3 hy3
      have hql : (q : Int) < (l.length : Int) := by omega
      clear hyy hm hb hs k hL cA hfit hF hsm
      go_wp2_with fail
      refine GoL.start (S := fun _ w => w.cell? ⟨b, off + q * 4, none⟩ = some (.int .i64 kind) ∧ w.cell? ⟨b, off + q * 4 + 1, none⟩ = some (.int .i64 sym) ∧ w.cell? ⟨b, off + q * 4 + 2, none⟩ = some (.int .i64 slot) ∧ w.cell? ⟨b, off + q * 4 + 3, none⟩ = some (.int .i64 id)) (by kernel_rfl) ⟨y0, y1, y2, y3⟩ ?_
      clear y0 y1 y2 y3
      refine GoL.take (i := 0) (v := ?_) rfl rfl (by kernel_rfl) (fun _ _ _ h => h) (fun _ _ => Iff.rfl) (by rfl) ?_ ?_
      rotate_left
      · intro wx hwx
        go_simp
        try with_reducible rfl
      try simp only [Act.put, List.setIfInBounds_toArray, List.set_cons_zero, List.set_cons_succ, List.getElem_toArray, List.getElem_cons_zero, List.getElem_cons_succ, Nat.zero_add, List.nil_append]
      refine GoL.take (i := 1) (v := ?_) rfl rfl (by kernel_rfl) (fun _ _ _ h => h) (fun _ _ => Iff.rfl) (by rfl) ?_ ?_
      rotate_left
      · intro wx hwx
        go_simp
        try with_reducible rfl
      try simp only [Act.put, List.setIfInBounds_toArray, List.set_cons_zero, List.set_cons_succ, List.getElem_toArray, List.getElem_cons_zero, List.getElem_cons_succ, Nat.zero_add, List.nil_append]
      refine GoL.take (i := 2) (v := ?_) rfl rfl (by kernel_rfl) (fun _ _ _ h => h) (fun _ _ => Iff.rfl) (by rfl) ?_ ?_
      rotate_left
      · intro wx hwx
        go_simp
        try with_reducible rfl
      try simp only [Act.put, List.setIfInBounds_toArray, List.set_cons_zero, List.set_cons_succ, List.getElem_toArray, List.getElem_cons_zero, List.getElem_cons_succ, Nat.zero_add, List.nil_append]
      refine GoL.take (i := 3) (v := ?_) rfl rfl (by kernel_rfl) (fun _ _ _ h => h) (fun _ _ => Iff.rfl) (by rfl) ?_ ?_
      rotate_left
      · intro wx hwx
        go_simp
        try with_reducible rfl
      try simp only [Act.put, List.setIfInBounds_toArray, List.set_cons_zero, List.set_cons_succ, List.getElem_toArray, List.getElem_cons_zero, List.getElem_cons_succ, Nat.zero_add, List.nil_append]
      refine GoL.take (i := 4) (v := ?_) rfl rfl (by kernel_rfl) (fun _ _ _ h => h) (fun _ _ => Iff.rfl) (by rfl) ?_ ?_
      rotate_left
      · intro wx hwx
        go_simp
        try with_reducible rfl
      try simp only [Act.put, List.setIfInBounds_toArray, List.set_cons_zero, List.set_cons_succ, List.getElem_toArray, List.getElem_cons_zero, List.getElem_cons_succ, Nat.zero_add, List.nil_append]
      refine GoL.take (i := 5) (v := ?_) rfl rfl (by kernel_rfl) (fun _ _ _ h => h) (fun _ _ => Iff.rfl) (by rfl) ?_ ?_
      rotate_left
      · intro wx hwx
        have x0 := hwx.at'
        obtain ⟨y0, y1, y2, y3⟩ := x0
        go_simp
        try with_reducible rfl
      try simp only [Act.put, List.setIfInBounds_toArray, List.set_cons_zero, List.set_cons_succ, List.getElem_toArray, List.getElem_cons_zero, List.getElem_cons_succ, Nat.zero_add, List.nil_append]
      refine GoL.on (rs := [6]) (by kernel_rfl) (by decide) ?_
      refine OnL.cons rfl ?_ OnL.nil
      intro K hK
      replace hK := Lib.hid hK
      go_simp
      refine (cX).mono ?_
      rintro e wz ⟨rfl, k3⟩
      clear cX
      refine hK.out _ _ (hy3 _ k3) ?_
      clear hK
      try simp only [Act.put, List.setIfInBounds_toArray, List.set_cons_zero, List.set_cons_succ, List.getElem_toArray, List.getElem_cons_zero, List.getElem_cons_succ, Nat.zero_add, List.nil_append]
      have hy4 := fun w (hb : Below wz.heap.size wz w) => hy3 _ (k3.below hb)
      have cLen := fun w (hb : Below wz.heap.size wz w) => hcL w (k3.below hb)
      have cOf := fun w (hb : Below wz.heap.size wz w) => hcO w (k3.below hb)
      refine GoL.to (S' := fun _ w => Below wz.heap.size wz w) (fun _ w e => hy4 w e) (Below.refl _ _) ?_
      clear hy3 hcL hcO
      refine GoL.take (i := 7) (v := ?_) rfl rfl (by kernel_rfl) (fun _ _ _ h => h) (fun _ _ => Iff.rfl) (by rfl) ?_ ?_
      rotate_left
      · intro wx hwx
        go_simp
        try with_reducible rfl
      try simp only [Act.put, List.setIfInBounds_toArray, List.set_cons_zero, List.set_cons_succ, List.getElem_toArray, List.getElem_cons_zero, List.getElem_cons_succ, Nat.zero_add, List.nil_append]
      refine GoL.take (i := 8) (v := ?_) rfl rfl (by kernel_rfl) (fun _ _ _ h => h) (fun _ _ => Iff.rfl) (by rfl) ?_ ?_
      rotate_left
      · intro wx hwx
        go_simp
        try with_reducible rfl
      try simp only [Act.put, List.setIfInBounds_toArray, List.set_cons_zero, List.set_cons_succ, List.getElem_toArray, List.getElem_cons_zero, List.getElem_cons_succ, Nat.zero_add, List.nil_append]
      refine GoL.take (i := 9) (v := ?_) rfl rfl (by kernel_rfl) (fun _ _ _ h => h) (fun _ _ => Iff.rfl) (by rfl) ?_ ?_
      rotate_left
      · intro wx hwx
        go_simp
        try with_reducible rfl
      try simp only [Act.put, List.setIfInBounds_toArray, List.set_cons_zero, List.set_cons_succ, List.getElem_toArray, List.getElem_cons_zero, List.getElem_cons_succ, Nat.zero_add, List.nil_append]
      refine GoL.take (i := 10) (v := ?_) rfl rfl (by kernel_rfl) (fun _ _ _ h => h) (fun _ _ => Iff.rfl) (by rfl) ?_ ?_
      rotate_left
      · intro wx hwx
        go_simp
        try with_reducible rfl
      try simp only [Act.put, List.setIfInBounds_toArray, List.set_cons_zero, List.set_cons_succ, List.getElem_toArray, List.getElem_cons_zero, List.getElem_cons_succ, Nat.zero_add, List.nil_append]
      refine GoL.take (i := 11) (v := ?_) rfl rfl (by kernel_rfl) (fun _ _ _ h => h) (fun _ _ => Iff.rfl) (by rfl) ?_ ?_
      rotate_left
      · intro wx hwx
        go_simp
        try with_reducible rfl
      try simp only [Act.put, List.setIfInBounds_toArray, List.set_cons_zero, List.set_cons_succ, List.getElem_toArray, List.getElem_cons_zero, List.getElem_cons_succ, Nat.zero_add, List.nil_append]
      refine GoL.take (i := 12) (v := ?_) rfl rfl (by kernel_rfl) (fun _ _ _ h => h) (fun _ _ => Iff.rfl) (by rfl) ?_ ?_
      rotate_left
      · intro wx hwx
        go_simp
        try with_reducible rfl
      try simp only [Act.put, List.setIfInBounds_toArray, List.set_cons_zero, List.set_cons_succ, List.getElem_toArray, List.getElem_cons_zero, List.getElem_cons_succ, Nat.zero_add, List.nil_append]
      refine GoL.take (i := 13) (v := ?_) rfl rfl (by kernel_rfl) (fun _ _ _ h => h) (fun _ _ => Iff.rfl) (by rfl) ?_ ?_
      rotate_left
      · intro wx hwx
        go_simp
        try with_reducible rfl
      try simp only [Act.put, List.setIfInBounds_toArray, List.set_cons_zero, List.set_cons_succ, List.getElem_toArray, List.getElem_cons_zero, List.getElem_cons_succ, Nat.zero_add, List.nil_append]
      refine GoL.take (i := 14) (v := ?_) rfl rfl (by kernel_rfl) (fun _ _ _ h => h) (fun _ _ => Iff.rfl) (by rfl) ?_ ?_
      rotate_left
      · intro wx hwx
        obtain ⟨y0, y1, y2, y3⟩ := hy4 _ hwx.at'
        go_simp
        try with_reducible rfl
      try simp only [Act.put, List.setIfInBounds_toArray, List.set_cons_zero, List.set_cons_succ, List.getElem_toArray, List.getElem_cons_zero, List.getElem_cons_succ, Nat.zero_add, List.nil_append]
      refine GoL.take (i := 16) (v := ?_) rfl rfl (by kernel_rfl) (fun _ _ _ h => h) (fun _ _ => Iff.rfl) (by rfl) ?_ ?_
      rotate_left
      · intro wx hwx
        go_simp
        try with_reducible rfl
      try simp only [Act.put, List.setIfInBounds_toArray, List.set_cons_zero, List.set_cons_succ, List.getElem_toArray, List.getElem_cons_zero, List.getElem_cons_succ, Nat.zero_add, List.nil_append]
      refine GoL.take (i := 17) (v := ?_) rfl rfl (by kernel_rfl) (fun _ _ _ h => h) (fun _ _ => Iff.rfl) (by rfl) ?_ ?_
      rotate_left
      · intro wx hwx
        go_simp
        try with_reducible rfl
      try simp only [Act.put, List.setIfInBounds_toArray, List.set_cons_zero, List.set_cons_succ, List.getElem_toArray, List.getElem_cons_zero, List.getElem_cons_succ, Nat.zero_add, List.nil_append]
      refine GoL.take (i := 18) (v := ?_) rfl rfl (by kernel_rfl) (fun _ _ _ h => h) (fun _ _ => Iff.rfl) (by rfl) ?_ ?_
      rotate_left
      · intro wx hwx
        go_simp
        try with_reducible rfl
      try simp only [Act.put, List.setIfInBounds_toArray, List.set_cons_zero, List.set_cons_succ, List.getElem_toArray, List.getElem_cons_zero, List.getElem_cons_succ, Nat.zero_add, List.nil_append]
      refine GoL.take (i := 19) (v := ?_) rfl rfl (by kernel_rfl) (fun _ _ _ h => h) (fun _ _ => Iff.rfl) (by rfl) ?_ ?_
      rotate_left
      · intro wx hwx
        go_simp
        try with_reducible rfl
      try simp only [Act.put, List.setIfInBounds_toArray, List.set_cons_zero, List.set_cons_succ, List.getElem_toArray, List.getElem_cons_zero, List.getElem_cons_succ, Nat.zero_add, List.nil_append]
      refine GoL.take (i := 20) (v := ?_) rfl rfl (by kernel_rfl) (fun _ _ _ h => h) (fun _ _ => Iff.rfl) (by rfl) ?_ ?_
      rotate_left
      · intro wx hwx
        go_simp
        try with_reducible rfl
      try simp only [Act.put, List.setIfInBounds_toArray, List.set_cons_zero, List.set_cons_succ, List.getElem_toArray, List.getElem_cons_zero, List.getElem_cons_succ, Nat.zero_add, List.nil_append]
      refine GoL.take (i := 21) (v := ?_) rfl rfl (by kernel_rfl) (fun _ _ _ h => h) (fun _ _ => Iff.rfl) (by rfl) ?_ ?_
      rotate_left
      · intro wx hwx
        obtain ⟨y0, y1, y2, y3⟩ := hy4 _ hwx.at'
        go_simp
        try with_reducible rfl
      try simp only [Act.put, List.setIfInBounds_toArray, List.set_cons_zero, List.set_cons_succ, List.getElem_toArray, List.getElem_cons_zero, List.getElem_cons_succ, Nat.zero_add, List.nil_append]
      refine GoL.on (rs := [15]) (by kernel_rfl) (by decide) ?_
      refine OnL.cons rfl ?_ OnL.nil
      intro K hK
      replace hK := Lib.hid hK
      go_simp
      refine (cLen _ (Below.refl _ _)).mono ?_
      rintro e wy ⟨rfl, hb6⟩
      refine hK.out _ _ hb6 ?_
      clear hK
      try simp only [Act.put, List.setIfInBounds_toArray, List.set_cons_zero, List.set_cons_succ, List.getElem_toArray, List.getElem_cons_zero, List.getElem_cons_succ, Nat.zero_add, List.nil_append]
      refine GoL.on (rs := [22]) (by kernel_rfl) (by decide) ?_
      refine OnL.cons rfl ?_ OnL.nil
      intro K hK
      replace hK := Lib.hid hK
      go_simp
      refine (cOf _ hb6).mono ?_
      rintro e wv ⟨ao5, cap5, rfl, hb6b⟩
      have hb7 := hb6.trans (hb6b.mono hb6.size)
      clear hb6b
      refine hK.out _ _ hb7 ?_
      clear hK
      try simp only [Act.put, List.setIfInBounds_toArray, List.set_cons_zero, List.set_cons_succ, List.getElem_toArray, List.getElem_cons_zero, List.getElem_cons_succ, Nat.zero_add, List.nil_append]
      refine GoL.take (i := 23) (v := ?_) rfl rfl (by kernel_rfl) (fun _ _ _ h => h) (fun _ _ => Iff.rfl) (by rfl) ?_ ?_
      rotate_left
      · intro wx hwx
        go_simp
        try with_reducible rfl
      try simp only [Act.put, List.setIfInBounds_toArray, List.set_cons_zero, List.set_cons_succ, List.getElem_toArray, List.getElem_cons_zero, List.getElem_cons_succ, Nat.zero_add, List.nil_append]
      refine GoL.take (i := 24) (v := ?_) rfl rfl (by kernel_rfl) (fun _ _ _ h => h) (fun _ _ => Iff.rfl) (by rfl) ?_ ?_
      rotate_left
      · intro wx hwx
        go_simp
        try with_reducible rfl
      try simp only [Act.put, List.setIfInBounds_toArray, List.set_cons_zero, List.set_cons_succ, List.getElem_toArray, List.getElem_cons_zero, List.getElem_cons_succ, Nat.zero_add, List.nil_append]
      refine GoL.take (i := 25) (v := ?_) rfl rfl (by kernel_rfl) (fun _ _ _ h => h) (fun _ _ => Iff.rfl) (by rfl) ?_ ?_
      rotate_left
      · intro wx hwx
        go_simp
        try with_reducible rfl
      try simp only [Act.put, List.setIfInBounds_toArray, List.set_cons_zero, List.set_cons_succ, List.getElem_toArray, List.getElem_cons_zero, List.getElem_cons_succ, Nat.zero_add, List.nil_append]
      refine GoL.done (by kernel_rfl) ?_
      refine NoPanic.normal ?_
      have k9 := k3.below hb7
      clear hy4 k3 cLen cOf hb6 hb7
      go_wp2_with fail
      go_roundg (l.length - (q + 1))
      case measure => omega
      case rel => exact ⟨q + 1, s', by omega, by go_num, hs2, k9⟩
    · clear hF hL hs
      have cA' := cA wr
      clear cA
      go_wp2_with (go_at_call 6; (with_reducible refine cA'.mono ?_); rintro e w4 ⟨rfl, hb4⟩)
      all_goals go_ret
      all_goals exact ⟨rfl, (k.below hb4).bel⟩
end Go.Proofs.Ytbfidpngpdaieaa
