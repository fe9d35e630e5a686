/-
  Like of stage 14's law. (Written by gen/p_mli.py.)
-/
import Derived.Test.YtdmjcjheanedgaaDoorGZ
import Derived.Test.YtdmjcjheanedgaaDoorGJ
import Derived.Test.YtdmjcjheanedgaaDoorGC
namespace Go.Proofs.YtdmjcjheanedgaaDoor
open Go.RowKit
set_option linter.unusedSimpArgs false
set_option maxRecDepth 8000 in
set_option maxHeartbeats 8000000 in
theorem like_any {W : World} {g r k : Nat} {Sp Sr : Nat → Prop} {b : Bk} (hp : PB W g Sp k b) (hr : RK W r Sr b) : Calls Tryd.prog 12 #[.pointer (some ⟨g, 0, none⟩), .pointer (some ⟨r, 0, none⟩)] W fun e w' => e = .returned (.bool true) ∧ Below W.heap.size W w' := by
  have hok := hp.ok
  obtain ⟨ko, ao, cap, hr⟩ := hr
  have hC := fun w (h : Below W.heap.size W w) => (hr.below h).c2
  have hRw := fun w (h : Below W.heap.size W w) => (hr.below h).rows
  have hn5 : b.L.length ≤ 500 := by
    have := hok.len
    have := hok.s2
    omega
  have cL : ∀ w, Below W.heap.size W w → Calls Tryd.prog 26 #[.pointer (some ⟨g, 0, none⟩)] w fun e w' => e = .returned (.int .i64 (b.L.length : Nat)) ∧ Below W.heap.size W w' := fun w h => (pb_len (hp.below h)).mono fun e w' q => ⟨q.1, h.trans (q.2.mono h.size)⟩
  have cG : ∀ w, Below W.heap.size W w → ∀ (i : Nat) (x : Ord), b.L[i]? = some x → Calls Tryd.prog 27 #[.pointer (some ⟨g, 0, none⟩), .int .i64 x.id] w fun e w' => e = .returned (.tuple #[vOrd x, .bool true]) ∧ Below w.heap.size w w' := by
    intro w h i x hx
    have hm := List.mem_of_getElem? hx
    have := pb_get x.id (hok.ok x hm).fit.id (hp.below h)
    have e : b.get x.id = some x := by unfold Bk.get; rw [hok.u.at' hx]; simp [hx]
    rw [e] at this
    exact this
  obtain ⟨n, hn⟩ : ∃ n, n = b.L.length := ⟨_, rfl⟩
  rw [← hn] at cL hn5
  simp only [← hn] at hC
  replace hn := Lib.hid hn
  clear hp hr hok
  go_enter Tryd.func12, Tryd.ntmps12
  go_wp2_with fail
  refine wp_region_S (S := (fun _ w => Below W.heap.size W w)) (by kernel_rfl) (Below.refl _ _).drew ?_
  refine AllS.next (v := ?_) rfl rfl rfl (by kernel_rfl) ?_ ?_
  rotate_left
  · refine yieldsS_run (fun _ _ h => h) (by rfl) ?_
    intro L wx hS
    go_simp
    try with_reducible rfl
  try simp only [Act.put, List.setIfInBounds_toArray, List.set_cons_zero, List.set_cons_succ, List.getElem_toArray, List.getElem_cons_zero, List.getElem_cons_succ]
  refine AllS.next (v := (.int .i64 (n : Int))) rfl rfl rfl (by kernel_rfl) ?_ ?_
  · refine yieldsS_call (f := 26) (args := #[.pointer (some ⟨g, 0, none⟩)]) (by rfl) ?_ ?_
    · intro wx
      go_simp
      try with_reducible rfl
    · intro L wx hS
      exact cL wx hS
  try simp only [Act.put, List.setIfInBounds_toArray, List.set_cons_zero, List.set_cons_succ, List.getElem_toArray, List.getElem_cons_zero, List.getElem_cons_succ]
  refine AllS.next (v := ?_) rfl rfl rfl (by kernel_rfl) ?_ ?_
  rotate_left
  · refine yieldsS_run (fun _ _ h => h) (by rfl) ?_
    intro L wx hS
    go_simp
    try with_reducible rfl
  try simp only [Act.put, List.setIfInBounds_toArray, List.set_cons_zero, List.set_cons_succ, List.getElem_toArray, List.getElem_cons_zero, List.getElem_cons_succ]
  refine AllS.next (v := ?_) rfl rfl rfl (by kernel_rfl) ?_ ?_
  rotate_left
  · refine yieldsS_run (fun _ _ h => h) (by rfl) ?_
    intro L wx hS
    have c2 := hC _ hS
    go_simp
    try with_reducible rfl
  try simp only [Act.put, List.setIfInBounds_toArray, List.set_cons_zero, List.set_cons_succ, List.getElem_toArray, List.getElem_cons_zero, List.getElem_cons_succ]
  refine AllS.next (v := ?_) rfl rfl rfl (by kernel_rfl) ?_ ?_
  rotate_left
  · refine yieldsS_run (fun _ _ h => h) (by rfl) ?_
    intro L wx hS
    go_simp
    try with_reducible rfl
  try simp only [Act.put, List.setIfInBounds_toArray, List.set_cons_zero, List.set_cons_succ, List.getElem_toArray, List.getElem_cons_zero, List.getElem_cons_succ]
  refine AllS.next (v := ?_) rfl rfl rfl (by kernel_rfl) ?_ ?_
  rotate_left
  · refine yieldsS_run (fun _ _ h => h) (by rfl) ?_
    intro L wx hS
    have c2 := hC _ hS
    go_simp
    try with_reducible rfl
  try simp only [Act.put, List.setIfInBounds_toArray, List.set_cons_zero, List.set_cons_succ, List.getElem_toArray, List.getElem_cons_zero, List.getElem_cons_succ]
  refine AllS.next (v := (.int .i64 (n : Int))) rfl rfl rfl (by kernel_rfl) ?_ ?_
  · refine yieldsS_run (fun _ _ h => h) (by rfl) ?_
    intro L wx hS
    go_simp
    all_goals first
      | done
      | with_reducible rfl
      | assumption
      | (simp_all; done)
  try simp only [Act.put, List.setIfInBounds_toArray, List.set_cons_zero, List.set_cons_succ, List.getElem_toArray, List.getElem_cons_zero, List.getElem_cons_succ]
  refine AllS.next (v := (.bool false)) rfl rfl rfl (by kernel_rfl) ?_ ?_
  · refine yieldsS_run (fun _ _ h => h) (by rfl) ?_
    intro L wx hS
    go_simp
    all_goals first
      | done
      | with_reducible rfl
      | assumption
      | (simp_all; done)
  try simp only [Act.put, List.setIfInBounds_toArray, List.set_cons_zero, List.set_cons_succ, List.getElem_toArray, List.getElem_cons_zero, List.getElem_cons_succ]
  refine AllS.done (by kernel_rfl) ?_
  intro w1 b1
  go_wp2_with fail
  go_loopg [5] n (fun j p5 wr => ∃ (q : Nat), q + j = n ∧ p5 = .int .i64 (q : Int) ∧ Below W.heap.size W wr)
  case atStart => exact ⟨0, by omega, rfl, b1⟩
  case round =>
    clear b1
    obtain ⟨q, hqj, rfl, br⟩ := hrel
    have c2 := hC _ br
    by_cases hqn : q < n
    · obtain ⟨x, hx⟩ : ∃ x, b.L[q]? = some x := ⟨_, List.getElem?_eq_getElem (by rw [← hn.out]; exact hqn)⟩
      have hql : (q : Int) < (n : Int) := by omega
      obtain ⟨bo, off, rfl, u0, u1, u2, u3, u4, u5, u6⟩ := (hRw _ br).get hx
      replace u0 : wr.cell? ⟨bo, off + q * 7, none⟩ = some (.int .i64 x.id) := u0
      have hY0 : ∀ w, Below W.heap.size W w → w.cell? ⟨bo, off + q * 7, none⟩ = some (.int .i64 x.id) ∧ w.cell? ⟨bo, off + q * 7 + 1, none⟩ = some (.int .i64 x.owner) ∧ w.cell? ⟨bo, off + q * 7 + 2, none⟩ = some (.int .i64 x.side) ∧ w.cell? ⟨bo, off + q * 7 + 3, none⟩ = some (.int .i64 x.price) ∧ w.cell? ⟨bo, off + q * 7 + 4, none⟩ = some (.int .i64 x.qty) ∧ w.cell? ⟨bo, off + q * 7 + 5, none⟩ = some (.int .i64 x.flags) ∧ w.cell? ⟨bo, off + q * 7 + 6, none⟩ = some (.int .i64 x.seq) := fun w h => by
        obtain ⟨bo', off', e, v0, v1, v2, v3, v4, v5, v6⟩ := (hRw _ h).get hx
        cases e
        exact ⟨v0, v1, v2, v3, v4, v5, v6⟩
      have cG1 := cG wr br q x hx
      have hE := neq_Ord x x
      rw [eqOrd_self] at hE
      simp only [vOrd, Bool.not_true] at hE cG1
      have hbox : ∀ w5, Below wr.heap.size wr w5 → ∃ w6, w6 = w5.alloc (.cells (cOrd x) 44) ∧ Below W.heap.size W w6 ∧ (∀ w, Below w6.heap.size w6 w → w.cell? ⟨w5.heap.size, 0, none⟩ = some (.int .i64 x.id) ∧ w.cell? ⟨w5.heap.size, 1, none⟩ = some (.int .i64 x.owner) ∧ w.cell? ⟨w5.heap.size, 2, none⟩ = some (.int .i64 x.side) ∧ w.cell? ⟨w5.heap.size, 3, none⟩ = some (.int .i64 x.price) ∧ w.cell? ⟨w5.heap.size, 4, none⟩ = some (.int .i64 x.qty) ∧ w.cell? ⟨w5.heap.size, 5, none⟩ = some (.int .i64 x.flags) ∧ w.cell? ⟨w5.heap.size, 6, none⟩ = some (.int .i64 x.seq)) := fun w5 h => by
        have hB : Blk (w5.alloc (.cells (cOrd x) 44)) w5.heap.size 44 (cOrd x) := Blk.new _ _ _
        have hb := br.trans (h.mono br.size)
        exact ⟨_, rfl, hb.alloc hb.size _, fun w hw => Ord.cells (hB.below hw hB.lt)⟩
      replace hqj := Lib.hid hqj
      clear hx cG hRw cL
      obtain ⟨x0, x1, x2, x3, x4, x5, x6⟩ := x
      simp only at u0 u1 u2 u3 u4 u5 u6 hY0 cG1 hE hbox
      simp only [cOrd] at hbox
      go_wp2_with (first
        | (go_at_call 27; refine cG1.mono ?_; rintro e w5 ⟨rfl, hb5⟩; clear cG1 u0 u1 u2 u3 u4 u5 u6 c2; obtain ⟨w6, hw6, b6, hO⟩ := hbox _ hb5; clear hbox hb5)
        | (rw [← hw6]; clear hw6)
        | fail)
      have hC6 := fun w (h : Below w6.heap.size w6 w) => hC w (b6.trans (h.mono b6.size))
      have hY := fun w (h : Below w6.heap.size w6 w) => hY0 w (b6.trans (h.mono b6.size))
      refine wp_region_S (S := (fun _ w => Below w6.heap.size w6 w)) (by kernel_rfl) (Below.refl _ _).drew ?_
      refine AllS.next (v := ?_) rfl rfl rfl (by kernel_rfl) ?_ ?_
      rotate_left
      · refine yieldsS_run (fun _ _ h => h) (by rfl) ?_
        intro L wx hS
        go_simp
        try with_reducible rfl
      try simp only [Act.put, List.setIfInBounds_toArray, List.set_cons_zero, List.set_cons_succ, List.getElem_toArray, List.getElem_cons_zero, List.getElem_cons_succ]
      refine AllS.next (v := (.bool false)) rfl rfl rfl (by kernel_rfl) ?_ ?_
      · refine yieldsS_run (fun _ _ h => h) (by rfl) ?_
        intro L wx hS
        go_simp
        all_goals first
          | done
          | with_reducible rfl
          | assumption
          | (simp_all; done)
      try simp only [Act.put, List.setIfInBounds_toArray, List.set_cons_zero, List.set_cons_succ, List.getElem_toArray, List.getElem_cons_zero, List.getElem_cons_succ]
      refine AllS.next (v := ?_) rfl rfl rfl (by kernel_rfl) ?_ ?_
      rotate_left
      · refine yieldsS_run (fun _ _ h => h) (by rfl) ?_
        intro L wx hS
        go_simp
        try with_reducible rfl
      try simp only [Act.put, List.setIfInBounds_toArray, List.set_cons_zero, List.set_cons_succ, List.getElem_toArray, List.getElem_cons_zero, List.getElem_cons_succ]
      refine AllS.next (v := ?_) rfl rfl rfl (by kernel_rfl) ?_ ?_
      rotate_left
      · refine yieldsS_run (fun _ _ h => h) (by rfl) ?_
        intro L wx hS
        obtain ⟨o0, o1, o2, o3, o4, o5, o6⟩ := hO _ hS
        go_simp
        try with_reducible rfl
      try simp only [Act.put, List.setIfInBounds_toArray, List.set_cons_zero, List.set_cons_succ, List.getElem_toArray, List.getElem_cons_zero, List.getElem_cons_succ]
      refine AllS.next (v := ?_) rfl rfl rfl (by kernel_rfl) ?_ ?_
      rotate_left
      · refine yieldsS_run (fun _ _ h => h) (by rfl) ?_
        intro L wx hS
        go_simp
        try with_reducible rfl
      try simp only [Act.put, List.setIfInBounds_toArray, List.set_cons_zero, List.set_cons_succ, List.getElem_toArray, List.getElem_cons_zero, List.getElem_cons_succ]
      refine AllS.next (v := ?_) rfl rfl rfl (by kernel_rfl) ?_ ?_
      rotate_left
      · refine yieldsS_run (fun _ _ h => h) (by rfl) ?_
        intro L wx hS
        have c2 := hC6 _ hS
        go_simp
        try with_reducible rfl
      try simp only [Act.put, List.setIfInBounds_toArray, List.set_cons_zero, List.set_cons_succ, List.getElem_toArray, List.getElem_cons_zero, List.getElem_cons_succ]
      refine AllS.next (v := ?_) rfl rfl rfl (by kernel_rfl) ?_ ?_
      rotate_left
      · refine yieldsS_run (fun _ _ h => h) (by rfl) ?_
        intro L wx hS
        go_simp
        try with_reducible rfl
      try simp only [Act.put, List.setIfInBounds_toArray, List.set_cons_zero, List.set_cons_succ, List.getElem_toArray, List.getElem_cons_zero, List.getElem_cons_succ]
      refine AllS.next (v := ?_) rfl rfl rfl (by kernel_rfl) ?_ ?_
      rotate_left
      · refine yieldsS_run (fun _ _ h => h) (by rfl) ?_
        intro L wx hS
        have c2 := hC6 _ hS
        go_simp
        try with_reducible rfl
      try simp only [Act.put, List.setIfInBounds_toArray, List.set_cons_zero, List.set_cons_succ, List.getElem_toArray, List.getElem_cons_zero, List.getElem_cons_succ]
      refine AllS.next (v := ?_) rfl rfl rfl (by kernel_rfl) ?_ ?_
      rotate_left
      · refine yieldsS_run (fun _ _ h => h) (by rfl) ?_
        intro L wx hS
        go_simp
        try with_reducible rfl
      try simp only [Act.put, List.setIfInBounds_toArray, List.set_cons_zero, List.set_cons_succ, List.getElem_toArray, List.getElem_cons_zero, List.getElem_cons_succ]
      refine AllS.next (v := ?_) rfl rfl rfl (by kernel_rfl) ?_ ?_
      rotate_left
      · refine yieldsS_run (fun _ _ h => h) (by rfl) ?_
        intro L wx hS
        go_simp
        try with_reducible rfl
      try simp only [Act.put, List.setIfInBounds_toArray, List.set_cons_zero, List.set_cons_succ, List.getElem_toArray, List.getElem_cons_zero, List.getElem_cons_succ]
      refine AllS.next (v := ?_) rfl rfl rfl (by kernel_rfl) ?_ ?_
      rotate_left
      · refine yieldsS_run (fun _ _ h => h) (by rfl) ?_
        intro L wx hS
        obtain ⟨y0, y1, y2, y3, y4, y5, y6⟩ := hY _ hS
        go_simp
        try with_reducible rfl
      try simp only [Act.put, List.setIfInBounds_toArray, List.set_cons_zero, List.set_cons_succ, List.getElem_toArray, List.getElem_cons_zero, List.getElem_cons_succ]
      refine AllS.next (v := (.bool false)) rfl rfl rfl (by kernel_rfl) ?_ ?_
      · refine yieldsS_run (fun _ _ h => h) (by rfl) ?_
        intro L wx hS
        go_simp
        all_goals first
          | done
          | with_reducible rfl
          | assumption
          | (simp_all; done)
      try simp only [Act.put, List.setIfInBounds_toArray, List.set_cons_zero, List.set_cons_succ, List.getElem_toArray, List.getElem_cons_zero, List.getElem_cons_succ]
      refine AllS.next (v := (.bool false)) rfl rfl rfl (by kernel_rfl) ?_ ?_
      · refine yieldsS_run (fun _ _ h => h) (by rfl) ?_
        intro L wx hS
        go_simp
        all_goals first
          | done
          | with_reducible rfl
          | assumption
          | (simp_all; done)
      try simp only [Act.put, List.setIfInBounds_toArray, List.set_cons_zero, List.set_cons_succ, List.getElem_toArray, List.getElem_cons_zero, List.getElem_cons_succ]
      refine AllS.done (by kernel_rfl) ?_
      intro w7 b7
      have b8 := b6.trans (b7.mono b6.size)
      clear hC6 hY hY0 hO b7 hE
      go_wp2_with fail
      go_roundg (n - (q + 1))
      case measure => have := hqj.out; omega
      case rel => exact ⟨q + 1, by have := hqj.out; omega, by go_num, b8⟩
    · have e : q = n := by omega
      subst e
      have hqn : ¬ (q : Int) < (q : Int) := by omega
      clear hC hRw cG cL hn
      go_wp2_with fail
      go_ret
      exact ⟨rfl, br⟩
end Go.Proofs.YtdmjcjheanedgaaDoor
