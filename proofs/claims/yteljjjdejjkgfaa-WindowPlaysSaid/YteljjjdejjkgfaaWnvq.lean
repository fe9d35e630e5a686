/-
  act of stage 19's law: the same on the program's window and on the document's. (Written by gen/p_wnv.py.)
-/
import Derived.Test.YteljjjdejjkgfaaWnfq
import Derived.Test.YteljjjdejjkgfaaDuoq
namespace Go.Proofs.Yteljjjdejjkgfaa
open Go.RowKit
set_option linter.unusedSimpArgs false
section
variable {W W0 : World} {S1 : Nat → Prop} {g r : Nat} {s : Wn}
theorem Wn.mean_ok (h : s.Ok) (t : Int) : (s.mean t).2.Ok := by
  have := h.act ⟨1, t, 0, 0, 0⟩
  unfold Wn.act at this
  simpa using this
theorem Wat.cell5 {w : World} {b : Nat} {T : TypeId} {m : Wat} (h : Blk w b T (cWat m)) : w.cell? ⟨b, 0, none⟩ = some (.int .i64 m.kind) ∧ w.cell? ⟨b, 1, none⟩ = some (.int .i64 m.tick) ∧ w.cell? ⟨b, 2, none⟩ = some (.int .i64 m.price) ∧ w.cell? ⟨b, 3, none⟩ = some (.int .i64 m.qty) ∧ w.cell? ⟨b, 4, none⟩ = some (.int .i64 m.bps) :=
  ⟨h.cell_eq 0 _ rfl, h.cell_eq 1 _ rfl, h.cell_eq 2 _ rfl, h.cell_eq 3 _ rfl, h.cell_eq 4 _ rfl⟩
set_option maxRecDepth 100000 in
set_option maxHeartbeats 8000000 in
theorem wact0_any (m : Wat) (hm : m.Fit) (hk : m.kind = 0) (h : Wk W S1 W0 g r s s) (hok : s.Ok) (hlen : s.L.length ≤ 1000000) :
    Calls Try.prog 10 #[.pointer (some ⟨g, 0, none⟩), .pointer (some ⟨r, 0, none⟩), vWat m] W0 fun e w' => e = .returned (.bool true) ∧ Wk W S1 w' g r (s.add m.tick m.price m.qty).2 (s.add m.tick m.price m.qty).2 := by
  obtain ⟨S2, k1, hbk⟩ := h.box (cWat m) 33
  have hbx := fun w' mp mr k => Wat.cell5 (hbk w' mp mr k).1
  have hfin := fun w' mp mr k => (hbk w' mp mr k).2
  obtain ⟨f0, f1, f2, f3, f4⟩ := hm
  obtain ⟨m0, m1, m2, m3, m4⟩ := m
  simp only at f0 f1 f2 f3 f4 hbx hk
  subst hk
  simp only [vWat, cWat] at k1 hbk hbx hfin ⊢
  obtain ⟨W2, hW2⟩ : ∃ W2, W2 = W0.alloc (.cells #[.int .i64 0, .int .i64 m1, .int .i64 m2, .int .i64 m3, .int .i64 m4] 33) := ⟨_, rfl⟩
  rw [← hW2] at k1 hbk hbx hfin
  have hb0 := hbx _ _ _ k1
  obtain ⟨b0, b1, b2, b3, b4⟩ := hb0
  replace hfin := Lib.hid hfin
  clear h hbk
  have cP := fun w mr (k : Wk W2 S2 w g r s mr) => Wk.addP m1 m2 m3 f1 f2 f3 hlen k
  have cR := fun w mp (k : Wk W2 S2 w g r mp s) => Wk.addR m1 m2 m3 hlen k
  obtain ⟨s2, hs2⟩ : ∃ s2, s2 = (s.add m1 m2 m3).2 := ⟨_, rfl⟩
  obtain ⟨v, hv⟩ : ∃ v, v = (s.add m1 m2 m3).1 := ⟨_, rfl⟩
  rw [← hs2]
  simp only [← hs2, ← hv] at cP cR
  clear hs2 hv
  go_enter Try.func10, Try.ntmps10
  go_wp2_with (first | (rw [← hW2]; clear hW2) | fail)
  · refine wp_region_S (S := Duo 18 7 15 (fun a b w => Wk W2 S2 w g r (if a = true then s2 else s) (if b = true then s2 else s))) (by kernel_rfl) (Duo.start _ _ _ (k1.keep (Below.refl _ _).drew)) ?_
    refine AllS.next (v := ?_) rfl rfl rfl (by kernel_rfl) ?_ ?_
    rotate_left
    · refine yieldsS_run (fun _ _ h => h.other (by decide) (by decide)) (by rfl) ?_
      intro L wx hS
      skip
      go_simp
      try with_reducible rfl
    try simp only [Act.put, List.setIfInBounds_toArray, List.set_cons_zero, List.set_cons_succ, List.getElem_toArray, List.getElem_cons_zero, List.getElem_cons_succ]
    refine AllS.next (v := ?_) rfl rfl rfl (by kernel_rfl) ?_ ?_
    rotate_left
    · refine yieldsS_run (fun _ _ h => h.other (by decide) (by decide)) (by rfl) ?_
      intro L wx hS
      skip
      go_simp
      try with_reducible rfl
    try simp only [Act.put, List.setIfInBounds_toArray, List.set_cons_zero, List.set_cons_succ, List.getElem_toArray, List.getElem_cons_zero, List.getElem_cons_succ]
    refine AllS.next (v := ?_) rfl rfl rfl (by kernel_rfl) ?_ ?_
    rotate_left
    · refine yieldsS_run (fun _ _ h => h.other (by decide) (by decide)) (by rfl) ?_
      intro L wx hS
      obtain ⟨x0, x1, x2, x3, x4⟩ := hbx _ _ _ hS.at'
      go_simp
      try with_reducible rfl
    try simp only [Act.put, List.setIfInBounds_toArray, List.set_cons_zero, List.set_cons_succ, List.getElem_toArray, List.getElem_cons_zero, List.getElem_cons_succ]
    refine AllS.next (v := ?_) rfl rfl rfl (by kernel_rfl) ?_ ?_
    rotate_left
    · refine yieldsS_run (fun _ _ h => h.other (by decide) (by decide)) (by rfl) ?_
      intro L wx hS
      skip
      go_simp
      try with_reducible rfl
    try simp only [Act.put, List.setIfInBounds_toArray, List.set_cons_zero, List.set_cons_succ, List.getElem_toArray, List.getElem_cons_zero, List.getElem_cons_succ]
    refine AllS.next (v := ?_) rfl rfl rfl (by kernel_rfl) ?_ ?_
    rotate_left
    · refine yieldsS_run (fun _ _ h => h.other (by decide) (by decide)) (by rfl) ?_
      intro L wx hS
      obtain ⟨x0, x1, x2, x3, x4⟩ := hbx _ _ _ hS.at'
      go_simp
      try with_reducible rfl
    try simp only [Act.put, List.setIfInBounds_toArray, List.set_cons_zero, List.set_cons_succ, List.getElem_toArray, List.getElem_cons_zero, List.getElem_cons_succ]
    refine AllS.next (v := ?_) rfl rfl rfl (by kernel_rfl) ?_ ?_
    rotate_left
    · refine yieldsS_run (fun _ _ h => h.other (by decide) (by decide)) (by rfl) ?_
      intro L wx hS
      skip
      go_simp
      try with_reducible rfl
    try simp only [Act.put, List.setIfInBounds_toArray, List.set_cons_zero, List.set_cons_succ, List.getElem_toArray, List.getElem_cons_zero, List.getElem_cons_succ]
    refine AllS.next (v := ?_) rfl rfl rfl (by kernel_rfl) ?_ ?_
    rotate_left
    · refine yieldsS_run (fun _ _ h => h.other (by decide) (by decide)) (by rfl) ?_
      intro L wx hS
      obtain ⟨x0, x1, x2, x3, x4⟩ := hbx _ _ _ hS.at'
      go_simp
      try with_reducible rfl
    try simp only [Act.put, List.setIfInBounds_toArray, List.set_cons_zero, List.set_cons_succ, List.getElem_toArray, List.getElem_cons_zero, List.getElem_cons_succ]
    refine AllS.next (v := (.int .i64 v)) rfl rfl rfl (by kernel_rfl) ?_ ?_
    · refine yieldsS_callq (f := 15) (args := #[.pointer (some ⟨g, 0, none⟩), .int .i64 m1, .int .i64 m2, .int .i64 m3]) (by rfl) ?_ ?_
      · intro wx
        go_simp
      · intro L wx hL hS
        exact hS.fst hL (by decide) (by decide) fun b w hb => by simpa using cP w _ (by simpa using hb)
    try simp only [Act.put, List.setIfInBounds_toArray, List.set_cons_zero, List.set_cons_succ, List.getElem_toArray, List.getElem_cons_zero, List.getElem_cons_succ]
    refine AllS.next (v := ?_) rfl rfl rfl (by kernel_rfl) ?_ ?_
    rotate_left
    · refine yieldsS_run (fun _ _ h => h.other (by decide) (by decide)) (by rfl) ?_
      intro L wx hS
      skip
      go_simp
      try with_reducible rfl
    try simp only [Act.put, List.setIfInBounds_toArray, List.set_cons_zero, List.set_cons_succ, List.getElem_toArray, List.getElem_cons_zero, List.getElem_cons_succ]
    refine AllS.next (v := ?_) rfl rfl rfl (by kernel_rfl) ?_ ?_
    rotate_left
    · refine yieldsS_run (fun _ _ h => h.other (by decide) (by decide)) (by rfl) ?_
      intro L wx hS
      skip
      go_simp
      try with_reducible rfl
    try simp only [Act.put, List.setIfInBounds_toArray, List.set_cons_zero, List.set_cons_succ, List.getElem_toArray, List.getElem_cons_zero, List.getElem_cons_succ]
    refine AllS.next (v := ?_) rfl rfl rfl (by kernel_rfl) ?_ ?_
    rotate_left
    · refine yieldsS_run (fun _ _ h => h.other (by decide) (by decide)) (by rfl) ?_
      intro L wx hS
      obtain ⟨x0, x1, x2, x3, x4⟩ := hbx _ _ _ hS.at'
      go_simp
      try with_reducible rfl
    try simp only [Act.put, List.setIfInBounds_toArray, List.set_cons_zero, List.set_cons_succ, List.getElem_toArray, List.getElem_cons_zero, List.getElem_cons_succ]
    refine AllS.next (v := ?_) rfl rfl rfl (by kernel_rfl) ?_ ?_
    rotate_left
    · refine yieldsS_run (fun _ _ h => h.other (by decide) (by decide)) (by rfl) ?_
      intro L wx hS
      skip
      go_simp
      try with_reducible rfl
    try simp only [Act.put, List.setIfInBounds_toArray, List.set_cons_zero, List.set_cons_succ, List.getElem_toArray, List.getElem_cons_zero, List.getElem_cons_succ]
    refine AllS.next (v := ?_) rfl rfl rfl (by kernel_rfl) ?_ ?_
    rotate_left
    · refine yieldsS_run (fun _ _ h => h.other (by decide) (by decide)) (by rfl) ?_
      intro L wx hS
      obtain ⟨x0, x1, x2, x3, x4⟩ := hbx _ _ _ hS.at'
      go_simp
      try with_reducible rfl
    try simp only [Act.put, List.setIfInBounds_toArray, List.set_cons_zero, List.set_cons_succ, List.getElem_toArray, List.getElem_cons_zero, List.getElem_cons_succ]
    refine AllS.next (v := ?_) rfl rfl rfl (by kernel_rfl) ?_ ?_
    rotate_left
    · refine yieldsS_run (fun _ _ h => h.other (by decide) (by decide)) (by rfl) ?_
      intro L wx hS
      skip
      go_simp
      try with_reducible rfl
    try simp only [Act.put, List.setIfInBounds_toArray, List.set_cons_zero, List.set_cons_succ, List.getElem_toArray, List.getElem_cons_zero, List.getElem_cons_succ]
    refine AllS.next (v := ?_) rfl rfl rfl (by kernel_rfl) ?_ ?_
    rotate_left
    · refine yieldsS_run (fun _ _ h => h.other (by decide) (by decide)) (by rfl) ?_
      intro L wx hS
      obtain ⟨x0, x1, x2, x3, x4⟩ := hbx _ _ _ hS.at'
      go_simp
      try with_reducible rfl
    try simp only [Act.put, List.setIfInBounds_toArray, List.set_cons_zero, List.set_cons_succ, List.getElem_toArray, List.getElem_cons_zero, List.getElem_cons_succ]
    refine AllS.next (v := (.int .i64 v)) rfl rfl rfl (by kernel_rfl) ?_ ?_
    · refine yieldsS_callq (f := 21) (args := #[.pointer (some ⟨r, 0, none⟩), .int .i64 m1, .int .i64 m2, .int .i64 m3]) (by rfl) ?_ ?_
      · intro wx
        go_simp
      · intro L wx hL hS
        exact hS.snd hL (by decide) (by decide) fun b w hb => by simpa using cR w _ (by simpa using hb)
    try simp only [Act.put, List.setIfInBounds_toArray, List.set_cons_zero, List.set_cons_succ, List.getElem_toArray, List.getElem_cons_zero, List.getElem_cons_succ]
    refine AllS.next (v := (.bool true)) rfl rfl rfl (by kernel_rfl) ?_ ?_
    · refine yieldsS_run (fun _ _ h => h.other (by decide) (by decide)) (by rfl) ?_
      intro L wx hS
      skip
      go_simp
      try with_reducible rfl
    try simp only [Act.put, List.setIfInBounds_toArray, List.set_cons_zero, List.set_cons_succ, List.getElem_toArray, List.getElem_cons_zero, List.getElem_cons_succ]
    refine AllS.next (v := ?_) rfl rfl rfl (by kernel_rfl) ?_ ?_
    rotate_left
    · refine yieldsS_run (fun _ _ h => h.other (by decide) (by decide)) (by rfl) ?_
      intro L wx hS
      skip
      go_simp
      try with_reducible rfl
    try simp only [Act.put, List.setIfInBounds_toArray, List.set_cons_zero, List.set_cons_succ, List.getElem_toArray, List.getElem_cons_zero, List.getElem_cons_succ]
    refine AllS.done (by kernel_rfl) fun w8 hS => ?_
    have k8 := hS.fin (by rfl) (by rfl)
    try simp only [Act.put, List.setIfInBounds_toArray, List.set_cons_zero, List.set_cons_succ, List.getElem_toArray, List.getElem_cons_zero, List.getElem_cons_succ]
    clear hS
    go_wp2_with fail
    go_ret
    exact ⟨rfl, hfin.out _ _ _ k8⟩
set_option maxRecDepth 100000 in
set_option maxHeartbeats 8000000 in
theorem wact3_any (m : Wat) (hm : m.Fit) (hk : m.kind ≠ 0 ∧ m.kind ≠ 1 ∧ m.kind ≠ 2) (h : Wk W S1 W0 g r s s) (hok : s.Ok) (hlen : s.L.length ≤ 1000000) :
    Calls Try.prog 10 #[.pointer (some ⟨g, 0, none⟩), .pointer (some ⟨r, 0, none⟩), vWat m] W0 fun e w' => e = .returned (.bool true) ∧ Wk W S1 w' g r (s.reset m.price).2 (s.reset m.price).2 := by
  obtain ⟨S2, k1, hbk⟩ := h.box (cWat m) 33
  have hbx := fun w' mp mr k => Wat.cell5 (hbk w' mp mr k).1
  have hfin := fun w' mp mr k => (hbk w' mp mr k).2
  obtain ⟨f0, f1, f2, f3, f4⟩ := hm
  obtain ⟨m0, m1, m2, m3, m4⟩ := m
  simp only at f0 f1 f2 f3 f4 hbx hk
  simp only [vWat, cWat] at k1 hbk hbx hfin ⊢
  obtain ⟨W2, hW2⟩ : ∃ W2, W2 = W0.alloc (.cells #[.int .i64 m0, .int .i64 m1, .int .i64 m2, .int .i64 m3, .int .i64 m4] 33) := ⟨_, rfl⟩
  rw [← hW2] at k1 hbk hbx hfin
  have hb0 := hbx _ _ _ k1
  obtain ⟨b0, b1, b2, b3, b4⟩ := hb0
  replace hfin := Lib.hid hfin
  clear h hbk
  have cP := fun w mr (k : Wk W2 S2 w g r s mr) => Wk.resetP m2 f2 k
  have cR := fun w mp (k : Wk W2 S2 w g r mp s) => Wk.resetR m2 f2 hok k
  obtain ⟨s2, hs2⟩ : ∃ s2, s2 = (s.reset m2).2 := ⟨_, rfl⟩
  obtain ⟨v, hv⟩ : ∃ v, v = (s.reset m2).1 := ⟨_, rfl⟩
  rw [← hs2]
  simp only [← hs2, ← hv] at cP cR
  clear hs2 hv
  go_enter Try.func10, Try.ntmps10
  go_wp2_with (first | (rw [← hW2]; clear hW2) | fail)
  · refine wp_region_S (S := Duo 10 3 7 (fun a b w => Wk W2 S2 w g r (if a = true then s2 else s) (if b = true then s2 else s))) (by kernel_rfl) (Duo.start _ _ _ (k1.keep (Below.refl _ _).drew)) ?_
    refine AllS.next (v := ?_) rfl rfl rfl (by kernel_rfl) ?_ ?_
    rotate_left
    · refine yieldsS_run (fun _ _ h => h.other (by decide) (by decide)) (by rfl) ?_
      intro L wx hS
      skip
      go_simp
      try with_reducible rfl
    try simp only [Act.put, List.setIfInBounds_toArray, List.set_cons_zero, List.set_cons_succ, List.getElem_toArray, List.getElem_cons_zero, List.getElem_cons_succ]
    refine AllS.next (v := ?_) rfl rfl rfl (by kernel_rfl) ?_ ?_
    rotate_left
    · refine yieldsS_run (fun _ _ h => h.other (by decide) (by decide)) (by rfl) ?_
      intro L wx hS
      skip
      go_simp
      try with_reducible rfl
    try simp only [Act.put, List.setIfInBounds_toArray, List.set_cons_zero, List.set_cons_succ, List.getElem_toArray, List.getElem_cons_zero, List.getElem_cons_succ]
    refine AllS.next (v := ?_) rfl rfl rfl (by kernel_rfl) ?_ ?_
    rotate_left
    · refine yieldsS_run (fun _ _ h => h.other (by decide) (by decide)) (by rfl) ?_
      intro L wx hS
      obtain ⟨x0, x1, x2, x3, x4⟩ := hbx _ _ _ hS.at'
      go_simp
      try with_reducible rfl
    try simp only [Act.put, List.setIfInBounds_toArray, List.set_cons_zero, List.set_cons_succ, List.getElem_toArray, List.getElem_cons_zero, List.getElem_cons_succ]
    refine AllS.next (v := (.int .i64 v)) rfl rfl rfl (by kernel_rfl) ?_ ?_
    · refine yieldsS_callq (f := 18) (args := #[.pointer (some ⟨g, 0, none⟩), .int .i64 m2]) (by rfl) ?_ ?_
      · intro wx
        go_simp
      · intro L wx hL hS
        exact hS.fst hL (by decide) (by decide) fun b w hb => by simpa using cP w _ (by simpa using hb)
    try simp only [Act.put, List.setIfInBounds_toArray, List.set_cons_zero, List.set_cons_succ, List.getElem_toArray, List.getElem_cons_zero, List.getElem_cons_succ]
    refine AllS.next (v := ?_) rfl rfl rfl (by kernel_rfl) ?_ ?_
    rotate_left
    · refine yieldsS_run (fun _ _ h => h.other (by decide) (by decide)) (by rfl) ?_
      intro L wx hS
      skip
      go_simp
      try with_reducible rfl
    try simp only [Act.put, List.setIfInBounds_toArray, List.set_cons_zero, List.set_cons_succ, List.getElem_toArray, List.getElem_cons_zero, List.getElem_cons_succ]
    refine AllS.next (v := ?_) rfl rfl rfl (by kernel_rfl) ?_ ?_
    rotate_left
    · refine yieldsS_run (fun _ _ h => h.other (by decide) (by decide)) (by rfl) ?_
      intro L wx hS
      skip
      go_simp
      try with_reducible rfl
    try simp only [Act.put, List.setIfInBounds_toArray, List.set_cons_zero, List.set_cons_succ, List.getElem_toArray, List.getElem_cons_zero, List.getElem_cons_succ]
    refine AllS.next (v := ?_) rfl rfl rfl (by kernel_rfl) ?_ ?_
    rotate_left
    · refine yieldsS_run (fun _ _ h => h.other (by decide) (by decide)) (by rfl) ?_
      intro L wx hS
      obtain ⟨x0, x1, x2, x3, x4⟩ := hbx _ _ _ hS.at'
      go_simp
      try with_reducible rfl
    try simp only [Act.put, List.setIfInBounds_toArray, List.set_cons_zero, List.set_cons_succ, List.getElem_toArray, List.getElem_cons_zero, List.getElem_cons_succ]
    refine AllS.next (v := (.int .i64 v)) rfl rfl rfl (by kernel_rfl) ?_ ?_
    · refine yieldsS_callq (f := 24) (args := #[.pointer (some ⟨r, 0, none⟩), .int .i64 m2]) (by rfl) ?_ ?_
      · intro wx
        go_simp
      · intro L wx hL hS
        exact hS.snd hL (by decide) (by decide) fun b w hb => by simpa using cR w _ (by simpa using hb)
    try simp only [Act.put, List.setIfInBounds_toArray, List.set_cons_zero, List.set_cons_succ, List.getElem_toArray, List.getElem_cons_zero, List.getElem_cons_succ]
    refine AllS.next (v := (.bool true)) rfl rfl rfl (by kernel_rfl) ?_ ?_
    · refine yieldsS_run (fun _ _ h => h.other (by decide) (by decide)) (by rfl) ?_
      intro L wx hS
      skip
      go_simp
      try with_reducible rfl
    try simp only [Act.put, List.setIfInBounds_toArray, List.set_cons_zero, List.set_cons_succ, List.getElem_toArray, List.getElem_cons_zero, List.getElem_cons_succ]
    refine AllS.next (v := ?_) rfl rfl rfl (by kernel_rfl) ?_ ?_
    rotate_left
    · refine yieldsS_run (fun _ _ h => h.other (by decide) (by decide)) (by rfl) ?_
      intro L wx hS
      skip
      go_simp
      try with_reducible rfl
    try simp only [Act.put, List.setIfInBounds_toArray, List.set_cons_zero, List.set_cons_succ, List.getElem_toArray, List.getElem_cons_zero, List.getElem_cons_succ]
    refine AllS.done (by kernel_rfl) fun w8 hS => ?_
    have k8 := hS.fin (by rfl) (by rfl)
    try simp only [Act.put, List.setIfInBounds_toArray, List.set_cons_zero, List.set_cons_succ, List.getElem_toArray, List.getElem_cons_zero, List.getElem_cons_succ]
    clear hS
    go_wp2_with fail
    go_ret
    exact ⟨rfl, hfin.out _ _ _ k8⟩
set_option maxRecDepth 100000 in
set_option maxHeartbeats 8000000 in
theorem wact1_any (m : Wat) (hm : m.Fit) (hk : m.kind = 1) (h : Wk W S1 W0 g r s s) (hok : s.Ok) (hlen : s.L.length ≤ 1000000) :
    Calls Try.prog 10 #[.pointer (some ⟨g, 0, none⟩), .pointer (some ⟨r, 0, none⟩), vWat m] W0 fun e w' => e = .returned (.bool true) ∧ Wk W S1 w' g r (s.mean m.tick).2 (s.mean m.tick).2 := by
  obtain ⟨S2, k1, hbk⟩ := h.box (cWat m) 33
  have hbx := fun w' mp mr k => Wat.cell5 (hbk w' mp mr k).1
  have hfin := fun w' mp mr k => (hbk w' mp mr k).2
  obtain ⟨f0, f1, f2, f3, f4⟩ := hm
  obtain ⟨m0, m1, m2, m3, m4⟩ := m
  simp only at f0 f1 f2 f3 f4 hbx hk
  subst hk
  simp only [vWat, cWat] at k1 hbk hbx hfin ⊢
  obtain ⟨W2, hW2⟩ : ∃ W2, W2 = W0.alloc (.cells #[.int .i64 1, .int .i64 m1, .int .i64 m2, .int .i64 m3, .int .i64 m4] 33) := ⟨_, rfl⟩
  rw [← hW2] at k1 hbk hbx hfin
  have hb0 := hbx _ _ _ k1
  obtain ⟨b0, b1, b2, b3, b4⟩ := hb0
  replace hfin := Lib.hid hfin
  clear h hbk
  have cP := fun w mr (k : Wk W2 S2 w g r s mr) => Wk.meanP m1 f1 hlen k
  have cR := fun w mp (k : Wk W2 S2 w g r mp s) => Wk.meanR m1 f1 hok hlen k
  obtain ⟨s2, hs2⟩ : ∃ s2, s2 = (s.mean m1).2 := ⟨_, rfl⟩
  obtain ⟨n, hn⟩ : ∃ n, n = (s.mean m1).1.1 := ⟨_, rfl⟩
  obtain ⟨v, hv⟩ : ∃ v, v = (s.mean m1).1.2 := ⟨_, rfl⟩
  rw [← hs2]
  simp only [← hs2, ← hn, ← hv] at cP cR
  clear hs2 hn hv
  have hnn : (n == n) = true := by simp
  have hvv : (v == v) = true := by simp
  go_enter Try.func10, Try.ntmps10
  go_wp2_with (first
    | (rw [← hW2]; clear hW2)
    | (go_at_call 16; (with_reducible refine (cP _ _ k1).mono ?_); rintro e w3 ⟨rfl, k3⟩; clear b0 b1 b2 b3 b4; obtain ⟨b0, b1, b2, b3, b4⟩ := hbx _ _ _ k3)
    | (go_at_call 22; (with_reducible refine (cR _ _ k3).mono ?_); rintro e w4 ⟨rfl, k4⟩)
    | fail)
  all_goals go_ret
  all_goals exact ⟨rfl, hfin.out _ _ _ k4⟩
set_option maxRecDepth 100000 in
set_option maxHeartbeats 8000000 in
theorem wact2_any (m : Wat) (hm : m.Fit) (hk : m.kind = 2) (h : Wk W S1 W0 g r s s) (hok : s.Ok) (hlen : s.L.length ≤ 1000000) :
    Calls Try.prog 10 #[.pointer (some ⟨g, 0, none⟩), .pointer (some ⟨r, 0, none⟩), vWat m] W0 fun e w' => e = .returned (.bool true) ∧ Wk W S1 w' g r (s.roll m.tick m.bps).2 (s.roll m.tick m.bps).2 := by
  obtain ⟨S2, k1, hbk⟩ := h.box (cWat m) 33
  have hbx := fun w' mp mr k => Wat.cell5 (hbk w' mp mr k).1
  have hfin := fun w' mp mr k => (hbk w' mp mr k).2
  obtain ⟨f0, f1, f2, f3, f4⟩ := hm
  obtain ⟨m0, m1, m2, m3, m4⟩ := m
  simp only at f0 f1 f2 f3 f4 hbx hk
  subst hk
  simp only [vWat, cWat] at k1 hbk hbx hfin ⊢
  obtain ⟨W2, hW2⟩ : ∃ W2, W2 = W0.alloc (.cells #[.int .i64 2, .int .i64 m1, .int .i64 m2, .int .i64 m3, .int .i64 m4] 33) := ⟨_, rfl⟩
  rw [← hW2] at k1 hbk hbx hfin
  have hb0 := hbx _ _ _ k1
  obtain ⟨b0, b1, b2, b3, b4⟩ := hb0
  replace hfin := Lib.hid hfin
  clear h hbk
  have cP := fun w mr (k : Wk W2 S2 w g r s mr) => Wk.rollP m1 m4 f1 f4 hlen k
  have cR := fun w mp (k : Wk W2 S2 w g r mp s) => Wk.rollR m1 m4 f1 hok hlen k
  obtain ⟨s2, hs2⟩ : ∃ s2, s2 = (s.roll m1 m4).2 := ⟨_, rfl⟩
  obtain ⟨n, hn⟩ : ∃ n, n = (s.roll m1 m4).1.1 := ⟨_, rfl⟩
  obtain ⟨v, hv⟩ : ∃ v, v = (s.roll m1 m4).1.2 := ⟨_, rfl⟩
  rw [← hs2]
  simp only [← hs2, ← hn, ← hv] at cP cR
  clear hs2 hn hv
  have hnn : (n == n) = true := by simp
  have hvv : (v == v) = true := by simp
  go_enter Try.func10, Try.ntmps10
  go_wp2_with (first
    | (rw [← hW2]; clear hW2)
    | (go_at_call 17; (with_reducible refine (cP _ _ k1).mono ?_); rintro e w3 ⟨rfl, k3⟩; clear b0 b1 b2 b3 b4; obtain ⟨b0, b1, b2, b3, b4⟩ := hbx _ _ _ k3)
    | (go_at_call 23; (with_reducible refine (cR _ _ k3).mono ?_); rintro e w4 ⟨rfl, k4⟩)
    | fail)
  all_goals go_ret
  all_goals exact ⟨rfl, hfin.out _ _ _ k4⟩
theorem wact_any (m : Wat) (hm : m.Fit) (h : Wk W S1 W0 g r s s) (hok : s.Ok) (hlen : s.L.length ≤ 1000000) :
    Calls Try.prog 10 #[.pointer (some ⟨g, 0, none⟩), .pointer (some ⟨r, 0, none⟩), vWat m] W0 fun e w' => e = .returned (.bool true) ∧ Wk W S1 w' g r (s.act m) (s.act m) := by
  unfold Wn.act
  by_cases h0 : m.kind = 0
  · rw [if_pos h0]; exact wact0_any m hm h0 h hok hlen
  rw [if_neg h0]
  by_cases h1 : m.kind = 1
  · rw [if_pos h1]; exact wact1_any m hm h1 h hok hlen
  rw [if_neg h1]
  by_cases h2 : m.kind = 2
  · rw [if_pos h2]; exact wact2_any m hm h2 h hok hlen
  rw [if_neg h2]
  exact wact3_any m hm ⟨h0, h1, h2⟩ h hok hlen
end
end Go.Proofs.Yteljjjdejjkgfaa
