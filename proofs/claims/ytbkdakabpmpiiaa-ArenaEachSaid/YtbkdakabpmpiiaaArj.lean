/-
  act: the same on both. (Written by gen/p_arj.py.)
-/
import Derived.Test.YtbkdakabpmpiiaaArx
import Derived.Test.YtbkdakabpmpiiaaActV
import Derived.Test.YtbkdakabpmpiiaaDuo
namespace Go.Proofs.Ytbkdakabpmpiiaa
open Go.RowKit
theorem Act.cells {w : World} {b : Nat} {T : TypeId} {m : Act} (h : Blk w b T (cAct m)) : w.cell? ⟨b, 0, none⟩ = some (.int .i64 m.kind) ∧ w.cell? ⟨b, 1, none⟩ = some (.int .i64 m.slot) ∧ w.cell? ⟨b, 2, none⟩ = some (.int .i64 m.o.id) ∧ w.cell? ⟨b, 3, none⟩ = some (.int .i64 m.o.owner) ∧ w.cell? ⟨b, 4, none⟩ = some (.int .i64 m.o.side) ∧ w.cell? ⟨b, 5, none⟩ = some (.int .i64 m.o.price) ∧ w.cell? ⟨b, 6, none⟩ = some (.int .i64 m.o.qty) ∧ w.cell? ⟨b, 7, none⟩ = some (.int .i64 m.o.flags) ∧ w.cell? ⟨b, 8, none⟩ = some (.int .i64 m.o.seq) :=
  ⟨h.cell_eq 0 _ rfl, h.cell_eq 1 _ rfl, h.cell_eq 2 _ rfl, h.cell_eq 3 _ rfl, h.cell_eq 4 _ rfl, h.cell_eq 5 _ rfl, h.cell_eq 6 _ rfl, h.cell_eq 7 _ rfl, h.cell_eq 8 _ rfl⟩
def Ar.act (s : Ar) (m : Act) : Ar := if m.kind = 0 then s.takeS m.o else if m.kind = 1 then s.dropS m.slot else if m.kind = 2 then s.setS m.slot m.o else s
theorem Ar.act_n (s : Ar) (m : Act) : (s.act m).n = s.n := by
  unfold Ar.act
  split
  · exact s.takeS_n _
  · split
    · exact s.dropS_n _
    · split
      · exact s.setS_n _ _
      · rfl
/-- How far the two have come. -/
def J2 (W1 : World) (S : Nat → Prop) (g r : Nat) (s s' : Ar) (a b : Bool) (w : World) : Prop := Bo W1 S g r (bif a then s' else s) (bif b then s' else s) w
theorem sizeO : (Try.prog.info? 33).map (·.size) = some 7 := by kernel_rfl
theorem one_O (o : Ord) : (cOrd o).all (·.oneCell') = true := by simp [cOrd, Value.oneCell']
/-- A row laid in a new block. -/
theorem row_new {w0 w0' w : World} {S0 : Nat → Prop} {g r : Nat} {s t : Ar} {l : List (Nat × TypeId × Array Value)} (m : Mem w0 l w) (k : Bo w0' S0 g r s t w) (T : TypeId) (cs : Array Value) :
    ∃ w', w' = w.alloc (.cells cs T) ∧ Mem w0 ((w.heap.size, T, cs) :: l) w' ∧ Bo w0' S0 g r s t w' :=
  ⟨_, rfl, m.new T cs, k.below ((Below.refl _ _).alloc (Nat.le_refl _) _)⟩
/-- What stands at the beginning: the box. -/
theorem act_box {w0 W : World} {S0 : Nat → Prop} {g r : Nat} {s : Ar} (h : Bo w0 S0 g r s s W) (m : Act) :
    ∃ S, Bo (W.alloc (.cells (cAct m) 35)) S g r s s (W.alloc (.cells (cAct m) 35)) ∧ (∀ s' t' w', Bo (W.alloc (.cells (cAct m) 35)) S g r s' t' w' → Blk w' W.heap.size 35 (cAct m) ∧ Bo w0 S0 g r s' t' w') := by
  obtain ⟨c, h1, h2⟩ := h.arn
  obtain ⟨S, h3, h4, h5⟩ := h.ref
  have hb1 : Below W.heap.size W (W.alloc (.cells (cAct m) 35)) := (Below.refl _ _).alloc (Nat.le_refl _) _
  refine ⟨S, ⟨Frm.refl _ _, ⟨c, h1.alloc _, h2⟩, S, h3.below hb1, h4, fun b hb => .inl hb⟩, fun s' t' w' k => ⟨k.blk (Blk.new _ _ _) (by have := h1.lt; omega) (fun e => by have := h3.lt _ e; omega), Bo.sub (h.frm.trans (Frm.of_below (S := fun _ => False) hb1) (fun _ f => f.elim)) h5 k⟩⟩
variable {w0 W : World} {S0 : Nat → Prop} {g r : Nat} {s : Ar}
set_option maxRecDepth 8000 in
set_option maxHeartbeats 1000000 in
theorem act0_any (h : Bo w0 S0 g r s s W) (m : Act) (h0 : m.kind = 0) :
    Calls Try.prog 10 #[.pointer (some ⟨g, 0, none⟩), .pointer (some ⟨r, 0, none⟩), vAct m] W fun e w' => e = .returned (.bool true) ∧ Bo w0 S0 g r (s.takeS m.o) (s.takeS m.o) w' := by
  obtain ⟨S, k1, hk⟩ := act_box h m
  obtain ⟨W1, hW1⟩ : ∃ W1, W1 = W.alloc (.cells (cAct m) 35) := ⟨_, rfl⟩
  rw [← hW1] at k1 hk
  have bx := fun s' t' w' k => (hk s' t' w' k).1
  have fin := fun s' t' w' k => (hk s' t' w' k).2
  obtain ⟨kind, slot, a1, a2, a3, a4, a5, a6, a7⟩ := m
  obtain rfl : kind = 0 := h0
  simp only [cAct] at hW1
  have b1 := bx _ _ _ k1
  obtain ⟨x0, x1, x2, x3, x4, x5, x6, x7, x8⟩ := Act.cells b1
  simp only at x0 x1 x2 x3 x4 x5 x6 x7 x8
  clear hk h b1
  go_enter Try.func10, Try.ntmps10
  go_wp2_with (first
    | (rw [← hW1]; clear hW1)
    | (go_at_call 16; (with_reducible refine (bTake k1 ⟨a1, a2, a3, a4, a5, a6, a7⟩).mono ?_); rintro e w2 ⟨rfl, k2⟩; clear x0 x1 x2 x3 x4 x5 x6 x7 x8; obtain ⟨x0, x1, x2, x3, x4, x5, x6, x7, x8⟩ := Act.cells (bx _ _ _ k2); simp only at x0 x1 x2 x3 x4 x5 x6 x7 x8)
    | (go_at_call 20; (with_reducible refine (bTakeR k2 ⟨a1, a2, a3, a4, a5, a6, a7⟩).mono ?_); rintro e w3 ⟨rfl, k3⟩))
  go_ret
  exact ⟨by simp, fin _ _ _ k3⟩
set_option maxRecDepth 8000 in
set_option maxHeartbeats 1000000 in
theorem act1_any (h : Bo w0 S0 g r s s W) (m : Act) (h0 : m.kind = 1) :
    Calls Try.prog 10 #[.pointer (some ⟨g, 0, none⟩), .pointer (some ⟨r, 0, none⟩), vAct m] W fun e w' => e = .returned (.bool true) ∧ Bo w0 S0 g r (s.dropS m.slot) (s.dropS m.slot) w' := by
  obtain ⟨S, k1, hk⟩ := act_box h m
  obtain ⟨W1, hW1⟩ : ∃ W1, W1 = W.alloc (.cells (cAct m) 35) := ⟨_, rfl⟩
  rw [← hW1] at k1 hk
  have bx := fun s' t' w' k => (hk s' t' w' k).1
  have fin := fun s' t' w' k => (hk s' t' w' k).2
  obtain ⟨kind, slot, a1, a2, a3, a4, a5, a6, a7⟩ := m
  obtain rfl : kind = 1 := h0
  simp only [cAct] at hW1
  have b1 := bx _ _ _ k1
  obtain ⟨x0, x1, x2, x3, x4, x5, x6, x7, x8⟩ := Act.cells b1
  simp only at x0 x1 x2 x3 x4 x5 x6 x7 x8
  clear hk h b1
  go_enter Try.func10, Try.ntmps10
  go_wp2_with (rw [← hW1]; clear hW1)
  have hJ : J2 W1 S g r s (s.dropS slot) false false W1.drew := k1.below ((Below.refl _ _).drew)
  clear x0 x1 x2 x3 x4 x5 x6 x7 x8
  refine wp_region_S (S := fun L w' => Duo 10 3 7 (J2 W1 S g r s (s.dropS slot)) L w') (by kernel_rfl) (Duo.start 10 3 7 hJ) ?_
  refine AllS.next (v := ?_) rfl rfl rfl (by kernel_rfl) ?_ ?_
  rotate_left
  · refine yieldsS_run (fun _ _ h => h.other (by decide) (by decide)) (by rfl) ?_
    intro L wx hS
    go_simp
    try with_reducible rfl
  simp only [Act.put, List.setIfInBounds_toArray, List.set_cons_zero, List.set_cons_succ, List.getElem_toArray, List.getElem_cons_zero]
  refine AllS.next (v := ?_) rfl rfl rfl (by kernel_rfl) ?_ ?_
  rotate_left
  · refine yieldsS_run (fun _ _ h => h.other (by decide) (by decide)) (by rfl) ?_
    intro L wx hS
    go_simp
    try with_reducible rfl
  simp only [Act.put, List.setIfInBounds_toArray, List.set_cons_zero, List.set_cons_succ, List.getElem_toArray, List.getElem_cons_zero, List.getElem_cons_succ]
  refine AllS.next (v := ?_) rfl rfl rfl (by kernel_rfl) ?_ ?_
  rotate_left
  · refine yieldsS_run (fun _ _ h => h.other (by decide) (by decide)) (by rfl) ?_
    intro L wx hS
    obtain ⟨x0, x1, x2, x3, x4, x5, x6, x7, x8⟩ := Act.cells (bx _ _ _ hS.at')
    go_simp
    try with_reducible rfl
  simp only [Act.put, List.setIfInBounds_toArray, List.set_cons_zero, List.set_cons_succ, List.getElem_toArray, List.getElem_cons_zero, List.getElem_cons_succ]
  refine AllS.next (v := .bool (s.hasI slot)) rfl rfl rfl (by kernel_rfl) ?_ ?_
  · refine yieldsS_callq (f := 18) (args := #[.pointer (some ⟨g, 0, none⟩), .int .i64 slot]) (by rfl) ?_ ?_
    · intro wx
      go_simp
      try with_reducible rfl
    · intro L wx hL hS
      exact hS.fst hL (by decide) (by decide) (fun b w h => (bDrop h slot).mono fun e w' h' => ⟨h'.1, h'.2⟩)
  simp only [Act.put, List.setIfInBounds_toArray, List.set_cons_zero, List.set_cons_succ, List.getElem_toArray, List.getElem_cons_zero, List.getElem_cons_succ]
  refine AllS.next (v := ?_) rfl rfl rfl (by kernel_rfl) ?_ ?_
  rotate_left
  · refine yieldsS_run (fun _ _ h => h.other (by decide) (by decide)) (by rfl) ?_
    intro L wx hS
    go_simp
    try with_reducible rfl
  simp only [Act.put, List.setIfInBounds_toArray, List.set_cons_zero, List.set_cons_succ, List.getElem_toArray, List.getElem_cons_zero, List.getElem_cons_succ]
  refine AllS.next (v := ?_) rfl rfl rfl (by kernel_rfl) ?_ ?_
  rotate_left
  · refine yieldsS_run (fun _ _ h => h.other (by decide) (by decide)) (by rfl) ?_
    intro L wx hS
    go_simp
    try with_reducible rfl
  simp only [Act.put, List.setIfInBounds_toArray, List.set_cons_zero, List.set_cons_succ, List.getElem_toArray, List.getElem_cons_zero, List.getElem_cons_succ]
  refine AllS.next (v := ?_) rfl rfl rfl (by kernel_rfl) ?_ ?_
  rotate_left
  · refine yieldsS_run (fun _ _ h => h.other (by decide) (by decide)) (by rfl) ?_
    intro L wx hS
    obtain ⟨x0, x1, x2, x3, x4, x5, x6, x7, x8⟩ := Act.cells (bx _ _ _ hS.at')
    go_simp
    try with_reducible rfl
  simp only [Act.put, List.setIfInBounds_toArray, List.set_cons_zero, List.set_cons_succ, List.getElem_toArray, List.getElem_cons_zero, List.getElem_cons_succ]
  refine AllS.next (v := .bool (s.hasI slot)) rfl rfl rfl (by kernel_rfl) ?_ ?_
  · refine yieldsS_callq (f := 21) (args := #[.pointer (some ⟨r, 0, none⟩), .int .i64 slot]) (by rfl) ?_ ?_
    · intro wx
      go_simp
      try with_reducible rfl
    · intro L wx hL hS
      exact hS.snd hL (by decide) (by decide) (fun b w h => (bDropR h slot).mono fun e w' h' => ⟨h'.1, h'.2⟩)
  simp only [Act.put, List.setIfInBounds_toArray, List.set_cons_zero, List.set_cons_succ, List.getElem_toArray, List.getElem_cons_zero, List.getElem_cons_succ]
  refine AllS.next (v := ?_) rfl rfl rfl (by kernel_rfl) ?_ ?_
  rotate_left
  · refine yieldsS_run (fun _ _ h => h.other (by decide) (by decide)) (by rfl) ?_
    intro L wx hS
    go_simp
    try with_reducible rfl
  simp only [Act.put, List.setIfInBounds_toArray, List.set_cons_zero, List.set_cons_succ, List.getElem_toArray, List.getElem_cons_zero, List.getElem_cons_succ]
  refine AllS.next (v := ?_) rfl rfl rfl (by kernel_rfl) ?_ ?_
  rotate_left
  · refine yieldsS_run (fun _ _ h => h.other (by decide) (by decide)) (by rfl) ?_
    intro L wx hS
    go_simp
    try with_reducible rfl
  simp only [Act.put, List.setIfInBounds_toArray, List.set_cons_zero, List.set_cons_succ, List.getElem_toArray, List.getElem_cons_zero, List.getElem_cons_succ]
  refine AllS.done rfl ?_
  intro w9 hS9
  have k9 : Bo W1 S g r (s.dropS slot) (s.dropS slot) w9 := Duo.fin hS9 (by rfl) (by rfl)
  go_wp2_with fail
  go_ret
  exact ⟨by simp, fin _ _ _ k9⟩
set_option maxRecDepth 8000 in
set_option maxHeartbeats 1000000 in
theorem act2_any (h : Bo w0 S0 g r s s W) (m : Act) (h0 : m.kind = 2) :
    Calls Try.prog 10 #[.pointer (some ⟨g, 0, none⟩), .pointer (some ⟨r, 0, none⟩), vAct m] W fun e w' => e = .returned (.bool true) ∧ Bo w0 S0 g r (s.setS m.slot m.o) (s.setS m.slot m.o) w' := by
  obtain ⟨S, k1, hk⟩ := act_box h m
  obtain ⟨W1, hW1⟩ : ∃ W1, W1 = W.alloc (.cells (cAct m) 35) := ⟨_, rfl⟩
  rw [← hW1] at k1 hk
  have bx := fun s' t' w' k => (hk s' t' w' k).1
  have fin := fun s' t' w' k => (hk s' t' w' k).2
  obtain ⟨kind, slot, a1, a2, a3, a4, a5, a6, a7⟩ := m
  obtain rfl : kind = 2 := h0
  simp only [cAct] at hW1
  have b1 := bx _ _ _ k1
  obtain ⟨x0, x1, x2, x3, x4, x5, x6, x7, x8⟩ := Act.cells b1
  simp only at x0 x1 x2 x3 x4 x5 x6 x7 x8
  clear hk h b1
  go_enter Try.func10, Try.ntmps10
  go_wp2_with (rw [← hW1]; clear hW1)
  have hJ : J2 W1 S g r s (s.setS slot ⟨a1, a2, a3, a4, a5, a6, a7⟩) false false W1.drew := k1.below ((Below.refl _ _).drew)
  clear x0 x1 x2 x3 x4 x5 x6 x7 x8
  refine wp_region_S (S := fun L w' => Duo 14 5 11 (J2 W1 S g r s (s.setS slot ⟨a1, a2, a3, a4, a5, a6, a7⟩)) L w') (by kernel_rfl) (Duo.start 14 5 11 hJ) ?_
  refine AllS.next (v := ?_) rfl rfl rfl (by kernel_rfl) ?_ ?_
  rotate_left
  · refine yieldsS_run (fun _ _ h => h.other (by decide) (by decide)) (by rfl) ?_
    intro L wx hS
    go_simp
    try with_reducible rfl
  simp only [Act.put, List.setIfInBounds_toArray, List.set_cons_zero, List.set_cons_succ, List.getElem_toArray, List.getElem_cons_zero]
  refine AllS.next (v := ?_) rfl rfl rfl (by kernel_rfl) ?_ ?_
  rotate_left
  · refine yieldsS_run (fun _ _ h => h.other (by decide) (by decide)) (by rfl) ?_
    intro L wx hS
    go_simp
    try with_reducible rfl
  simp only [Act.put, List.setIfInBounds_toArray, List.set_cons_zero, List.set_cons_succ, List.getElem_toArray, List.getElem_cons_zero, List.getElem_cons_succ]
  refine AllS.next (v := ?_) rfl rfl rfl (by kernel_rfl) ?_ ?_
  rotate_left
  · refine yieldsS_run (fun _ _ h => h.other (by decide) (by decide)) (by rfl) ?_
    intro L wx hS
    obtain ⟨x0, x1, x2, x3, x4, x5, x6, x7, x8⟩ := Act.cells (bx _ _ _ hS.at')
    go_simp
    try with_reducible rfl
  simp only [Act.put, List.setIfInBounds_toArray, List.set_cons_zero, List.set_cons_succ, List.getElem_toArray, List.getElem_cons_zero, List.getElem_cons_succ]
  refine AllS.next (v := ?_) rfl rfl rfl (by kernel_rfl) ?_ ?_
  rotate_left
  · refine yieldsS_run (fun _ _ h => h.other (by decide) (by decide)) (by rfl) ?_
    intro L wx hS
    go_simp
    try with_reducible rfl
  simp only [Act.put, List.setIfInBounds_toArray, List.set_cons_zero, List.set_cons_succ, List.getElem_toArray, List.getElem_cons_zero, List.getElem_cons_succ]
  refine AllS.next (v := ?_) rfl rfl rfl (by kernel_rfl) ?_ ?_
  rotate_left
  · refine yieldsS_run (fun _ _ h => h.other (by decide) (by decide)) (by rfl) ?_
    intro L wx hS
    obtain ⟨x0, x1, x2, x3, x4, x5, x6, x7, x8⟩ := Act.cells (bx _ _ _ hS.at')
    go_simp
    try with_reducible rfl
  simp only [Act.put, List.setIfInBounds_toArray, List.set_cons_zero, List.set_cons_succ, List.getElem_toArray, List.getElem_cons_zero, List.getElem_cons_succ]
  refine AllS.next (v := .bool (s.hasI slot)) rfl rfl rfl (by kernel_rfl) ?_ ?_
  · refine yieldsS_callq (f := 19) (args := #[.pointer (some ⟨g, 0, none⟩), .int .i64 slot, vOrd ⟨a1, a2, a3, a4, a5, a6, a7⟩]) (by rfl) ?_ ?_
    · intro wx
      go_simp
      try with_reducible rfl
    · intro L wx hL hS
      exact hS.fst hL (by decide) (by decide) (fun b w h => (bSet h slot ⟨a1, a2, a3, a4, a5, a6, a7⟩).mono fun e w' h' => ⟨h'.1, h'.2⟩)
  simp only [Act.put, List.setIfInBounds_toArray, List.set_cons_zero, List.set_cons_succ, List.getElem_toArray, List.getElem_cons_zero, List.getElem_cons_succ]
  refine AllS.next (v := ?_) rfl rfl rfl (by kernel_rfl) ?_ ?_
  rotate_left
  · refine yieldsS_run (fun _ _ h => h.other (by decide) (by decide)) (by rfl) ?_
    intro L wx hS
    go_simp
    try with_reducible rfl
  simp only [Act.put, List.setIfInBounds_toArray, List.set_cons_zero, List.set_cons_succ, List.getElem_toArray, List.getElem_cons_zero, List.getElem_cons_succ]
  refine AllS.next (v := ?_) rfl rfl rfl (by kernel_rfl) ?_ ?_
  rotate_left
  · refine yieldsS_run (fun _ _ h => h.other (by decide) (by decide)) (by rfl) ?_
    intro L wx hS
    go_simp
    try with_reducible rfl
  simp only [Act.put, List.setIfInBounds_toArray, List.set_cons_zero, List.set_cons_succ, List.getElem_toArray, List.getElem_cons_zero, List.getElem_cons_succ]
  refine AllS.next (v := ?_) rfl rfl rfl (by kernel_rfl) ?_ ?_
  rotate_left
  · refine yieldsS_run (fun _ _ h => h.other (by decide) (by decide)) (by rfl) ?_
    intro L wx hS
    obtain ⟨x0, x1, x2, x3, x4, x5, x6, x7, x8⟩ := Act.cells (bx _ _ _ hS.at')
    go_simp
    try with_reducible rfl
  simp only [Act.put, List.setIfInBounds_toArray, List.set_cons_zero, List.set_cons_succ, List.getElem_toArray, List.getElem_cons_zero, List.getElem_cons_succ]
  refine AllS.next (v := ?_) rfl rfl rfl (by kernel_rfl) ?_ ?_
  rotate_left
  · refine yieldsS_run (fun _ _ h => h.other (by decide) (by decide)) (by rfl) ?_
    intro L wx hS
    go_simp
    try with_reducible rfl
  simp only [Act.put, List.setIfInBounds_toArray, List.set_cons_zero, List.set_cons_succ, List.getElem_toArray, List.getElem_cons_zero, List.getElem_cons_succ]
  refine AllS.next (v := ?_) rfl rfl rfl (by kernel_rfl) ?_ ?_
  rotate_left
  · refine yieldsS_run (fun _ _ h => h.other (by decide) (by decide)) (by rfl) ?_
    intro L wx hS
    obtain ⟨x0, x1, x2, x3, x4, x5, x6, x7, x8⟩ := Act.cells (bx _ _ _ hS.at')
    go_simp
    try with_reducible rfl
  simp only [Act.put, List.setIfInBounds_toArray, List.set_cons_zero, List.set_cons_succ, List.getElem_toArray, List.getElem_cons_zero, List.getElem_cons_succ]
  refine AllS.next (v := .bool (s.hasI slot)) rfl rfl rfl (by kernel_rfl) ?_ ?_
  · refine yieldsS_callq (f := 22) (args := #[.pointer (some ⟨r, 0, none⟩), .int .i64 slot, vOrd ⟨a1, a2, a3, a4, a5, a6, a7⟩]) (by rfl) ?_ ?_
    · intro wx
      go_simp
      try with_reducible rfl
    · intro L wx hL hS
      exact hS.snd hL (by decide) (by decide) (fun b w h => (bSetR h slot ⟨a1, a2, a3, a4, a5, a6, a7⟩).mono fun e w' h' => ⟨h'.1, h'.2⟩)
  simp only [Act.put, List.setIfInBounds_toArray, List.set_cons_zero, List.set_cons_succ, List.getElem_toArray, List.getElem_cons_zero, List.getElem_cons_succ]
  refine AllS.next (v := ?_) rfl rfl rfl (by kernel_rfl) ?_ ?_
  rotate_left
  · refine yieldsS_run (fun _ _ h => h.other (by decide) (by decide)) (by rfl) ?_
    intro L wx hS
    go_simp
    try with_reducible rfl
  simp only [Act.put, List.setIfInBounds_toArray, List.set_cons_zero, List.set_cons_succ, List.getElem_toArray, List.getElem_cons_zero, List.getElem_cons_succ]
  refine AllS.next (v := ?_) rfl rfl rfl (by kernel_rfl) ?_ ?_
  rotate_left
  · refine yieldsS_run (fun _ _ h => h.other (by decide) (by decide)) (by rfl) ?_
    intro L wx hS
    go_simp
    try with_reducible rfl
  simp only [Act.put, List.setIfInBounds_toArray, List.set_cons_zero, List.set_cons_succ, List.getElem_toArray, List.getElem_cons_zero, List.getElem_cons_succ]
  refine AllS.done rfl ?_
  intro w9 hS9
  have k9 : Bo W1 S g r (s.setS slot ⟨a1, a2, a3, a4, a5, a6, a7⟩) (s.setS slot ⟨a1, a2, a3, a4, a5, a6, a7⟩) w9 := Duo.fin hS9 (by rfl) (by rfl)
  go_wp2_with fail
  go_ret
  exact ⟨by simp, fin _ _ _ k9⟩
set_option maxRecDepth 8000 in
set_option maxHeartbeats 1000000 in
theorem act3_any (h : Bo w0 S0 g r s s W) (m : Act) (h0 : (m.kind == 0) = false) (h1 : (m.kind == 1) = false) (h2 : (m.kind == 2) = false) :
    Calls Try.prog 10 #[.pointer (some ⟨g, 0, none⟩), .pointer (some ⟨r, 0, none⟩), vAct m] W fun e w' => e = .returned (.bool true) ∧ Bo w0 S0 g r s s w' := by
  obtain ⟨W1, hW1⟩ : ∃ W1, W1 = W.alloc (.cells (cAct m) 35) := ⟨_, rfl⟩
  have m1 : Mem W [(W.heap.size, 35, cAct m)] W1 := by rw [hW1]; exact (Mem.start W).new _ _
  have k1 : Bo w0 S0 g r s s W1 := h.below m1.below
  obtain ⟨kind, slot, o⟩ := m
  simp only at h0 h1 h2
  obtain ⟨x0, x1, x2, x3, x4, x5, x6, x7, x8⟩ := Act.cells (m1.blk W.heap.size 35 (cAct ⟨kind, slot, o⟩) (by simp))
  obtain ⟨o9, ho⟩ : ∃ o9, o9 = s.getO slot := ⟨_, rfl⟩
  have hE := fun w => eql_Ord o9 o9 w
  rw [eqOrd_self] at hE
  have cG := fun w (k : Bo w0 S0 g r s s w) => bGet k slot
  have cR := fun w (k : Bo w0 S0 g r s s w) => bGetR k slot
  rw [← ho] at cG cR
  generalize s.hasI slot = kH at cG cR
  clear ho
  obtain ⟨c1, c2, c3, c4, c5, c6, c7⟩ := o9
  obtain ⟨a1, a2, a3, a4, a5, a6, a7⟩ := o
  simp only at x0 x1 x2 x3 x4 x5 x6 x7 x8
  simp only [cAct] at hW1
  go_enter Try.func10, Try.ntmps10
  go_wp2_with (first
    | (rw [← hW1]; clear hW1)
    | (go_at_call 17; (with_reducible refine (cG _ k1).mono ?_); rintro e w2 ⟨rfl, hb2⟩; have m2 := m1.keep hb2; have k2 := k1.below hb2; clear x0 x1 x2 x3 x4 x5 x6 x7 x8)
    | (obtain ⟨w3, hw3, m3, k3⟩ := row_new m2 k2 33 (cOrd ⟨c1, c2, c3, c4, c5, c6, c7⟩); simp only [cOrd] at hw3; rw [← hw3]; clear hw3; obtain ⟨x0, x1, x2, x3, x4, x5, x6, x7, x8⟩ := Act.cells (m3.blk W.heap.size 35 (cAct ⟨kind, slot, ⟨a1, a2, a3, a4, a5, a6, a7⟩⟩) (by simp)); simp only at x0 x1 x2 x3 x4 x5 x6 x7 x8)
    | (go_at_call 23; (with_reducible refine (cR _ k3).mono ?_); rintro e w4 ⟨rfl, hb4⟩; have m4 := m3.keep hb4; have k4 := k3.below hb4; clear x0 x1 x2 x3 x4 x5 x6 x7 x8)
    | (obtain ⟨w5, hw5, m5, k5⟩ := row_new m4 k4 33 (cOrd ⟨c1, c2, c3, c4, c5, c6, c7⟩); simp only [cOrd] at hw5; rw [← hw5]; clear hw5; obtain ⟨y0, y1, y2, y3, y4, y5, y6⟩ := Ord.cells (m5.blk w2.heap.size 33 (cOrd ⟨c1, c2, c3, c4, c5, c6, c7⟩) (by simp)); obtain ⟨z0, z1, z2, z3, z4, z5, z6⟩ := Ord.cells (m5.blk w4.heap.size 33 (cOrd ⟨c1, c2, c3, c4, c5, c6, c7⟩) (by simp)); simp only at y0 y1 y2 y3 y4 y5 y6 z0 z1 z2 z3 z4 z5 z6))
  go_ret
  exact ⟨by simp, k5⟩
theorem act_any (h : Bo w0 S0 g r s s W) (m : Act) :
    Calls Try.prog 10 #[.pointer (some ⟨g, 0, none⟩), .pointer (some ⟨r, 0, none⟩), vAct m] W fun e w' => e = .returned (.bool true) ∧ Bo w0 S0 g r (s.act m) (s.act m) w' := by
  unfold Ar.act
  by_cases h0 : m.kind = 0
  · rw [if_pos h0]; exact act0_any h m h0
  · rw [if_neg h0]
    by_cases h1 : m.kind = 1
    · rw [if_pos h1]; exact act1_any h m h1
    · rw [if_neg h1]
      by_cases h2 : m.kind = 2
      · rw [if_pos h2]; exact act2_any h m h2
      · rw [if_neg h2]; exact act3_any h m (by simpa using h0) (by simpa using h1) (by simpa using h2)
end Go.Proofs.Ytbkdakabpmpiiaa
