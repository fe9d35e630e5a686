/-
  The contracts of the document's Remove and Pop. (Written by gen/p_fru.py.)
-/
import Derived.Test.YtipmhialflincaaDoorFrp
namespace Go.Proofs.YtipmhialflincaaDoor
open Go.RowKit
set_option linter.unusedSimpArgs false
section
variable {w w' W : World} {r bm : Nat} {S T : Nat → Prop} {s : Fq} {c : Array Value}
theorem zv_two (l m : List Nat) : zv l ++ zv m = zv (l ++ m) := by simp [zv, zs]
set_option maxRecDepth 8000 in
set_option maxHeartbeats 1000000 in
theorem rremNo_any (x : Int) (h : RqB W r bm S s c) (hn : s.findI x = none) :
    Calls Tryd.prog 21 #[.pointer (some ⟨r, 0, none⟩), .int .i64 x] W fun e w' => e = .returned (.tuple #[.int .i64 0, .bool false]) ∧ w' = W := by
  have cF := rfind_any x h
  rw [show s.fI x = -1 by unfold Fq.fI; rw [hn], show s.fK x = 0 by unfold Fq.fK; rw [hn]] at cF
  clear h hn
  go_enter Tryd.func21, Tryd.ntmps21
  go_wp2_with (go_at_call 23; (with_reducible refine cF.mono ?_); rintro e w1 ⟨rfl, rfl⟩)
  go_ret2
  exact ⟨rfl, rfl⟩
set_option maxRecDepth 8000 in
set_option maxHeartbeats 4000000 in
theorem rremAt_any (i k y : Nat) {q : List Nat} (h : RqB W r bm S s c) (hi : s.L[i]? = some q) (hy : q[k]? = some y) :
    Calls Tryd.prog 21 #[.pointer (some ⟨r, 0, none⟩), .int .i64 (y : Int)] W fun e w' => e = .returned (.tuple #[.int .i64 (i : Int), .bool true]) ∧ (∃ S', RQ w' r S' (s.put i (q.eraseIdx k)) ∧ ∀ b, S' b → S b ∨ W.heap.size ≤ b) ∧ Frm S W w' := by
  have cF := rfind_any (y : Int) h
  have hl := (List.getElem?_eq_some_iff.1 hi).1
  have hk := (List.getElem?_eq_some_iff.1 hy).1
  have hfn := Fq.findI_eq h.wf (⟨q, hi, hy⟩ : s.At y i k)
  rw [show s.fI (y : Int) = (i : Int) by unfold Fq.fI; rw [hfn], show s.fK (y : Int) = (k : Int) by unfold Fq.fK; rw [hfn]] at cF
  have hwf := h.wf.rem (k := k) hi
  obtain ⟨ao, cap, hcell, hI, hao⟩ := h.head hi
  have hql := h.len hi
  obtain ⟨hsH, hH⟩ := slice_hi ao cap q k (by omega) W hI
  obtain ⟨ao4, cap4, hsL, hL⟩ := slice_lo ao cap q (k + 1) (by omega) W hI
  rw [show ((k + 1 : Nat) : Int) = (k : Int) + 1 by omega] at hsL
  have hq1000 : ∀ x ∈ q.eraseIdx k, x < 1000 := by
    have hnn := h.nn
    intro x hx
    have hx := List.mem_of_mem_eraseIdx hx
    obtain ⟨j, hj⟩ := List.mem_iff_getElem?.1 hx
    have := h.wf.lt x i j ⟨q, hi, hj⟩
    omega
  have hlt : (q.take k).length = k := by rw [List.length_take]; omega
  have hld : (q.drop (k + 1)).length = q.length - (k + 1) := by rw [List.length_drop]
  -- what stands at the end
  have fin : ∀ w2 ao2 cap2 ko2, Below W.heap.size W w2 → Nw W.heap.size ko2 → OwG 3 1 w2 ko2 ao2 cap2 (k + (q.length - (k + 1))) (zv (q.take k) ++ zv (q.drop (k + 1))) →
      (∃ S', RQ (w2.setCell ⟨bm, i, none⟩ (.slice ao2 (k + (q.length - (k + 1))) cap2)) r S' (s.put i (q.eraseIdx k)) ∧ ∀ b, S' b → S b ∨ W.heap.size ≤ b) ∧ Frm S W (w2.setCell ⟨bm, i, none⟩ (.slice ao2 (k + (q.length - (k + 1))) cap2)) := by
    intro w2 ao2 cap2 ko2 hb hk' ho
    have hl2 : k + (q.length - (k + 1)) = (q.eraseIdx k).length := by rw [List.length_eraseIdx, if_pos hk]; omega
    have hz2 : zv (q.take k) ++ zv (q.drop (k + 1)) = zv (q.eraseIdx k) := by rw [zv_two, List.eraseIdx_eq_take_drop_succ]
    rw [hl2, hz2] at ho
    rw [hl2]
    exact h.store hi hwf hb (ho.it hq1000) (ho.new_addr hk')
  have hbm : bm < W.heap.size := h.lt _ h.sm
  have hrl : r < W.heap.size := h.lt _ h.sr
  have hne := h.ne
  have c1 := h.c1
  have hm := h.nm
  have hfz : ∀ w2, Below W.heap.size W w2 → w2.frozen? ⟨bm, i, none⟩ = false := fun w2 hb => (h.hm.below hb hbm).free i
  have hil : (i : Int) < (s.L.length : Int) := by omega
  obtain ⟨i1, hi1, e1⟩ := Option.map_eq_some_iff.1 infoIn
  simp only [Prod.mk.injEq] at e1
  obtain ⟨hz1, hs1, hb1⟩ := e1
  have hsrc1 : ∀ w2, Below W.heap.size W w2 → SrcG 1 w2 ao cap k (zv (q.take k)) := fun w2 hb => by
    have := (hH _ (hI.below hb)).src
    rwa [zs_length, hlt] at this
  have hsrc2 : ∀ w2, Below W.heap.size W w2 → SrcG 1 w2 ao4 cap4 (q.length - (k + 1)) (zv (q.drop (k + 1))) := fun w2 hb => by
    have := (hL _ (hI.below hb)).src
    rwa [zs_length, hld] at this
  have kc1 : ∀ w2, Below W.heap.size W w2 → w2.cell? ⟨r, 1, none⟩ = some (.slice (some ⟨bm, 0, none⟩) s.L.length s.L.length) := fun w2 hb => below_cell hb hrl c1
  have kcell : ∀ w2, Below W.heap.size W w2 → w2.cell? ⟨bm, i, none⟩ = some (.slice ao q.length cap) := fun w2 hb => below_cell hb hbm hcell
  have bD : Below W.heap.size W W.drew := (Below.refl _ W).drew
  have hwk : IntKind.i64.wrap ((k : Int) + 1) = (k : Int) + 1 := IntWalk.i64_in _ (by omega)
  generalize s.put i (q.eraseIdx k) = s' at *
  generalize s.L.length = m at *
  generalize zv (q.take k) = z1 at *
  generalize zv (q.drop (k + 1)) = z2 at *
  generalize q.length = ql at *
  clear h hi hy hfn hwf hI hao hq1000 hl hH hL hlt hld
  go_enter Tryd.func21, Tryd.ntmps21
  go_wp2_with (go_at_call 23; (with_reducible refine cF.mono ?_); rintro e w1 ⟨rfl, rfl⟩)
  refine GoL.start (S := Sp r bm i m (.slice ao ql cap) 28) (by kernel_rfl) ⟨kc1 _ bD, fun _ => kcell _ bD⟩ ?_
  generalize w1.drew = V at bD ⊢
  have bV := bD
  clear bD
  have lV := bV.size
  refine GoL.take (i := 0) (v := ?_) rfl rfl (by kernel_rfl) (fun _ _ _ h => h) (fun _ _ => Sp.other (by decide)) (by rfl) ?_ ?_
  rotate_left
  · intro wx hwx
    go_simp
    try with_reducible rfl
  try simp only [Act.put, List.setIfInBounds_toArray, List.set_cons_zero, List.set_cons_succ, List.getElem_toArray, List.getElem_cons_zero, List.getElem_cons_succ, Nat.zero_add, List.nil_append]
  refine GoL.take (i := 1) (v := ?_) rfl rfl (by kernel_rfl) (fun _ _ _ h => h) (fun _ _ => Sp.other (by decide)) (by rfl) ?_ ?_
  rotate_left
  · intro wx hwx
    go_simp
    try with_reducible rfl
  try simp only [Act.put, List.setIfInBounds_toArray, List.set_cons_zero, List.set_cons_succ, List.getElem_toArray, List.getElem_cons_zero, List.getElem_cons_succ, Nat.zero_add, List.nil_append]
  refine GoL.take (i := 2) (v := ?_) rfl rfl (by kernel_rfl) (fun _ _ _ h => h) (fun _ _ => Sp.other (by decide)) (by rfl) ?_ ?_
  rotate_left
  · intro wx hwx
    go_simp
    try with_reducible rfl
  try simp only [Act.put, List.setIfInBounds_toArray, List.set_cons_zero, List.set_cons_succ, List.getElem_toArray, List.getElem_cons_zero, List.getElem_cons_succ, Nat.zero_add, List.nil_append]
  refine GoL.take (i := 3) (v := ?_) rfl rfl (by kernel_rfl) (fun _ _ _ h => h) (fun _ _ => Sp.other (by decide)) (by rfl) ?_ ?_
  rotate_left
  · intro wx hwx
    have x1 := Sp.wi1 hwx
    go_simp
    try with_reducible rfl
  try simp only [Act.put, List.setIfInBounds_toArray, List.set_cons_zero, List.set_cons_succ, List.getElem_toArray, List.getElem_cons_zero, List.getElem_cons_succ, Nat.zero_add, List.nil_append]
  refine GoL.take (i := 4) (v := ?_) rfl rfl (by kernel_rfl) (fun _ _ _ h => h) (fun _ _ => Sp.other (by decide)) (by rfl) ?_ ?_
  rotate_left
  · intro wx hwx
    go_simp
    try with_reducible rfl
  try simp only [Act.put, List.setIfInBounds_toArray, List.set_cons_zero, List.set_cons_succ, List.getElem_toArray, List.getElem_cons_zero, List.getElem_cons_succ, Nat.zero_add, List.nil_append]
  refine GoL.take (i := 6) (v := ?_) rfl rfl (by kernel_rfl) (fun _ _ _ h => h) (fun _ _ => Sp.other (by decide)) (by rfl) ?_ ?_
  rotate_left
  · intro wx hwx
    go_simp
    try with_reducible rfl
  try simp only [Act.put, List.setIfInBounds_toArray, List.set_cons_zero, List.set_cons_succ, List.getElem_toArray, List.getElem_cons_zero, List.getElem_cons_succ, Nat.zero_add, List.nil_append]
  refine GoL.take (i := 7) (v := ?_) rfl rfl (by kernel_rfl) (fun _ _ _ h => h) (fun _ _ => Sp.other (by decide)) (by rfl) ?_ ?_
  rotate_left
  · intro wx hwx
    go_simp
    try with_reducible rfl
  try simp only [Act.put, List.setIfInBounds_toArray, List.set_cons_zero, List.set_cons_succ, List.getElem_toArray, List.getElem_cons_zero, List.getElem_cons_succ, Nat.zero_add, List.nil_append]
  refine GoL.take (i := 8) (v := ?_) rfl rfl (by kernel_rfl) (fun _ _ _ h => h) (fun _ _ => Sp.other (by decide)) (by rfl) ?_ ?_
  rotate_left
  · intro wx hwx
    go_simp
    try with_reducible rfl
  try simp only [Act.put, List.setIfInBounds_toArray, List.set_cons_zero, List.set_cons_succ, List.getElem_toArray, List.getElem_cons_zero, List.getElem_cons_succ, Nat.zero_add, List.nil_append]
  refine GoL.take (i := 9) (v := ?_) rfl rfl (by kernel_rfl) (fun _ _ _ h => h) (fun _ _ => Sp.other (by decide)) (by rfl) ?_ ?_
  rotate_left
  · intro wx hwx
    have x1 := Sp.wi1 hwx
    go_simp
    try with_reducible rfl
  try simp only [Act.put, List.setIfInBounds_toArray, List.set_cons_zero, List.set_cons_succ, List.getElem_toArray, List.getElem_cons_zero, List.getElem_cons_succ, Nat.zero_add, List.nil_append]
  refine GoL.take (i := 10) (v := ?_) rfl rfl (by kernel_rfl) (fun _ _ _ h => h) (fun _ _ => Sp.other (by decide)) (by rfl) ?_ ?_
  rotate_left
  · intro wx hwx
    go_simp
    try with_reducible rfl
  try simp only [Act.put, List.setIfInBounds_toArray, List.set_cons_zero, List.set_cons_succ, List.getElem_toArray, List.getElem_cons_zero, List.getElem_cons_succ, Nat.zero_add, List.nil_append]
  refine GoL.take (i := 11) (v := ?_) rfl rfl (by kernel_rfl) (fun _ _ _ h => h) (fun _ _ => Sp.other (by decide)) (by rfl) ?_ ?_
  rotate_left
  · intro wx hwx
    go_simp
    try with_reducible rfl
  try simp only [Act.put, List.setIfInBounds_toArray, List.set_cons_zero, List.set_cons_succ, List.getElem_toArray, List.getElem_cons_zero, List.getElem_cons_succ, Nat.zero_add, List.nil_append]
  refine GoL.take (i := 12) (v := ?_) rfl rfl (by kernel_rfl) (fun _ _ _ h => h) (fun _ _ => Sp.other (by decide)) (by rfl) ?_ ?_
  rotate_left
  · intro wx hwx
    have x2 := Sp.wi2 (fun L h1 h2 => (Closed.not h1 (i := 26) (by kernel_rfl) (Closed.not h1 (i := 15) (by kernel_rfl) (Closed.not h1 (i := 14) (by kernel_rfl) (Closed.not h1 (i := 12) (by kernel_rfl) (ready_not h2)))))) hwx
    go_simp
    try with_reducible rfl
  try simp only [Act.put, List.setIfInBounds_toArray, List.set_cons_zero, List.set_cons_succ, List.getElem_toArray, List.getElem_cons_zero, List.getElem_cons_succ, Nat.zero_add, List.nil_append]
  refine GoL.take (i := 13) (v := ?_) rfl rfl (by kernel_rfl) (fun _ _ _ h => h) (fun _ _ => Sp.other (by decide)) (by rfl) ?_ ?_
  rotate_left
  · intro wx hwx
    go_simp
    try with_reducible rfl
  try simp only [Act.put, List.setIfInBounds_toArray, List.set_cons_zero, List.set_cons_succ, List.getElem_toArray, List.getElem_cons_zero, List.getElem_cons_succ, Nat.zero_add, List.nil_append]
  refine GoL.take (i := 14) (v := ?_) rfl rfl (by kernel_rfl) (fun _ _ _ h => h) (fun _ _ => Sp.other (by decide)) (by rfl) ?_ ?_
  rotate_left
  · intro wx hwx
    go_simp
    try with_reducible rfl
  try simp only [Act.put, List.setIfInBounds_toArray, List.set_cons_zero, List.set_cons_succ, List.getElem_toArray, List.getElem_cons_zero, List.getElem_cons_succ, Nat.zero_add, List.nil_append]
  refine GoL.take (i := 16) (v := ?_) rfl rfl (by kernel_rfl) (fun _ _ _ h => h) (fun _ _ => Sp.other (by decide)) (by rfl) ?_ ?_
  rotate_left
  · intro wx hwx
    go_simp
    try with_reducible rfl
  try simp only [Act.put, List.setIfInBounds_toArray, List.set_cons_zero, List.set_cons_succ, List.getElem_toArray, List.getElem_cons_zero, List.getElem_cons_succ, Nat.zero_add, List.nil_append]
  refine GoL.take (i := 17) (v := ?_) rfl rfl (by kernel_rfl) (fun _ _ _ h => h) (fun _ _ => Sp.other (by decide)) (by rfl) ?_ ?_
  rotate_left
  · intro wx hwx
    go_simp
    try with_reducible rfl
  try simp only [Act.put, List.setIfInBounds_toArray, List.set_cons_zero, List.set_cons_succ, List.getElem_toArray, List.getElem_cons_zero, List.getElem_cons_succ, Nat.zero_add, List.nil_append]
  refine GoL.take (i := 18) (v := ?_) rfl rfl (by kernel_rfl) (fun _ _ _ h => h) (fun _ _ => Sp.other (by decide)) (by rfl) ?_ ?_
  rotate_left
  · intro wx hwx
    go_simp
    try with_reducible rfl
  try simp only [Act.put, List.setIfInBounds_toArray, List.set_cons_zero, List.set_cons_succ, List.getElem_toArray, List.getElem_cons_zero, List.getElem_cons_succ, Nat.zero_add, List.nil_append]
  refine GoL.take (i := 19) (v := ?_) rfl rfl (by kernel_rfl) (fun _ _ _ h => h) (fun _ _ => Sp.other (by decide)) (by rfl) ?_ ?_
  rotate_left
  · intro wx hwx
    have x1 := Sp.wi1 hwx
    go_simp
    try with_reducible rfl
  try simp only [Act.put, List.setIfInBounds_toArray, List.set_cons_zero, List.set_cons_succ, List.getElem_toArray, List.getElem_cons_zero, List.getElem_cons_succ, Nat.zero_add, List.nil_append]
  refine GoL.take (i := 20) (v := ?_) rfl rfl (by kernel_rfl) (fun _ _ _ h => h) (fun _ _ => Sp.other (by decide)) (by rfl) ?_ ?_
  rotate_left
  · intro wx hwx
    go_simp
    try with_reducible rfl
  try simp only [Act.put, List.setIfInBounds_toArray, List.set_cons_zero, List.set_cons_succ, List.getElem_toArray, List.getElem_cons_zero, List.getElem_cons_succ, Nat.zero_add, List.nil_append]
  refine GoL.take (i := 21) (v := ?_) rfl rfl (by kernel_rfl) (fun _ _ _ h => h) (fun _ _ => Sp.other (by decide)) (by rfl) ?_ ?_
  rotate_left
  · intro wx hwx
    go_simp
    try with_reducible rfl
  try simp only [Act.put, List.setIfInBounds_toArray, List.set_cons_zero, List.set_cons_succ, List.getElem_toArray, List.getElem_cons_zero, List.getElem_cons_succ, Nat.zero_add, List.nil_append]
  refine GoL.take (i := 22) (v := ?_) rfl rfl (by kernel_rfl) (fun _ _ _ h => h) (fun _ _ => Sp.other (by decide)) (by rfl) ?_ ?_
  rotate_left
  · intro wx hwx
    have x2 := Sp.wi2 (fun L h1 h2 => (Closed.not h1 (i := 26) (by kernel_rfl) (Closed.not h1 (i := 25) (by kernel_rfl) (Closed.not h1 (i := 22) (by kernel_rfl) (ready_not h2))))) hwx
    go_simp
    try with_reducible rfl
  try simp only [Act.put, List.setIfInBounds_toArray, List.set_cons_zero, List.set_cons_succ, List.getElem_toArray, List.getElem_cons_zero, List.getElem_cons_succ, Nat.zero_add, List.nil_append]
  refine GoL.take (i := 23) (v := ?_) rfl rfl (by kernel_rfl) (fun _ _ _ h => h) (fun _ _ => Sp.other (by decide)) (by rfl) ?_ ?_
  rotate_left
  · intro wx hwx
    go_simp
    try with_reducible rfl
  try simp only [Act.put, List.setIfInBounds_toArray, List.set_cons_zero, List.set_cons_succ, List.getElem_toArray, List.getElem_cons_zero, List.getElem_cons_succ, Nat.zero_add, List.nil_append]
  refine GoL.take (i := 24) (v := ?_) rfl rfl (by kernel_rfl) (fun _ _ _ h => h) (fun _ _ => Sp.other (by decide)) (by rfl) ?_ ?_
  rotate_left
  · intro wx hwx
    go_simp
    try with_reducible rfl
  try simp only [Act.put, List.setIfInBounds_toArray, List.set_cons_zero, List.set_cons_succ, List.getElem_toArray, List.getElem_cons_zero, List.getElem_cons_succ, Nat.zero_add, List.nil_append]
  refine GoL.take (i := 25) (v := ?_) rfl rfl (by kernel_rfl) (fun _ _ _ h => h) (fun _ _ => Sp.other (by decide)) (by rfl) ?_ ?_
  rotate_left
  · intro wx hwx
    go_simp
    try with_reducible rfl
  try simp only [Act.put, List.setIfInBounds_toArray, List.set_cons_zero, List.set_cons_succ, List.getElem_toArray, List.getElem_cons_zero, List.getElem_cons_succ, Nat.zero_add, List.nil_append]
  refine GoL.on (rs := [5]) (by kernel_rfl) (by decide) ?_
  refine OnL.cons rfl ?_ OnL.nil
  intro K hK
  replace hK := Lib.hid hK
  go_simp
  have b1 := bV.alloc lV (.cells #[] 3)
  refine hK.out _ _ ⟨kc1 _ b1, fun _ => kcell _ b1⟩ ?_
  clear hK
  try simp only [Act.put, List.setIfInBounds_toArray, List.set_cons_zero, List.set_cons_succ, List.getElem_toArray, List.getElem_cons_zero, List.getElem_cons_succ, Nat.zero_add, List.nil_append]
  refine GoL.on (rs := [15]) (by kernel_rfl) (by decide) ?_
  refine OnL.cons rfl ?_ OnL.nil
  intro K hK
  replace hK := Lib.hid hK
  refine step_appG rfl (.tmp 21) (.tmp 30) 36 3 i1 _ 1 8 Tryd.underlying36 hi1 hz1 hs1 hb1 rfl (by decide) rfl (OwG.emp _ _ V) (hsrc1 _ b1) rfl rfl (by omega) (by omega) ?_
  intro ao1 cap1 ko1 w2 ho1 hf1 hm1
  rw [Nat.zero_add, List.nil_append] at ho1
  obtain ⟨b2, hk1⟩ := app_new b1 b1.size (fun k e => by cases e; exact lV) hf1 hm1
  clear hf1 hm1
  refine hK.out _ _ ⟨kc1 _ b2, fun _ => kcell _ b2⟩ ?_
  clear hK
  try simp only [Act.put, List.setIfInBounds_toArray, List.set_cons_zero, List.set_cons_succ, List.getElem_toArray, List.getElem_cons_zero, List.getElem_cons_succ, Nat.zero_add, List.nil_append]
  refine GoL.on (rs := [26]) (by kernel_rfl) (by decide) ?_
  refine OnL.cons rfl ?_ OnL.nil
  intro K hK
  replace hK := Lib.hid hK
  refine step_appG rfl (.tmp 31) (.tmp 41) 36 3 i1 _ 1 8 Tryd.underlying36 hi1 hz1 hs1 hb1 rfl (by decide) rfl ho1 (hsrc2 _ b2) rfl rfl (by omega) (by omega) ?_
  intro ao2 cap2 ko2 w3 ho2 hf2 hm2
  obtain ⟨b4, hk2⟩ := app_new b2 b2.size hk1 hf2 hm2
  have hfin := Lib.hid (fin w3 ao2 cap2 ko2 b4 hk2 ho2)
  have cst := kcell w3 b4
  have fst := hfz w3 b4
  have kS2 := kc1 _ b4
  clear hf2 hm2 ho2 ho1
  refine hK.out _ _ ⟨kS2, fun _ => cst⟩ ?_
  clear hK
  try simp only [Act.put, List.setIfInBounds_toArray, List.set_cons_zero, List.set_cons_succ, List.getElem_toArray, List.getElem_cons_zero, List.getElem_cons_succ, Nat.zero_add, List.nil_append]
  refine GoL.take (i := 27) (v := ?_) rfl rfl (by kernel_rfl) (fun _ _ _ h => h) (fun _ _ => Sp.other (by decide)) (by rfl) ?_ ?_
  rotate_left
  · intro wx hwx
    go_simp
    try with_reducible rfl
  try simp only [Act.put, List.setIfInBounds_toArray, List.set_cons_zero, List.set_cons_succ, List.getElem_toArray, List.getElem_cons_zero, List.getElem_cons_succ, Nat.zero_add, List.nil_append]
  refine GoL.on (rs := [28]) (by kernel_rfl) (by decide) ?_
  refine OnL.cons rfl ?_ OnL.nil
  intro K hK
  replace hK := Lib.hid hK
  go_simp
  refine hK.out _ _ (Sp.last (by simp) (set_cell _ hne.symm kS2)) ?_
  clear hK
  try simp only [Act.put, List.setIfInBounds_toArray, List.set_cons_zero, List.set_cons_succ, List.getElem_toArray, List.getElem_cons_zero, List.getElem_cons_succ, Nat.zero_add, List.nil_append]
  refine GoL.done (by kernel_rfl) ?_
  refine NoPanic.normal ?_
  clear fin kcell kc1 hsrc1 hsrc2 bV hfz cF
  go_wp2_with fail
  go_ret2
  exact ⟨rfl, hfin.out⟩
theorem rrem_any (x : Int) (h : RQ W r S s) :
    Calls Tryd.prog 21 #[.pointer (some ⟨r, 0, none⟩), .int .i64 x] W fun e w' => e = .returned (.tuple #[.int .i64 (s.ofV x), .bool (s.ofB x)]) ∧ (∃ S', RQ w' r S' (s.remS x) ∧ ∀ b, S' b → S b ∨ W.heap.size ≤ b) ∧ Frm S W w' := by
  obtain ⟨bm, c, h⟩ := h
  unfold Fq.remS
  cases hf : s.findI x with
  | none =>
    have hB : s.ofB x = false := by unfold Fq.ofB; rw [hf]; rfl
    have hV : s.ofV x = 0 := by unfold Fq.ofV; rw [hf]; rfl
    rw [hB, hV]
    exact (rremNo_any x h hf).mono fun e w' ⟨he, hw⟩ => ⟨he, by subst hw; exact ⟨⟨S, ⟨bm, c, h⟩, fun b hb => .inl hb⟩, Frm.refl _ _⟩⟩
  | some p =>
    obtain ⟨i, k⟩ := p
    obtain ⟨y, rfl, q, h1, h2⟩ := Fq.findI_some hf
    have hB : s.ofB (y : Int) = true := by unfold Fq.ofB; rw [hf]; rfl
    have hV : s.ofV (y : Int) = (i : Int) := by unfold Fq.ofV; rw [hf]; rfl
    rw [hB, hV]
    simp only
    rw [h1]
    exact rremAt_any i k y h h1 h2
set_option maxRecDepth 8000 in
set_option maxHeartbeats 1000000 in
theorem rpop_any (i : Int) (h : RQ W r S s) :
    Calls Tryd.prog 20 #[.pointer (some ⟨r, 0, none⟩), .int .i64 i] W fun e w' => e = .returned (.tuple #[.int .i64 (s.frontV i), .bool (s.frontB i)]) ∧ (∃ S', RQ w' r S' (s.popS i) ∧ ∀ b, S' b → S b ∨ W.heap.size ≤ b) ∧ Frm S W w' := by
  have cR := rrem_any (s.frontV i) h
  have h' := h
  obtain ⟨bm, c, h⟩ := h
  have cF := rfront_any i h
  unfold Fq.popS
  generalize s.remS (s.frontV i) = s2 at *
  generalize s.ofV (s.frontV i) = v2 at *
  generalize s.ofB (s.frontV i) = b2 at *
  generalize s.frontV i = v at *
  cases hb : s.frontB i with
  | false =>
    rw [hb] at cF
    rw [if_neg (by simp)]
    clear hb
    go_enter Tryd.func20, Tryd.ntmps20
    go_wp2_with (go_at_call 22; (with_reducible refine cF.mono ?_); rintro e w1 ⟨rfl, rfl⟩)
    go_ret2
    exact ⟨rfl, ⟨S, h', fun b hb => .inl hb⟩, Frm.refl _ _⟩
  | true =>
    rw [hb] at cF
    rw [if_pos rfl]
    clear hb
    go_enter Tryd.func20, Tryd.ntmps20
    go_wp2_with (first
      | (go_at_call 22; (with_reducible refine cF.mono ?_); rintro e w1 ⟨rfl, rfl⟩)
      | (go_at_call 21; (with_reducible refine cR.mono ?_); rintro e w2 ⟨rfl, h2⟩))
    go_ret2
    exact ⟨rfl, h2⟩
end
end Go.Proofs.YtipmhialflincaaDoor
