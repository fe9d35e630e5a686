/-
  The contract of the document's Push.
-/
import Derived.Test.YtipmhialflincaaDoorFrp
namespace Go.Proofs.YtipmhialflincaaDoor
open Go.RowKit
set_option linter.unusedSimpArgs false
section
variable {w w' W : World} {r bm : Nat} {S T : Nat → Prop} {s : Fq} {c : Array Value}
set_option maxRecDepth 8000 in
set_option maxHeartbeats 1000000 in
theorem rpushNo_any (i x : Int) (h : RqB W r bm S s c) (hn : s.pushB i x = false) :
    Calls Tryd.prog 19 #[.pointer (some ⟨r, 0, none⟩), .int .i64 i, .int .i64 x] W fun e w' => e = .returned (.bool false) ∧ w' = W := by
  have cF := rfind_any x h
  have cH := rhas_any i h
  have c0 := h.c0
  have hcase : s.hasQ i = false ∨ (s.hasQ i = true ∧ x < 0) ∨ (s.hasQ i = true ∧ ¬ x < 0 ∧ ¬ x < (s.n : Int)) ∨ (s.hasQ i = true ∧ ¬ x < 0 ∧ x < (s.n : Int) ∧ 0 ≤ s.fI x) := by
    unfold Fq.pushB at hn
    cases hq : s.hasQ i with
    | false => exact .inl rfl
    | true =>
      rw [hq] at hn
      by_cases h0 : x < 0
      · exact .inr (.inl ⟨rfl, h0⟩)
      · by_cases h1 : x < (s.n : Int)
        · refine .inr (.inr (.inr ⟨rfl, h0, h1, ?_⟩))
          have : s.hasN x = true := by simp [Fq.hasN]; omega
          rw [this] at hn
          unfold Fq.fI
          cases hf : s.findI x with
          | none => rw [hf] at hn; simp at hn
          | some p => simp
        · exact .inr (.inr (.inl ⟨rfl, h0, h1⟩))
  generalize s.fI x = fi at *
  generalize s.fK x = fk at *
  have hnn := h.nn
  generalize s.n = n at *
  clear h hn
  rcases hcase with e | ⟨e, e1⟩ | ⟨e, e1, e2⟩ | ⟨e, e1, e2, e3⟩
  all_goals
    rw [e] at cH
    clear e
    go_enter Tryd.func19, Tryd.ntmps19
    go_wp2_with (first
      | (go_at_call 23; (with_reducible refine cF.mono ?_); rintro e w1 ⟨rfl, rfl⟩)
      | (go_at_call 11; (with_reducible refine cH.mono ?_); rintro e w1 ⟨rfl, rfl⟩))
    all_goals first
      | (exfalso; omega)
      | (go_ret; exact ⟨rfl, rfl⟩)
set_option maxRecDepth 8000 in
set_option maxHeartbeats 4000000 in
theorem rpushAt_any (i y : Nat) {q : List Nat} (h : RqB W r bm S s c) (hi : s.L[i]? = some q) (hy : y < s.n) (hn : ∀ j m, ¬ s.At y j m) :
    Calls Tryd.prog 19 #[.pointer (some ⟨r, 0, none⟩), .int .i64 (i : Int), .int .i64 (y : Int)] W fun e w' => e = .returned (.bool true) ∧ (∃ S', RQ w' r S' (s.put i (q ++ [y])) ∧ ∀ b, S' b → S b ∨ W.heap.size ≤ b) ∧ Frm S W w' := by
  have cF := rfind_any (y : Int) h
  have cH := rhas_any (i : Int) h
  have hl := (List.getElem?_eq_some_iff.1 hi).1
  have hfn : s.findI (y : Int) = none := by rw [s.findI_nat]; exact Fq.find_no hn
  rw [show s.fI (y : Int) = -1 by unfold Fq.fI; rw [hfn], show s.fK (y : Int) = 0 by unfold Fq.fK; rw [hfn]] at cF
  rw [show s.hasQ (i : Int) = true by rw [s.hasQ_nat]; simpa using hl] at cH
  have hwf := h.wf.push hi hy hn
  obtain ⟨ao, cap, hcell, hI, hao⟩ := h.head hi
  have hql := h.len hi
  have hq1000 : ∀ x ∈ q ++ [y], x < 1000 := by
    have hnn := h.nn
    intro x hx
    rcases List.mem_append.1 hx with hx | hx
    · obtain ⟨k, hk⟩ := List.mem_iff_getElem?.1 hx
      have := h.wf.lt x i k ⟨q, hi, hk⟩
      omega
    · simp at hx; omega
  -- what stands at the end
  have fin : ∀ w2 ao2 cap2 ko2, Below W.heap.size W w2 → Nw W.heap.size ko2 → OwG 3 1 w2 ko2 ao2 cap2 (q.length + 1) (zv q ++ [.int .i64 (y : Int)]) →
      (∃ S', RQ (w2.setCell ⟨bm, i, none⟩ (.slice ao2 (q.length + 1) cap2)) r S' (s.put i (q ++ [y])) ∧ ∀ b, S' b → S b ∨ W.heap.size ≤ b) ∧ Frm S W (w2.setCell ⟨bm, i, none⟩ (.slice ao2 (q.length + 1) cap2)) := by
    intro w2 ao2 cap2 ko2 hb hk ho
    have hl2 : q.length + 1 = (q ++ [y]).length := by simp
    have hz2 : zv q ++ [.int .i64 (y : Int)] = zv (q ++ [y]) := by rw [zv_app]
    rw [hl2, hz2] at ho
    rw [hl2]
    exact h.store hi hwf hb (ho.it hq1000) (ho.new_addr hk)
  have hbm : bm < W.heap.size := h.lt _ h.sm
  have hrl : r < W.heap.size := h.lt _ h.sr
  have hne := h.ne
  have c0 := h.c0
  have c1 := h.c1
  have hmf := h.hm.free i
  have hm := h.nm
  have hnn := h.nn
  have hfz : ∀ w2, Below W.heap.size W w2 → w2.frozen? ⟨bm, i, none⟩ = false := fun w2 hb => (h.hm.below hb hbm).free i
  have hil : (i : Int) < (s.L.length : Int) := by omega
  have hyn : (y : Int) < (s.n : Int) := by omega
  obtain ⟨i1, hi1, e1⟩ := Option.map_eq_some_iff.1 infoIn
  simp only [Prod.mk.injEq] at e1
  obtain ⟨hz1, hs1, hb1⟩ := e1
  have hsrc : ∀ w2, Below W.heap.size W w2 → SrcG 1 w2 ao cap q.length (zv q) := fun w2 hb => by
    have := (hI.below hb).src
    rwa [zs_length] at this
  have kc1 : ∀ w2, Below W.heap.size W w2 → w2.cell? ⟨r, 1, none⟩ = some (.slice (some ⟨bm, 0, none⟩) s.L.length s.L.length) := fun w2 hb => below_cell hb hrl c1
  have kcell : ∀ w2, Below W.heap.size W w2 → w2.cell? ⟨bm, i, none⟩ = some (.slice ao q.length cap) := fun w2 hb => below_cell hb hbm hcell
  have bD : Below W.heap.size W W.drew := (Below.refl _ W).drew
  generalize s.put i (q ++ [y]) = s' at *
  generalize s.n = n at *
  generalize s.L.length = m at *
  generalize hzq : zv q = zq at *
  generalize q.length = ql at *
  clear h hi hy hn hfn hwf hI hao hq1000 hzq hl
  go_enter Tryd.func19, Tryd.ntmps19
  go_wp2_with (first
    | (go_at_call 23; (with_reducible refine cF.mono ?_); rintro e w1 ⟨rfl, rfl⟩)
    | (go_at_call 11; (with_reducible refine cH.mono ?_); rintro e w1 ⟨rfl, rfl⟩))
  -- the region
  refine GoL.start (S := Sp r bm i m (.slice ao ql cap) 18) (by kernel_rfl) ⟨kc1 _ bD, fun _ => kcell _ bD⟩ ?_
  generalize w1.drew = V at bD ⊢
  have bV := bD
  clear bD
  have lV := bV.size
  refine GoL.take (i := 0) (v := ?_) rfl rfl (by kernel_rfl) (fun _ _ _ h => h) (fun _ _ => Sp.other (by decide)) (by rfl) ?_ ?_
  rotate_left
  · intro wx hwx
    go_simp
    try with_reducible rfl
  try simp only [Act.put, List.setIfInBounds_toArray, List.set_cons_zero, List.set_cons_succ, List.getElem_toArray, List.getElem_cons_zero, List.getElem_cons_succ, Nat.zero_add, List.nil_append]
  refine GoL.take (i := 1) (v := ?_) rfl rfl (by kernel_rfl) (fun _ _ _ h => h) (fun _ _ => Sp.other (by decide)) (by rfl) ?_ ?_
  rotate_left
  · intro wx hwx
    go_simp
    try with_reducible rfl
  try simp only [Act.put, List.setIfInBounds_toArray, List.set_cons_zero, List.set_cons_succ, List.getElem_toArray, List.getElem_cons_zero, List.getElem_cons_succ, Nat.zero_add, List.nil_append]
  refine GoL.take (i := 2) (v := ?_) rfl rfl (by kernel_rfl) (fun _ _ _ h => h) (fun _ _ => Sp.other (by decide)) (by rfl) ?_ ?_
  rotate_left
  · intro wx hwx
    go_simp
    try with_reducible rfl
  try simp only [Act.put, List.setIfInBounds_toArray, List.set_cons_zero, List.set_cons_succ, List.getElem_toArray, List.getElem_cons_zero, List.getElem_cons_succ, Nat.zero_add, List.nil_append]
  refine GoL.take (i := 3) (v := ?_) rfl rfl (by kernel_rfl) (fun _ _ _ h => h) (fun _ _ => Sp.other (by decide)) (by rfl) ?_ ?_
  rotate_left
  · intro wx hwx
    have x1 := Sp.wi1 hwx
    go_simp
    try with_reducible rfl
  try simp only [Act.put, List.setIfInBounds_toArray, List.set_cons_zero, List.set_cons_succ, List.getElem_toArray, List.getElem_cons_zero, List.getElem_cons_succ, Nat.zero_add, List.nil_append]
  refine GoL.take (i := 4) (v := ?_) rfl rfl (by kernel_rfl) (fun _ _ _ h => h) (fun _ _ => Sp.other (by decide)) (by rfl) ?_ ?_
  rotate_left
  · intro wx hwx
    go_simp
    try with_reducible rfl
  try simp only [Act.put, List.setIfInBounds_toArray, List.set_cons_zero, List.set_cons_succ, List.getElem_toArray, List.getElem_cons_zero, List.getElem_cons_succ, Nat.zero_add, List.nil_append]
  refine GoL.take (i := 6) (v := ?_) rfl rfl (by kernel_rfl) (fun _ _ _ h => h) (fun _ _ => Sp.other (by decide)) (by rfl) ?_ ?_
  rotate_left
  · intro wx hwx
    go_simp
    try with_reducible rfl
  try simp only [Act.put, List.setIfInBounds_toArray, List.set_cons_zero, List.set_cons_succ, List.getElem_toArray, List.getElem_cons_zero, List.getElem_cons_succ, Nat.zero_add, List.nil_append]
  refine GoL.take (i := 7) (v := ?_) rfl rfl (by kernel_rfl) (fun _ _ _ h => h) (fun _ _ => Sp.other (by decide)) (by rfl) ?_ ?_
  rotate_left
  · intro wx hwx
    go_simp
    try with_reducible rfl
  try simp only [Act.put, List.setIfInBounds_toArray, List.set_cons_zero, List.set_cons_succ, List.getElem_toArray, List.getElem_cons_zero, List.getElem_cons_succ, Nat.zero_add, List.nil_append]
  refine GoL.take (i := 8) (v := ?_) rfl rfl (by kernel_rfl) (fun _ _ _ h => h) (fun _ _ => Sp.other (by decide)) (by rfl) ?_ ?_
  rotate_left
  · intro wx hwx
    go_simp
    try with_reducible rfl
  try simp only [Act.put, List.setIfInBounds_toArray, List.set_cons_zero, List.set_cons_succ, List.getElem_toArray, List.getElem_cons_zero, List.getElem_cons_succ, Nat.zero_add, List.nil_append]
  refine GoL.take (i := 9) (v := ?_) rfl rfl (by kernel_rfl) (fun _ _ _ h => h) (fun _ _ => Sp.other (by decide)) (by rfl) ?_ ?_
  rotate_left
  · intro wx hwx
    have x1 := Sp.wi1 hwx
    go_simp
    try with_reducible rfl
  try simp only [Act.put, List.setIfInBounds_toArray, List.set_cons_zero, List.set_cons_succ, List.getElem_toArray, List.getElem_cons_zero, List.getElem_cons_succ, Nat.zero_add, List.nil_append]
  refine GoL.take (i := 10) (v := ?_) rfl rfl (by kernel_rfl) (fun _ _ _ h => h) (fun _ _ => Sp.other (by decide)) (by rfl) ?_ ?_
  rotate_left
  · intro wx hwx
    go_simp
    try with_reducible rfl
  try simp only [Act.put, List.setIfInBounds_toArray, List.set_cons_zero, List.set_cons_succ, List.getElem_toArray, List.getElem_cons_zero, List.getElem_cons_succ, Nat.zero_add, List.nil_append]
  refine GoL.take (i := 11) (v := ?_) rfl rfl (by kernel_rfl) (fun _ _ _ h => h) (fun _ _ => Sp.other (by decide)) (by rfl) ?_ ?_
  rotate_left
  · intro wx hwx
    go_simp
    try with_reducible rfl
  try simp only [Act.put, List.setIfInBounds_toArray, List.set_cons_zero, List.set_cons_succ, List.getElem_toArray, List.getElem_cons_zero, List.getElem_cons_succ, Nat.zero_add, List.nil_append]
  refine GoL.take (i := 12) (v := ?_) rfl rfl (by kernel_rfl) (fun _ _ _ h => h) (fun _ _ => Sp.other (by decide)) (by rfl) ?_ ?_
  rotate_left
  · intro wx hwx
    have x2 := Sp.wi2 (fun L h1 h2 => Closed.not h1 (i := 16) (by kernel_rfl) (Closed.not h1 (i := 13) (by kernel_rfl) (Closed.not h1 (i := 12) (by kernel_rfl) (ready_not h2)))) hwx
    go_simp
    try with_reducible rfl
  try simp only [Act.put, List.setIfInBounds_toArray, List.set_cons_zero, List.set_cons_succ, List.getElem_toArray, List.getElem_cons_zero, List.getElem_cons_succ, Nat.zero_add, List.nil_append]
  refine GoL.take (i := 14) (v := ?_) rfl rfl (by kernel_rfl) (fun _ _ _ h => h) (fun _ _ => Sp.other (by decide)) (by rfl) ?_ ?_
  rotate_left
  · intro wx hwx
    go_simp
    try with_reducible rfl
  try simp only [Act.put, List.setIfInBounds_toArray, List.set_cons_zero, List.set_cons_succ, List.getElem_toArray, List.getElem_cons_zero, List.getElem_cons_succ, Nat.zero_add, List.nil_append]
  refine GoL.on (rs := [5, 15]) (by kernel_rfl) (by decide) ?_
  refine OnL.cons rfl ?_ (OnL.cons rfl ?_ (OnL.nil))
  · intro K hK
    replace hK := Lib.hid hK
    go_simp
    have b1 := bV.alloc lV (.cells #[] 3)
    refine hK.out _ _ ⟨kc1 _ b1, fun _ => kcell _ b1⟩ ?_
    clear hK
    try simp only [Act.put, List.setIfInBounds_toArray, List.set_cons_zero, List.set_cons_succ, List.getElem_toArray, List.getElem_cons_zero, List.getElem_cons_succ, Nat.zero_add, List.nil_append]
    refine GoL.on (rs := [13, 15]) (by kernel_rfl) (by decide) ?_
    refine OnL.cons rfl ?_ (OnL.cons rfl ?_ (OnL.nil))
    · intro K hK
      replace hK := Lib.hid hK
      refine step_appG rfl (.tmp 40) (.tmp 47) 36 3 i1 _ 1 8 Tryd.underlying36 hi1 hz1 hs1 hb1 rfl (by decide) rfl (OwG.emp _ _ V) (hsrc _ b1) rfl rfl (by omega) (by omega) ?_
      intro ao1 cap1 ko1 w2 ho1 hf1 hm1
      rw [Nat.zero_add, List.nil_append] at ho1
      obtain ⟨hb2, hk1⟩ := app_new b1 b1.size (fun k e => by cases e; exact lV) hf1 hm1
      clear hf1 hm1
      have b2 := hb2
      refine hK.out _ _ ⟨kc1 _ b2, fun _ => kcell _ b2⟩ ?_
      clear hK
      try simp only [Act.put, List.setIfInBounds_toArray, List.set_cons_zero, List.set_cons_succ, List.getElem_toArray, List.getElem_cons_zero, List.getElem_cons_succ, Nat.zero_add, List.nil_append]
      refine GoL.on (rs := [15]) (by kernel_rfl) (by decide) ?_
      refine OnL.cons rfl ?_ (OnL.nil)
      · intro K hK
        replace hK := Lib.hid hK
        go_simp
        have b3 := b2.alloc b2.size (.cells #[.int .i64 (y : Int)] 3)
        refine hK.out _ _ ⟨kc1 _ b3, fun _ => kcell _ b3⟩ ?_
        clear hK
        try simp only [Act.put, List.setIfInBounds_toArray, List.set_cons_zero, List.set_cons_succ, List.getElem_toArray, List.getElem_cons_zero, List.getElem_cons_succ, Nat.zero_add, List.nil_append]
        refine GoL.on (rs := [16]) (by kernel_rfl) (by decide) ?_
        refine OnL.cons rfl ?_ (OnL.nil)
        · intro K hK
          replace hK := Lib.hid hK
          refine step_appG rfl (.tmp 48) (.tmp 50) 36 3 i1 _ 1 8 Tryd.underlying36 hi1 hz1 hs1 hb1 rfl (by decide) rfl (ho1.alloc _) (SrcG.one1 _ _ rfl _) rfl rfl (by omega) (by omega) ?_
          intro ao2 cap2 ko2 w3 ho2 hf2 hm2
          obtain ⟨b4, hk2⟩ := app_new b3 b3.size hk1 hf2 hm2
          have hfin := Lib.hid (fin w3 ao2 cap2 ko2 b4 hk2 ho2)
          have cst := kcell w3 b4
          have fst := hfz w3 b4
          clear hf2 hm2 ho2 ho1
          refine hK.out _ _ ⟨kc1 _ b4, fun _ => cst⟩ ?_
          clear hK
          try simp only [Act.put, List.setIfInBounds_toArray, List.set_cons_zero, List.set_cons_succ, List.getElem_toArray, List.getElem_cons_zero, List.getElem_cons_succ, Nat.zero_add, List.nil_append]
          refine GoL.take (i := 17) (v := ?_) rfl rfl (by kernel_rfl) (fun _ _ _ h => h) (fun _ _ => Sp.other (by decide)) (by rfl) ?_ ?_
          rotate_left
          · intro wx hwx
            go_simp
            try with_reducible rfl
          try simp only [Act.put, List.setIfInBounds_toArray, List.set_cons_zero, List.set_cons_succ, List.getElem_toArray, List.getElem_cons_zero, List.getElem_cons_succ, Nat.zero_add, List.nil_append]
          refine GoL.on (rs := [18]) (by kernel_rfl) (by decide) ?_
          refine OnL.cons rfl ?_ (OnL.nil)
          · intro K hK
            replace hK := Lib.hid hK
            have kS2 := kc1 _ b4
            go_simp
            refine hK.out _ _ (Sp.last (by simp) (set_cell _ hne.symm kS2)) ?_
            clear hK
            try simp only [Act.put, List.setIfInBounds_toArray, List.set_cons_zero, List.set_cons_succ, List.getElem_toArray, List.getElem_cons_zero, List.getElem_cons_succ, Nat.zero_add, List.nil_append]
            refine GoL.done (by kernel_rfl) ?_
            refine NoPanic.normal ?_
            clear fin kcell kc1 hsrc bV hfz cF cH
            go_wp2_with fail
            go_ret
            exact ⟨rfl, hfin.out⟩
    · intro K hK
      replace hK := Lib.hid hK
      go_simp
      have b2 := b1.alloc b1.size (.cells #[.int .i64 (y : Int)] 3)
      refine hK.out _ _ ⟨kc1 _ b2, fun _ => kcell _ b2⟩ ?_
      clear hK
      try simp only [Act.put, List.setIfInBounds_toArray, List.set_cons_zero, List.set_cons_succ, List.getElem_toArray, List.getElem_cons_zero, List.getElem_cons_succ, Nat.zero_add, List.nil_append]
      refine GoL.on (rs := [13]) (by kernel_rfl) (by decide) ?_
      refine OnL.cons rfl ?_ (OnL.nil)
      · intro K hK
        replace hK := Lib.hid hK
        refine step_appG rfl (.tmp 40) (.tmp 47) 36 3 i1 _ 1 8 Tryd.underlying36 hi1 hz1 hs1 hb1 rfl (by decide) rfl ((OwG.emp _ _ V).alloc (.cells #[.int .i64 (y : Int)] 3)) (hsrc _ b2) rfl rfl (by omega) (by omega) ?_
        intro ao1 cap1 ko1 w2 ho1 hf1 hm1
        rw [Nat.zero_add, List.nil_append] at ho1
        obtain ⟨hb3, hk1⟩ := app_new b2 b2.size (fun k e => by cases e; exact lV) hf1 hm1
        have hone : Blk w2 (V.heap.size + 1) 3 #[.int .i64 (y : Int)] := (hf1.block _ (Blk.new' (w := V.alloc (.cells #[] 3)) (n := V.heap.size + 1) (World.size_alloc _ _).symm).lt (fun e => by injection e with e; omega)).trans (Blk.new' (w := V.alloc (.cells #[] 3)) (n := V.heap.size + 1) (World.size_alloc _ _).symm)
        clear hf1 hm1
        have b3 := hb3
        refine hK.out _ _ ⟨kc1 _ b3, fun _ => kcell _ b3⟩ ?_
        clear hK
        try simp only [Act.put, List.setIfInBounds_toArray, List.set_cons_zero, List.set_cons_succ, List.getElem_toArray, List.getElem_cons_zero, List.getElem_cons_succ, Nat.zero_add, List.nil_append]
        refine GoL.on (rs := [16]) (by kernel_rfl) (by decide) ?_
        refine OnL.cons rfl ?_ (OnL.nil)
        · intro K hK
          replace hK := Lib.hid hK
          refine step_appG rfl (.tmp 48) (.tmp 50) 36 3 i1 _ 1 8 Tryd.underlying36 hi1 hz1 hs1 hb1 rfl (by decide) rfl ho1 (SrcG.blk1 hone rfl) rfl rfl (by omega) (by omega) ?_
          intro ao2 cap2 ko2 w3 ho2 hf2 hm2
          obtain ⟨b4, hk2⟩ := app_new b3 b3.size hk1 hf2 hm2
          have hfin := Lib.hid (fin w3 ao2 cap2 ko2 b4 hk2 ho2)
          have cst := kcell w3 b4
          have fst := hfz w3 b4
          clear hf2 hm2 ho2 ho1
          refine hK.out _ _ ⟨kc1 _ b4, fun _ => cst⟩ ?_
          clear hK
          try simp only [Act.put, List.setIfInBounds_toArray, List.set_cons_zero, List.set_cons_succ, List.getElem_toArray, List.getElem_cons_zero, List.getElem_cons_succ, Nat.zero_add, List.nil_append]
          refine GoL.take (i := 17) (v := ?_) rfl rfl (by kernel_rfl) (fun _ _ _ h => h) (fun _ _ => Sp.other (by decide)) (by rfl) ?_ ?_
          rotate_left
          · intro wx hwx
            go_simp
            try with_reducible rfl
          try simp only [Act.put, List.setIfInBounds_toArray, List.set_cons_zero, List.set_cons_succ, List.getElem_toArray, List.getElem_cons_zero, List.getElem_cons_succ, Nat.zero_add, List.nil_append]
          refine GoL.on (rs := [18]) (by kernel_rfl) (by decide) ?_
          refine OnL.cons rfl ?_ (OnL.nil)
          · intro K hK
            replace hK := Lib.hid hK
            have kS2 := kc1 _ b4
            go_simp
            refine hK.out _ _ (Sp.last (by simp) (set_cell _ hne.symm kS2)) ?_
            clear hK
            try simp only [Act.put, List.setIfInBounds_toArray, List.set_cons_zero, List.set_cons_succ, List.getElem_toArray, List.getElem_cons_zero, List.getElem_cons_succ, Nat.zero_add, List.nil_append]
            refine GoL.done (by kernel_rfl) ?_
            refine NoPanic.normal ?_
            clear fin kcell kc1 hsrc bV hfz cF cH
            go_wp2_with fail
            go_ret
            exact ⟨rfl, hfin.out⟩
  · intro K hK
    replace hK := Lib.hid hK
    go_simp
    have b1 := bV.alloc lV (.cells #[.int .i64 (y : Int)] 3)
    refine hK.out _ _ ⟨kc1 _ b1, fun _ => kcell _ b1⟩ ?_
    clear hK
    try simp only [Act.put, List.setIfInBounds_toArray, List.set_cons_zero, List.set_cons_succ, List.getElem_toArray, List.getElem_cons_zero, List.getElem_cons_succ, Nat.zero_add, List.nil_append]
    refine GoL.on (rs := [5]) (by kernel_rfl) (by decide) ?_
    refine OnL.cons rfl ?_ (OnL.nil)
    · intro K hK
      replace hK := Lib.hid hK
      go_simp
      have b2 := b1.alloc b1.size (.cells #[] 3)
      refine hK.out _ _ ⟨kc1 _ b2, fun _ => kcell _ b2⟩ ?_
      clear hK
      try simp only [Act.put, List.setIfInBounds_toArray, List.set_cons_zero, List.set_cons_succ, List.getElem_toArray, List.getElem_cons_zero, List.getElem_cons_succ, Nat.zero_add, List.nil_append]
      refine GoL.on (rs := [13]) (by kernel_rfl) (by decide) ?_
      refine OnL.cons rfl ?_ (OnL.nil)
      · intro K hK
        replace hK := Lib.hid hK
        refine step_appG rfl (.tmp 40) (.tmp 47) 36 3 i1 _ 1 8 Tryd.underlying36 hi1 hz1 hs1 hb1 rfl (by decide) rfl (OwG.empN (n := V.heap.size + 1) _ _ (V.alloc (.cells #[.int .i64 (y : Int)] 3)) (World.size_alloc _ _).symm) (hsrc _ b2) rfl rfl (by omega) (by omega) ?_
        intro ao1 cap1 ko1 w2 ho1 hf1 hm1
        rw [Nat.zero_add, List.nil_append] at ho1
        obtain ⟨hb3, hk1⟩ := app_new b2 b2.size (fun k e => by cases e; omega) hf1 hm1
        have hone : Blk w2 V.heap.size 3 #[.int .i64 (y : Int)] := (hf1.block _ ((Blk.new V 3 #[.int .i64 (y : Int)]).alloc (.cells #[] 3)).lt (fun e => by injection e with e; omega)).trans ((Blk.new V 3 #[.int .i64 (y : Int)]).alloc (.cells #[] 3))
        clear hf1 hm1
        have b3 := hb3
        refine hK.out _ _ ⟨kc1 _ b3, fun _ => kcell _ b3⟩ ?_
        clear hK
        try simp only [Act.put, List.setIfInBounds_toArray, List.set_cons_zero, List.set_cons_succ, List.getElem_toArray, List.getElem_cons_zero, List.getElem_cons_succ, Nat.zero_add, List.nil_append]
        refine GoL.on (rs := [16]) (by kernel_rfl) (by decide) ?_
        refine OnL.cons rfl ?_ (OnL.nil)
        · intro K hK
          replace hK := Lib.hid hK
          refine step_appG rfl (.tmp 48) (.tmp 50) 36 3 i1 _ 1 8 Tryd.underlying36 hi1 hz1 hs1 hb1 rfl (by decide) rfl ho1 (SrcG.blk1 hone rfl) rfl rfl (by omega) (by omega) ?_
          intro ao2 cap2 ko2 w3 ho2 hf2 hm2
          obtain ⟨b4, hk2⟩ := app_new b3 b3.size hk1 hf2 hm2
          have hfin := Lib.hid (fin w3 ao2 cap2 ko2 b4 hk2 ho2)
          have cst := kcell w3 b4
          have fst := hfz w3 b4
          clear hf2 hm2 ho2 ho1
          refine hK.out _ _ ⟨kc1 _ b4, fun _ => cst⟩ ?_
          clear hK
          try simp only [Act.put, List.setIfInBounds_toArray, List.set_cons_zero, List.set_cons_succ, List.getElem_toArray, List.getElem_cons_zero, List.getElem_cons_succ, Nat.zero_add, List.nil_append]
          refine GoL.take (i := 17) (v := ?_) rfl rfl (by kernel_rfl) (fun _ _ _ h => h) (fun _ _ => Sp.other (by decide)) (by rfl) ?_ ?_
          rotate_left
          · intro wx hwx
            go_simp
            try with_reducible rfl
          try simp only [Act.put, List.setIfInBounds_toArray, List.set_cons_zero, List.set_cons_succ, List.getElem_toArray, List.getElem_cons_zero, List.getElem_cons_succ, Nat.zero_add, List.nil_append]
          refine GoL.on (rs := [18]) (by kernel_rfl) (by decide) ?_
          refine OnL.cons rfl ?_ (OnL.nil)
          · intro K hK
            replace hK := Lib.hid hK
            have kS2 := kc1 _ b4
            go_simp
            refine hK.out _ _ (Sp.last (by simp) (set_cell _ hne.symm kS2)) ?_
            clear hK
            try simp only [Act.put, List.setIfInBounds_toArray, List.set_cons_zero, List.set_cons_succ, List.getElem_toArray, List.getElem_cons_zero, List.getElem_cons_succ, Nat.zero_add, List.nil_append]
            refine GoL.done (by kernel_rfl) ?_
            refine NoPanic.normal ?_
            clear fin kcell kc1 hsrc bV hfz cF cH
            go_wp2_with fail
            go_ret
            exact ⟨rfl, hfin.out⟩
theorem rpush_any (i x : Int) (h : RQ W r S s) :
    Calls Tryd.prog 19 #[.pointer (some ⟨r, 0, none⟩), .int .i64 i, .int .i64 x] W fun e w' => e = .returned (.bool (s.pushB i x)) ∧ (∃ S', RQ w' r S' (s.pushS i x) ∧ ∀ b, S' b → S b ∨ W.heap.size ≤ b) ∧ Frm S W w' := by
  obtain ⟨bm, c, h⟩ := h
  unfold Fq.pushS
  cases hb : s.pushB i x with
  | false =>
    rw [if_neg (by simp)]
    exact (rpushNo_any i x h hb).mono fun e w' ⟨he, hw⟩ => ⟨he, by subst hw; exact ⟨⟨S, ⟨bm, c, h⟩, fun b hb => .inl hb⟩, Frm.refl _ _⟩⟩
  | true =>
    rw [if_pos rfl]
    simp only [Fq.pushB, Bool.and_eq_true] at hb
    obtain ⟨k, q, rfl, hk, hq, hqi⟩ := Fq.hasQ_pos hb.1.1
    obtain ⟨y, rfl, hy⟩ := Fq.hasN_pos hb.1.2
    rw [hqi, Int.toNat_natCast, Int.toNat_natCast]
    refine rpushAt_any k y h hq hy (Fq.find_none ?_)
    have := hb.2
    rw [s.findI_nat] at this
    simpa using this
end
end Go.Proofs.YtipmhialflincaaDoor
