/-
  Add of the program's window. (Written by gen/p_wad.py.)
-/
import Derived.Test.YteljjjdejjkgfaaWlvq
import Derived.Test.YteljjjdejjkgfaaSlqq
namespace Go.Proofs.Yteljjjdejjkgfaa
open Go.RowKit
set_option linter.unusedSimpArgs false
theorem moved_swtW {w W : World} {ko ko' : Option Nat} (h : Moved w ko ko') (hs : W.heap.size ≤ w.heap.size) : ∀ k, ko' = some k → ko = some k ∨ W.heap.size ≤ k := by
  intro k e
  rcases h with h | h | ⟨k', h, h'⟩
  · rw [h] at e; cases e
  · exact .inl (h ▸ e)
  · rw [h] at e; cases e; exact .inr (by omega)
section
variable {w w' W : World} {g : Nat} {S T : Nat → Prop} {m : Wn} {ko : Option Nat} {ao : Option Addr} {cap : Nat}
/-- What Add leaves. -/
theorem WpB.added (h : WpB W g S ko ao cap m) {t p q : Int} (hadd : m.add t p q = (0, { m with last := t, L := m.L ++ [⟨t, p, q⟩] })) {V : World} {ko1 : Option Nat} {ao1 : Option Addr} {cap1 : Nat}
    (hB : Blk V g 55 (cWin m.span m.grid m.ref t ao1 (m.L.length + 1) cap1 (pqs m.L + p * q) (qqs m.L + q))) (hO : OwD 59 3 V ko1 ao1 cap1 (m.L.length + 1) (tcs m.L ++ (cTrd ⟨t, p, q⟩).toList))
    (hF : Frm (fun c => c = g ∨ ko = some c) W V) (hk : ∀ c, ko1 = some c → ko = some c ∨ W.heap.size ≤ c) : Tp W g S (m.add t p q).2 V := by
  have hok := h.ok.add t p q
  rw [hadd] at hok ⊢
  have hgl := h.lt g h.sg
  have hs := hF.size
  have hne : ∀ c, ko1 = some c → c ≠ g ∧ (S c ∨ W.heap.size ≤ c) := fun c e => by
    rcases hk c e with e1 | e1
    · exact ⟨(h.sk c e1).2, .inl (h.sk c e1).1⟩
    · exact ⟨by omega, .inr (by omega)⟩
  have e1 : pqs (m.L ++ [⟨t, p, q⟩]) = pqs m.L + p * q := by rw [pqs_append]; simp [pqs]
  have e2 : qqs (m.L ++ [⟨t, p, q⟩]) = qqs m.L + q := by rw [qqs_append]; simp [qqs]
  refine ⟨fun c => c = g ∨ ko1 = some c, ⟨ko1, ao1, cap1, ?_, ?_, .inl rfl, fun c e => ⟨.inr e, (hne c e).1⟩, ?_, hok⟩, ?_, ?_⟩
  · simp only [e1, e2, List.length_append, List.length_singleton]
    exact hB
  · simp only [List.length_append, List.length_singleton, tcs, List.flatMap_append, List.flatMap_cons, List.flatMap_nil, List.append_nil]
    exact hO
  · rintro c (rfl | e)
    · exact hB.lt
    · subst e; exact hO.lt
  · refine hF.mono fun c _ e => ?_
    rcases e with rfl | e
    · exact h.sg
    · exact (h.sk c e).1
  · rintro c (rfl | e)
    · exact .inl h.sg
    · exact (hne c e).2
set_option maxRecDepth 100000 in
set_option maxHeartbeats 8000000 in
theorem wp_add (t p q : Int) (_ht : In64 t) (hp : In64 p) (_hq : In64 q) (hlen : m.L.length ≤ 1000000) (h : WP W g S m) : Calls Try.prog 15 #[.pointer (some ⟨g, 0, none⟩), .int .i64 t, .int .i64 p, .int .i64 q] W fun e w' => e = .returned (.int .i64 (m.add t p q).1) ∧ Tp W g S (m.add t p q).2 w' := by
  obtain ⟨ko, ao, cap, h⟩ := h
  have cK := paccepts_any t h
  have cP := fun w => pisprice_any p hp w
  have cQ := fun w => fqty_any q w
  have hqv : (qtyV q = 0 ∧ 1 ≤ q ∧ q ≤ 4294967296) ∨ (qtyV q = 9 ∧ ¬ (1 ≤ q ∧ q ≤ 4294967296)) := by
    unfold qtyV
    by_cases h : q < 1 ∨ 4294967296 < q
    · rw [if_pos h]; omega
    · rw [if_neg h]; omega
  have key : (m.add t p q = (9, m) ∧ (decide (tickOk m.last t) = false ∨ (decide (tickOk m.last t) = true ∧ (decide (1 ≤ p ∧ p ≤ 1099511627776) = false ∨ (decide (1 ≤ p ∧ p ≤ 1099511627776) = true ∧ qtyV q = 9))))) ∨ (m.add t p q = (0, { m with last := t, L := m.L ++ [⟨t, p, q⟩] }) ∧ decide (tickOk m.last t) = true ∧ decide (1 ≤ p ∧ p ≤ 1099511627776) = true ∧ qtyV q = 0 ∧ tickOk m.last t ∧ 1 ≤ p ∧ p ≤ 1099511627776 ∧ 1 ≤ q ∧ q ≤ 4294967296) := by
    unfold Wn.add
    by_cases h1 : tickOk m.last t
    · by_cases h2 : 1 ≤ p ∧ p ≤ 1099511627776
      · rcases hqv with ⟨h3, h4⟩ | ⟨h3, h4⟩
        · exact .inr ⟨if_pos ⟨h1, h2.1, h2.2, h4⟩, decide_eq_true h1, decide_eq_true h2, h3, h1, h2.1, h2.2, h4⟩
        · exact .inl ⟨if_neg (fun g => h4 ⟨g.2.2.2.1, g.2.2.2.2⟩), .inr ⟨decide_eq_true h1, .inr ⟨decide_eq_true h2, h3⟩⟩⟩
      · exact .inl ⟨if_neg (fun g => h2 ⟨g.2.1, g.2.2.1⟩), .inr ⟨decide_eq_true h1, .inl (decide_eq_false h2)⟩⟩
    · exact .inl ⟨if_neg (fun g => h1 g.1), .inl (decide_eq_false h1)⟩
  clear hqv hp
  rcases key with ⟨e, k⟩ | ⟨e, k0, k1, k2, k3, p1, p2, q1, q2⟩
  · rw [e]
    have hk : ∀ w, Below W.heap.size W w → Tp W g S m w := fun w hb => Tp.below ⟨ko, ao, cap, h⟩ hb
    clear e h
    generalize decide (tickOk m.last t) = v at *
    generalize decide (1 ≤ p ∧ p ≤ 1099511627776) = v2 at *
    rcases k with rfl | ⟨rfl, rfl | ⟨rfl, k3⟩⟩
    · go_enter Try.func15, Try.ntmps15
      go_wp2_with (first
        | (go_at_call 26; refine cK.mono ?_; rintro e w1 ⟨rfl, hb1⟩; clear cK)
        | fail)
      go_ret
      exact ⟨rfl, hk _ hb1⟩
    · go_enter Try.func15, Try.ntmps15
      go_wp2_with (first
        | (go_at_call 26; refine cK.mono ?_; rintro e w1 ⟨rfl, hb1⟩; clear cK)
        | (go_at_call 25; refine (cP _).mono ?_; rintro e w2 ⟨rfl, hb2⟩; clear cP; replace hb2 := hb1.trans (hb2.mono hb1.size))
        | fail)
      go_ret
      exact ⟨rfl, hk _ hb2⟩
    · rw [k3] at cQ
      go_enter Try.func15, Try.ntmps15
      go_wp2_with (first
        | (go_at_call 26; refine cK.mono ?_; rintro e w1 ⟨rfl, hb1⟩; clear cK)
        | (go_at_call 25; refine (cP _).mono ?_; rintro e w2 ⟨rfl, hb2⟩; clear cP; replace hb2 := hb1.trans (hb2.mono hb1.size))
        | (go_at_call 27; refine (cQ _).mono ?_; rintro e w3 ⟨rfl, hb3⟩; clear cQ; replace hb3 := hb2.trans (hb3.mono hb2.size))
        | fail)
      go_ret
      exact ⟨rfl, hk _ hb3⟩
  · rw [k0] at cK
    rw [k1] at cP
    rw [k2] at cQ
    have hadd1 : (m.add t p q).1 = 0 := by rw [e]
    rw [hadd1]
    have hxo : Trd.Ok ⟨t, p, q⟩ := ⟨⟨k3.1, k3.2.1⟩, ⟨p1, p2⟩, ⟨q1, q2⟩⟩
    obtain ⟨i1, hi1, e1⟩ := Option.map_eq_some_iff.1 infoPtr
    simp only [Prod.mk.injEq] at e1
    obtain ⟨hz1, hs1, hb1⟩ := e1
    have hsm := sums_small2 (l := m.L) (fun x hx => (h.ok.ok x hx).1) hlen
    have hend9 := Lib.hid fun V ko1 ao1 cap1 => h.added e (V := V) (ko1 := ko1) (ao1 := ao1) (cap1 := cap1)
    have hk : ∀ w, Below W.heap.size W w → Blk w g 55 (cWin m.span m.grid m.ref m.last ao m.L.length cap (pqs m.L) (qqs m.L)) ∧ OwD 59 3 w ko ao cap m.L.length (tcs m.L) := fun w hb => ⟨h.hg.below hb h.hg.lt, h.how.below hb⟩
    have hkg : ∀ {k}, ko = some k → k ≠ g := fun e => (h.sk _ e).2
    have hkl : ∀ {k}, ko = some k → k < W.heap.size := fun e => h.lt _ (h.sk _ e).1
    have hgl := h.lt g h.sg
    obtain ⟨P, hP⟩ : ∃ P, P = pqs m.L := ⟨_, rfl⟩
    obtain ⟨Q, hQ⟩ : ∃ Q, Q = qqs m.L := ⟨_, rfl⟩
    rw [← hP, ← hQ] at hsm hk hend9
    have cW := fun w => up_addW P ⟨t, p, q⟩ hxo (by omega) (by omega) w
    have cA := fun w => up_addQ Q ⟨t, p, q⟩ hxo (by omega) (by omega) w
    have hone := cTrd_one ⟨t, p, q⟩
    simp only at cW cA
    replace hsm := Lib.hid hsm
    replace hk := Lib.hid hk
    clear e h hadd1 k0 k1 k2 k3 p1 p2 q1 q2 hxo hP hQ
    go_enter Try.func15, Try.ntmps15
    go_wp2_with (first
      | (go_at_call 26; refine cK.mono ?_; rintro e w1 ⟨rfl, hb1⟩; clear cK)
      | (go_at_call 25; refine (cP _).mono ?_; rintro e w2 ⟨rfl, hb2⟩; clear cP; replace hb2 := hb1.trans (hb2.mono hb1.size))
      | (go_at_call 27; refine (cQ _).mono ?_; rintro e w3 ⟨rfl, hb3⟩; clear cQ; replace hb3 := hb2.trans (hb3.mono hb2.size); obtain ⟨hB3, hO3⟩ := hk.out w3 hb3; have hBa := hB3.below (w' := w3.alloc (.cells #[.int .i64 t, .int .i64 p, .int .i64 q] 59)) ((Below.refl _ _).alloc (Nat.le_refl _) _) hB3.lt; have c3 := hBa.cell_eq 3 _ rfl; have fr3 := hBa.free)
      | fail)
    have hne : ¬ w3.heap.size = g := by have := hb3.size; omega
    have hkt : ko = some w3.heap.size → False := fun e => by have := hkl e; have := hb3.size; omega
    obtain ⟨V, hV⟩ : ∃ V, V = (w3.alloc (.cells #[.int .i64 t, .int .i64 p, .int .i64 q] 59)).setCell ⟨g, 3, none⟩ (.int .i64 t) := ⟨_, rfl⟩
    have hBz : Blk V g 55 (cWin m.span m.grid m.ref t ao m.L.length cap P Q) := by rw [hV]; exact hBa.set 3 (.int .i64 t)
    have hTb : Blk V w3.heap.size 59 (cTrd ⟨t, p, q⟩) := by
      rw [hV]
      have h0 : Blk (w3.alloc (.cells #[.int .i64 t, .int .i64 p, .int .i64 q] 59)) w3.heap.size 59 (cTrd ⟨t, p, q⟩) := Blk.new _ _ _
      exact (heap_oth _ ⟨g, 3, none⟩ _ hne).trans h0
    have hO : OwD 59 3 V ko ao cap m.L.length (tcs m.L) := by
      rw [hV]
      exact (hO3.below ((Below.refl _ _).alloc (Nat.le_refl _) _)).keep fun c e => heap_oth _ ⟨g, 3, none⟩ _ (hkg e)
    have hFV : Frm (fun c => c = g ∨ ko = some c) W V := by
      rw [hV]
      exact (Frm.of_below (S := fun c => c = g ∨ ko = some c) (hb3.alloc hb3.size _)).setCell ⟨g, 3, none⟩ _ (.inl (.inl rfl))
    rw [← hV]
    have htl := hTb.lt
    have hVW := hFV.size
    have hfin : Hid (∀ w4 ao1 cap1 ko1, Frm (fun c => ko = some c) V w4 → OwD 59 3 w4 ko1 ao1 cap1 (m.L.length + 1) (tcs m.L ++ (cTrd ⟨t, p, q⟩).toList) → (∀ k, ko1 = some k → ko = some k ∨ V.heap.size ≤ k) → w4.cell? ⟨g, 4, none⟩ = some (.slice ao m.L.length cap) ∧ (∀ i, w4.frozen? ⟨g, i, none⟩ = false) ∧ Hid (∀ V2, V2 = w4.setCell ⟨g, 4, none⟩ (.slice ao1 (m.L.length + 1) cap1) →
        Blk V2 g 55 (cWin m.span m.grid m.ref t ao1 (m.L.length + 1) cap1 P Q) ∧ OwD 59 3 V2 ko1 ao1 cap1 (m.L.length + 1) (tcs m.L ++ (cTrd ⟨t, p, q⟩).toList) ∧ Blk V2 w3.heap.size 59 (cTrd ⟨t, p, q⟩) ∧ Frm (fun c => c = g ∨ ko = some c) W V2 ∧ (∀ c, ko1 = some c → ko = some c ∨ W.heap.size ≤ c) ∧ (∀ c, ko1 = some c → c ≠ g))) := Lib.hid fun w4 ao1 cap1 ko1 hf ho hk1 => by
      have hB4 := blk_frmW hBz hf (fun e => hkg e rfl)
      have hT4 := blk_frmW hTb hf (fun e => hkt e)
      have hk2 : ∀ c, ko1 = some c → c ≠ g := fun c e => by
        rcases hk1 c e with e1 | e1
        · exact hkg e1
        · omega
      refine ⟨hB4.cell_eq 4 _ rfl, hB4.free, Lib.hid ?_⟩
      rintro V2 rfl
      exact ⟨hB4.set 4 _, ho.keep fun c e => heap_oth _ ⟨g, 4, none⟩ _ (hk2 c e), (heap_oth _ ⟨g, 4, none⟩ _ hne).trans hT4, (hFV.trans hf (fun c e => .inl (.inr e))).setCell ⟨g, 4, none⟩ _ (.inl (.inl rfl)), fun c e => (hk1 c e).imp id fun e1 => by omega, hk2⟩
    replace hkg : ko = some g → False := fun e => hkg e rfl
    clear hV hBa c3 fr3 hB3 hO3 hb1 hb2 hb3 hFV hkl htl hVW hk
    replace hsm := hsm
    refine GoL.start (S := Slq (fun w => Frm (fun c => ko = some c) V w) 10) (by kernel_rfl) (fun _ => (Frm.refl _ _).drew) ?_
    have hOU := hO.below ((Below.refl V.heap.size V).drew)
    have hDU : Frm (fun c => ko = some c) V V.drew := (Frm.refl _ _).drew
    generalize V.drew = U at hOU hDU ⊢
    refine GoL.take (i := 0) (v := ?_) rfl rfl (by kernel_rfl) (fun _ _ _ h => h) (fun _ _ => Slq.other (by decide)) (by rfl) ?_ ?_
    rotate_left
    · intro wx hwx
      go_simp
      try with_reducible rfl
    try simp only [Act.put, List.setIfInBounds_toArray, List.set_cons_zero, List.set_cons_succ, List.getElem_toArray, List.getElem_cons_zero, List.getElem_cons_succ]
    refine GoL.take (i := 1) (v := ?_) rfl rfl (by kernel_rfl) (fun _ _ _ h => h) (fun _ _ => Slq.other (by decide)) (by rfl) ?_ ?_
    rotate_left
    · intro wx hwx
      go_simp
      try with_reducible rfl
    try simp only [Act.put, List.setIfInBounds_toArray, List.set_cons_zero, List.set_cons_succ, List.getElem_toArray, List.getElem_cons_zero, List.getElem_cons_succ]
    refine GoL.take (i := 2) (v := ?_) rfl rfl (by kernel_rfl) (fun _ _ _ h => h) (fun _ _ => Slq.other (by decide)) (by rfl) ?_ ?_
    rotate_left
    · intro wx hwx
      go_simp
      try with_reducible rfl
    try simp only [Act.put, List.setIfInBounds_toArray, List.set_cons_zero, List.set_cons_succ, List.getElem_toArray, List.getElem_cons_zero, List.getElem_cons_succ]
    refine GoL.take (i := 3) (v := ?_) rfl rfl (by kernel_rfl) (fun _ _ _ h => h) (fun _ _ => Slq.other (by decide)) (by rfl) ?_ ?_
    rotate_left
    · intro wx hwx
      go_simp
      try with_reducible rfl
    try simp only [Act.put, List.setIfInBounds_toArray, List.set_cons_zero, List.set_cons_succ, List.getElem_toArray, List.getElem_cons_zero, List.getElem_cons_succ]
    refine GoL.take (i := 4) (v := ?_) rfl rfl (by kernel_rfl) (fun _ _ _ h => h) (fun _ _ => Slq.other (by decide)) (by rfl) ?_ ?_
    rotate_left
    · intro wx hwx
      have hq := (Slq.wi (fun L h1 h2 => (Closed.not h1 (i := 7) (by kernel_rfl) (Closed.not h1 (i := 4) (by kernel_rfl) (ready_not h2)))) hwx)
      have c4 := (blk_frmW hBz hq (fun e => hkg e)).cell_eq 4 _ rfl
      go_simp
      try with_reducible rfl
    try simp only [Act.put, List.setIfInBounds_toArray, List.set_cons_zero, List.set_cons_succ, List.getElem_toArray, List.getElem_cons_zero, List.getElem_cons_succ]
    refine GoL.take (i := 5) (v := ?_) rfl rfl (by kernel_rfl) (fun _ _ _ h => h) (fun _ _ => Slq.other (by decide)) (by rfl) ?_ ?_
    rotate_left
    · intro wx hwx
      have hq := (Slq.wi (fun L h1 h2 => (Closed.not h1 (i := 7) (by kernel_rfl) (Closed.not h1 (i := 6) (by kernel_rfl) (Closed.not h1 (i := 5) (by kernel_rfl) (ready_not h2))))) hwx)
      obtain ⟨y0, y1, y2⟩ := Trd.cells (blk_frmW hTb hq (fun e => hkt e))
      go_simp
      try with_reducible rfl
    try simp only [Act.put, List.setIfInBounds_toArray, List.set_cons_zero, List.set_cons_succ, List.getElem_toArray, List.getElem_cons_zero, List.getElem_cons_succ]
    refine GoL.on (rs := [6]) (by kernel_rfl) (by decide) ?_
    refine OnL.cons rfl ?_ OnL.nil
    intro K hK
    replace hK := Lib.hid hK
    go_simp
    have hD3 := hDU.alloc (.cells #[.int .i64 t, .int .i64 p, .int .i64 q] 59)
    refine hK.out _ _ (fun _ => hD3) ?_
    clear hK
    try simp only [Act.put, List.setIfInBounds_toArray, List.set_cons_zero, List.set_cons_succ, List.getElem_toArray, List.getElem_cons_zero, List.getElem_cons_succ]
    refine GoL.on (rs := [7]) (by kernel_rfl) (by decide) ?_
    refine OnL.cons rfl ?_ OnL.nil
    intro K hK
    replace hK := Lib.hid hK
    refine step_appD rfl (.tmp 38) (.tmp 40) 50 59 i1 _ 3 24 Try.underlying50 hi1 hz1 hs1 hb1 rfl (by decide) rfl (hOU.below ((Below.refl _ _).alloc (Nat.le_refl _) _)) (SrcG.row (cs := cTrd ⟨t, p, q⟩) (Blk.new _ _ _) rfl hone) rfl rfl (by omega) (by omega) ?_
    intro ao1 cap1 ko1 w3_1 ho1 hf1 hm1
    have hD4 := hD3.trans hf1 (fun c e => .inl e)
    obtain ⟨c4, fr4, hend⟩ := hfin.out w3_1 ao1 cap1 ko1 hD4 ho1 (moved_swtW hm1 (by rw [World.size_alloc]; have := hDU.size; omega))
    clear hf1 hm1 ho1
    refine hK.out _ _ (fun _ => hD4) ?_
    clear hK
    try simp only [Act.put, List.setIfInBounds_toArray, List.set_cons_zero, List.set_cons_succ, List.getElem_toArray, List.getElem_cons_zero, List.getElem_cons_succ]
    refine GoL.take (i := 8) (v := ?_) rfl rfl (by kernel_rfl) (fun _ _ _ h => h) (fun _ _ => Slq.other (by decide)) (by rfl) ?_ ?_
    rotate_left
    · intro wx hwx
      go_simp
      try with_reducible rfl
    try simp only [Act.put, List.setIfInBounds_toArray, List.set_cons_zero, List.set_cons_succ, List.getElem_toArray, List.getElem_cons_zero, List.getElem_cons_succ]
    refine GoL.take (i := 9) (v := ?_) rfl rfl (by kernel_rfl) (fun _ _ _ h => h) (fun _ _ => Slq.other (by decide)) (by rfl) ?_ ?_
    rotate_left
    · intro wx hwx
      go_simp
      try with_reducible rfl
    try simp only [Act.put, List.setIfInBounds_toArray, List.set_cons_zero, List.set_cons_succ, List.getElem_toArray, List.getElem_cons_zero, List.getElem_cons_succ]
    refine GoL.on (rs := [10]) (by kernel_rfl) (by decide) ?_
    refine OnL.cons rfl ?_ OnL.nil
    intro K hK
    replace hK := Lib.hid hK
    go_simp
    refine hK.out _ _ (Slq.last (by simp)) ?_
    clear hK
    try simp only [Act.put, List.setIfInBounds_toArray, List.set_cons_zero, List.set_cons_succ, List.getElem_toArray, List.getElem_cons_zero, List.getElem_cons_succ]
    refine GoL.done (by kernel_rfl) ?_
    refine NoPanic.normal ?_
    obtain ⟨V2, hV2⟩ : ∃ V2, V2 = w3_1.setCell ⟨g, 4, none⟩ (.slice ao1 (m.L.length + 1) cap1) := ⟨_, rfl⟩
    rw [← hV2]
    obtain ⟨hB2, hO2, hT2, hF2, hk2, hkg2⟩ := hend.out V2 hV2
    clear hV2 hend hfin c4 fr4 hD4 hD3 hDU hOU hTb hBz hO hkt
    have hBz := hB2
    have hTb := hT2
    replace hO2 := Lib.hid hO2
    replace hF2 := Lib.hid hF2
    replace hk2 := Lib.hid hk2
    replace hkg2 := Lib.hid hkg2
    clear hB2 hT2
    go_wp2_with fail
    refine wp_region_S (S := Lst V2 g 55 (cWin m.span m.grid m.ref t ao1 (m.L.length + 1) cap1 (P) (Q)) (cWin m.span m.grid m.ref t ao1 (m.L.length + 1) cap1 (P + p * q) (Q)) 11 4) (by kernel_rfl) (Lst.start hBz _) ?_
    refine AllS.next (v := ?_) rfl rfl rfl (by kernel_rfl) ?_ ?_
    rotate_left
    · refine yieldsS_runr ?_ (by rfl) ?_
      · intro L wx hL hS
        exact Lst.other (by decide) hS
      intro L wx hL hS
      go_simp
      try with_reducible rfl
    try simp only [Act.put, List.setIfInBounds_toArray, List.set_cons_zero, List.set_cons_succ, List.getElem_toArray, List.getElem_cons_zero, List.getElem_cons_succ]
    refine AllS.next (v := ?_) rfl rfl rfl (by kernel_rfl) ?_ ?_
    rotate_left
    · refine yieldsS_runr ?_ (by rfl) ?_
      · intro L wx hL hS
        exact Lst.other (by decide) hS
      intro L wx hL hS
      go_simp
      try with_reducible rfl
    try simp only [Act.put, List.setIfInBounds_toArray, List.set_cons_zero, List.set_cons_succ, List.getElem_toArray, List.getElem_cons_zero, List.getElem_cons_succ]
    refine AllS.next (v := ?_) rfl rfl rfl (by kernel_rfl) ?_ ?_
    rotate_left
    · refine yieldsS_runr ?_ (by rfl) ?_
      · intro L wx hL hS
        exact Lst.other (by decide) hS
      intro L wx hL hS
      go_simp
      try with_reducible rfl
    try simp only [Act.put, List.setIfInBounds_toArray, List.set_cons_zero, List.set_cons_succ, List.getElem_toArray, List.getElem_cons_zero, List.getElem_cons_succ]
    refine AllS.next (v := ?_) rfl rfl rfl (by kernel_rfl) ?_ ?_
    rotate_left
    · refine yieldsS_runr ?_ (by rfl) ?_
      · intro L wx hL hS
        exact Lst.other (by decide) hS
      intro L wx hL hS
      go_simp
      try with_reducible rfl
    try simp only [Act.put, List.setIfInBounds_toArray, List.set_cons_zero, List.set_cons_succ, List.getElem_toArray, List.getElem_cons_zero, List.getElem_cons_succ]
    refine AllS.next (v := ?_) rfl rfl rfl (by kernel_rfl) ?_ ?_
    rotate_left
    · refine yieldsS_runr ?_ (by rfl) ?_
      · intro L wx hL hS
        exact Lst.other (by decide) hS
      intro L wx hL hS
      have hBg := hS.read hL
      have z5 := hBg.cell_eq 5 _ rfl
      have z6 := hBg.cell_eq 6 _ rfl
      go_simp
      try with_reducible rfl
    try simp only [Act.put, List.setIfInBounds_toArray, List.set_cons_zero, List.set_cons_succ, List.getElem_toArray, List.getElem_cons_zero, List.getElem_cons_succ]
    refine AllS.next (v := ?_) rfl rfl rfl (by kernel_rfl) ?_ ?_
    rotate_left
    · refine yieldsS_runr ?_ (by rfl) ?_
      · intro L wx hL hS
        exact Lst.other (by decide) hS
      intro L wx hL hS
      go_simp
      try with_reducible rfl
    try simp only [Act.put, List.setIfInBounds_toArray, List.set_cons_zero, List.set_cons_succ, List.getElem_toArray, List.getElem_cons_zero, List.getElem_cons_succ]
    refine AllS.next (v := ?_) rfl rfl rfl (by kernel_rfl) ?_ ?_
    rotate_left
    · refine yieldsS_runr ?_ (by rfl) ?_
      · intro L wx hL hS
        exact Lst.other (by decide) hS
      intro L wx hL hS
      obtain ⟨y0, y1, y2⟩ := Trd.cells (blk_frmW hTb hS.frm hne)
      go_simp
      try with_reducible rfl
    try simp only [Act.put, List.setIfInBounds_toArray, List.set_cons_zero, List.set_cons_succ, List.getElem_toArray, List.getElem_cons_zero, List.getElem_cons_succ]
    refine AllS.next (v := ?_) rfl rfl rfl (by kernel_rfl) ?_ ?_
    rotate_left
    · refine yieldsS_runr ?_ (by rfl) ?_
      · intro L wx hL hS
        exact Lst.other (by decide) hS
      intro L wx hL hS
      go_simp
      try with_reducible rfl
    try simp only [Act.put, List.setIfInBounds_toArray, List.set_cons_zero, List.set_cons_succ, List.getElem_toArray, List.getElem_cons_zero, List.getElem_cons_succ]
    refine AllS.next (v := .agg #[.int .u64 (hi (P + p * q)), .int .u64 (lo (P + p * q))]) rfl rfl rfl (by kernel_rfl) ?_ ?_
    · refine yieldsS_call (f := 28) (args := #[fnAdd P, fnWorth ⟨t, p, q⟩]) (by rfl) ?_ ?_
      · intro wx
        go_simp
        try with_reducible rfl
      · intro L wx hS
        exact (cW wx).mono fun e w h => ⟨h.1, Lst.call (by decide) hS h.2⟩
    try simp only [Act.put, List.setIfInBounds_toArray, List.set_cons_zero, List.set_cons_succ, List.getElem_toArray, List.getElem_cons_zero, List.getElem_cons_succ]
    refine AllS.next (v := ?_) rfl rfl rfl (by kernel_rfl) ?_ ?_
    rotate_left
    · refine yieldsS_runr ?_ (by rfl) ?_
      · intro L wx hL hS
        exact Lst.other (by decide) hS
      intro L wx hL hS
      go_simp
      try with_reducible rfl
    try simp only [Act.put, List.setIfInBounds_toArray, List.set_cons_zero, List.set_cons_succ, List.getElem_toArray, List.getElem_cons_zero, List.getElem_cons_succ]
    refine AllS.next (v := ?_) rfl rfl rfl (by kernel_rfl) ?_ ?_
    rotate_left
    · refine yieldsS_runr ?_ (by rfl) ?_
      · intro L wx hL hS
        exact Lst.other (by decide) hS
      intro L wx hL hS
      go_simp
      try with_reducible rfl
    try simp only [Act.put, List.setIfInBounds_toArray, List.set_cons_zero, List.set_cons_succ, List.getElem_toArray, List.getElem_cons_zero, List.getElem_cons_succ]
    refine AllS.next (v := undef) rfl rfl rfl (by kernel_rfl) ?_ ?_
    · refine yieldsS_skip (by rfl) fun L wx hL hS => ⟨(wx.setCell ⟨g, 5, none⟩ (.int .u64 (hi (P + p * q)))).setCell ⟨g, 6, none⟩ (.int .u64 (lo (P + p * q))), ?_, hS.done hL (ready_dep hL (by kernel_rfl)) (frm_twoW wx g _ _ _ _) (((hS.old hL).set 5 (.int .u64 (hi (P + p * q)))).set 6 (.int .u64 (lo (P + p * q))))⟩
      have hBg := hS.old hL
      have z5 := hBg.cell_eq 5 _ rfl
      have z6 := hBg.cell_eq 6 _ rfl
      have fr := hBg.free
      go_simp
      try with_reducible rfl
    try simp only [Act.put, List.setIfInBounds_toArray, List.set_cons_zero, List.set_cons_succ, List.getElem_toArray, List.getElem_cons_zero, List.getElem_cons_succ]
    refine AllS.done (by kernel_rfl) ?_
    intro V3 hS3
    obtain ⟨hBz3, hF3⟩ := hS3.end' (by rfl)
    replace hTb := blk_frmW hTb hF3 hne
    replace hO2 := Lib.hid (hO2.out.frm hF3 fun c e => hkg2.out c e)
    replace hF2 := Lib.hid (hF2.out.trans hF3 (fun c e => .inl (.inl e)))
    clear hBz hS3 cW hF3
    have hBz := hBz3
    clear hBz3
    go_wp2_with fail
    refine wp_region_S (S := Lst V3 g 55 (cWin m.span m.grid m.ref t ao1 (m.L.length + 1) cap1 (P + p * q) (Q)) (cWin m.span m.grid m.ref t ao1 (m.L.length + 1) cap1 (P + p * q) (Q + q)) 11 4) (by kernel_rfl) (Lst.start hBz _) ?_
    refine AllS.next (v := ?_) rfl rfl rfl (by kernel_rfl) ?_ ?_
    rotate_left
    · refine yieldsS_runr ?_ (by rfl) ?_
      · intro L wx hL hS
        exact Lst.other (by decide) hS
      intro L wx hL hS
      go_simp
      try with_reducible rfl
    try simp only [Act.put, List.setIfInBounds_toArray, List.set_cons_zero, List.set_cons_succ, List.getElem_toArray, List.getElem_cons_zero, List.getElem_cons_succ]
    refine AllS.next (v := ?_) rfl rfl rfl (by kernel_rfl) ?_ ?_
    rotate_left
    · refine yieldsS_runr ?_ (by rfl) ?_
      · intro L wx hL hS
        exact Lst.other (by decide) hS
      intro L wx hL hS
      go_simp
      try with_reducible rfl
    try simp only [Act.put, List.setIfInBounds_toArray, List.set_cons_zero, List.set_cons_succ, List.getElem_toArray, List.getElem_cons_zero, List.getElem_cons_succ]
    refine AllS.next (v := ?_) rfl rfl rfl (by kernel_rfl) ?_ ?_
    rotate_left
    · refine yieldsS_runr ?_ (by rfl) ?_
      · intro L wx hL hS
        exact Lst.other (by decide) hS
      intro L wx hL hS
      go_simp
      try with_reducible rfl
    try simp only [Act.put, List.setIfInBounds_toArray, List.set_cons_zero, List.set_cons_succ, List.getElem_toArray, List.getElem_cons_zero, List.getElem_cons_succ]
    refine AllS.next (v := ?_) rfl rfl rfl (by kernel_rfl) ?_ ?_
    rotate_left
    · refine yieldsS_runr ?_ (by rfl) ?_
      · intro L wx hL hS
        exact Lst.other (by decide) hS
      intro L wx hL hS
      go_simp
      try with_reducible rfl
    try simp only [Act.put, List.setIfInBounds_toArray, List.set_cons_zero, List.set_cons_succ, List.getElem_toArray, List.getElem_cons_zero, List.getElem_cons_succ]
    refine AllS.next (v := ?_) rfl rfl rfl (by kernel_rfl) ?_ ?_
    rotate_left
    · refine yieldsS_runr ?_ (by rfl) ?_
      · intro L wx hL hS
        exact Lst.other (by decide) hS
      intro L wx hL hS
      have hBg := hS.read hL
      have z5 := hBg.cell_eq 7 _ rfl
      have z6 := hBg.cell_eq 8 _ rfl
      go_simp
      try with_reducible rfl
    try simp only [Act.put, List.setIfInBounds_toArray, List.set_cons_zero, List.set_cons_succ, List.getElem_toArray, List.getElem_cons_zero, List.getElem_cons_succ]
    refine AllS.next (v := ?_) rfl rfl rfl (by kernel_rfl) ?_ ?_
    rotate_left
    · refine yieldsS_runr ?_ (by rfl) ?_
      · intro L wx hL hS
        exact Lst.other (by decide) hS
      intro L wx hL hS
      go_simp
      try with_reducible rfl
    try simp only [Act.put, List.setIfInBounds_toArray, List.set_cons_zero, List.set_cons_succ, List.getElem_toArray, List.getElem_cons_zero, List.getElem_cons_succ]
    refine AllS.next (v := ?_) rfl rfl rfl (by kernel_rfl) ?_ ?_
    rotate_left
    · refine yieldsS_runr ?_ (by rfl) ?_
      · intro L wx hL hS
        exact Lst.other (by decide) hS
      intro L wx hL hS
      obtain ⟨y0, y1, y2⟩ := Trd.cells (blk_frmW hTb hS.frm hne)
      go_simp
      try with_reducible rfl
    try simp only [Act.put, List.setIfInBounds_toArray, List.set_cons_zero, List.set_cons_succ, List.getElem_toArray, List.getElem_cons_zero, List.getElem_cons_succ]
    refine AllS.next (v := ?_) rfl rfl rfl (by kernel_rfl) ?_ ?_
    rotate_left
    · refine yieldsS_runr ?_ (by rfl) ?_
      · intro L wx hL hS
        exact Lst.other (by decide) hS
      intro L wx hL hS
      go_simp
      try with_reducible rfl
    try simp only [Act.put, List.setIfInBounds_toArray, List.set_cons_zero, List.set_cons_succ, List.getElem_toArray, List.getElem_cons_zero, List.getElem_cons_succ]
    refine AllS.next (v := .agg #[.int .u64 (hi (Q + q)), .int .u64 (lo (Q + q))]) rfl rfl rfl (by kernel_rfl) ?_ ?_
    · refine yieldsS_call (f := 28) (args := #[fnAdd Q, fnAmount ⟨t, p, q⟩]) (by rfl) ?_ ?_
      · intro wx
        go_simp
        try with_reducible rfl
      · intro L wx hS
        exact (cA wx).mono fun e w h => ⟨h.1, Lst.call (by decide) hS h.2⟩
    try simp only [Act.put, List.setIfInBounds_toArray, List.set_cons_zero, List.set_cons_succ, List.getElem_toArray, List.getElem_cons_zero, List.getElem_cons_succ]
    refine AllS.next (v := ?_) rfl rfl rfl (by kernel_rfl) ?_ ?_
    rotate_left
    · refine yieldsS_runr ?_ (by rfl) ?_
      · intro L wx hL hS
        exact Lst.other (by decide) hS
      intro L wx hL hS
      go_simp
      try with_reducible rfl
    try simp only [Act.put, List.setIfInBounds_toArray, List.set_cons_zero, List.set_cons_succ, List.getElem_toArray, List.getElem_cons_zero, List.getElem_cons_succ]
    refine AllS.next (v := ?_) rfl rfl rfl (by kernel_rfl) ?_ ?_
    rotate_left
    · refine yieldsS_runr ?_ (by rfl) ?_
      · intro L wx hL hS
        exact Lst.other (by decide) hS
      intro L wx hL hS
      go_simp
      try with_reducible rfl
    try simp only [Act.put, List.setIfInBounds_toArray, List.set_cons_zero, List.set_cons_succ, List.getElem_toArray, List.getElem_cons_zero, List.getElem_cons_succ]
    refine AllS.next (v := undef) rfl rfl rfl (by kernel_rfl) ?_ ?_
    · refine yieldsS_skip (by rfl) fun L wx hL hS => ⟨(wx.setCell ⟨g, 7, none⟩ (.int .u64 (hi (Q + q)))).setCell ⟨g, 8, none⟩ (.int .u64 (lo (Q + q))), ?_, hS.done hL (ready_dep hL (by kernel_rfl)) (frm_twoW wx g _ _ _ _) (((hS.old hL).set 7 (.int .u64 (hi (Q + q)))).set 8 (.int .u64 (lo (Q + q))))⟩
      have hBg := hS.old hL
      have z5 := hBg.cell_eq 7 _ rfl
      have z6 := hBg.cell_eq 8 _ rfl
      have fr := hBg.free
      go_simp
      try with_reducible rfl
    try simp only [Act.put, List.setIfInBounds_toArray, List.set_cons_zero, List.set_cons_succ, List.getElem_toArray, List.getElem_cons_zero, List.getElem_cons_succ]
    refine AllS.done (by kernel_rfl) ?_
    intro V4 hS4
    obtain ⟨hBz4, hF4⟩ := hS4.end' (by rfl)
    replace hO2 := hO2.out.frm hF4 fun c e => hkg2.out c e
    replace hF2 := hF2.out.trans hF4 (fun c e => .inl (.inl e))
    have hpost := Lib.hid (hend9.out V4 ko1 ao1 cap1 hBz4 hO2 hF2 hk2.out)
    clear hBz hS4 cA hF4 hO2 hF2 hBz4 hTb hend9 hk2 hkg2
    go_wp2_with fail
    go_ret
    exact ⟨rfl, hpost.out⟩
end
end Go.Proofs.Yteljjjdejjkgfaa
