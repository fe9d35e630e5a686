/-
  The document's levels: Take where the level goes. (Written by gen/p_ltd.py.)
-/
import Derived.Test.YthlpnlmjpdcbiaaRlh
import Derived.Test.YthlpnlmjpdcbiaaRegL
import Derived.Test.YthlpnlmjpdcbiaaRegS
namespace Go.Proofs.Ythlpnlmjpdcbiaa
open Go.RowKit
set_option linter.unusedSimpArgs false
/-- What is read of the row's slice, as long as the last store has not come up. -/
def Sl (r : Nat) (v : Value) (n : Nat) (L : Array Bool) (w : World) : Prop := L.getD n false = false → w.cell? ⟨r, 2, none⟩ = some v
section
variable {r n k : Nat} {v : Value} {L : Array Bool} {w : World} {md : Region.Mode} {ops : Array Oper}
theorem Sl.other (h : k ≠ n) : Sl r v n (L.setIfInBounds k true) w ↔ Sl r v n L w := by
  unfold Sl
  rw [getD_set_ne false h]
theorem Sl.last (hn : n < L.size) : Sl r v n (L.setIfInBounds n true) w := by
  intro h
  simp [hn] at h
theorem Sl.wi (hn : ∀ L, Closed md ops L → k ∈ Region.ready md ops L → L.getD n false = false) (h : Wi md ops (Sl r v n) k w) : w.cell? ⟨r, 2, none⟩ = some v := by
  obtain ⟨L, h1, h2, h3⟩ := h
  exact h3 (hn L h2 h1)
end
section
variable {w w' W : World} {r : Nat} {S T : Nat → Prop} {s : Ld} {ko : Option Nat} {ao : Option Addr} {cap : Nat}
set_option maxRecDepth 8000 in
set_option maxHeartbeats 4000000 in
theorem ltakeDel_any (p q : Int) (h : RlB W r S ko ao cap s) {i : Nat} {x : Lvl} (hf : s.find p = some i) (hx : s.L[i]? = some x) (hq : ¬ (q < 0 ∨ x.qty < q)) (hb : x.qty < 9223372036854775808) (ho : x.orders = 1) :
    Calls Try.prog 25 #[.pointer (some ⟨r, 0, none⟩), .int .i64 p, .int .i64 q, .bool true] W fun e w' => e = .returned (.tuple #[.int .i64 x.queue, .int .i64 0]) ∧ (∃ S', RL w' r S' ⟨s.buy, s.most, s.L.eraseIdx i⟩ ∧ ∀ b, S' b → S b ∨ W.heap.size ≤ b) ∧ Frm S W w' := by
  have cF := lfind_any p h
  simp only [Ld.fI, hf] at cF
  have hm := h.most
  have hl := h.len
  have hi := (List.getElem?_eq_some_iff.1 hx).1
  have c2 := h.c2
  obtain ⟨k, rfl, rfl, hkr, hkS, -⟩ := h.turn (y := x.add q) hx rfl rfl
  obtain ⟨k', e1, -, hc⟩ := h.row hx
  cases e1
  obtain ⟨y1, f1⟩ := hc _ _ (lcs_get hx 1 (.int .i64 x.qty) rfl)
  obtain ⟨y2, f2⟩ := hc _ _ (lcs_get hx 2 (.int .i64 x.orders) rfl)
  obtain ⟨y3, -⟩ := hc _ _ (lcs_get hx 3 (.int .i64 x.queue) rfl)
  have hi2 : (i : Int) < (s.L.length : Int) := by omega
  have hi0 : ¬ (i : Int) < 0 := by omega
  have hd0 : decide ((i : Int) < 0) = false := decide_eq_false hi0
  have d0 : decide (q < 0) = false := decide_eq_false (by omega)
  have d1 : decide (x.qty < q) = false := decide_eq_false (by omega)
  have hw : IntKind.i64.wrap (x.qty - q) = x.qty - q := IntWalk.i64_in _ (by omega)
  have hrk : r ≠ k := Ne.symm hkr
  have hend2 : RlB (((W.drewN 1).setCell ⟨k, i * 4 + 1, none⟩ (.int .i64 (x.qty - q))).setCell ⟨k, i * 4 + 2, none⟩ (.int .i64 0)) r S (some k) (some ⟨k, 0, none⟩) cap ⟨s.buy, s.most, s.L.set i ⟨x.price, x.qty - q, 0, x.queue⟩⟩ ∧ Frm S W (((W.drewN 1).setCell ⟨k, i * 4 + 1, none⟩ (.int .i64 (x.qty - q))).setCell ⟨k, i * 4 + 2, none⟩ (.int .i64 0)) := by
    obtain ⟨k', e1, -, -, -, h3⟩ := (h.drewN 1).turn (y := ⟨x.price, x.qty - q, 0, x.queue⟩) hx rfl rfl
    cases e1
    exact ⟨h3, ((Frm.of_below (belowN (Below.refl _ _) 1)).setCell _ _ (.inl hkS)).setCell _ _ (.inl hkS)⟩
  replace hend2 := Lib.hid hend2
  obtain ⟨x0, x1, x2, x3⟩ := x
  simp only at *
  subst ho
  clear h hf hx hc hq hkS
  obtain ⟨i1, hi1, e1⟩ := Option.map_eq_some_iff.1 infoLvl
  simp only [Prod.mk.injEq] at e1
  obtain ⟨hz1, hs1, hb1⟩ := e1
  go_enter Try.func25, Try.ntmps25
  go_wp2_with (go_at_call 36; refine cF.mono ?_; rintro e w1 ⟨rfl, hw1⟩; subst w1; clear cF)
  go_still_tail 17, (by kernel_rfl)
  go_wp2_with fail
  change Code.wp _ _ _ _ (((W.drewN 1).setCell ⟨k, i * 4 + 1, none⟩ (.int .i64 (x1 - q))).setCell ⟨k, i * 4 + 2, none⟩ (.int .i64 0))
  clear y1 f1 y2 f2 y3 c2
  obtain ⟨V, hV⟩ : ∃ V, V = ((W.drewN 1).setCell ⟨k, i * 4 + 1, none⟩ (.int .i64 (x1 - q))).setCell ⟨k, i * 4 + 2, none⟩ (.int .i64 0) := ⟨_, rfl⟩
  rw [← hV] at hend2 ⊢
  clear hV
  obtain ⟨hR, hWV⟩ := hend2.out
  clear hend2
  obtain ⟨L, hL⟩ : ∃ L, L = s.L.set i ⟨x0, x1 - q, 0, x3⟩ := ⟨_, rfl⟩
  have hLl : L.length = s.L.length := by rw [hL]; simp
  have hLe : L.take i ++ L.drop (i + 1) = s.L.eraseIdx i := by rw [hL, ← List.eraseIdx_eq_take_drop_succ, List.eraseIdx_set_eq]
  rw [← hL] at hR
  clear hL
  have hbD : Below V.heap.size V V.drew := (Below.refl _ V).drew
  have hO := hR.how
  simp only at hO
  obtain ⟨hsH, hH⟩ := lvls_hi _ _ _ L i (by omega) V hO
  obtain ⟨ao4, cap4, hsL, hLo⟩ := lvls_lo _ _ _ L (i + 1) (by omega) V hO
  rw [show ((i + 1 : Nat) : Int) = (i : Int) + 1 by omega] at hsL
  have hsrc1 : ∀ w, Below V.heap.size V w → SrcG 4 w (some ⟨k, 0, none⟩) cap i (lcs (L.take i)) := fun w hb => hH w (hR.below hb).how
  have hsrc2 : ∀ w, Below V.heap.size V w → SrcG 4 w ao4 cap4 (L.length - (i + 1)) (lcs (L.drop (i + 1))) := fun w hb => hLo w (hR.below hb).how
  have kcell : ∀ w, Below V.heap.size V w → w.cell? ⟨r, 2, none⟩ = some (.slice (some ⟨k, 0, none⟩) L.length cap) := fun w hb => (hR.below hb).c2
  have hfz : ∀ w, Below V.heap.size V w → w.frozen? ⟨r, 2, none⟩ = false := fun w hb => (hR.below hb).hr.free 2
  have hRlt := hR.lt
  have fin : ∀ w2 ao2 cap2 ko2, Below V.heap.size V w2 → (∀ k, ko2 = some k → V.heap.size ≤ k) → OwG 44 4 w2 ko2 ao2 cap2 (i + (L.length - (i + 1))) (lcs (L.take i) ++ lcs (L.drop (i + 1))) →
      (∃ S', RL (w2.setCell ⟨r, 2, none⟩ (.slice ao2 (i + (L.length - (i + 1))) cap2)) r S' ⟨s.buy, s.most, s.L.eraseIdx i⟩ ∧ ∀ b, S' b → S b ∨ W.heap.size ≤ b) ∧ Frm S W (w2.setCell ⟨r, 2, none⟩ (.slice ao2 (i + (L.length - (i + 1))) cap2)) := by
    intro w2 ao2 cap2 ko2 hb hk' ho
    have hl2 : i + (L.length - (i + 1)) = (s.L.eraseIdx i).length := by rw [List.length_eraseIdx, if_pos hi, hLl]; omega
    have hz2 : lcs (L.take i) ++ lcs (L.drop (i + 1)) = lcs (s.L.eraseIdx i) := by rw [← hLe]; simp [lcs]
    rw [hl2, hz2] at ho
    rw [hl2]
    obtain ⟨g1, g2⟩ := hR.lay (Nat.le_refl _) hb (L := s.L.eraseIdx i) (by show _ ≤ s.most; rw [List.length_eraseIdx, if_pos hi]; omega) ho hk'
    have hWs := hWV.size
    exact ⟨⟨_, ⟨_, _, _, g1⟩, fun b hb => by rcases hb with e | e; exact .inl e; right; omega⟩, hWV.trans g2 (fun b e => .inl e)⟩
  have bD := hbD
  rw [hLl] at hsrc2 kcell fin
  rw [hLl] at hsH hsL
  have hw1 : IntKind.i64.wrap ((i : Int) + 1) = (i : Int) + 1 := by rw [IntKind.wrap_i64]; omega
  generalize hql : s.L.length = ql at *
  clear hR hO hH hLo hbD hLe hLl hql hRlt
  replace fin := Lib.hid fin
  replace fin := fin.out
  refine GoL.start (S := Sl r (.slice (some ⟨k, 0, none⟩) ql cap) 19) (by kernel_rfl) (fun _ => kcell _ bD) ?_
  generalize V.drew = U at bD ⊢
  have bV := bD
  clear bD
  have lV := bV.size
  refine GoL.take (i := 0) (v := ?_) rfl rfl (by kernel_rfl) (fun _ _ _ h => h) (fun _ _ => Sl.other (by decide)) (by rfl) ?_ ?_
  rotate_left
  · intro wx hwx
    go_simp
    try with_reducible rfl
  try simp only [Act.put, List.setIfInBounds_toArray, List.set_cons_zero, List.set_cons_succ, List.getElem_toArray, List.getElem_cons_zero, List.getElem_cons_succ, Nat.zero_add, List.nil_append]
  refine GoL.take (i := 2) (v := ?_) rfl rfl (by kernel_rfl) (fun _ _ _ h => h) (fun _ _ => Sl.other (by decide)) (by rfl) ?_ ?_
  rotate_left
  · intro wx hwx
    go_simp
    try with_reducible rfl
  try simp only [Act.put, List.setIfInBounds_toArray, List.set_cons_zero, List.set_cons_succ, List.getElem_toArray, List.getElem_cons_zero, List.getElem_cons_succ, Nat.zero_add, List.nil_append]
  refine GoL.take (i := 3) (v := ?_) rfl rfl (by kernel_rfl) (fun _ _ _ h => h) (fun _ _ => Sl.other (by decide)) (by rfl) ?_ ?_
  rotate_left
  · intro wx hwx
    go_simp
    try with_reducible rfl
  try simp only [Act.put, List.setIfInBounds_toArray, List.set_cons_zero, List.set_cons_succ, List.getElem_toArray, List.getElem_cons_zero, List.getElem_cons_succ, Nat.zero_add, List.nil_append]
  refine GoL.take (i := 4) (v := ?_) rfl rfl (by kernel_rfl) (fun _ _ _ h => h) (fun _ _ => Sl.other (by decide)) (by rfl) ?_ ?_
  rotate_left
  · intro wx hwx
    go_simp
    try with_reducible rfl
  try simp only [Act.put, List.setIfInBounds_toArray, List.set_cons_zero, List.set_cons_succ, List.getElem_toArray, List.getElem_cons_zero, List.getElem_cons_succ, Nat.zero_add, List.nil_append]
  refine GoL.take (i := 5) (v := ?_) rfl rfl (by kernel_rfl) (fun _ _ _ h => h) (fun _ _ => Sl.other (by decide)) (by rfl) ?_ ?_
  rotate_left
  · intro wx hwx
    have x2 := Sl.wi (fun L h1 h2 => (Closed.not h1 (i := 16) (by kernel_rfl) (Closed.not h1 (i := 8) (by kernel_rfl) (Closed.not h1 (i := 7) (by kernel_rfl) (Closed.not h1 (i := 5) (by kernel_rfl) (ready_not h2)))))) hwx
    go_simp
    try with_reducible rfl
  try simp only [Act.put, List.setIfInBounds_toArray, List.set_cons_zero, List.set_cons_succ, List.getElem_toArray, List.getElem_cons_zero, List.getElem_cons_succ, Nat.zero_add, List.nil_append]
  refine GoL.take (i := 6) (v := ?_) rfl rfl (by kernel_rfl) (fun _ _ _ h => h) (fun _ _ => Sl.other (by decide)) (by rfl) ?_ ?_
  rotate_left
  · intro wx hwx
    go_simp
    try with_reducible rfl
  try simp only [Act.put, List.setIfInBounds_toArray, List.set_cons_zero, List.set_cons_succ, List.getElem_toArray, List.getElem_cons_zero, List.getElem_cons_succ, Nat.zero_add, List.nil_append]
  refine GoL.take (i := 7) (v := ?_) rfl rfl (by kernel_rfl) (fun _ _ _ h => h) (fun _ _ => Sl.other (by decide)) (by rfl) ?_ ?_
  rotate_left
  · intro wx hwx
    go_simp
    try with_reducible rfl
  try simp only [Act.put, List.setIfInBounds_toArray, List.set_cons_zero, List.set_cons_succ, List.getElem_toArray, List.getElem_cons_zero, List.getElem_cons_succ, Nat.zero_add, List.nil_append]
  refine GoL.take (i := 9) (v := ?_) rfl rfl (by kernel_rfl) (fun _ _ _ h => h) (fun _ _ => Sl.other (by decide)) (by rfl) ?_ ?_
  rotate_left
  · intro wx hwx
    go_simp
    try with_reducible rfl
  try simp only [Act.put, List.setIfInBounds_toArray, List.set_cons_zero, List.set_cons_succ, List.getElem_toArray, List.getElem_cons_zero, List.getElem_cons_succ, Nat.zero_add, List.nil_append]
  refine GoL.take (i := 10) (v := ?_) rfl rfl (by kernel_rfl) (fun _ _ _ h => h) (fun _ _ => Sl.other (by decide)) (by rfl) ?_ ?_
  rotate_left
  · intro wx hwx
    go_simp
    try with_reducible rfl
  try simp only [Act.put, List.setIfInBounds_toArray, List.set_cons_zero, List.set_cons_succ, List.getElem_toArray, List.getElem_cons_zero, List.getElem_cons_succ, Nat.zero_add, List.nil_append]
  refine GoL.take (i := 11) (v := ?_) rfl rfl (by kernel_rfl) (fun _ _ _ h => h) (fun _ _ => Sl.other (by decide)) (by rfl) ?_ ?_
  rotate_left
  · intro wx hwx
    go_simp
    try with_reducible rfl
  try simp only [Act.put, List.setIfInBounds_toArray, List.set_cons_zero, List.set_cons_succ, List.getElem_toArray, List.getElem_cons_zero, List.getElem_cons_succ, Nat.zero_add, List.nil_append]
  refine GoL.take (i := 12) (v := ?_) rfl rfl (by kernel_rfl) (fun _ _ _ h => h) (fun _ _ => Sl.other (by decide)) (by rfl) ?_ ?_
  rotate_left
  · intro wx hwx
    have x2 := Sl.wi (fun L h1 h2 => (Closed.not h1 (i := 16) (by kernel_rfl) (Closed.not h1 (i := 15) (by kernel_rfl) (Closed.not h1 (i := 12) (by kernel_rfl) (ready_not h2))))) hwx
    go_simp
    try with_reducible rfl
  try simp only [Act.put, List.setIfInBounds_toArray, List.set_cons_zero, List.set_cons_succ, List.getElem_toArray, List.getElem_cons_zero, List.getElem_cons_succ, Nat.zero_add, List.nil_append]
  refine GoL.take (i := 13) (v := ?_) rfl rfl (by kernel_rfl) (fun _ _ _ h => h) (fun _ _ => Sl.other (by decide)) (by rfl) ?_ ?_
  rotate_left
  · intro wx hwx
    go_simp
    try with_reducible rfl
  try simp only [Act.put, List.setIfInBounds_toArray, List.set_cons_zero, List.set_cons_succ, List.getElem_toArray, List.getElem_cons_zero, List.getElem_cons_succ, Nat.zero_add, List.nil_append]
  refine GoL.take (i := 14) (v := ?_) rfl rfl (by kernel_rfl) (fun _ _ _ h => h) (fun _ _ => Sl.other (by decide)) (by rfl) ?_ ?_
  rotate_left
  · intro wx hwx
    go_simp
    try with_reducible rfl
  try simp only [Act.put, List.setIfInBounds_toArray, List.set_cons_zero, List.set_cons_succ, List.getElem_toArray, List.getElem_cons_zero, List.getElem_cons_succ, Nat.zero_add, List.nil_append]
  refine GoL.take (i := 15) (v := ?_) rfl rfl (by kernel_rfl) (fun _ _ _ h => h) (fun _ _ => Sl.other (by decide)) (by rfl) ?_ ?_
  rotate_left
  · intro wx hwx
    go_simp
    try with_reducible rfl
  try simp only [Act.put, List.setIfInBounds_toArray, List.set_cons_zero, List.set_cons_succ, List.getElem_toArray, List.getElem_cons_zero, List.getElem_cons_succ, Nat.zero_add, List.nil_append]
  refine GoL.on (rs := [1]) (by kernel_rfl) (by decide) ?_
  refine OnL.cons rfl ?_ OnL.nil
  intro K hK
  replace hK := Lib.hid hK
  go_simp
  have b1 := bV.alloc lV (.cells #[] 44)
  refine hK.out _ _ (fun _ => kcell _ b1) ?_
  clear hK
  try simp only [Act.put, List.setIfInBounds_toArray, List.set_cons_zero, List.set_cons_succ, List.getElem_toArray, List.getElem_cons_zero, List.getElem_cons_succ, Nat.zero_add, List.nil_append]
  refine GoL.on (rs := [8]) (by kernel_rfl) (by decide) ?_
  refine OnL.cons rfl ?_ OnL.nil
  intro K hK
  replace hK := Lib.hid hK
  refine step_appG rfl (.tmp 78) (.tmp 84) 36 44 i1 _ 4 32 Try.underlying36 hi1 hz1 hs1 hb1 rfl (by decide) rfl (OwG.emptyG _ _ U) (hsrc1 _ b1) rfl rfl (by omega) (by omega) ?_
  intro ao1 cap1 ko1 w2 ho1 hf1 hm1
  rw [Nat.zero_add, List.nil_append] at ho1
  obtain ⟨b2, hk1⟩ := app_newG b1 b1.size (fun k e => by cases e; exact lV) hf1 hm1
  clear hf1 hm1
  refine hK.out _ _ (fun _ => kcell _ b2) ?_
  clear hK
  try simp only [Act.put, List.setIfInBounds_toArray, List.set_cons_zero, List.set_cons_succ, List.getElem_toArray, List.getElem_cons_zero, List.getElem_cons_succ, Nat.zero_add, List.nil_append]
  refine GoL.on (rs := [16]) (by kernel_rfl) (by decide) ?_
  refine OnL.cons rfl ?_ OnL.nil
  intro K hK
  replace hK := Lib.hid hK
  refine step_appG rfl (.tmp 85) (.tmp 92) 36 44 i1 _ 4 32 Try.underlying36 hi1 hz1 hs1 hb1 rfl (by decide) rfl ho1 (hsrc2 _ b2) rfl rfl (by omega) (by omega) ?_
  intro ao2 cap2 ko2 w3 ho2 hf2 hm2
  obtain ⟨b4, hk2⟩ := app_newG b2 b2.size hk1 hf2 hm2
  have hfin := Lib.hid (fin w3 ao2 cap2 ko2 b4 hk2 ho2)
  have cst := kcell w3 b4
  have fst := hfz w3 b4
  clear hf2 hm2 ho2 ho1
  refine hK.out _ _ (fun _ => cst) ?_
  clear hK
  try simp only [Act.put, List.setIfInBounds_toArray, List.set_cons_zero, List.set_cons_succ, List.getElem_toArray, List.getElem_cons_zero, List.getElem_cons_succ, Nat.zero_add, List.nil_append]
  refine GoL.take (i := 17) (v := ?_) rfl rfl (by kernel_rfl) (fun _ _ _ h => h) (fun _ _ => Sl.other (by decide)) (by rfl) ?_ ?_
  rotate_left
  · intro wx hwx
    go_simp
    try with_reducible rfl
  try simp only [Act.put, List.setIfInBounds_toArray, List.set_cons_zero, List.set_cons_succ, List.getElem_toArray, List.getElem_cons_zero, List.getElem_cons_succ, Nat.zero_add, List.nil_append]
  refine GoL.take (i := 18) (v := ?_) rfl rfl (by kernel_rfl) (fun _ _ _ h => h) (fun _ _ => Sl.other (by decide)) (by rfl) ?_ ?_
  rotate_left
  · intro wx hwx
    go_simp
    try with_reducible rfl
  try simp only [Act.put, List.setIfInBounds_toArray, List.set_cons_zero, List.set_cons_succ, List.getElem_toArray, List.getElem_cons_zero, List.getElem_cons_succ, Nat.zero_add, List.nil_append]
  refine GoL.on (rs := [19]) (by kernel_rfl) (by decide) ?_
  refine OnL.cons rfl ?_ OnL.nil
  intro K hK
  replace hK := Lib.hid hK
  go_simp
  refine hK.out _ _ (Sl.last (by simp)) ?_
  clear hK
  try simp only [Act.put, List.setIfInBounds_toArray, List.set_cons_zero, List.set_cons_succ, List.getElem_toArray, List.getElem_cons_zero, List.getElem_cons_succ, Nat.zero_add, List.nil_append]
  refine GoL.done (by kernel_rfl) ?_
  refine NoPanic.normal ?_
  clear fin kcell hsrc1 hsrc2 bV hfz
  go_wp2_with fail
  go_ret2
  exact ⟨rfl, hfin.out⟩
end
end Go.Proofs.Ythlpnlmjpdcbiaa
