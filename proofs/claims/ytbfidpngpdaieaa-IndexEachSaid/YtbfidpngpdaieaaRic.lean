/-
  The document's index: parts of its row; Drop. (Written by gen/p_ric.py.)
-/
import Derived.Test.YtbfidpngpdaieaaRib
import Derived.Test.YtbfidpngpdaieaaRegL
import Derived.Test.YtbfidpngpdaieaaRegS
namespace Go.Proofs.Ytbfidpngpdaieaa
open Go.RowKit
set_option linter.unusedSimpArgs false
theorem ics_drop : ∀ (L : List Ixr) (m : Nat), ics (L.drop m) = (ics L).drop (m * 3)
  | L, 0 => by simp
  | [], m + 1 => by simp
  | x :: t, m + 1 => by
    have e : (m + 1) * 3 = 3 + m * 3 := by omega
    rw [List.drop_succ_cons, ics_drop t m, e, ← List.drop_drop]
    rfl
theorem ics_take : ∀ (L : List Ixr) (m : Nat), ics (L.take m) = (ics L).take (m * 3)
  | L, 0 => by simp
  | [], m + 1 => by simp
  | x :: t, m + 1 => by
    have e : (m + 1) * 3 = m * 3 + 3 := by omega
    have h := ics_take t m
    rw [e]
    simp [h]
theorem ixs_lo {E : TypeId} (ko : Option Nat) (ao : Option Addr) (cap : Nat) (l : List Ixr) (m : Nat) (hm : m ≤ l.length) (w : World) (hL : OwG E 3 w ko ao cap l.length (ics l)) :
    ∃ ao2 cap2, (∀ w, (Instr.slice 27 (.slice ao l.length cap) (some (.int .i64 (m : Int))) none none).run Try.prog w = .ok (.slice ao2 (l.length - m) cap2) w) ∧ ∀ w', OwG E 3 w' ko ao cap l.length (ics l) → SrcG 3 w' ao2 cap2 (l.length - m) (ics (l.drop m)) := by
  have hl := hL.len
  have ht := hL.top
  unfold maxLen at ht
  have hu := Try.underlying27
  have hc := cells_Ixr
  have hone : ∀ u ∈ ics (l.drop m), u.oneCell' = true := ics_one _
  have hlen : (ics (l.drop m)).length = (l.length - m) * 3 := by rw [ics_len, List.length_drop]
  by_cases h : cap = m
  · subst h
    have e : l.length = cap := by omega
    refine ⟨ao, 0, fun w => ?_, fun w' h' => ⟨hlen, hone, ?_⟩⟩
    · simp [go_sem, Instr.slice]
      intro h; omega
    · cases ao with
      | none => exact .inl ⟨rfl, rfl, by omega⟩
      | some a =>
        refine .inr ⟨a, rfl, fun j u hj => ?_⟩
        have hlt := (List.getElem?_eq_some_iff.1 hj).1
        omega
  · refine ⟨Option.map (fun x => x.add (m * 3)) ao, cap - m, fun w => ?_, fun w' h' => ⟨hlen, hone, ?_⟩⟩
    · simp [go_sem, Instr.slice]
      rw [if_pos hm, if_neg h]
    · rcases h'.at' with ⟨-, -, h0⟩ | ⟨k, cur, e1, e2, -⟩
      · omega
      · refine .inr ⟨_, by rw [e2]; rfl, fun j u hj => ?_⟩
        rw [ics_drop, List.getElem?_drop] at hj
        obtain ⟨k', e3, -, h3, -⟩ := h'.cell _ u hj
        rw [e1] at e3
        cases e3
        show w'.cell? ((Addr.add ⟨k, 0, none⟩ (m * 3)).add j) = some u
        rw [Addr.add_mid, Addr.add_mid, Nat.zero_add]
        exact h3
theorem ixs_hi {E : TypeId} (ko : Option Nat) (ao : Option Addr) (cap : Nat) (l : List Ixr) (m : Nat) (hm : m ≤ l.length) (w : World) (hL : OwG E 3 w ko ao cap l.length (ics l)) :
    (∀ w, (Instr.slice 27 (.slice ao l.length cap) none (some (.int .i64 (m : Int))) none).run Try.prog w = .ok (.slice ao m cap) w) ∧ ∀ w', OwG E 3 w' ko ao cap l.length (ics l) → SrcG 3 w' ao cap m (ics (l.take m)) := by
  have hl := hL.len
  have ht := hL.top
  unfold maxLen at ht
  have hu := Try.underlying27
  have hc := cells_Ixr
  refine ⟨fun w => ?_, fun w' h' => ⟨by rw [ics_len, List.length_take, Nat.min_eq_left hm], ics_one _, ?_⟩⟩
  · simp [go_sem, Instr.slice]
    omega
  · rcases h'.at' with ⟨-, h1, h0⟩ | ⟨k, cur, e1, e2, -⟩
    · exact .inl ⟨h1, h0, by omega⟩
    · refine .inr ⟨_, e2, fun j u hj => ?_⟩
      rw [ics_take, List.getElem?_take] at hj
      split at hj
      · obtain ⟨k', e3, -, h3, -⟩ := h'.cell _ u hj
        rw [e1] at e3
        cases e3
        rw [Addr.add_mid, Nat.zero_add]
        exact h3
      · cases hj
/-- What is read at an address, as long as the last store has not come up. -/
def Slw (p : Addr) (v : Value) (n : Nat) (L : Array Bool) (w : World) : Prop := L.getD n false = false → w.cell? p = some v
section
variable {p : Addr} {n k : Nat} {v : Value} {L : Array Bool} {w : World} {md : Region.Mode} {ops : Array Oper}
theorem Slw.other (h : k ≠ n) : Slw p v n (L.setIfInBounds k true) w ↔ Slw p v n L w := by
  unfold Slw
  rw [getD_set_ne false h]
theorem Slw.last (hn : n < L.size) : Slw p v n (L.setIfInBounds n true) w := by
  intro h
  simp [hn] at h
theorem Slw.wi (hn : ∀ L, Closed md ops L → k ∈ Region.ready md ops L → L.getD n false = false) (h : Wi md ops (Slw p v n) k w) : w.cell? p = some v := by
  obtain ⟨L, h1, h2, h3⟩ := h
  exact h3 (hn L h2 h1)
end
section
variable {w w' W : World} {r : Nat} {S T : Nat → Prop} {l : List Ixr} {ko : Option Nat} {ao : Option Addr} {cap : Nat}
set_option maxRecDepth 8000 in
set_option maxHeartbeats 4000000 in
theorem idropYes_any (s d : Int) (h : RiB W r S ko ao cap l) (hlen : l.length ≤ 100000) {i : Nat} (hf : ixf l s d = some i) (hi : i < l.length) :
    Calls Try.prog 18 #[.pointer (some ⟨r, 0, none⟩), .int .i64 s, .int .i64 d] W fun e w' => e = .returned (.bool true) ∧ (∃ S', RI w' r S' (l.eraseIdx i) ∧ ∀ b, S' b → S b ∨ W.heap.size ≤ b) ∧ Frm S W w' := by
  have cF := ifind_any s d h hlen
  simp only [ixI, hf] at cF
  have hi2 : (i : Int) < (l.length : Int) := by omega
  have hi0 : ¬ (i : Int) < 0 := by omega
  have hd0 : decide ((i : Int) < 0) = false := decide_eq_false hi0
  obtain ⟨i1, hi1, e1⟩ := Option.map_eq_some_iff.1 infoIxr
  simp only [Prod.mk.injEq] at e1
  obtain ⟨hz1, hs1, hb1⟩ := e1
  have hO := h.how
  obtain ⟨hsH, hH⟩ := ixs_hi _ _ _ l i (by omega) W hO
  obtain ⟨ao4, cap4, hsL, hLo⟩ := ixs_lo _ _ _ l (i + 1) (by omega) W hO
  rw [show ((i + 1 : Nat) : Int) = (i : Int) + 1 by omega] at hsL
  have hsrc1 : ∀ w, Below W.heap.size W w → SrcG 3 w ao cap i (ics (l.take i)) := fun w hb => hH w (h.below hb).how
  have hsrc2 : ∀ w, Below W.heap.size W w → SrcG 3 w ao4 cap4 (l.length - (i + 1)) (ics (l.drop (i + 1))) := fun w hb => hLo w (h.below hb).how
  have kcell : ∀ w, Below W.heap.size W w → w.cell? ⟨r, 0, none⟩ = some (.slice ao l.length cap) := fun w hb => (h.below hb).c0
  have hfz : ∀ w, Below W.heap.size W w → w.frozen? ⟨r, 0, none⟩ = false := fun w hb => (h.below hb).hr.free 0
  have fin : ∀ w2 ao2 cap2 ko2, Below W.heap.size W w2 → (∀ k, ko2 = some k → W.heap.size ≤ k) → OwG 40 3 w2 ko2 ao2 cap2 (i + (l.length - (i + 1))) (ics (l.take i) ++ ics (l.drop (i + 1))) →
      (∃ S', RI (w2.setCell ⟨r, 0, none⟩ (.slice ao2 (i + (l.length - (i + 1))) cap2)) r S' (l.eraseIdx i) ∧ ∀ b, S' b → S b ∨ W.heap.size ≤ b) ∧ Frm S W (w2.setCell ⟨r, 0, none⟩ (.slice ao2 (i + (l.length - (i + 1))) cap2)) := by
    intro w2 ao2 cap2 ko2 hb hk' ho
    have hl2 : i + (l.length - (i + 1)) = (l.eraseIdx i).length := by rw [List.length_eraseIdx, if_pos hi]; omega
    have hz2 : ics (l.take i) ++ ics (l.drop (i + 1)) = ics (l.eraseIdx i) := by rw [List.eraseIdx_eq_take_drop_succ, ics_app]
    rw [hl2, hz2] at ho
    rw [hl2]
    exact h.lay (Nat.le_refl _) hb (L := l.eraseIdx i) ho hk'
  have bD : Below W.heap.size W W.drew := (Below.refl _ W).drew
  have hw1 : IntKind.i64.wrap ((i : Int) + 1) = (i : Int) + 1 := by rw [IntKind.wrap_i64]; omega
  generalize hql : l.length = ql at *
  clear h hO hH hLo hql hf
  replace fin := Lib.hid fin
  replace fin := fin.out
  go_enter Try.func18, Try.ntmps18
  go_wp2_with (go_at_call 23; refine cF.mono ?_; rintro e w1 ⟨rfl, hw1⟩; subst w1; clear cF)
  refine GoL.start (S := Slw ⟨r, 0, none⟩ (.slice ao ql cap) 19) (by kernel_rfl) (fun _ => kcell _ bD) ?_
  generalize W.drew = U at bD ⊢
  have bV := bD
  clear bD
  have lV := bV.size
  refine GoL.take (i := 0) (v := ?_) rfl rfl (by kernel_rfl) (fun _ _ _ h => h) (fun _ _ => Slw.other (by decide)) (by rfl) ?_ ?_
  rotate_left
  · intro wx hwx
    go_simp
    try with_reducible rfl
  try simp only [Act.put, List.setIfInBounds_toArray, List.set_cons_zero, List.set_cons_succ, List.getElem_toArray, List.getElem_cons_zero, List.getElem_cons_succ, Nat.zero_add, List.nil_append]
  refine GoL.take (i := 2) (v := ?_) rfl rfl (by kernel_rfl) (fun _ _ _ h => h) (fun _ _ => Slw.other (by decide)) (by rfl) ?_ ?_
  rotate_left
  · intro wx hwx
    go_simp
    try with_reducible rfl
  try simp only [Act.put, List.setIfInBounds_toArray, List.set_cons_zero, List.set_cons_succ, List.getElem_toArray, List.getElem_cons_zero, List.getElem_cons_succ, Nat.zero_add, List.nil_append]
  refine GoL.take (i := 3) (v := ?_) rfl rfl (by kernel_rfl) (fun _ _ _ h => h) (fun _ _ => Slw.other (by decide)) (by rfl) ?_ ?_
  rotate_left
  · intro wx hwx
    go_simp
    try with_reducible rfl
  try simp only [Act.put, List.setIfInBounds_toArray, List.set_cons_zero, List.set_cons_succ, List.getElem_toArray, List.getElem_cons_zero, List.getElem_cons_succ, Nat.zero_add, List.nil_append]
  refine GoL.take (i := 4) (v := ?_) rfl rfl (by kernel_rfl) (fun _ _ _ h => h) (fun _ _ => Slw.other (by decide)) (by rfl) ?_ ?_
  rotate_left
  · intro wx hwx
    go_simp
    try with_reducible rfl
  try simp only [Act.put, List.setIfInBounds_toArray, List.set_cons_zero, List.set_cons_succ, List.getElem_toArray, List.getElem_cons_zero, List.getElem_cons_succ, Nat.zero_add, List.nil_append]
  refine GoL.take (i := 5) (v := ?_) rfl rfl (by kernel_rfl) (fun _ _ _ h => h) (fun _ _ => Slw.other (by decide)) (by rfl) ?_ ?_
  rotate_left
  · intro wx hwx
    have x2 := Slw.wi (fun L h1 h2 => (Closed.not h1 (i := 16) (by kernel_rfl) (Closed.not h1 (i := 8) (by kernel_rfl) (Closed.not h1 (i := 7) (by kernel_rfl) (Closed.not h1 (i := 5) (by kernel_rfl) (ready_not h2)))))) hwx
    go_simp
    try with_reducible rfl
  try simp only [Act.put, List.setIfInBounds_toArray, List.set_cons_zero, List.set_cons_succ, List.getElem_toArray, List.getElem_cons_zero, List.getElem_cons_succ, Nat.zero_add, List.nil_append]
  refine GoL.take (i := 6) (v := ?_) rfl rfl (by kernel_rfl) (fun _ _ _ h => h) (fun _ _ => Slw.other (by decide)) (by rfl) ?_ ?_
  rotate_left
  · intro wx hwx
    go_simp
    try with_reducible rfl
  try simp only [Act.put, List.setIfInBounds_toArray, List.set_cons_zero, List.set_cons_succ, List.getElem_toArray, List.getElem_cons_zero, List.getElem_cons_succ, Nat.zero_add, List.nil_append]
  refine GoL.take (i := 7) (v := ?_) rfl rfl (by kernel_rfl) (fun _ _ _ h => h) (fun _ _ => Slw.other (by decide)) (by rfl) ?_ ?_
  rotate_left
  · intro wx hwx
    go_simp
    try with_reducible rfl
  try simp only [Act.put, List.setIfInBounds_toArray, List.set_cons_zero, List.set_cons_succ, List.getElem_toArray, List.getElem_cons_zero, List.getElem_cons_succ, Nat.zero_add, List.nil_append]
  refine GoL.take (i := 9) (v := ?_) rfl rfl (by kernel_rfl) (fun _ _ _ h => h) (fun _ _ => Slw.other (by decide)) (by rfl) ?_ ?_
  rotate_left
  · intro wx hwx
    go_simp
    try with_reducible rfl
  try simp only [Act.put, List.setIfInBounds_toArray, List.set_cons_zero, List.set_cons_succ, List.getElem_toArray, List.getElem_cons_zero, List.getElem_cons_succ, Nat.zero_add, List.nil_append]
  refine GoL.take (i := 10) (v := ?_) rfl rfl (by kernel_rfl) (fun _ _ _ h => h) (fun _ _ => Slw.other (by decide)) (by rfl) ?_ ?_
  rotate_left
  · intro wx hwx
    go_simp
    try with_reducible rfl
  try simp only [Act.put, List.setIfInBounds_toArray, List.set_cons_zero, List.set_cons_succ, List.getElem_toArray, List.getElem_cons_zero, List.getElem_cons_succ, Nat.zero_add, List.nil_append]
  refine GoL.take (i := 11) (v := ?_) rfl rfl (by kernel_rfl) (fun _ _ _ h => h) (fun _ _ => Slw.other (by decide)) (by rfl) ?_ ?_
  rotate_left
  · intro wx hwx
    go_simp
    try with_reducible rfl
  try simp only [Act.put, List.setIfInBounds_toArray, List.set_cons_zero, List.set_cons_succ, List.getElem_toArray, List.getElem_cons_zero, List.getElem_cons_succ, Nat.zero_add, List.nil_append]
  refine GoL.take (i := 12) (v := ?_) rfl rfl (by kernel_rfl) (fun _ _ _ h => h) (fun _ _ => Slw.other (by decide)) (by rfl) ?_ ?_
  rotate_left
  · intro wx hwx
    have x2 := Slw.wi (fun L h1 h2 => (Closed.not h1 (i := 16) (by kernel_rfl) (Closed.not h1 (i := 15) (by kernel_rfl) (Closed.not h1 (i := 12) (by kernel_rfl) (ready_not h2))))) hwx
    go_simp
    try with_reducible rfl
  try simp only [Act.put, List.setIfInBounds_toArray, List.set_cons_zero, List.set_cons_succ, List.getElem_toArray, List.getElem_cons_zero, List.getElem_cons_succ, Nat.zero_add, List.nil_append]
  refine GoL.take (i := 13) (v := ?_) rfl rfl (by kernel_rfl) (fun _ _ _ h => h) (fun _ _ => Slw.other (by decide)) (by rfl) ?_ ?_
  rotate_left
  · intro wx hwx
    go_simp
    try with_reducible rfl
  try simp only [Act.put, List.setIfInBounds_toArray, List.set_cons_zero, List.set_cons_succ, List.getElem_toArray, List.getElem_cons_zero, List.getElem_cons_succ, Nat.zero_add, List.nil_append]
  refine GoL.take (i := 14) (v := ?_) rfl rfl (by kernel_rfl) (fun _ _ _ h => h) (fun _ _ => Slw.other (by decide)) (by rfl) ?_ ?_
  rotate_left
  · intro wx hwx
    go_simp
    try with_reducible rfl
  try simp only [Act.put, List.setIfInBounds_toArray, List.set_cons_zero, List.set_cons_succ, List.getElem_toArray, List.getElem_cons_zero, List.getElem_cons_succ, Nat.zero_add, List.nil_append]
  refine GoL.take (i := 15) (v := ?_) rfl rfl (by kernel_rfl) (fun _ _ _ h => h) (fun _ _ => Slw.other (by decide)) (by rfl) ?_ ?_
  rotate_left
  · intro wx hwx
    go_simp
    try with_reducible rfl
  try simp only [Act.put, List.setIfInBounds_toArray, List.set_cons_zero, List.set_cons_succ, List.getElem_toArray, List.getElem_cons_zero, List.getElem_cons_succ, Nat.zero_add, List.nil_append]
  refine GoL.on (rs := [1]) (by kernel_rfl) (by decide) ?_
  refine OnL.cons rfl ?_ OnL.nil
  intro K hK
  replace hK := Lib.hid hK
  go_simp
  have b1 := bV.alloc lV (.cells #[] 40)
  refine hK.out _ _ (fun _ => kcell _ b1) ?_
  clear hK
  try simp only [Act.put, List.setIfInBounds_toArray, List.set_cons_zero, List.set_cons_succ, List.getElem_toArray, List.getElem_cons_zero, List.getElem_cons_succ, Nat.zero_add, List.nil_append]
  refine GoL.on (rs := [8]) (by kernel_rfl) (by decide) ?_
  refine OnL.cons rfl ?_ OnL.nil
  intro K hK
  replace hK := Lib.hid hK
  refine step_appG rfl (.tmp 15) (.tmp 21) 27 40 i1 _ 3 24 Try.underlying27 hi1 hz1 hs1 hb1 rfl (by decide) rfl (OwG.emptyI _ _ U) (hsrc1 _ b1) rfl rfl (by omega) (by omega) ?_
  intro ao1 cap1 ko1 w2 ho1 hf1 hm1
  rw [Nat.zero_add, List.nil_append] at ho1
  obtain ⟨b2, hk1⟩ := app_newI b1 b1.size (fun k e => by cases e; exact lV) hf1 hm1
  clear hf1 hm1
  refine hK.out _ _ (fun _ => kcell _ b2) ?_
  clear hK
  try simp only [Act.put, List.setIfInBounds_toArray, List.set_cons_zero, List.set_cons_succ, List.getElem_toArray, List.getElem_cons_zero, List.getElem_cons_succ, Nat.zero_add, List.nil_append]
  refine GoL.on (rs := [16]) (by kernel_rfl) (by decide) ?_
  refine OnL.cons rfl ?_ OnL.nil
  intro K hK
  replace hK := Lib.hid hK
  refine step_appG rfl (.tmp 22) (.tmp 29) 27 40 i1 _ 3 24 Try.underlying27 hi1 hz1 hs1 hb1 rfl (by decide) rfl ho1 (hsrc2 _ b2) rfl rfl (by omega) (by omega) ?_
  intro ao2 cap2 ko2 w3 ho2 hf2 hm2
  obtain ⟨b4, hk2⟩ := app_newI b2 b2.size hk1 hf2 hm2
  have hfin := Lib.hid (fin w3 ao2 cap2 ko2 b4 hk2 ho2)
  have cst := kcell w3 b4
  have fst := hfz w3 b4
  clear hf2 hm2 ho2 ho1
  refine hK.out _ _ (fun _ => cst) ?_
  clear hK
  try simp only [Act.put, List.setIfInBounds_toArray, List.set_cons_zero, List.set_cons_succ, List.getElem_toArray, List.getElem_cons_zero, List.getElem_cons_succ, Nat.zero_add, List.nil_append]
  refine GoL.take (i := 17) (v := ?_) rfl rfl (by kernel_rfl) (fun _ _ _ h => h) (fun _ _ => Slw.other (by decide)) (by rfl) ?_ ?_
  rotate_left
  · intro wx hwx
    go_simp
    try with_reducible rfl
  try simp only [Act.put, List.setIfInBounds_toArray, List.set_cons_zero, List.set_cons_succ, List.getElem_toArray, List.getElem_cons_zero, List.getElem_cons_succ, Nat.zero_add, List.nil_append]
  refine GoL.take (i := 18) (v := ?_) rfl rfl (by kernel_rfl) (fun _ _ _ h => h) (fun _ _ => Slw.other (by decide)) (by rfl) ?_ ?_
  rotate_left
  · intro wx hwx
    go_simp
    try with_reducible rfl
  try simp only [Act.put, List.setIfInBounds_toArray, List.set_cons_zero, List.set_cons_succ, List.getElem_toArray, List.getElem_cons_zero, List.getElem_cons_succ, Nat.zero_add, List.nil_append]
  refine GoL.on (rs := [19]) (by kernel_rfl) (by decide) ?_
  refine OnL.cons rfl ?_ OnL.nil
  intro K hK
  replace hK := Lib.hid hK
  go_simp
  refine hK.out _ _ (Slw.last (by simp)) ?_
  clear hK
  try simp only [Act.put, List.setIfInBounds_toArray, List.set_cons_zero, List.set_cons_succ, List.getElem_toArray, List.getElem_cons_zero, List.getElem_cons_succ, Nat.zero_add, List.nil_append]
  refine GoL.done (by kernel_rfl) ?_
  refine NoPanic.normal ?_
  clear fin kcell hsrc1 hsrc2 bV hfz
  go_wp2_with fail
  go_ret
  exact ⟨rfl, hfin.out⟩
set_option maxRecDepth 8000 in
set_option maxHeartbeats 2000000 in
theorem idrop_any (s d : Int) (h : RI W r S l) (hlen : l.length ≤ 100000) :
    Calls Try.prog 18 #[.pointer (some ⟨r, 0, none⟩), .int .i64 s, .int .i64 d] W fun e w' => e = .returned (.bool (ixg l s d).isSome) ∧ (∃ S', RI w' r S' (ixDrop l s d) ∧ ∀ b, S' b → S b ∨ W.heap.size ≤ b) ∧ Frm S W w' := by
  obtain ⟨ko, ao, cap, h⟩ := h
  cases hf : ixf l s d with
  | some i =>
    obtain ⟨t', ht, -⟩ := ixf_some hf
    rw [ixg_some.2 ⟨i, hf, ht⟩]
    unfold ixDrop
    rw [hf]
    exact idropYes_any s d h hlen hf (List.getElem?_eq_some_iff.1 ht).1
  | none =>
    rw [ixg_none.2 hf]
    unfold ixDrop
    rw [hf]
    have cF := ifind_any s d h hlen
    simp only [ixI, hf] at cF
    have hend : (∃ S', RI W r S' l ∧ ∀ b, S' b → S b ∨ W.heap.size ≤ b) ∧ Frm S W W := ⟨⟨S, ⟨_, _, _, h⟩, fun b e => .inl e⟩, Frm.refl _ _⟩
    replace hend := Lib.hid hend
    clear h hf
    go_enter Try.func18, Try.ntmps18
    go_wp2_with (go_at_call 23; refine cF.mono ?_; rintro e w1 ⟨rfl, hw1⟩; subst w1; clear cF)
    go_ret
    exact ⟨rfl, hend.out⟩
end
end Go.Proofs.Ytbfidpngpdaieaa
