/-
  The document's book: parts of its row; Remove. (Written by gen/p_rbd.py.)
  The document's book: a side's orders by price and time (Of). (Written by gen/p_rbf.py.)
-/
import Derived.Test.YtdmjcjheanedgaaDoorGJ
namespace Go.Proofs.YtdmjcjheanedgaaDoor
open Go.RowKit
set_option linter.unusedSimpArgs false
theorem ocs_drop : ∀ (L : List Ord) (m : Nat), ocs (L.drop m) = (ocs L).drop (m * 7)
  | L, 0 => by simp
  | [], m + 1 => by simp
  | x :: t, m + 1 => by
    have e : (m + 1) * 7 = 7 + m * 7 := by omega
    rw [List.drop_succ_cons, ocs_drop t m, e, ← List.drop_drop]
    rfl
theorem ocs_take : ∀ (L : List Ord) (m : Nat), ocs (L.take m) = (ocs L).take (m * 7)
  | L, 0 => by simp
  | [], m + 1 => by simp
  | x :: t, m + 1 => by
    have e : (m + 1) * 7 = m * 7 + 7 := by omega
    have h := ocs_take t m
    rw [e]
    simp [h]
theorem ors_lo {E : TypeId} (ko : Option Nat) (ao : Option Addr) (cap : Nat) (l : List Ord) (m : Nat) (hm : m ≤ l.length) (w : World) (hL : OwG E 7 w ko ao cap l.length (ocs l)) :
    ∃ ao2 cap2, (∀ w, (Instr.slice 22 (.slice ao l.length cap) (some (.int .i64 (m : Int))) none none).run Tryd.prog w = .ok (.slice ao2 (l.length - m) cap2) w) ∧ ∀ w', OwG E 7 w' ko ao cap l.length (ocs l) → SrcG 7 w' ao2 cap2 (l.length - m) (ocs (l.drop m)) := by
  have hl := hL.len
  have ht := hL.top
  unfold maxLen at ht
  have hu := Tryd.underlying22
  have hc := cells_Ord
  have hone : ∀ u ∈ ocs (l.drop m), u.oneCell' = true := ocs_one _
  have hlen : (ocs (l.drop m)).length = (l.length - m) * 7 := by rw [ocs_len, List.length_drop]
  by_cases h : cap = m
  · subst h
    have e : l.length = cap := by omega
    refine ⟨ao, 0, fun w => ?_, fun w' h' => ⟨hlen, hone, ?_⟩⟩
    · simp [go_sem, Instr.slice]
      intro h; omega
    · cases ao with
      | none => exact .inl ⟨rfl, rfl, by omega⟩
      | some a =>
        refine .inr ⟨a, rfl, fun j u hj => ?_⟩
        have hlt := (List.getElem?_eq_some_iff.1 hj).1
        omega
  · refine ⟨Option.map (fun x => x.add (m * 7)) ao, cap - m, fun w => ?_, fun w' h' => ⟨hlen, hone, ?_⟩⟩
    · simp [go_sem, Instr.slice]
      rw [if_pos hm, if_neg h]
    · rcases h'.at' with ⟨-, -, h0⟩ | ⟨k, cur, e1, e2, -⟩
      · omega
      · refine .inr ⟨_, by rw [e2]; rfl, fun j u hj => ?_⟩
        rw [ocs_drop, List.getElem?_drop] at hj
        obtain ⟨k', e3, -, h3, -⟩ := h'.cell _ u hj
        rw [e1] at e3
        cases e3
        show w'.cell? ((Addr.add ⟨k, 0, none⟩ (m * 7)).add j) = some u
        rw [Addr.add_mid, Addr.add_mid, Nat.zero_add]
        exact h3
theorem ors_hi {E : TypeId} (ko : Option Nat) (ao : Option Addr) (cap : Nat) (l : List Ord) (m : Nat) (hm : m ≤ l.length) (w : World) (hL : OwG E 7 w ko ao cap l.length (ocs l)) :
    (∀ w, (Instr.slice 22 (.slice ao l.length cap) none (some (.int .i64 (m : Int))) none).run Tryd.prog w = .ok (.slice ao m cap) w) ∧ ∀ w', OwG E 7 w' ko ao cap l.length (ocs l) → SrcG 7 w' ao cap m (ocs (l.take m)) := by
  have hl := hL.len
  have ht := hL.top
  unfold maxLen at ht
  have hu := Tryd.underlying22
  have hc := cells_Ord
  refine ⟨fun w => ?_, fun w' h' => ⟨by rw [ocs_len, List.length_take, Nat.min_eq_left hm], ocs_one _, ?_⟩⟩
  · simp [go_sem, Instr.slice]
    omega
  · rcases h'.at' with ⟨-, h1, h0⟩ | ⟨k, cur, e1, e2, -⟩
    · exact .inl ⟨h1, h0, by omega⟩
    · refine .inr ⟨_, e2, fun j u hj => ?_⟩
      rw [ocs_take, List.getElem?_take] at hj
      split at hj
      · obtain ⟨k', e3, -, h3, -⟩ := h'.cell _ u hj
        rw [e1] at e3
        cases e3
        rw [Addr.add_mid, Nat.zero_add]
        exact h3
      · cases hj
section
variable {w w' W : World} {r : Nat} {S T : Nat → Prop} {b : Bk} {ko : Option Nat} {ao : Option Addr} {cap : Nat}
end
end Go.Proofs.YtdmjcjheanedgaaDoor
namespace Go.Proofs.YtdmjcjheanedgaaDoor
open Go.RowKit
set_option linter.unusedSimpArgs false
section
variable {w w' W : World} {r : Nat} {S T : Nat → Prop} {ko : Option Nat} {ao : Option Addr} {cap : Nat}
set_option maxRecDepth 8000 in
set_option maxHeartbeats 8000000 in
theorem kof_any (s : Int) {b : Bk} (h : RK W r S b) (hlen : b.L.length ≤ 100000) :
    Calls Tryd.prog 47 #[.pointer (some ⟨r, 0, none⟩), .int .i64 s] W fun e w' => ∃ ko' cap' ao', e = .returned (.slice ao' (bkOf b.L s).length cap') ∧ Gr 44 7 cOrd W w' (bkOf b.L s) ko' cap' ao' := by
  obtain ⟨ko, ao, cap, h⟩ := h
  obtain ⟨i1, hi1, e1⟩ := Option.map_eq_some_iff.1 infoKOrd
  simp only [Prod.mk.injEq] at e1
  obtain ⟨hz1, hs1, hb1⟩ := e1
  have hK : ∀ w, Below W.heap.size W w → w.cell? ⟨r, 2, none⟩ = some (.slice ao b.L.length cap) ∧ Ords w ao cap b.L := fun w hb => ⟨(h.below hb).c2, (h.below hb).rows⟩
  clear h
  generalize b.L = l at *
  go_enter Tryd.func47, Tryd.ntmps47
  go_wp2_with fail
  go_loopg [5, 6] l.length (fun j p5 p6 wr => ∃ (i : Nat) (P : List Ord) (ko' : Option Nat) (oc : Nat) (oo : Option Addr), i + j = l.length ∧ p6 = .int .i64 (i : Int) ∧ p5 = .slice oo P.length oc ∧ Hid (P = bkOfTo l s i) ∧ Gr 44 7 cOrd W wr P ko' oc oo)
  case atStart => exact ⟨0, [], none, 0, none, by omega, rfl, rfl, Lib.hid rfl, Gr.start W⟩
  case round =>
    obtain ⟨i, P, ko, oc, oo, hi, rfl, rfl, hO, hG⟩ := hrel
    have hR := hK _ hG.bel
    have hrl := hR.1
    by_cases him : i < l.length
    · obtain ⟨x, hx⟩ : ∃ x, l[i]? = some x := ⟨_, List.getElem?_eq_getElem him⟩
      have hPi : P.length ≤ i := by rw [hO.out]; exact bkOfTo_len l s i
      have hP200 : P.length ≤ 100000 := by omega
      replace hPi := Lib.hid hPi
      have hi2 : (i : Int) < (l.length : Int) := by omega
      have hLv := hR.2
      by_cases hsy : x.side = s
      rotate_left
      · obtain ⟨bx, offx, rfl, -, -, y2, -⟩ := hLv.get hx
        have hd : (x.side != s) = true := by simpa using hsy
        have hO2 : Hid (P = bkOfTo l s (i + 1)) := Lib.hid (by
          unfold bkOfTo
          rw [hx]
          dsimp only
          rw [if_neg hsy]
          exact hO.out)
        clear hO hLv hR hx hsy hK
        go_wp2_with fail
        go_roundg (l.length - (i + 1))
        case measure => omega
        case rel => exact ⟨i + 1, P, ko, oc, oo, by omega, by go_num, rfl, hO2, hG⟩
      have hds : (x.side != s) = false := by simpa using hsy
      have hO2 : bkIns s P x = bkOfTo l s (i + 1) := by
        conv => rhs; unfold bkOfTo
        rw [hx]
        dsimp only
        rw [if_pos hsy, hO.out]
      unfold bkIns at hO2
      have hple := bkAt_le s P x.price
      have hbt : ∀ (k : Nat) (y : Ord), P[k]? = some y → k < bkAt s P x.price → bett s x.price y.price = false := fun k y hy hk => bkAt_lt hy hk
      have hbf : ∀ (y : Ord), P[bkAt s P x.price]? = some y → bett s x.price y.price = true := fun y hy => bkAt_at hy
      obtain ⟨d, hd⟩ : ∃ d, d = bkAt s P x.price := ⟨_, rfl⟩
      rw [← hd] at hO2 hple hbt hbf
      clear hd
      have hPG := Ords.of_own hG.ow
      have c0 := hR.1
      have hbfh := Lib.hid hbf
      have hbth := Lib.hid hbt
      have hO2h := Lib.hid hO2
      replace hK := Lib.hid hK
      clear hbf hbt hO2
      have cB := fun a c w => kbetter_any s a c w
      obtain ⟨bx, offx, rfl, -, -, y2, y3, -⟩ := hLv.get hx
      go_wp2_with fail
      clear y2 hds hsy
      go_loopg [7] d (fun j p7 wr' => ∃ k : Nat, k + j = d ∧ p7 = .int .i64 (k : Int) ∧ ∃ m, wr' = wr.drewN m)
      case atStart => exact ⟨0, by omega, rfl, 0, rfl⟩
      case round =>
        obtain ⟨k, hk, rfl, m, rfl⟩ := hrel
        by_cases hkd : k < d
        · obtain ⟨y, hy⟩ : ∃ y, P[k]? = some y := ⟨_, List.getElem?_eq_getElem (by omega)⟩
          have hb := hbth.out k y hy hkd
          obtain ⟨by', offy, rfl, -, -, -, u3, -⟩ := hPG.get hy
          have hg : decide (k < P.length) = true := decide_eq_true (by omega)
          have hk2 : (k : Int) < (P.length : Int) := by omega
          replace cB := fun w => cB x.price y.price w
          rw [hb] at cB
          clear hbth hbfh hPG hLv hG hR hO2h hO hy hx hb hK
          go_wp2_with fail
          go_quiet ((go_at_call 48; exact (cB _).mono fun e w h => ⟨h.1, _, h.2⟩))
          go_wp2_with fail
          go_roundg (d - (k + 1))
          case measure => omega
          case rel => exact ⟨k + 1, by omega, by go_num, m + nq, by first | rfl | rw [World.drewN_drewN]⟩
        · obtain rfl : k = d := by omega
          have hfacts : ∀ w, Below wr.heap.size wr w → w.cell? ⟨r, 2, none⟩ = some (.slice (some ⟨bx, offx, none⟩) l.length cap) ∧ w.cell? ⟨bx, offx + i * 7, none⟩ = some (.int .i64 x.id) ∧ w.cell? ⟨bx, offx + i * 7 + 1, none⟩ = some (.int .i64 x.owner) ∧ w.cell? ⟨bx, offx + i * 7 + 2, none⟩ = some (.int .i64 x.side) ∧ w.cell? ⟨bx, offx + i * 7 + 3, none⟩ = some (.int .i64 x.price) ∧ w.cell? ⟨bx, offx + i * 7 + 4, none⟩ = some (.int .i64 x.qty) ∧ w.cell? ⟨bx, offx + i * 7 + 5, none⟩ = some (.int .i64 x.flags) ∧ w.cell? ⟨bx, offx + i * 7 + 6, none⟩ = some (.int .i64 x.seq) := by
            intro w hb
            obtain ⟨c2', hR'⟩ := hK.out _ (hG.bel.trans (hb.mono hG.bel.size))
            obtain ⟨b', o', e', q0, q1, q2, q3, q4, q5, q6⟩ := hR'.get hx
            cases e'
            exact ⟨c2', q0, q1, q2, q3, q4, q5, q6⟩
          have hone := cOrd_one x
          obtain ⟨hsH, hH⟩ := ors_hi _ _ _ P k hple wr hG.ow
          obtain ⟨ao4, cap4, hsL, hLo⟩ := ors_lo _ _ _ P k hple wr hG.ow
          have hsrc1 : ∀ w, Below wr.heap.size wr w → SrcG 7 w oo oc k (ocs (P.take k)) := fun w hb => hH w (hG.ow.below hb)
          have hsrc2 : ∀ w, Below wr.heap.size wr w → SrcG 7 w ao4 cap4 (P.length - k) (ocs (P.drop k)) := fun w hb => hLo w (hG.ow.below hb)
          have fin : ∀ w4 ao3 cap3 ko3, Below wr.heap.size wr w4 → (∀ k, ko3 = some k → wr.heap.size ≤ k) → OwG 44 7 w4 ko3 ao3 cap3 (k + 1 + (P.length - k)) (ocs (P.take k) ++ (cOrd x).toList ++ ocs (P.drop k)) →
              ∃ P2 : List Ord, k + 1 + (P.length - k) = P2.length ∧ Hid (P2 = bkOfTo l s (i + 1)) ∧ Gr 44 7 cOrd W w4 P2 ko3 cap3 ao3 := by
            intro w4 ao3 cap3 ko3 hb hk' ho
            have e1 : k + 1 + (P.length - k) = (P.take k ++ x :: P.drop k).length := by simp; omega
            refine ⟨_, e1, hO2h, ?_, fun q e => Nat.le_trans hG.bel.size (hk' q e), hG.bel.trans (hb.mono hG.bel.size)⟩
            rw [e1] at ho
            simpa [ocs] using ho
          have hcase : (decide (k < P.length) = true ∧ k < P.length ∧ ∃ y, P[k]? = some y ∧ bett s x.price y.price = true) ∨ decide (k < P.length) = false := by
            by_cases g : k < P.length
            · obtain ⟨y, hy⟩ : ∃ y, P[k]? = some y := ⟨_, List.getElem?_eq_getElem g⟩
              exact .inl ⟨decide_eq_true g, g, y, hy, hbfh.out y hy⟩
            · exact .inr (decide_eq_false g)
          have bD : ∀ n, Below wr.heap.size wr ((wr.drewN m).drewN n).drew := fun n => (belowK (belowK (Below.refl _ _) m) n).drew
          obtain ⟨x0, x1, x2, x3, x4, x5, x6⟩ := x
          simp only at *
          clear hbth hbfh hLv hG hR hO2h hO hx hH hLo hK
          rcases hcase with ⟨hg, hgl, y, hy, hb⟩ | hg
          · obtain ⟨by', offy, rfl, -, -, -, u3, -⟩ := hPG.get hy
            have hk2 : (k : Int) < (P.length : Int) := by omega
            replace cB := fun w => cB x3 y.price w
            rw [hb] at cB
            clear hPG hy hgl hb
            go_wp2_with fail
            go_quiet ((go_at_call 48; exact (cB _).mono fun e w h => ⟨h.1, _, h.2⟩))
            go_wp2_with fail
            clear u3 hk2 hg c0 y3 cB
            replace bD := bD nq
            generalize (wr.drewN m).drewN nq = wq at *
            refine GoL.start (S := fun _ w => Below wr.heap.size wr w) (by kernel_rfl) bD ?_
            generalize wq.drew = U at bD ⊢
            have bV := bD
            clear bD
            have lV := bV.size
            refine GoL.take (i := 1) (v := ?_) rfl rfl (by kernel_rfl) (fun _ _ _ h => h) (fun _ _ => Iff.rfl) (by rfl) ?_ ?_
            rotate_left
            · intro wx hwx
              go_simp
              try with_reducible rfl
            try simp only [Act.put, List.setIfInBounds_toArray, List.set_cons_zero, List.set_cons_succ, List.getElem_toArray, List.getElem_cons_zero, List.getElem_cons_succ, Nat.zero_add, List.nil_append]
            refine GoL.take (i := 2) (v := ?_) rfl rfl (by kernel_rfl) (fun _ _ _ h => h) (fun _ _ => Iff.rfl) (by rfl) ?_ ?_
            rotate_left
            · intro wx hwx
              go_simp
              try with_reducible rfl
            try simp only [Act.put, List.setIfInBounds_toArray, List.set_cons_zero, List.set_cons_succ, List.getElem_toArray, List.getElem_cons_zero, List.getElem_cons_succ, Nat.zero_add, List.nil_append]
            refine GoL.take (i := 3) (v := ?_) rfl rfl (by kernel_rfl) (fun _ _ _ h => h) (fun _ _ => Iff.rfl) (by rfl) ?_ ?_
            rotate_left
            · intro wx hwx
              go_simp
              try with_reducible rfl
            try simp only [Act.put, List.setIfInBounds_toArray, List.set_cons_zero, List.set_cons_succ, List.getElem_toArray, List.getElem_cons_zero, List.getElem_cons_succ, Nat.zero_add, List.nil_append]
            refine GoL.take (i := 5) (v := ?_) rfl rfl (by kernel_rfl) (fun _ _ _ h => h) (fun _ _ => Iff.rfl) (by rfl) ?_ ?_
            rotate_left
            · intro wx hwx
              go_simp
              try with_reducible rfl
            try simp only [Act.put, List.setIfInBounds_toArray, List.set_cons_zero, List.set_cons_succ, List.getElem_toArray, List.getElem_cons_zero, List.getElem_cons_succ, Nat.zero_add, List.nil_append]
            refine GoL.take (i := 6) (v := ?_) rfl rfl (by kernel_rfl) (fun _ _ _ h => h) (fun _ _ => Iff.rfl) (by rfl) ?_ ?_
            rotate_left
            · intro wx hwx
              go_simp
              try with_reducible rfl
            try simp only [Act.put, List.setIfInBounds_toArray, List.set_cons_zero, List.set_cons_succ, List.getElem_toArray, List.getElem_cons_zero, List.getElem_cons_succ, Nat.zero_add, List.nil_append]
            refine GoL.take (i := 7) (v := ?_) rfl rfl (by kernel_rfl) (fun _ _ _ h => h) (fun _ _ => Iff.rfl) (by rfl) ?_ ?_
            rotate_left
            · intro wx hwx
              go_simp
              try with_reducible rfl
            try simp only [Act.put, List.setIfInBounds_toArray, List.set_cons_zero, List.set_cons_succ, List.getElem_toArray, List.getElem_cons_zero, List.getElem_cons_succ, Nat.zero_add, List.nil_append]
            refine GoL.take (i := 8) (v := ?_) rfl rfl (by kernel_rfl) (fun _ _ _ h => h) (fun _ _ => Iff.rfl) (by rfl) ?_ ?_
            rotate_left
            · intro wx hwx
              obtain ⟨z2, z3, z4, z5, z6, z7, z8, z9⟩ := hfacts wx (Wi.at' hwx)
              go_simp
              try with_reducible rfl
            try simp only [Act.put, List.setIfInBounds_toArray, List.set_cons_zero, List.set_cons_succ, List.getElem_toArray, List.getElem_cons_zero, List.getElem_cons_succ, Nat.zero_add, List.nil_append]
            refine GoL.take (i := 9) (v := ?_) rfl rfl (by kernel_rfl) (fun _ _ _ h => h) (fun _ _ => Iff.rfl) (by rfl) ?_ ?_
            rotate_left
            · intro wx hwx
              go_simp
              try with_reducible rfl
            try simp only [Act.put, List.setIfInBounds_toArray, List.set_cons_zero, List.set_cons_succ, List.getElem_toArray, List.getElem_cons_zero, List.getElem_cons_succ, Nat.zero_add, List.nil_append]
            refine GoL.take (i := 10) (v := ?_) rfl rfl (by kernel_rfl) (fun _ _ _ h => h) (fun _ _ => Iff.rfl) (by rfl) ?_ ?_
            rotate_left
            · intro wx hwx
              go_simp
              try with_reducible rfl
            try simp only [Act.put, List.setIfInBounds_toArray, List.set_cons_zero, List.set_cons_succ, List.getElem_toArray, List.getElem_cons_zero, List.getElem_cons_succ, Nat.zero_add, List.nil_append]
            refine GoL.take (i := 11) (v := ?_) rfl rfl (by kernel_rfl) (fun _ _ _ h => h) (fun _ _ => Iff.rfl) (by rfl) ?_ ?_
            rotate_left
            · intro wx hwx
              obtain ⟨z2, z3, z4, z5, z6, z7, z8, z9⟩ := hfacts wx (Wi.at' hwx)
              go_simp
              try with_reducible rfl
            try simp only [Act.put, List.setIfInBounds_toArray, List.set_cons_zero, List.set_cons_succ, List.getElem_toArray, List.getElem_cons_zero, List.getElem_cons_succ, Nat.zero_add, List.nil_append]
            refine GoL.take (i := 14) (v := ?_) rfl rfl (by kernel_rfl) (fun _ _ _ h => h) (fun _ _ => Iff.rfl) (by rfl) ?_ ?_
            rotate_left
            · intro wx hwx
              go_simp
              try with_reducible rfl
            try simp only [Act.put, List.setIfInBounds_toArray, List.set_cons_zero, List.set_cons_succ, List.getElem_toArray, List.getElem_cons_zero, List.getElem_cons_succ, Nat.zero_add, List.nil_append]
            refine GoL.take (i := 15) (v := ?_) rfl rfl (by kernel_rfl) (fun _ _ _ h => h) (fun _ _ => Iff.rfl) (by rfl) ?_ ?_
            rotate_left
            · intro wx hwx
              go_simp
              try with_reducible rfl
            try simp only [Act.put, List.setIfInBounds_toArray, List.set_cons_zero, List.set_cons_succ, List.getElem_toArray, List.getElem_cons_zero, List.getElem_cons_succ, Nat.zero_add, List.nil_append]
            refine GoL.take (i := 16) (v := ?_) rfl rfl (by kernel_rfl) (fun _ _ _ h => h) (fun _ _ => Iff.rfl) (by rfl) ?_ ?_
            rotate_left
            · intro wx hwx
              go_simp
              try with_reducible rfl
            try simp only [Act.put, List.setIfInBounds_toArray, List.set_cons_zero, List.set_cons_succ, List.getElem_toArray, List.getElem_cons_zero, List.getElem_cons_succ, Nat.zero_add, List.nil_append]
            refine GoL.on (rs := [0, 12]) (by kernel_rfl) (by decide) ?_
            refine OnL.cons rfl ?_ (OnL.cons rfl ?_ OnL.nil)
            · intro K hK
              replace hK := Lib.hid hK
              go_simp
              have b1 := bV.alloc bV.size (.cells #[] 44)
              refine hK.out _ _ b1 ?_
              clear hK
              try simp only [Act.put, List.setIfInBounds_toArray, List.set_cons_zero, List.set_cons_succ, List.getElem_toArray, List.getElem_cons_zero, List.getElem_cons_succ, Nat.zero_add, List.nil_append]
              refine GoL.on (rs := [4, 12]) (by kernel_rfl) (by decide) ?_
              refine OnL.cons rfl ?_ (OnL.cons rfl ?_ OnL.nil)
              · intro K hK
                replace hK := Lib.hid hK
                refine step_appG rfl (.tmp 51) (.tmp 54) 22 44 i1 _ 7 56 Tryd.underlying22 hi1 hz1 hs1 hb1 rfl (by decide) rfl (OwG.emptyK _ _ U) (hsrc1 _ b1) rfl rfl (by omega) (by omega) ?_
                intro ao1 cap1 ko1 w2 ho1 hf1 hm1
                rw [Nat.zero_add, List.nil_append] at ho1
                try simp only [Nat.zero_add]
                obtain ⟨b2, hk1⟩ := app_newK b1 b1.size (fun k e => by cases e; exact lV) hf1 hm1
                clear hf1 hm1
                refine hK.out _ _ b2 ?_
                clear hK
                try simp only [Act.put, List.setIfInBounds_toArray, List.set_cons_zero, List.set_cons_succ, List.getElem_toArray, List.getElem_cons_zero, List.getElem_cons_succ, Nat.zero_add, List.nil_append]
                refine GoL.on (rs := [12]) (by kernel_rfl) (by decide) ?_
                refine OnL.cons rfl ?_ OnL.nil
                intro K hK
                replace hK := Lib.hid hK
                go_simp
                have b4 := b2.alloc b2.size (.cells (cOrd ⟨x0, x1, x2, x3, x4, x5, x6⟩) 44)
                refine hK.out _ _ b4 ?_
                clear hK
                try simp only [Act.put, List.setIfInBounds_toArray, List.set_cons_zero, List.set_cons_succ, List.getElem_toArray, List.getElem_cons_zero, List.getElem_cons_succ, Nat.zero_add, List.nil_append]
                refine GoL.on (rs := [13]) (by kernel_rfl) (by decide) ?_
                refine OnL.cons rfl ?_ OnL.nil
                intro K hK
                replace hK := Lib.hid hK
                refine step_appG rfl (.tmp 55) (.tmp 63) 22 44 i1 _ 7 56 Tryd.underlying22 hi1 hz1 hs1 hb1 rfl (by decide) rfl (ho1.alloc _) (SrcG.row (cs := cOrd ⟨x0, x1, x2, x3, x4, x5, x6⟩) (Blk.new _ _ _) rfl hone) rfl rfl (by omega) (by omega) ?_
                intro ao2 cap2 ko2 w3 ho2 hf2 hm2
                obtain ⟨b5, hk2⟩ := app_newK b4 b4.size hk1 hf2 hm2
                clear hf2 hm2 ho1
                refine hK.out _ _ b5 ?_
                clear hK
                try simp only [Act.put, List.setIfInBounds_toArray, List.set_cons_zero, List.set_cons_succ, List.getElem_toArray, List.getElem_cons_zero, List.getElem_cons_succ, Nat.zero_add, List.nil_append]
                refine GoL.on (rs := [17]) (by kernel_rfl) (by decide) ?_
                refine OnL.cons rfl ?_ OnL.nil
                intro K hK
                replace hK := Lib.hid hK
                refine step_appG rfl (.tmp 64) (.tmp 67) 22 44 i1 _ 7 56 Tryd.underlying22 hi1 hz1 hs1 hb1 rfl (by decide) rfl ho2 (hsrc2 _ b5) rfl rfl (by omega) (by omega) ?_
                intro ao3 cap3 ko3 w4 ho3 hf3 hm3
                obtain ⟨b6, hk3⟩ := app_newK b5 b5.size hk2 hf3 hm3
                have hfin := Lib.hid (fin w4 ao3 cap3 ko3 b6 hk3 ho3)
                clear hf3 hm3 ho3 ho2
                refine hK.out _ _ b6 ?_
                clear hK
                try simp only [Act.put, List.setIfInBounds_toArray, List.set_cons_zero, List.set_cons_succ, List.getElem_toArray, List.getElem_cons_zero, List.getElem_cons_succ, Nat.zero_add, List.nil_append]
                refine GoL.take (i := 18) (v := ?_) rfl rfl (by kernel_rfl) (fun _ _ _ h => h) (fun _ _ => Iff.rfl) (by rfl) ?_ ?_
                rotate_left
                · intro wx hwx
                  go_simp
                  try with_reducible rfl
                try simp only [Act.put, List.setIfInBounds_toArray, List.set_cons_zero, List.set_cons_succ, List.getElem_toArray, List.getElem_cons_zero, List.getElem_cons_succ, Nat.zero_add, List.nil_append]
                refine GoL.done (by kernel_rfl) ?_
                refine NoPanic.normal ?_
                clear fin hsrc1 hsrc2 bV hfacts
                go_wp2_with fail
                go_roundg (l.length - (i + 1))
                case measure => omega
                case rel =>
                  obtain ⟨P2, e1, e2, e3⟩ := hfin.out
                  exact ⟨i + 1, P2, ko3, cap3, ao3, by omega, by go_num, by rw [e1], e2, e3⟩
              · intro K hK
                replace hK := Lib.hid hK
                go_simp
                have b3 := b1.alloc b1.size (.cells (cOrd ⟨x0, x1, x2, x3, x4, x5, x6⟩) 44)
                refine hK.out _ _ b3 ?_
                clear hK
                try simp only [Act.put, List.setIfInBounds_toArray, List.set_cons_zero, List.set_cons_succ, List.getElem_toArray, List.getElem_cons_zero, List.getElem_cons_succ, Nat.zero_add, List.nil_append]
                refine GoL.on (rs := [4]) (by kernel_rfl) (by decide) ?_
                refine OnL.cons rfl ?_ OnL.nil
                intro K hK
                replace hK := Lib.hid hK
                refine step_appG rfl (.tmp 51) (.tmp 54) 22 44 i1 _ 7 56 Tryd.underlying22 hi1 hz1 hs1 hb1 rfl (by decide) rfl ((OwG.emptyK _ _ U).alloc _) (hsrc1 _ b3) rfl rfl (by omega) (by omega) ?_
                intro ao1 cap1 ko1 w2 ho1 hf1 hm1
                rw [Nat.zero_add, List.nil_append] at ho1
                try simp only [Nat.zero_add]
                have hrow : Blk w2 (U.heap.size + 1) 44 (cOrd ⟨x0, x1, x2, x3, x4, x5, x6⟩) := blk_frmK (Blk.new' (by simp)) hf1 (fun e => by have := Option.some.inj e; omega)
                obtain ⟨b4, hk1⟩ := app_newK b3 b3.size (fun k e => by cases e; exact lV) hf1 hm1
                clear hf1 hm1
                refine hK.out _ _ b4 ?_
                clear hK
                try simp only [Act.put, List.setIfInBounds_toArray, List.set_cons_zero, List.set_cons_succ, List.getElem_toArray, List.getElem_cons_zero, List.getElem_cons_succ, Nat.zero_add, List.nil_append]
                refine GoL.on (rs := [13]) (by kernel_rfl) (by decide) ?_
                refine OnL.cons rfl ?_ OnL.nil
                intro K hK
                replace hK := Lib.hid hK
                refine step_appG rfl (.tmp 55) (.tmp 63) 22 44 i1 _ 7 56 Tryd.underlying22 hi1 hz1 hs1 hb1 rfl (by decide) rfl ho1 (SrcG.row (cs := cOrd ⟨x0, x1, x2, x3, x4, x5, x6⟩) hrow rfl hone) rfl rfl (by omega) (by omega) ?_
                intro ao2 cap2 ko2 w3 ho2 hf2 hm2
                obtain ⟨b5, hk2⟩ := app_newK b4 b4.size hk1 hf2 hm2
                clear hf2 hm2 ho1
                refine hK.out _ _ b5 ?_
                clear hK
                try simp only [Act.put, List.setIfInBounds_toArray, List.set_cons_zero, List.set_cons_succ, List.getElem_toArray, List.getElem_cons_zero, List.getElem_cons_succ, Nat.zero_add, List.nil_append]
                refine GoL.on (rs := [17]) (by kernel_rfl) (by decide) ?_
                refine OnL.cons rfl ?_ OnL.nil
                intro K hK
                replace hK := Lib.hid hK
                refine step_appG rfl (.tmp 64) (.tmp 67) 22 44 i1 _ 7 56 Tryd.underlying22 hi1 hz1 hs1 hb1 rfl (by decide) rfl ho2 (hsrc2 _ b5) rfl rfl (by omega) (by omega) ?_
                intro ao3 cap3 ko3 w4 ho3 hf3 hm3
                obtain ⟨b6, hk3⟩ := app_newK b5 b5.size hk2 hf3 hm3
                have hfin := Lib.hid (fin w4 ao3 cap3 ko3 b6 hk3 ho3)
                clear hf3 hm3 ho3 ho2
                refine hK.out _ _ b6 ?_
                clear hK
                try simp only [Act.put, List.setIfInBounds_toArray, List.set_cons_zero, List.set_cons_succ, List.getElem_toArray, List.getElem_cons_zero, List.getElem_cons_succ, Nat.zero_add, List.nil_append]
                refine GoL.take (i := 18) (v := ?_) rfl rfl (by kernel_rfl) (fun _ _ _ h => h) (fun _ _ => Iff.rfl) (by rfl) ?_ ?_
                rotate_left
                · intro wx hwx
                  go_simp
                  try with_reducible rfl
                try simp only [Act.put, List.setIfInBounds_toArray, List.set_cons_zero, List.set_cons_succ, List.getElem_toArray, List.getElem_cons_zero, List.getElem_cons_succ, Nat.zero_add, List.nil_append]
                refine GoL.done (by kernel_rfl) ?_
                refine NoPanic.normal ?_
                clear fin hsrc1 hsrc2 bV hfacts
                go_wp2_with fail
                go_roundg (l.length - (i + 1))
                case measure => omega
                case rel =>
                  obtain ⟨P2, e1, e2, e3⟩ := hfin.out
                  exact ⟨i + 1, P2, ko3, cap3, ao3, by omega, by go_num, by rw [e1], e2, e3⟩
            · intro K hK
              replace hK := Lib.hid hK
              go_simp
              have b1 := bV.alloc bV.size (.cells (cOrd ⟨x0, x1, x2, x3, x4, x5, x6⟩) 44)
              refine hK.out _ _ b1 ?_
              clear hK
              try simp only [Act.put, List.setIfInBounds_toArray, List.set_cons_zero, List.set_cons_succ, List.getElem_toArray, List.getElem_cons_zero, List.getElem_cons_succ, Nat.zero_add, List.nil_append]
              refine GoL.on (rs := [0]) (by kernel_rfl) (by decide) ?_
              refine OnL.cons rfl ?_ OnL.nil
              intro K hK
              replace hK := Lib.hid hK
              go_simp
              have b3 := b1.alloc b1.size (.cells #[] 44)
              refine hK.out _ _ b3 ?_
              clear hK
              try simp only [Act.put, List.setIfInBounds_toArray, List.set_cons_zero, List.set_cons_succ, List.getElem_toArray, List.getElem_cons_zero, List.getElem_cons_succ, Nat.zero_add, List.nil_append]
              refine GoL.on (rs := [4]) (by kernel_rfl) (by decide) ?_
              refine OnL.cons rfl ?_ OnL.nil
              have hE : OwG 44 7 ((U.alloc (.cells (cOrd ⟨x0, x1, x2, x3, x4, x5, x6⟩) 44)).alloc (.cells #[] 44)) (some (U.heap.size + 1)) (some ⟨U.heap.size + 1, 0, none⟩) 0 0 [] := by have := OwG.emptyK 44 7 (U.alloc (.cells (cOrd ⟨x0, x1, x2, x3, x4, x5, x6⟩) 44)); rwa [World.size_alloc] at this
              intro K hK
              replace hK := Lib.hid hK
              refine step_appG rfl (.tmp 51) (.tmp 54) 22 44 i1 _ 7 56 Tryd.underlying22 hi1 hz1 hs1 hb1 rfl (by decide) rfl hE (hsrc1 _ b3) rfl rfl (by omega) (by omega) ?_
              intro ao1 cap1 ko1 w2 ho1 hf1 hm1
              rw [Nat.zero_add, List.nil_append] at ho1
              try simp only [Nat.zero_add]
              have hrow : Blk w2 U.heap.size 44 (cOrd ⟨x0, x1, x2, x3, x4, x5, x6⟩) := blk_frmK ((Blk.new _ _ _).alloc _) hf1 (fun e => by have := Option.some.inj e; omega)
              obtain ⟨b4, hk1⟩ := app_newK b3 b3.size (fun k e => by cases e; omega) hf1 hm1
              clear hf1 hm1
              refine hK.out _ _ b4 ?_
              clear hK
              try simp only [Act.put, List.setIfInBounds_toArray, List.set_cons_zero, List.set_cons_succ, List.getElem_toArray, List.getElem_cons_zero, List.getElem_cons_succ, Nat.zero_add, List.nil_append]
              refine GoL.on (rs := [13]) (by kernel_rfl) (by decide) ?_
              refine OnL.cons rfl ?_ OnL.nil
              intro K hK
              replace hK := Lib.hid hK
              refine step_appG rfl (.tmp 55) (.tmp 63) 22 44 i1 _ 7 56 Tryd.underlying22 hi1 hz1 hs1 hb1 rfl (by decide) rfl ho1 (SrcG.row (cs := cOrd ⟨x0, x1, x2, x3, x4, x5, x6⟩) hrow rfl hone) rfl rfl (by omega) (by omega) ?_
              intro ao2 cap2 ko2 w3 ho2 hf2 hm2
              obtain ⟨b5, hk2⟩ := app_newK b4 b4.size hk1 hf2 hm2
              clear hf2 hm2 ho1
              refine hK.out _ _ b5 ?_
              clear hK
              try simp only [Act.put, List.setIfInBounds_toArray, List.set_cons_zero, List.set_cons_succ, List.getElem_toArray, List.getElem_cons_zero, List.getElem_cons_succ, Nat.zero_add, List.nil_append]
              refine GoL.on (rs := [17]) (by kernel_rfl) (by decide) ?_
              refine OnL.cons rfl ?_ OnL.nil
              intro K hK
              replace hK := Lib.hid hK
              refine step_appG rfl (.tmp 64) (.tmp 67) 22 44 i1 _ 7 56 Tryd.underlying22 hi1 hz1 hs1 hb1 rfl (by decide) rfl ho2 (hsrc2 _ b5) rfl rfl (by omega) (by omega) ?_
              intro ao3 cap3 ko3 w4 ho3 hf3 hm3
              obtain ⟨b6, hk3⟩ := app_newK b5 b5.size hk2 hf3 hm3
              have hfin := Lib.hid (fin w4 ao3 cap3 ko3 b6 hk3 ho3)
              clear hf3 hm3 ho3 ho2
              refine hK.out _ _ b6 ?_
              clear hK
              try simp only [Act.put, List.setIfInBounds_toArray, List.set_cons_zero, List.set_cons_succ, List.getElem_toArray, List.getElem_cons_zero, List.getElem_cons_succ, Nat.zero_add, List.nil_append]
              refine GoL.take (i := 18) (v := ?_) rfl rfl (by kernel_rfl) (fun _ _ _ h => h) (fun _ _ => Iff.rfl) (by rfl) ?_ ?_
              rotate_left
              · intro wx hwx
                go_simp
                try with_reducible rfl
              try simp only [Act.put, List.setIfInBounds_toArray, List.set_cons_zero, List.set_cons_succ, List.getElem_toArray, List.getElem_cons_zero, List.getElem_cons_succ, Nat.zero_add, List.nil_append]
              refine GoL.done (by kernel_rfl) ?_
              refine NoPanic.normal ?_
              clear fin hsrc1 hsrc2 bV hfacts
              go_wp2_with fail
              go_roundg (l.length - (i + 1))
              case measure => omega
              case rel =>
                obtain ⟨P2, e1, e2, e3⟩ := hfin.out
                exact ⟨i + 1, P2, ko3, cap3, ao3, by omega, by go_num, by rw [e1], e2, e3⟩
          · clear hPG cB
            go_wp2_with fail
            go_quiet (fail)
            go_wp2_with fail
            clear hg c0 y3
            replace bD := bD nq
            generalize (wr.drewN m).drewN nq = wq at *
            refine GoL.start (S := fun _ w => Below wr.heap.size wr w) (by kernel_rfl) bD ?_
            generalize wq.drew = U at bD ⊢
            have bV := bD
            clear bD
            have lV := bV.size
            refine GoL.take (i := 1) (v := ?_) rfl rfl (by kernel_rfl) (fun _ _ _ h => h) (fun _ _ => Iff.rfl) (by rfl) ?_ ?_
            rotate_left
            · intro wx hwx
              go_simp
              try with_reducible rfl
            try simp only [Act.put, List.setIfInBounds_toArray, List.set_cons_zero, List.set_cons_succ, List.getElem_toArray, List.getElem_cons_zero, List.getElem_cons_succ, Nat.zero_add, List.nil_append]
            refine GoL.take (i := 2) (v := ?_) rfl rfl (by kernel_rfl) (fun _ _ _ h => h) (fun _ _ => Iff.rfl) (by rfl) ?_ ?_
            rotate_left
            · intro wx hwx
              go_simp
              try with_reducible rfl
            try simp only [Act.put, List.setIfInBounds_toArray, List.set_cons_zero, List.set_cons_succ, List.getElem_toArray, List.getElem_cons_zero, List.getElem_cons_succ, Nat.zero_add, List.nil_append]
            refine GoL.take (i := 3) (v := ?_) rfl rfl (by kernel_rfl) (fun _ _ _ h => h) (fun _ _ => Iff.rfl) (by rfl) ?_ ?_
            rotate_left
            · intro wx hwx
              go_simp
              try with_reducible rfl
            try simp only [Act.put, List.setIfInBounds_toArray, List.set_cons_zero, List.set_cons_succ, List.getElem_toArray, List.getElem_cons_zero, List.getElem_cons_succ, Nat.zero_add, List.nil_append]
            refine GoL.take (i := 5) (v := ?_) rfl rfl (by kernel_rfl) (fun _ _ _ h => h) (fun _ _ => Iff.rfl) (by rfl) ?_ ?_
            rotate_left
            · intro wx hwx
              go_simp
              try with_reducible rfl
            try simp only [Act.put, List.setIfInBounds_toArray, List.set_cons_zero, List.set_cons_succ, List.getElem_toArray, List.getElem_cons_zero, List.getElem_cons_succ, Nat.zero_add, List.nil_append]
            refine GoL.take (i := 6) (v := ?_) rfl rfl (by kernel_rfl) (fun _ _ _ h => h) (fun _ _ => Iff.rfl) (by rfl) ?_ ?_
            rotate_left
            · intro wx hwx
              go_simp
              try with_reducible rfl
            try simp only [Act.put, List.setIfInBounds_toArray, List.set_cons_zero, List.set_cons_succ, List.getElem_toArray, List.getElem_cons_zero, List.getElem_cons_succ, Nat.zero_add, List.nil_append]
            refine GoL.take (i := 7) (v := ?_) rfl rfl (by kernel_rfl) (fun _ _ _ h => h) (fun _ _ => Iff.rfl) (by rfl) ?_ ?_
            rotate_left
            · intro wx hwx
              go_simp
              try with_reducible rfl
            try simp only [Act.put, List.setIfInBounds_toArray, List.set_cons_zero, List.set_cons_succ, List.getElem_toArray, List.getElem_cons_zero, List.getElem_cons_succ, Nat.zero_add, List.nil_append]
            refine GoL.take (i := 8) (v := ?_) rfl rfl (by kernel_rfl) (fun _ _ _ h => h) (fun _ _ => Iff.rfl) (by rfl) ?_ ?_
            rotate_left
            · intro wx hwx
              obtain ⟨z2, z3, z4, z5, z6, z7, z8, z9⟩ := hfacts wx (Wi.at' hwx)
              go_simp
              try with_reducible rfl
            try simp only [Act.put, List.setIfInBounds_toArray, List.set_cons_zero, List.set_cons_succ, List.getElem_toArray, List.getElem_cons_zero, List.getElem_cons_succ, Nat.zero_add, List.nil_append]
            refine GoL.take (i := 9) (v := ?_) rfl rfl (by kernel_rfl) (fun _ _ _ h => h) (fun _ _ => Iff.rfl) (by rfl) ?_ ?_
            rotate_left
            · intro wx hwx
              go_simp
              try with_reducible rfl
            try simp only [Act.put, List.setIfInBounds_toArray, List.set_cons_zero, List.set_cons_succ, List.getElem_toArray, List.getElem_cons_zero, List.getElem_cons_succ, Nat.zero_add, List.nil_append]
            refine GoL.take (i := 10) (v := ?_) rfl rfl (by kernel_rfl) (fun _ _ _ h => h) (fun _ _ => Iff.rfl) (by rfl) ?_ ?_
            rotate_left
            · intro wx hwx
              go_simp
              try with_reducible rfl
            try simp only [Act.put, List.setIfInBounds_toArray, List.set_cons_zero, List.set_cons_succ, List.getElem_toArray, List.getElem_cons_zero, List.getElem_cons_succ, Nat.zero_add, List.nil_append]
            refine GoL.take (i := 11) (v := ?_) rfl rfl (by kernel_rfl) (fun _ _ _ h => h) (fun _ _ => Iff.rfl) (by rfl) ?_ ?_
            rotate_left
            · intro wx hwx
              obtain ⟨z2, z3, z4, z5, z6, z7, z8, z9⟩ := hfacts wx (Wi.at' hwx)
              go_simp
              try with_reducible rfl
            try simp only [Act.put, List.setIfInBounds_toArray, List.set_cons_zero, List.set_cons_succ, List.getElem_toArray, List.getElem_cons_zero, List.getElem_cons_succ, Nat.zero_add, List.nil_append]
            refine GoL.take (i := 14) (v := ?_) rfl rfl (by kernel_rfl) (fun _ _ _ h => h) (fun _ _ => Iff.rfl) (by rfl) ?_ ?_
            rotate_left
            · intro wx hwx
              go_simp
              try with_reducible rfl
            try simp only [Act.put, List.setIfInBounds_toArray, List.set_cons_zero, List.set_cons_succ, List.getElem_toArray, List.getElem_cons_zero, List.getElem_cons_succ, Nat.zero_add, List.nil_append]
            refine GoL.take (i := 15) (v := ?_) rfl rfl (by kernel_rfl) (fun _ _ _ h => h) (fun _ _ => Iff.rfl) (by rfl) ?_ ?_
            rotate_left
            · intro wx hwx
              go_simp
              try with_reducible rfl
            try simp only [Act.put, List.setIfInBounds_toArray, List.set_cons_zero, List.set_cons_succ, List.getElem_toArray, List.getElem_cons_zero, List.getElem_cons_succ, Nat.zero_add, List.nil_append]
            refine GoL.take (i := 16) (v := ?_) rfl rfl (by kernel_rfl) (fun _ _ _ h => h) (fun _ _ => Iff.rfl) (by rfl) ?_ ?_
            rotate_left
            · intro wx hwx
              go_simp
              try with_reducible rfl
            try simp only [Act.put, List.setIfInBounds_toArray, List.set_cons_zero, List.set_cons_succ, List.getElem_toArray, List.getElem_cons_zero, List.getElem_cons_succ, Nat.zero_add, List.nil_append]
            refine GoL.on (rs := [0, 12]) (by kernel_rfl) (by decide) ?_
            refine OnL.cons rfl ?_ (OnL.cons rfl ?_ OnL.nil)
            · intro K hK
              replace hK := Lib.hid hK
              go_simp
              have b1 := bV.alloc bV.size (.cells #[] 44)
              refine hK.out _ _ b1 ?_
              clear hK
              try simp only [Act.put, List.setIfInBounds_toArray, List.set_cons_zero, List.set_cons_succ, List.getElem_toArray, List.getElem_cons_zero, List.getElem_cons_succ, Nat.zero_add, List.nil_append]
              refine GoL.on (rs := [4, 12]) (by kernel_rfl) (by decide) ?_
              refine OnL.cons rfl ?_ (OnL.cons rfl ?_ OnL.nil)
              · intro K hK
                replace hK := Lib.hid hK
                refine step_appG rfl (.tmp 51) (.tmp 54) 22 44 i1 _ 7 56 Tryd.underlying22 hi1 hz1 hs1 hb1 rfl (by decide) rfl (OwG.emptyK _ _ U) (hsrc1 _ b1) rfl rfl (by omega) (by omega) ?_
                intro ao1 cap1 ko1 w2 ho1 hf1 hm1
                rw [Nat.zero_add, List.nil_append] at ho1
                try simp only [Nat.zero_add]
                obtain ⟨b2, hk1⟩ := app_newK b1 b1.size (fun k e => by cases e; exact lV) hf1 hm1
                clear hf1 hm1
                refine hK.out _ _ b2 ?_
                clear hK
                try simp only [Act.put, List.setIfInBounds_toArray, List.set_cons_zero, List.set_cons_succ, List.getElem_toArray, List.getElem_cons_zero, List.getElem_cons_succ, Nat.zero_add, List.nil_append]
                refine GoL.on (rs := [12]) (by kernel_rfl) (by decide) ?_
                refine OnL.cons rfl ?_ OnL.nil
                intro K hK
                replace hK := Lib.hid hK
                go_simp
                have b4 := b2.alloc b2.size (.cells (cOrd ⟨x0, x1, x2, x3, x4, x5, x6⟩) 44)
                refine hK.out _ _ b4 ?_
                clear hK
                try simp only [Act.put, List.setIfInBounds_toArray, List.set_cons_zero, List.set_cons_succ, List.getElem_toArray, List.getElem_cons_zero, List.getElem_cons_succ, Nat.zero_add, List.nil_append]
                refine GoL.on (rs := [13]) (by kernel_rfl) (by decide) ?_
                refine OnL.cons rfl ?_ OnL.nil
                intro K hK
                replace hK := Lib.hid hK
                refine step_appG rfl (.tmp 55) (.tmp 63) 22 44 i1 _ 7 56 Tryd.underlying22 hi1 hz1 hs1 hb1 rfl (by decide) rfl (ho1.alloc _) (SrcG.row (cs := cOrd ⟨x0, x1, x2, x3, x4, x5, x6⟩) (Blk.new _ _ _) rfl hone) rfl rfl (by omega) (by omega) ?_
                intro ao2 cap2 ko2 w3 ho2 hf2 hm2
                obtain ⟨b5, hk2⟩ := app_newK b4 b4.size hk1 hf2 hm2
                clear hf2 hm2 ho1
                refine hK.out _ _ b5 ?_
                clear hK
                try simp only [Act.put, List.setIfInBounds_toArray, List.set_cons_zero, List.set_cons_succ, List.getElem_toArray, List.getElem_cons_zero, List.getElem_cons_succ, Nat.zero_add, List.nil_append]
                refine GoL.on (rs := [17]) (by kernel_rfl) (by decide) ?_
                refine OnL.cons rfl ?_ OnL.nil
                intro K hK
                replace hK := Lib.hid hK
                refine step_appG rfl (.tmp 64) (.tmp 67) 22 44 i1 _ 7 56 Tryd.underlying22 hi1 hz1 hs1 hb1 rfl (by decide) rfl ho2 (hsrc2 _ b5) rfl rfl (by omega) (by omega) ?_
                intro ao3 cap3 ko3 w4 ho3 hf3 hm3
                obtain ⟨b6, hk3⟩ := app_newK b5 b5.size hk2 hf3 hm3
                have hfin := Lib.hid (fin w4 ao3 cap3 ko3 b6 hk3 ho3)
                clear hf3 hm3 ho3 ho2
                refine hK.out _ _ b6 ?_
                clear hK
                try simp only [Act.put, List.setIfInBounds_toArray, List.set_cons_zero, List.set_cons_succ, List.getElem_toArray, List.getElem_cons_zero, List.getElem_cons_succ, Nat.zero_add, List.nil_append]
                refine GoL.take (i := 18) (v := ?_) rfl rfl (by kernel_rfl) (fun _ _ _ h => h) (fun _ _ => Iff.rfl) (by rfl) ?_ ?_
                rotate_left
                · intro wx hwx
                  go_simp
                  try with_reducible rfl
                try simp only [Act.put, List.setIfInBounds_toArray, List.set_cons_zero, List.set_cons_succ, List.getElem_toArray, List.getElem_cons_zero, List.getElem_cons_succ, Nat.zero_add, List.nil_append]
                refine GoL.done (by kernel_rfl) ?_
                refine NoPanic.normal ?_
                clear fin hsrc1 hsrc2 bV hfacts
                go_wp2_with fail
                go_roundg (l.length - (i + 1))
                case measure => omega
                case rel =>
                  obtain ⟨P2, e1, e2, e3⟩ := hfin.out
                  exact ⟨i + 1, P2, ko3, cap3, ao3, by omega, by go_num, by rw [e1], e2, e3⟩
              · intro K hK
                replace hK := Lib.hid hK
                go_simp
                have b3 := b1.alloc b1.size (.cells (cOrd ⟨x0, x1, x2, x3, x4, x5, x6⟩) 44)
                refine hK.out _ _ b3 ?_
                clear hK
                try simp only [Act.put, List.setIfInBounds_toArray, List.set_cons_zero, List.set_cons_succ, List.getElem_toArray, List.getElem_cons_zero, List.getElem_cons_succ, Nat.zero_add, List.nil_append]
                refine GoL.on (rs := [4]) (by kernel_rfl) (by decide) ?_
                refine OnL.cons rfl ?_ OnL.nil
                intro K hK
                replace hK := Lib.hid hK
                refine step_appG rfl (.tmp 51) (.tmp 54) 22 44 i1 _ 7 56 Tryd.underlying22 hi1 hz1 hs1 hb1 rfl (by decide) rfl ((OwG.emptyK _ _ U).alloc _) (hsrc1 _ b3) rfl rfl (by omega) (by omega) ?_
                intro ao1 cap1 ko1 w2 ho1 hf1 hm1
                rw [Nat.zero_add, List.nil_append] at ho1
                try simp only [Nat.zero_add]
                have hrow : Blk w2 (U.heap.size + 1) 44 (cOrd ⟨x0, x1, x2, x3, x4, x5, x6⟩) := blk_frmK (Blk.new' (by simp)) hf1 (fun e => by have := Option.some.inj e; omega)
                obtain ⟨b4, hk1⟩ := app_newK b3 b3.size (fun k e => by cases e; exact lV) hf1 hm1
                clear hf1 hm1
                refine hK.out _ _ b4 ?_
                clear hK
                try simp only [Act.put, List.setIfInBounds_toArray, List.set_cons_zero, List.set_cons_succ, List.getElem_toArray, List.getElem_cons_zero, List.getElem_cons_succ, Nat.zero_add, List.nil_append]
                refine GoL.on (rs := [13]) (by kernel_rfl) (by decide) ?_
                refine OnL.cons rfl ?_ OnL.nil
                intro K hK
                replace hK := Lib.hid hK
                refine step_appG rfl (.tmp 55) (.tmp 63) 22 44 i1 _ 7 56 Tryd.underlying22 hi1 hz1 hs1 hb1 rfl (by decide) rfl ho1 (SrcG.row (cs := cOrd ⟨x0, x1, x2, x3, x4, x5, x6⟩) hrow rfl hone) rfl rfl (by omega) (by omega) ?_
                intro ao2 cap2 ko2 w3 ho2 hf2 hm2
                obtain ⟨b5, hk2⟩ := app_newK b4 b4.size hk1 hf2 hm2
                clear hf2 hm2 ho1
                refine hK.out _ _ b5 ?_
                clear hK
                try simp only [Act.put, List.setIfInBounds_toArray, List.set_cons_zero, List.set_cons_succ, List.getElem_toArray, List.getElem_cons_zero, List.getElem_cons_succ, Nat.zero_add, List.nil_append]
                refine GoL.on (rs := [17]) (by kernel_rfl) (by decide) ?_
                refine OnL.cons rfl ?_ OnL.nil
                intro K hK
                replace hK := Lib.hid hK
                refine step_appG rfl (.tmp 64) (.tmp 67) 22 44 i1 _ 7 56 Tryd.underlying22 hi1 hz1 hs1 hb1 rfl (by decide) rfl ho2 (hsrc2 _ b5) rfl rfl (by omega) (by omega) ?_
                intro ao3 cap3 ko3 w4 ho3 hf3 hm3
                obtain ⟨b6, hk3⟩ := app_newK b5 b5.size hk2 hf3 hm3
                have hfin := Lib.hid (fin w4 ao3 cap3 ko3 b6 hk3 ho3)
                clear hf3 hm3 ho3 ho2
                refine hK.out _ _ b6 ?_
                clear hK
                try simp only [Act.put, List.setIfInBounds_toArray, List.set_cons_zero, List.set_cons_succ, List.getElem_toArray, List.getElem_cons_zero, List.getElem_cons_succ, Nat.zero_add, List.nil_append]
                refine GoL.take (i := 18) (v := ?_) rfl rfl (by kernel_rfl) (fun _ _ _ h => h) (fun _ _ => Iff.rfl) (by rfl) ?_ ?_
                rotate_left
                · intro wx hwx
                  go_simp
                  try with_reducible rfl
                try simp only [Act.put, List.setIfInBounds_toArray, List.set_cons_zero, List.set_cons_succ, List.getElem_toArray, List.getElem_cons_zero, List.getElem_cons_succ, Nat.zero_add, List.nil_append]
                refine GoL.done (by kernel_rfl) ?_
                refine NoPanic.normal ?_
                clear fin hsrc1 hsrc2 bV hfacts
                go_wp2_with fail
                go_roundg (l.length - (i + 1))
                case measure => omega
                case rel =>
                  obtain ⟨P2, e1, e2, e3⟩ := hfin.out
                  exact ⟨i + 1, P2, ko3, cap3, ao3, by omega, by go_num, by rw [e1], e2, e3⟩
            · intro K hK
              replace hK := Lib.hid hK
              go_simp
              have b1 := bV.alloc bV.size (.cells (cOrd ⟨x0, x1, x2, x3, x4, x5, x6⟩) 44)
              refine hK.out _ _ b1 ?_
              clear hK
              try simp only [Act.put, List.setIfInBounds_toArray, List.set_cons_zero, List.set_cons_succ, List.getElem_toArray, List.getElem_cons_zero, List.getElem_cons_succ, Nat.zero_add, List.nil_append]
              refine GoL.on (rs := [0]) (by kernel_rfl) (by decide) ?_
              refine OnL.cons rfl ?_ OnL.nil
              intro K hK
              replace hK := Lib.hid hK
              go_simp
              have b3 := b1.alloc b1.size (.cells #[] 44)
              refine hK.out _ _ b3 ?_
              clear hK
              try simp only [Act.put, List.setIfInBounds_toArray, List.set_cons_zero, List.set_cons_succ, List.getElem_toArray, List.getElem_cons_zero, List.getElem_cons_succ, Nat.zero_add, List.nil_append]
              refine GoL.on (rs := [4]) (by kernel_rfl) (by decide) ?_
              refine OnL.cons rfl ?_ OnL.nil
              have hE : OwG 44 7 ((U.alloc (.cells (cOrd ⟨x0, x1, x2, x3, x4, x5, x6⟩) 44)).alloc (.cells #[] 44)) (some (U.heap.size + 1)) (some ⟨U.heap.size + 1, 0, none⟩) 0 0 [] := by have := OwG.emptyK 44 7 (U.alloc (.cells (cOrd ⟨x0, x1, x2, x3, x4, x5, x6⟩) 44)); rwa [World.size_alloc] at this
              intro K hK
              replace hK := Lib.hid hK
              refine step_appG rfl (.tmp 51) (.tmp 54) 22 44 i1 _ 7 56 Tryd.underlying22 hi1 hz1 hs1 hb1 rfl (by decide) rfl hE (hsrc1 _ b3) rfl rfl (by omega) (by omega) ?_
              intro ao1 cap1 ko1 w2 ho1 hf1 hm1
              rw [Nat.zero_add, List.nil_append] at ho1
              try simp only [Nat.zero_add]
              have hrow : Blk w2 U.heap.size 44 (cOrd ⟨x0, x1, x2, x3, x4, x5, x6⟩) := blk_frmK ((Blk.new _ _ _).alloc _) hf1 (fun e => by have := Option.some.inj e; omega)
              obtain ⟨b4, hk1⟩ := app_newK b3 b3.size (fun k e => by cases e; omega) hf1 hm1
              clear hf1 hm1
              refine hK.out _ _ b4 ?_
              clear hK
              try simp only [Act.put, List.setIfInBounds_toArray, List.set_cons_zero, List.set_cons_succ, List.getElem_toArray, List.getElem_cons_zero, List.getElem_cons_succ, Nat.zero_add, List.nil_append]
              refine GoL.on (rs := [13]) (by kernel_rfl) (by decide) ?_
              refine OnL.cons rfl ?_ OnL.nil
              intro K hK
              replace hK := Lib.hid hK
              refine step_appG rfl (.tmp 55) (.tmp 63) 22 44 i1 _ 7 56 Tryd.underlying22 hi1 hz1 hs1 hb1 rfl (by decide) rfl ho1 (SrcG.row (cs := cOrd ⟨x0, x1, x2, x3, x4, x5, x6⟩) hrow rfl hone) rfl rfl (by omega) (by omega) ?_
              intro ao2 cap2 ko2 w3 ho2 hf2 hm2
              obtain ⟨b5, hk2⟩ := app_newK b4 b4.size hk1 hf2 hm2
              clear hf2 hm2 ho1
              refine hK.out _ _ b5 ?_
              clear hK
              try simp only [Act.put, List.setIfInBounds_toArray, List.set_cons_zero, List.set_cons_succ, List.getElem_toArray, List.getElem_cons_zero, List.getElem_cons_succ, Nat.zero_add, List.nil_append]
              refine GoL.on (rs := [17]) (by kernel_rfl) (by decide) ?_
              refine OnL.cons rfl ?_ OnL.nil
              intro K hK
              replace hK := Lib.hid hK
              refine step_appG rfl (.tmp 64) (.tmp 67) 22 44 i1 _ 7 56 Tryd.underlying22 hi1 hz1 hs1 hb1 rfl (by decide) rfl ho2 (hsrc2 _ b5) rfl rfl (by omega) (by omega) ?_
              intro ao3 cap3 ko3 w4 ho3 hf3 hm3
              obtain ⟨b6, hk3⟩ := app_newK b5 b5.size hk2 hf3 hm3
              have hfin := Lib.hid (fin w4 ao3 cap3 ko3 b6 hk3 ho3)
              clear hf3 hm3 ho3 ho2
              refine hK.out _ _ b6 ?_
              clear hK
              try simp only [Act.put, List.setIfInBounds_toArray, List.set_cons_zero, List.set_cons_succ, List.getElem_toArray, List.getElem_cons_zero, List.getElem_cons_succ, Nat.zero_add, List.nil_append]
              refine GoL.take (i := 18) (v := ?_) rfl rfl (by kernel_rfl) (fun _ _ _ h => h) (fun _ _ => Iff.rfl) (by rfl) ?_ ?_
              rotate_left
              · intro wx hwx
                go_simp
                try with_reducible rfl
              try simp only [Act.put, List.setIfInBounds_toArray, List.set_cons_zero, List.set_cons_succ, List.getElem_toArray, List.getElem_cons_zero, List.getElem_cons_succ, Nat.zero_add, List.nil_append]
              refine GoL.done (by kernel_rfl) ?_
              refine NoPanic.normal ?_
              clear fin hsrc1 hsrc2 bV hfacts
              go_wp2_with fail
              go_roundg (l.length - (i + 1))
              case measure => omega
              case rel =>
                obtain ⟨P2, e1, e2, e3⟩ := hfin.out
                exact ⟨i + 1, P2, ko3, cap3, ao3, by omega, by go_num, by rw [e1], e2, e3⟩
    · obtain rfl : i = l.length := by omega
      have c0 := hrl
      clear hR
      have hO : Hid (P = bkOf l s) := hO
      go_wp2_with fail
      go_ret
      exact ⟨ko, oc, oo, by rw [hO.out.symm]; rfl, by rw [hO.out.symm]; exact hG⟩
end
end Go.Proofs.YtdmjcjheanedgaaDoor
