/-
  The document's index: a symbol's rows (Of). (Written by gen/p_rie.py.)
-/
import Derived.Test.YtbfidpngpdaieaaRid
namespace Go.Proofs.Ytbfidpngpdaieaa
open Go.RowKit
set_option linter.unusedSimpArgs false
theorem blk_frmI {S : Nat → Prop} {w w' : World} {g : Nat} {t : TypeId} {cs : Array Value} (h : Blk w g t cs) (hf : Frm S w w') (hg : ¬ S g) : Blk w' g t cs := (hf.block g h.lt hg).trans h
section
variable {w w' W : World} {r : Nat} {S T : Nat → Prop} {l : List Ixr} {ko : Option Nat} {ao : Option Addr} {cap : Nat}
set_option maxRecDepth 8000 in
set_option maxHeartbeats 8000000 in
theorem iof_any (s : Int) (h : RI W r S l) (hlen : l.length ≤ 100000) (hu : Ixu l) :
    Calls Try.prog 10 #[.pointer (some ⟨r, 0, none⟩), .int .i64 s] W fun e w' => ∃ ko' cap' ao', e = .returned (.slice ao' (ixOf l s).length cap') ∧ Gr 40 3 cIxr W w' (ixOf l s) ko' cap' ao' := by
  obtain ⟨ko, ao, cap, h⟩ := h
  obtain ⟨i1, hi1, e1⟩ := Option.map_eq_some_iff.1 infoIxr
  simp only [Prod.mk.injEq] at e1
  obtain ⟨hz1, hs1, hb1⟩ := e1
  go_enter Try.func10, Try.ntmps10
  go_wp2_with fail
  go_loopg [5, 6] l.length (fun j p5 p6 wr => ∃ (i : Nat) (P : List Ixr) (ko' : Option Nat) (oc : Nat) (oo : Option Addr), i + j = l.length ∧ p6 = .int .i64 (i : Int) ∧ p5 = .slice oo P.length oc ∧ Hid (P = ixOfTo l s i) ∧ Gr 40 3 cIxr W wr P ko' oc oo)
  case atStart => exact ⟨0, [], none, 0, none, by omega, rfl, rfl, Lib.hid rfl, Gr.start W⟩
  case round =>
    obtain ⟨i, P, ko, oc, oo, hi, rfl, rfl, hO, hG⟩ := hrel
    have hR := h.below hG.bel
    have hrl := hR.c0
    by_cases him : i < l.length
    · obtain ⟨x, hx⟩ : ∃ x, l[i]? = some x := ⟨_, List.getElem?_eq_getElem him⟩
      have hPi : P.length ≤ i := by rw [hO.out]; exact ixOfTo_len l s i
      have hP200 : P.length ≤ 100000 := by omega
      replace hPi := Lib.hid hPi
      have hi2 : (i : Int) < (l.length : Int) := by omega
      have hLv := hR.rows
      by_cases hsy : x.sym = s
      rotate_left
      · obtain ⟨bx, offx, rfl, y0, -, -⟩ := hLv.get hx
        replace y0 : wr.cell? ⟨bx, offx + i * 3, none⟩ = some (.int .i64 x.sym) := y0
        have hd : (x.sym != s) = true := by simpa using hsy
        have hO2 : Hid (P = ixOfTo l s (i + 1)) := Lib.hid (by
          unfold ixOfTo
          rw [hx]
          dsimp only
          rw [if_neg hsy]
          exact hO.out)
        clear hO hLv hR h hx hsy
        go_wp2_with fail
        go_roundg (l.length - (i + 1))
        case measure => omega
        case rel => exact ⟨i + 1, P, ko, oc, oo, by omega, by go_num, rfl, hO2, hG⟩
      have hds : (x.sym != s) = false := by simpa using hsy
      have hO2 : ixIns P x = ixOfTo l s (i + 1) := by
        conv => rhs; unfold ixOfTo
        rw [hx]
        dsimp only
        rw [if_pos hsy, hO.out]
      unfold ixIns at hO2
      have hple := ixAt_le P x.id
      have hmono : Ixm P := by rw [hO.out]; exact ixOfTo_mono hu s i
      have hbt : ∀ (k : Nat) (y : Ixr), P[k]? = some y → k < ixAt P x.id → y.id < x.id := fun k y hy hk => (ixAt_spec hmono x.id k y hy).1 hk
      have hbf : ∀ (y : Ixr), P[ixAt P x.id]? = some y → ¬ y.id < x.id := fun y hy hk => by have := (ixAt_spec hmono x.id _ y hy).2 hk; omega
      obtain ⟨d, hd⟩ : ∃ d, d = ixAt P x.id := ⟨_, rfl⟩
      rw [← hd] at hO2 hple hbt hbf
      clear hd hmono
      have hPG := Ixrs.of_own hG.ow
      have c0 := hR.c0
      have hbfh := Lib.hid hbf
      have hbth := Lib.hid hbt
      have hO2h := Lib.hid hO2
      clear hbf hbt hO2
      obtain ⟨bx, offx, rfl, y0, y1, -⟩ := hLv.get hx
      replace y0 : wr.cell? ⟨bx, offx + i * 3, none⟩ = some (.int .i64 x.sym) := y0
      go_wp2_with fail
      clear y0 hds hsy
      go_loopg [7] d (fun j p7 wr' => ∃ k : Nat, k + j = d ∧ p7 = .int .i64 (k : Int) ∧ ∃ m, wr' = wr.drewN m)
      case atStart => exact ⟨0, by omega, rfl, 0, rfl⟩
      case round =>
        obtain ⟨k, hk, rfl, m, rfl⟩ := hrel
        by_cases hkd : k < d
        · obtain ⟨y, hy⟩ : ∃ y, P[k]? = some y := ⟨_, List.getElem?_eq_getElem (by omega)⟩
          have hb : decide (y.id < x.id) = true := decide_eq_true (hbth.out k y hy hkd)
          obtain ⟨by', offy, rfl, -, u1, -⟩ := hPG.get hy
          have hg : decide (k < P.length) = true := decide_eq_true (by omega)
          have hk2 : (k : Int) < (P.length : Int) := by omega
          clear hbth hbfh hPG hLv hG hR hO2h hO hy h hu hx
          go_wp2_with fail
          go_quiet (fail)
          go_wp2_with fail
          go_roundg (d - (k + 1))
          case measure => omega
          case rel => exact ⟨k + 1, by omega, by go_num, m + nq, by first | rfl | rw [World.drewN_drewN]⟩
        · obtain rfl : k = d := by omega
          have hfacts : ∀ w, Below wr.heap.size wr w → w.cell? ⟨r, 0, none⟩ = some (.slice (some ⟨bx, offx, none⟩) l.length cap) ∧ w.cell? ⟨bx, offx + i * 3, none⟩ = some (.int .i64 x.sym) ∧ w.cell? ⟨bx, offx + i * 3 + 1, none⟩ = some (.int .i64 x.id) ∧ w.cell? ⟨bx, offx + i * 3 + 2, none⟩ = some (.int .i64 x.slot) := by
            intro w hb
            obtain ⟨b', o', e', q0, q1, q2⟩ := (hR.below hb).rows.get hx
            cases e'
            exact ⟨(hR.below hb).c0, q0, q1, q2⟩
          have hone := cIxr_one x
          obtain ⟨hsH, hH⟩ := ixs_hi _ _ _ P k hple wr hG.ow
          obtain ⟨ao4, cap4, hsL, hLo⟩ := ixs_lo _ _ _ P k hple wr hG.ow
          have hsrc1 : ∀ w, Below wr.heap.size wr w → SrcG 3 w oo oc k (ics (P.take k)) := fun w hb => hH w (hG.ow.below hb)
          have hsrc2 : ∀ w, Below wr.heap.size wr w → SrcG 3 w ao4 cap4 (P.length - k) (ics (P.drop k)) := fun w hb => hLo w (hG.ow.below hb)
          have fin : ∀ w4 ao3 cap3 ko3, Below wr.heap.size wr w4 → (∀ k, ko3 = some k → wr.heap.size ≤ k) → OwG 40 3 w4 ko3 ao3 cap3 (k + 1 + (P.length - k)) (ics (P.take k) ++ (cIxr x).toList ++ ics (P.drop k)) →
              ∃ P2 : List Ixr, k + 1 + (P.length - k) = P2.length ∧ Hid (P2 = ixOfTo l s (i + 1)) ∧ Gr 40 3 cIxr W w4 P2 ko3 cap3 ao3 := by
            intro w4 ao3 cap3 ko3 hb hk' ho
            have e1 : k + 1 + (P.length - k) = (P.take k ++ x :: P.drop k).length := by simp; omega
            refine ⟨_, e1, hO2h, ?_, fun q e => Nat.le_trans hG.bel.size (hk' q e), hG.bel.trans (hb.mono hG.bel.size)⟩
            rw [e1] at ho
            simpa [ics] using ho
          have hcase : (decide (k < P.length) = true ∧ k < P.length ∧ ∃ y, P[k]? = some y ∧ decide (y.id < x.id) = false) ∨ decide (k < P.length) = false := by
            by_cases g : k < P.length
            · obtain ⟨y, hy⟩ : ∃ y, P[k]? = some y := ⟨_, List.getElem?_eq_getElem g⟩
              exact .inl ⟨decide_eq_true g, g, y, hy, decide_eq_false (by have := hbfh.out y hy; omega)⟩
            · exact .inr (decide_eq_false g)
          have bD : ∀ n, Below wr.heap.size wr ((wr.drewN m).drewN n).drew := fun n => (belowI (belowI (Below.refl _ _) m) n).drew
          obtain ⟨x0, x1, x2⟩ := x
          simp only at *
          clear hbth hbfh hLv hG hR hO2h hO h hu hx hH hLo
          rcases hcase with ⟨hg, hgl, y, hy, hb⟩ | hg
          · obtain ⟨by', offy, rfl, -, u1, -⟩ := hPG.get hy
            have hk2 : (k : Int) < (P.length : Int) := by omega
            clear hPG hy hgl
            go_wp2_with fail
            go_quiet (fail)
            go_wp2_with fail
            clear u1 hb hk2 hg c0 y1
            replace bD := bD nq
            generalize (wr.drewN m).drewN nq = wq at *
            refine GoL.start (S := fun _ w => Below wr.heap.size wr w) (by kernel_rfl) bD ?_
            generalize wq.drew = U at bD ⊢
            have bV := bD
            clear bD
            have lV := bV.size
            refine GoL.take (i := 1) (v := ?_) rfl rfl (by kernel_rfl) (fun _ _ _ h => h) (fun _ _ => Iff.rfl) (by rfl) ?_ ?_
            rotate_left
            · intro wx hwx
              go_simp
              try with_reducible rfl
            try simp only [Act.put, List.setIfInBounds_toArray, List.set_cons_zero, List.set_cons_succ, List.getElem_toArray, List.getElem_cons_zero, List.getElem_cons_succ, Nat.zero_add, List.nil_append]
            refine GoL.take (i := 2) (v := ?_) rfl rfl (by kernel_rfl) (fun _ _ _ h => h) (fun _ _ => Iff.rfl) (by rfl) ?_ ?_
            rotate_left
            · intro wx hwx
              go_simp
              try with_reducible rfl
            try simp only [Act.put, List.setIfInBounds_toArray, List.set_cons_zero, List.set_cons_succ, List.getElem_toArray, List.getElem_cons_zero, List.getElem_cons_succ, Nat.zero_add, List.nil_append]
            refine GoL.take (i := 3) (v := ?_) rfl rfl (by kernel_rfl) (fun _ _ _ h => h) (fun _ _ => Iff.rfl) (by rfl) ?_ ?_
            rotate_left
            · intro wx hwx
              go_simp
              try with_reducible rfl
            try simp only [Act.put, List.setIfInBounds_toArray, List.set_cons_zero, List.set_cons_succ, List.getElem_toArray, List.getElem_cons_zero, List.getElem_cons_succ, Nat.zero_add, List.nil_append]
            refine GoL.take (i := 5) (v := ?_) rfl rfl (by kernel_rfl) (fun _ _ _ h => h) (fun _ _ => Iff.rfl) (by rfl) ?_ ?_
            rotate_left
            · intro wx hwx
              go_simp
              try with_reducible rfl
            try simp only [Act.put, List.setIfInBounds_toArray, List.set_cons_zero, List.set_cons_succ, List.getElem_toArray, List.getElem_cons_zero, List.getElem_cons_succ, Nat.zero_add, List.nil_append]
            refine GoL.take (i := 6) (v := ?_) rfl rfl (by kernel_rfl) (fun _ _ _ h => h) (fun _ _ => Iff.rfl) (by rfl) ?_ ?_
            rotate_left
            · intro wx hwx
              go_simp
              try with_reducible rfl
            try simp only [Act.put, List.setIfInBounds_toArray, List.set_cons_zero, List.set_cons_succ, List.getElem_toArray, List.getElem_cons_zero, List.getElem_cons_succ, Nat.zero_add, List.nil_append]
            refine GoL.take (i := 7) (v := ?_) rfl rfl (by kernel_rfl) (fun _ _ _ h => h) (fun _ _ => Iff.rfl) (by rfl) ?_ ?_
            rotate_left
            · intro wx hwx
              go_simp
              try with_reducible rfl
            try simp only [Act.put, List.setIfInBounds_toArray, List.set_cons_zero, List.set_cons_succ, List.getElem_toArray, List.getElem_cons_zero, List.getElem_cons_succ, Nat.zero_add, List.nil_append]
            refine GoL.take (i := 8) (v := ?_) rfl rfl (by kernel_rfl) (fun _ _ _ h => h) (fun _ _ => Iff.rfl) (by rfl) ?_ ?_
            rotate_left
            · intro wx hwx
              obtain ⟨z2, z3, z4, z5⟩ := hfacts wx (Wi.at' hwx)
              go_simp
              try with_reducible rfl
            try simp only [Act.put, List.setIfInBounds_toArray, List.set_cons_zero, List.set_cons_succ, List.getElem_toArray, List.getElem_cons_zero, List.getElem_cons_succ, Nat.zero_add, List.nil_append]
            refine GoL.take (i := 9) (v := ?_) rfl rfl (by kernel_rfl) (fun _ _ _ h => h) (fun _ _ => Iff.rfl) (by rfl) ?_ ?_
            rotate_left
            · intro wx hwx
              go_simp
              try with_reducible rfl
            try simp only [Act.put, List.setIfInBounds_toArray, List.set_cons_zero, List.set_cons_succ, List.getElem_toArray, List.getElem_cons_zero, List.getElem_cons_succ, Nat.zero_add, List.nil_append]
            refine GoL.take (i := 10) (v := ?_) rfl rfl (by kernel_rfl) (fun _ _ _ h => h) (fun _ _ => Iff.rfl) (by rfl) ?_ ?_
            rotate_left
            · intro wx hwx
              go_simp
              try with_reducible rfl
            try simp only [Act.put, List.setIfInBounds_toArray, List.set_cons_zero, List.set_cons_succ, List.getElem_toArray, List.getElem_cons_zero, List.getElem_cons_succ, Nat.zero_add, List.nil_append]
            refine GoL.take (i := 11) (v := ?_) rfl rfl (by kernel_rfl) (fun _ _ _ h => h) (fun _ _ => Iff.rfl) (by rfl) ?_ ?_
            rotate_left
            · intro wx hwx
              obtain ⟨z2, z3, z4, z5⟩ := hfacts wx (Wi.at' hwx)
              go_simp
              try with_reducible rfl
            try simp only [Act.put, List.setIfInBounds_toArray, List.set_cons_zero, List.set_cons_succ, List.getElem_toArray, List.getElem_cons_zero, List.getElem_cons_succ, Nat.zero_add, List.nil_append]
            refine GoL.take (i := 14) (v := ?_) rfl rfl (by kernel_rfl) (fun _ _ _ h => h) (fun _ _ => Iff.rfl) (by rfl) ?_ ?_
            rotate_left
            · intro wx hwx
              go_simp
              try with_reducible rfl
            try simp only [Act.put, List.setIfInBounds_toArray, List.set_cons_zero, List.set_cons_succ, List.getElem_toArray, List.getElem_cons_zero, List.getElem_cons_succ, Nat.zero_add, List.nil_append]
            refine GoL.take (i := 15) (v := ?_) rfl rfl (by kernel_rfl) (fun _ _ _ h => h) (fun _ _ => Iff.rfl) (by rfl) ?_ ?_
            rotate_left
            · intro wx hwx
              go_simp
              try with_reducible rfl
            try simp only [Act.put, List.setIfInBounds_toArray, List.set_cons_zero, List.set_cons_succ, List.getElem_toArray, List.getElem_cons_zero, List.getElem_cons_succ, Nat.zero_add, List.nil_append]
            refine GoL.take (i := 16) (v := ?_) rfl rfl (by kernel_rfl) (fun _ _ _ h => h) (fun _ _ => Iff.rfl) (by rfl) ?_ ?_
            rotate_left
            · intro wx hwx
              go_simp
              try with_reducible rfl
            try simp only [Act.put, List.setIfInBounds_toArray, List.set_cons_zero, List.set_cons_succ, List.getElem_toArray, List.getElem_cons_zero, List.getElem_cons_succ, Nat.zero_add, List.nil_append]
            refine GoL.on (rs := [0, 12]) (by kernel_rfl) (by decide) ?_
            refine OnL.cons rfl ?_ (OnL.cons rfl ?_ OnL.nil)
            · intro K hK
              replace hK := Lib.hid hK
              go_simp
              have b1 := bV.alloc bV.size (.cells #[] 40)
              refine hK.out _ _ b1 ?_
              clear hK
              try simp only [Act.put, List.setIfInBounds_toArray, List.set_cons_zero, List.set_cons_succ, List.getElem_toArray, List.getElem_cons_zero, List.getElem_cons_succ, Nat.zero_add, List.nil_append]
              refine GoL.on (rs := [4, 12]) (by kernel_rfl) (by decide) ?_
              refine OnL.cons rfl ?_ (OnL.cons rfl ?_ OnL.nil)
              · intro K hK
                replace hK := Lib.hid hK
                refine step_appG rfl (.tmp 49) (.tmp 52) 27 40 i1 _ 3 24 Try.underlying27 hi1 hz1 hs1 hb1 rfl (by decide) rfl (OwG.emptyI _ _ U) (hsrc1 _ b1) rfl rfl (by omega) (by omega) ?_
                intro ao1 cap1 ko1 w2 ho1 hf1 hm1
                rw [Nat.zero_add, List.nil_append] at ho1
                try simp only [Nat.zero_add]
                obtain ⟨b2, hk1⟩ := app_newI b1 b1.size (fun k e => by cases e; exact lV) hf1 hm1
                clear hf1 hm1
                refine hK.out _ _ b2 ?_
                clear hK
                try simp only [Act.put, List.setIfInBounds_toArray, List.set_cons_zero, List.set_cons_succ, List.getElem_toArray, List.getElem_cons_zero, List.getElem_cons_succ, Nat.zero_add, List.nil_append]
                refine GoL.on (rs := [12]) (by kernel_rfl) (by decide) ?_
                refine OnL.cons rfl ?_ OnL.nil
                intro K hK
                replace hK := Lib.hid hK
                go_simp
                have b4 := b2.alloc b2.size (.cells (cIxr ⟨x0, x1, x2⟩) 40)
                refine hK.out _ _ b4 ?_
                clear hK
                try simp only [Act.put, List.setIfInBounds_toArray, List.set_cons_zero, List.set_cons_succ, List.getElem_toArray, List.getElem_cons_zero, List.getElem_cons_succ, Nat.zero_add, List.nil_append]
                refine GoL.on (rs := [13]) (by kernel_rfl) (by decide) ?_
                refine OnL.cons rfl ?_ OnL.nil
                intro K hK
                replace hK := Lib.hid hK
                refine step_appG rfl (.tmp 53) (.tmp 61) 27 40 i1 _ 3 24 Try.underlying27 hi1 hz1 hs1 hb1 rfl (by decide) rfl (ho1.alloc _) (SrcG.row (cs := cIxr ⟨x0, x1, x2⟩) (Blk.new _ _ _) rfl hone) rfl rfl (by omega) (by omega) ?_
                intro ao2 cap2 ko2 w3 ho2 hf2 hm2
                obtain ⟨b5, hk2⟩ := app_newI b4 b4.size hk1 hf2 hm2
                clear hf2 hm2 ho1
                refine hK.out _ _ b5 ?_
                clear hK
                try simp only [Act.put, List.setIfInBounds_toArray, List.set_cons_zero, List.set_cons_succ, List.getElem_toArray, List.getElem_cons_zero, List.getElem_cons_succ, Nat.zero_add, List.nil_append]
                refine GoL.on (rs := [17]) (by kernel_rfl) (by decide) ?_
                refine OnL.cons rfl ?_ OnL.nil
                intro K hK
                replace hK := Lib.hid hK
                refine step_appG rfl (.tmp 62) (.tmp 65) 27 40 i1 _ 3 24 Try.underlying27 hi1 hz1 hs1 hb1 rfl (by decide) rfl ho2 (hsrc2 _ b5) rfl rfl (by omega) (by omega) ?_
                intro ao3 cap3 ko3 w4 ho3 hf3 hm3
                obtain ⟨b6, hk3⟩ := app_newI b5 b5.size hk2 hf3 hm3
                have hfin := Lib.hid (fin w4 ao3 cap3 ko3 b6 hk3 ho3)
                clear hf3 hm3 ho3 ho2
                refine hK.out _ _ b6 ?_
                clear hK
                try simp only [Act.put, List.setIfInBounds_toArray, List.set_cons_zero, List.set_cons_succ, List.getElem_toArray, List.getElem_cons_zero, List.getElem_cons_succ, Nat.zero_add, List.nil_append]
                refine GoL.take (i := 18) (v := ?_) rfl rfl (by kernel_rfl) (fun _ _ _ h => h) (fun _ _ => Iff.rfl) (by rfl) ?_ ?_
                rotate_left
                · intro wx hwx
                  go_simp
                  try with_reducible rfl
                try simp only [Act.put, List.setIfInBounds_toArray, List.set_cons_zero, List.set_cons_succ, List.getElem_toArray, List.getElem_cons_zero, List.getElem_cons_succ, Nat.zero_add, List.nil_append]
                refine GoL.done (by kernel_rfl) ?_
                refine NoPanic.normal ?_
                clear fin hsrc1 hsrc2 bV hfacts
                go_wp2_with fail
                go_roundg (l.length - (i + 1))
                case measure => omega
                case rel =>
                  obtain ⟨P2, e1, e2, e3⟩ := hfin.out
                  exact ⟨i + 1, P2, ko3, cap3, ao3, by omega, by go_num, by rw [e1], e2, e3⟩
              · intro K hK
                replace hK := Lib.hid hK
                go_simp
                have b3 := b1.alloc b1.size (.cells (cIxr ⟨x0, x1, x2⟩) 40)
                refine hK.out _ _ b3 ?_
                clear hK
                try simp only [Act.put, List.setIfInBounds_toArray, List.set_cons_zero, List.set_cons_succ, List.getElem_toArray, List.getElem_cons_zero, List.getElem_cons_succ, Nat.zero_add, List.nil_append]
                refine GoL.on (rs := [4]) (by kernel_rfl) (by decide) ?_
                refine OnL.cons rfl ?_ OnL.nil
                intro K hK
                replace hK := Lib.hid hK
                refine step_appG rfl (.tmp 49) (.tmp 52) 27 40 i1 _ 3 24 Try.underlying27 hi1 hz1 hs1 hb1 rfl (by decide) rfl ((OwG.emptyI _ _ U).alloc _) (hsrc1 _ b3) rfl rfl (by omega) (by omega) ?_
                intro ao1 cap1 ko1 w2 ho1 hf1 hm1
                rw [Nat.zero_add, List.nil_append] at ho1
                try simp only [Nat.zero_add]
                have hrow : Blk w2 (U.heap.size + 1) 40 (cIxr ⟨x0, x1, x2⟩) := blk_frmI (Blk.new' (by simp)) hf1 (fun e => by have := Option.some.inj e; omega)
                obtain ⟨b4, hk1⟩ := app_newI b3 b3.size (fun k e => by cases e; exact lV) hf1 hm1
                clear hf1 hm1
                refine hK.out _ _ b4 ?_
                clear hK
                try simp only [Act.put, List.setIfInBounds_toArray, List.set_cons_zero, List.set_cons_succ, List.getElem_toArray, List.getElem_cons_zero, List.getElem_cons_succ, Nat.zero_add, List.nil_append]
                refine GoL.on (rs := [13]) (by kernel_rfl) (by decide) ?_
                refine OnL.cons rfl ?_ OnL.nil
                intro K hK
                replace hK := Lib.hid hK
                refine step_appG rfl (.tmp 53) (.tmp 61) 27 40 i1 _ 3 24 Try.underlying27 hi1 hz1 hs1 hb1 rfl (by decide) rfl ho1 (SrcG.row (cs := cIxr ⟨x0, x1, x2⟩) hrow rfl hone) rfl rfl (by omega) (by omega) ?_
                intro ao2 cap2 ko2 w3 ho2 hf2 hm2
                obtain ⟨b5, hk2⟩ := app_newI b4 b4.size hk1 hf2 hm2
                clear hf2 hm2 ho1
                refine hK.out _ _ b5 ?_
                clear hK
                try simp only [Act.put, List.setIfInBounds_toArray, List.set_cons_zero, List.set_cons_succ, List.getElem_toArray, List.getElem_cons_zero, List.getElem_cons_succ, Nat.zero_add, List.nil_append]
                refine GoL.on (rs := [17]) (by kernel_rfl) (by decide) ?_
                refine OnL.cons rfl ?_ OnL.nil
                intro K hK
                replace hK := Lib.hid hK
                refine step_appG rfl (.tmp 62) (.tmp 65) 27 40 i1 _ 3 24 Try.underlying27 hi1 hz1 hs1 hb1 rfl (by decide) rfl ho2 (hsrc2 _ b5) rfl rfl (by omega) (by omega) ?_
                intro ao3 cap3 ko3 w4 ho3 hf3 hm3
                obtain ⟨b6, hk3⟩ := app_newI b5 b5.size hk2 hf3 hm3
                have hfin := Lib.hid (fin w4 ao3 cap3 ko3 b6 hk3 ho3)
                clear hf3 hm3 ho3 ho2
                refine hK.out _ _ b6 ?_
                clear hK
                try simp only [Act.put, List.setIfInBounds_toArray, List.set_cons_zero, List.set_cons_succ, List.getElem_toArray, List.getElem_cons_zero, List.getElem_cons_succ, Nat.zero_add, List.nil_append]
                refine GoL.take (i := 18) (v := ?_) rfl rfl (by kernel_rfl) (fun _ _ _ h => h) (fun _ _ => Iff.rfl) (by rfl) ?_ ?_
                rotate_left
                · intro wx hwx
                  go_simp
                  try with_reducible rfl
                try simp only [Act.put, List.setIfInBounds_toArray, List.set_cons_zero, List.set_cons_succ, List.getElem_toArray, List.getElem_cons_zero, List.getElem_cons_succ, Nat.zero_add, List.nil_append]
                refine GoL.done (by kernel_rfl) ?_
                refine NoPanic.normal ?_
                clear fin hsrc1 hsrc2 bV hfacts
                go_wp2_with fail
                go_roundg (l.length - (i + 1))
                case measure => omega
                case rel =>
                  obtain ⟨P2, e1, e2, e3⟩ := hfin.out
                  exact ⟨i + 1, P2, ko3, cap3, ao3, by omega, by go_num, by rw [e1], e2, e3⟩
            · intro K hK
              replace hK := Lib.hid hK
              go_simp
              have b1 := bV.alloc bV.size (.cells (cIxr ⟨x0, x1, x2⟩) 40)
              refine hK.out _ _ b1 ?_
              clear hK
              try simp only [Act.put, List.setIfInBounds_toArray, List.set_cons_zero, List.set_cons_succ, List.getElem_toArray, List.getElem_cons_zero, List.getElem_cons_succ, Nat.zero_add, List.nil_append]
              refine GoL.on (rs := [0]) (by kernel_rfl) (by decide) ?_
              refine OnL.cons rfl ?_ OnL.nil
              intro K hK
              replace hK := Lib.hid hK
              go_simp
              have b3 := b1.alloc b1.size (.cells #[] 40)
              refine hK.out _ _ b3 ?_
              clear hK
              try simp only [Act.put, List.setIfInBounds_toArray, List.set_cons_zero, List.set_cons_succ, List.getElem_toArray, List.getElem_cons_zero, List.getElem_cons_succ, Nat.zero_add, List.nil_append]
              refine GoL.on (rs := [4]) (by kernel_rfl) (by decide) ?_
              refine OnL.cons rfl ?_ OnL.nil
              have hE : OwG 40 3 ((U.alloc (.cells (cIxr ⟨x0, x1, x2⟩) 40)).alloc (.cells #[] 40)) (some (U.heap.size + 1)) (some ⟨U.heap.size + 1, 0, none⟩) 0 0 [] := by have := OwG.emptyI 40 3 (U.alloc (.cells (cIxr ⟨x0, x1, x2⟩) 40)); rwa [World.size_alloc] at this
              intro K hK
              replace hK := Lib.hid hK
              refine step_appG rfl (.tmp 49) (.tmp 52) 27 40 i1 _ 3 24 Try.underlying27 hi1 hz1 hs1 hb1 rfl (by decide) rfl hE (hsrc1 _ b3) rfl rfl (by omega) (by omega) ?_
              intro ao1 cap1 ko1 w2 ho1 hf1 hm1
              rw [Nat.zero_add, List.nil_append] at ho1
              try simp only [Nat.zero_add]
              have hrow : Blk w2 U.heap.size 40 (cIxr ⟨x0, x1, x2⟩) := blk_frmI ((Blk.new _ _ _).alloc _) hf1 (fun e => by have := Option.some.inj e; omega)
              obtain ⟨b4, hk1⟩ := app_newI b3 b3.size (fun k e => by cases e; omega) hf1 hm1
              clear hf1 hm1
              refine hK.out _ _ b4 ?_
              clear hK
              try simp only [Act.put, List.setIfInBounds_toArray, List.set_cons_zero, List.set_cons_succ, List.getElem_toArray, List.getElem_cons_zero, List.getElem_cons_succ, Nat.zero_add, List.nil_append]
              refine GoL.on (rs := [13]) (by kernel_rfl) (by decide) ?_
              refine OnL.cons rfl ?_ OnL.nil
              intro K hK
              replace hK := Lib.hid hK
              refine step_appG rfl (.tmp 53) (.tmp 61) 27 40 i1 _ 3 24 Try.underlying27 hi1 hz1 hs1 hb1 rfl (by decide) rfl ho1 (SrcG.row (cs := cIxr ⟨x0, x1, x2⟩) hrow rfl hone) rfl rfl (by omega) (by omega) ?_
              intro ao2 cap2 ko2 w3 ho2 hf2 hm2
              obtain ⟨b5, hk2⟩ := app_newI b4 b4.size hk1 hf2 hm2
              clear hf2 hm2 ho1
              refine hK.out _ _ b5 ?_
              clear hK
              try simp only [Act.put, List.setIfInBounds_toArray, List.set_cons_zero, List.set_cons_succ, List.getElem_toArray, List.getElem_cons_zero, List.getElem_cons_succ, Nat.zero_add, List.nil_append]
              refine GoL.on (rs := [17]) (by kernel_rfl) (by decide) ?_
              refine OnL.cons rfl ?_ OnL.nil
              intro K hK
              replace hK := Lib.hid hK
              refine step_appG rfl (.tmp 62) (.tmp 65) 27 40 i1 _ 3 24 Try.underlying27 hi1 hz1 hs1 hb1 rfl (by decide) rfl ho2 (hsrc2 _ b5) rfl rfl (by omega) (by omega) ?_
              intro ao3 cap3 ko3 w4 ho3 hf3 hm3
              obtain ⟨b6, hk3⟩ := app_newI b5 b5.size hk2 hf3 hm3
              have hfin := Lib.hid (fin w4 ao3 cap3 ko3 b6 hk3 ho3)
              clear hf3 hm3 ho3 ho2
              refine hK.out _ _ b6 ?_
              clear hK
              try simp only [Act.put, List.setIfInBounds_toArray, List.set_cons_zero, List.set_cons_succ, List.getElem_toArray, List.getElem_cons_zero, List.getElem_cons_succ, Nat.zero_add, List.nil_append]
              refine GoL.take (i := 18) (v := ?_) rfl rfl (by kernel_rfl) (fun _ _ _ h => h) (fun _ _ => Iff.rfl) (by rfl) ?_ ?_
              rotate_left
              · intro wx hwx
                go_simp
                try with_reducible rfl
              try simp only [Act.put, List.setIfInBounds_toArray, List.set_cons_zero, List.set_cons_succ, List.getElem_toArray, List.getElem_cons_zero, List.getElem_cons_succ, Nat.zero_add, List.nil_append]
              refine GoL.done (by kernel_rfl) ?_
              refine NoPanic.normal ?_
              clear fin hsrc1 hsrc2 bV hfacts
              go_wp2_with fail
              go_roundg (l.length - (i + 1))
              case measure => omega
              case rel =>
                obtain ⟨P2, e1, e2, e3⟩ := hfin.out
                exact ⟨i + 1, P2, ko3, cap3, ao3, by omega, by go_num, by rw [e1], e2, e3⟩
          · clear hPG
            go_wp2_with fail
            go_quiet (fail)
            go_wp2_with fail
            clear hg c0 y1
            replace bD := bD nq
            generalize (wr.drewN m).drewN nq = wq at *
            refine GoL.start (S := fun _ w => Below wr.heap.size wr w) (by kernel_rfl) bD ?_
            generalize wq.drew = U at bD ⊢
            have bV := bD
            clear bD
            have lV := bV.size
            refine GoL.take (i := 1) (v := ?_) rfl rfl (by kernel_rfl) (fun _ _ _ h => h) (fun _ _ => Iff.rfl) (by rfl) ?_ ?_
            rotate_left
            · intro wx hwx
              go_simp
              try with_reducible rfl
            try simp only [Act.put, List.setIfInBounds_toArray, List.set_cons_zero, List.set_cons_succ, List.getElem_toArray, List.getElem_cons_zero, List.getElem_cons_succ, Nat.zero_add, List.nil_append]
            refine GoL.take (i := 2) (v := ?_) rfl rfl (by kernel_rfl) (fun _ _ _ h => h) (fun _ _ => Iff.rfl) (by rfl) ?_ ?_
            rotate_left
            · intro wx hwx
              go_simp
              try with_reducible rfl
            try simp only [Act.put, List.setIfInBounds_toArray, List.set_cons_zero, List.set_cons_succ, List.getElem_toArray, List.getElem_cons_zero, List.getElem_cons_succ, Nat.zero_add, List.nil_append]
            refine GoL.take (i := 3) (v := ?_) rfl rfl (by kernel_rfl) (fun _ _ _ h => h) (fun _ _ => Iff.rfl) (by rfl) ?_ ?_
            rotate_left
            · intro wx hwx
              go_simp
              try with_reducible rfl
            try simp only [Act.put, List.setIfInBounds_toArray, List.set_cons_zero, List.set_cons_succ, List.getElem_toArray, List.getElem_cons_zero, List.getElem_cons_succ, Nat.zero_add, List.nil_append]
            refine GoL.take (i := 5) (v := ?_) rfl rfl (by kernel_rfl) (fun _ _ _ h => h) (fun _ _ => Iff.rfl) (by rfl) ?_ ?_
            rotate_left
            · intro wx hwx
              go_simp
              try with_reducible rfl
            try simp only [Act.put, List.setIfInBounds_toArray, List.set_cons_zero, List.set_cons_succ, List.getElem_toArray, List.getElem_cons_zero, List.getElem_cons_succ, Nat.zero_add, List.nil_append]
            refine GoL.take (i := 6) (v := ?_) rfl rfl (by kernel_rfl) (fun _ _ _ h => h) (fun _ _ => Iff.rfl) (by rfl) ?_ ?_
            rotate_left
            · intro wx hwx
              go_simp
              try with_reducible rfl
            try simp only [Act.put, List.setIfInBounds_toArray, List.set_cons_zero, List.set_cons_succ, List.getElem_toArray, List.getElem_cons_zero, List.getElem_cons_succ, Nat.zero_add, List.nil_append]
            refine GoL.take (i := 7) (v := ?_) rfl rfl (by kernel_rfl) (fun _ _ _ h => h) (fun _ _ => Iff.rfl) (by rfl) ?_ ?_
            rotate_left
            · intro wx hwx
              go_simp
              try with_reducible rfl
            try simp only [Act.put, List.setIfInBounds_toArray, List.set_cons_zero, List.set_cons_succ, List.getElem_toArray, List.getElem_cons_zero, List.getElem_cons_succ, Nat.zero_add, List.nil_append]
            refine GoL.take (i := 8) (v := ?_) rfl rfl (by kernel_rfl) (fun _ _ _ h => h) (fun _ _ => Iff.rfl) (by rfl) ?_ ?_
            rotate_left
            · intro wx hwx
              obtain ⟨z2, z3, z4, z5⟩ := hfacts wx (Wi.at' hwx)
              go_simp
              try with_reducible rfl
            try simp only [Act.put, List.setIfInBounds_toArray, List.set_cons_zero, List.set_cons_succ, List.getElem_toArray, List.getElem_cons_zero, List.getElem_cons_succ, Nat.zero_add, List.nil_append]
            refine GoL.take (i := 9) (v := ?_) rfl rfl (by kernel_rfl) (fun _ _ _ h => h) (fun _ _ => Iff.rfl) (by rfl) ?_ ?_
            rotate_left
            · intro wx hwx
              go_simp
              try with_reducible rfl
            try simp only [Act.put, List.setIfInBounds_toArray, List.set_cons_zero, List.set_cons_succ, List.getElem_toArray, List.getElem_cons_zero, List.getElem_cons_succ, Nat.zero_add, List.nil_append]
            refine GoL.take (i := 10) (v := ?_) rfl rfl (by kernel_rfl) (fun _ _ _ h => h) (fun _ _ => Iff.rfl) (by rfl) ?_ ?_
            rotate_left
            · intro wx hwx
              go_simp
              try with_reducible rfl
            try simp only [Act.put, List.setIfInBounds_toArray, List.set_cons_zero, List.set_cons_succ, List.getElem_toArray, List.getElem_cons_zero, List.getElem_cons_succ, Nat.zero_add, List.nil_append]
            refine GoL.take (i := 11) (v := ?_) rfl rfl (by kernel_rfl) (fun _ _ _ h => h) (fun _ _ => Iff.rfl) (by rfl) ?_ ?_
            rotate_left
            · intro wx hwx
              obtain ⟨z2, z3, z4, z5⟩ := hfacts wx (Wi.at' hwx)
              go_simp
              try with_reducible rfl
            try simp only [Act.put, List.setIfInBounds_toArray, List.set_cons_zero, List.set_cons_succ, List.getElem_toArray, List.getElem_cons_zero, List.getElem_cons_succ, Nat.zero_add, List.nil_append]
            refine GoL.take (i := 14) (v := ?_) rfl rfl (by kernel_rfl) (fun _ _ _ h => h) (fun _ _ => Iff.rfl) (by rfl) ?_ ?_
            rotate_left
            · intro wx hwx
              go_simp
              try with_reducible rfl
            try simp only [Act.put, List.setIfInBounds_toArray, List.set_cons_zero, List.set_cons_succ, List.getElem_toArray, List.getElem_cons_zero, List.getElem_cons_succ, Nat.zero_add, List.nil_append]
            refine GoL.take (i := 15) (v := ?_) rfl rfl (by kernel_rfl) (fun _ _ _ h => h) (fun _ _ => Iff.rfl) (by rfl) ?_ ?_
            rotate_left
            · intro wx hwx
              go_simp
              try with_reducible rfl
            try simp only [Act.put, List.setIfInBounds_toArray, List.set_cons_zero, List.set_cons_succ, List.getElem_toArray, List.getElem_cons_zero, List.getElem_cons_succ, Nat.zero_add, List.nil_append]
            refine GoL.take (i := 16) (v := ?_) rfl rfl (by kernel_rfl) (fun _ _ _ h => h) (fun _ _ => Iff.rfl) (by rfl) ?_ ?_
            rotate_left
            · intro wx hwx
              go_simp
              try with_reducible rfl
            try simp only [Act.put, List.setIfInBounds_toArray, List.set_cons_zero, List.set_cons_succ, List.getElem_toArray, List.getElem_cons_zero, List.getElem_cons_succ, Nat.zero_add, List.nil_append]
            refine GoL.on (rs := [0, 12]) (by kernel_rfl) (by decide) ?_
            refine OnL.cons rfl ?_ (OnL.cons rfl ?_ OnL.nil)
            · intro K hK
              replace hK := Lib.hid hK
              go_simp
              have b1 := bV.alloc bV.size (.cells #[] 40)
              refine hK.out _ _ b1 ?_
              clear hK
              try simp only [Act.put, List.setIfInBounds_toArray, List.set_cons_zero, List.set_cons_succ, List.getElem_toArray, List.getElem_cons_zero, List.getElem_cons_succ, Nat.zero_add, List.nil_append]
              refine GoL.on (rs := [4, 12]) (by kernel_rfl) (by decide) ?_
              refine OnL.cons rfl ?_ (OnL.cons rfl ?_ OnL.nil)
              · intro K hK
                replace hK := Lib.hid hK
                refine step_appG rfl (.tmp 49) (.tmp 52) 27 40 i1 _ 3 24 Try.underlying27 hi1 hz1 hs1 hb1 rfl (by decide) rfl (OwG.emptyI _ _ U) (hsrc1 _ b1) rfl rfl (by omega) (by omega) ?_
                intro ao1 cap1 ko1 w2 ho1 hf1 hm1
                rw [Nat.zero_add, List.nil_append] at ho1
                try simp only [Nat.zero_add]
                obtain ⟨b2, hk1⟩ := app_newI b1 b1.size (fun k e => by cases e; exact lV) hf1 hm1
                clear hf1 hm1
                refine hK.out _ _ b2 ?_
                clear hK
                try simp only [Act.put, List.setIfInBounds_toArray, List.set_cons_zero, List.set_cons_succ, List.getElem_toArray, List.getElem_cons_zero, List.getElem_cons_succ, Nat.zero_add, List.nil_append]
                refine GoL.on (rs := [12]) (by kernel_rfl) (by decide) ?_
                refine OnL.cons rfl ?_ OnL.nil
                intro K hK
                replace hK := Lib.hid hK
                go_simp
                have b4 := b2.alloc b2.size (.cells (cIxr ⟨x0, x1, x2⟩) 40)
                refine hK.out _ _ b4 ?_
                clear hK
                try simp only [Act.put, List.setIfInBounds_toArray, List.set_cons_zero, List.set_cons_succ, List.getElem_toArray, List.getElem_cons_zero, List.getElem_cons_succ, Nat.zero_add, List.nil_append]
                refine GoL.on (rs := [13]) (by kernel_rfl) (by decide) ?_
                refine OnL.cons rfl ?_ OnL.nil
                intro K hK
                replace hK := Lib.hid hK
                refine step_appG rfl (.tmp 53) (.tmp 61) 27 40 i1 _ 3 24 Try.underlying27 hi1 hz1 hs1 hb1 rfl (by decide) rfl (ho1.alloc _) (SrcG.row (cs := cIxr ⟨x0, x1, x2⟩) (Blk.new _ _ _) rfl hone) rfl rfl (by omega) (by omega) ?_
                intro ao2 cap2 ko2 w3 ho2 hf2 hm2
                obtain ⟨b5, hk2⟩ := app_newI b4 b4.size hk1 hf2 hm2
                clear hf2 hm2 ho1
                refine hK.out _ _ b5 ?_
                clear hK
                try simp only [Act.put, List.setIfInBounds_toArray, List.set_cons_zero, List.set_cons_succ, List.getElem_toArray, List.getElem_cons_zero, List.getElem_cons_succ, Nat.zero_add, List.nil_append]
                refine GoL.on (rs := [17]) (by kernel_rfl) (by decide) ?_
                refine OnL.cons rfl ?_ OnL.nil
                intro K hK
                replace hK := Lib.hid hK
                refine step_appG rfl (.tmp 62) (.tmp 65) 27 40 i1 _ 3 24 Try.underlying27 hi1 hz1 hs1 hb1 rfl (by decide) rfl ho2 (hsrc2 _ b5) rfl rfl (by omega) (by omega) ?_
                intro ao3 cap3 ko3 w4 ho3 hf3 hm3
                obtain ⟨b6, hk3⟩ := app_newI b5 b5.size hk2 hf3 hm3
                have hfin := Lib.hid (fin w4 ao3 cap3 ko3 b6 hk3 ho3)
                clear hf3 hm3 ho3 ho2
                refine hK.out _ _ b6 ?_
                clear hK
                try simp only [Act.put, List.setIfInBounds_toArray, List.set_cons_zero, List.set_cons_succ, List.getElem_toArray, List.getElem_cons_zero, List.getElem_cons_succ, Nat.zero_add, List.nil_append]
                refine GoL.take (i := 18) (v := ?_) rfl rfl (by kernel_rfl) (fun _ _ _ h => h) (fun _ _ => Iff.rfl) (by rfl) ?_ ?_
                rotate_left
                · intro wx hwx
                  go_simp
                  try with_reducible rfl
                try simp only [Act.put, List.setIfInBounds_toArray, List.set_cons_zero, List.set_cons_succ, List.getElem_toArray, List.getElem_cons_zero, List.getElem_cons_succ, Nat.zero_add, List.nil_append]
                refine GoL.done (by kernel_rfl) ?_
                refine NoPanic.normal ?_
                clear fin hsrc1 hsrc2 bV hfacts
                go_wp2_with fail
                go_roundg (l.length - (i + 1))
                case measure => omega
                case rel =>
                  obtain ⟨P2, e1, e2, e3⟩ := hfin.out
                  exact ⟨i + 1, P2, ko3, cap3, ao3, by omega, by go_num, by rw [e1], e2, e3⟩
              · intro K hK
                replace hK := Lib.hid hK
                go_simp
                have b3 := b1.alloc b1.size (.cells (cIxr ⟨x0, x1, x2⟩) 40)
                refine hK.out _ _ b3 ?_
                clear hK
                try simp only [Act.put, List.setIfInBounds_toArray, List.set_cons_zero, List.set_cons_succ, List.getElem_toArray, List.getElem_cons_zero, List.getElem_cons_succ, Nat.zero_add, List.nil_append]
                refine GoL.on (rs := [4]) (by kernel_rfl) (by decide) ?_
                refine OnL.cons rfl ?_ OnL.nil
                intro K hK
                replace hK := Lib.hid hK
                refine step_appG rfl (.tmp 49) (.tmp 52) 27 40 i1 _ 3 24 Try.underlying27 hi1 hz1 hs1 hb1 rfl (by decide) rfl ((OwG.emptyI _ _ U).alloc _) (hsrc1 _ b3) rfl rfl (by omega) (by omega) ?_
                intro ao1 cap1 ko1 w2 ho1 hf1 hm1
                rw [Nat.zero_add, List.nil_append] at ho1
                try simp only [Nat.zero_add]
                have hrow : Blk w2 (U.heap.size + 1) 40 (cIxr ⟨x0, x1, x2⟩) := blk_frmI (Blk.new' (by simp)) hf1 (fun e => by have := Option.some.inj e; omega)
                obtain ⟨b4, hk1⟩ := app_newI b3 b3.size (fun k e => by cases e; exact lV) hf1 hm1
                clear hf1 hm1
                refine hK.out _ _ b4 ?_
                clear hK
                try simp only [Act.put, List.setIfInBounds_toArray, List.set_cons_zero, List.set_cons_succ, List.getElem_toArray, List.getElem_cons_zero, List.getElem_cons_succ, Nat.zero_add, List.nil_append]
                refine GoL.on (rs := [13]) (by kernel_rfl) (by decide) ?_
                refine OnL.cons rfl ?_ OnL.nil
                intro K hK
                replace hK := Lib.hid hK
                refine step_appG rfl (.tmp 53) (.tmp 61) 27 40 i1 _ 3 24 Try.underlying27 hi1 hz1 hs1 hb1 rfl (by decide) rfl ho1 (SrcG.row (cs := cIxr ⟨x0, x1, x2⟩) hrow rfl hone) rfl rfl (by omega) (by omega) ?_
                intro ao2 cap2 ko2 w3 ho2 hf2 hm2
                obtain ⟨b5, hk2⟩ := app_newI b4 b4.size hk1 hf2 hm2
                clear hf2 hm2 ho1
                refine hK.out _ _ b5 ?_
                clear hK
                try simp only [Act.put, List.setIfInBounds_toArray, List.set_cons_zero, List.set_cons_succ, List.getElem_toArray, List.getElem_cons_zero, List.getElem_cons_succ, Nat.zero_add, List.nil_append]
                refine GoL.on (rs := [17]) (by kernel_rfl) (by decide) ?_
                refine OnL.cons rfl ?_ OnL.nil
                intro K hK
                replace hK := Lib.hid hK
                refine step_appG rfl (.tmp 62) (.tmp 65) 27 40 i1 _ 3 24 Try.underlying27 hi1 hz1 hs1 hb1 rfl (by decide) rfl ho2 (hsrc2 _ b5) rfl rfl (by omega) (by omega) ?_
                intro ao3 cap3 ko3 w4 ho3 hf3 hm3
                obtain ⟨b6, hk3⟩ := app_newI b5 b5.size hk2 hf3 hm3
                have hfin := Lib.hid (fin w4 ao3 cap3 ko3 b6 hk3 ho3)
                clear hf3 hm3 ho3 ho2
                refine hK.out _ _ b6 ?_
                clear hK
                try simp only [Act.put, List.setIfInBounds_toArray, List.set_cons_zero, List.set_cons_succ, List.getElem_toArray, List.getElem_cons_zero, List.getElem_cons_succ, Nat.zero_add, List.nil_append]
                refine GoL.take (i := 18) (v := ?_) rfl rfl (by kernel_rfl) (fun _ _ _ h => h) (fun _ _ => Iff.rfl) (by rfl) ?_ ?_
                rotate_left
                · intro wx hwx
                  go_simp
                  try with_reducible rfl
                try simp only [Act.put, List.setIfInBounds_toArray, List.set_cons_zero, List.set_cons_succ, List.getElem_toArray, List.getElem_cons_zero, List.getElem_cons_succ, Nat.zero_add, List.nil_append]
                refine GoL.done (by kernel_rfl) ?_
                refine NoPanic.normal ?_
                clear fin hsrc1 hsrc2 bV hfacts
                go_wp2_with fail
                go_roundg (l.length - (i + 1))
                case measure => omega
                case rel =>
                  obtain ⟨P2, e1, e2, e3⟩ := hfin.out
                  exact ⟨i + 1, P2, ko3, cap3, ao3, by omega, by go_num, by rw [e1], e2, e3⟩
            · intro K hK
              replace hK := Lib.hid hK
              go_simp
              have b1 := bV.alloc bV.size (.cells (cIxr ⟨x0, x1, x2⟩) 40)
              refine hK.out _ _ b1 ?_
              clear hK
              try simp only [Act.put, List.setIfInBounds_toArray, List.set_cons_zero, List.set_cons_succ, List.getElem_toArray, List.getElem_cons_zero, List.getElem_cons_succ, Nat.zero_add, List.nil_append]
              refine GoL.on (rs := [0]) (by kernel_rfl) (by decide) ?_
              refine OnL.cons rfl ?_ OnL.nil
              intro K hK
              replace hK := Lib.hid hK
              go_simp
              have b3 := b1.alloc b1.size (.cells #[] 40)
              refine hK.out _ _ b3 ?_
              clear hK
              try simp only [Act.put, List.setIfInBounds_toArray, List.set_cons_zero, List.set_cons_succ, List.getElem_toArray, List.getElem_cons_zero, List.getElem_cons_succ, Nat.zero_add, List.nil_append]
              refine GoL.on (rs := [4]) (by kernel_rfl) (by decide) ?_
              refine OnL.cons rfl ?_ OnL.nil
              have hE : OwG 40 3 ((U.alloc (.cells (cIxr ⟨x0, x1, x2⟩) 40)).alloc (.cells #[] 40)) (some (U.heap.size + 1)) (some ⟨U.heap.size + 1, 0, none⟩) 0 0 [] := by have := OwG.emptyI 40 3 (U.alloc (.cells (cIxr ⟨x0, x1, x2⟩) 40)); rwa [World.size_alloc] at this
              intro K hK
              replace hK := Lib.hid hK
              refine step_appG rfl (.tmp 49) (.tmp 52) 27 40 i1 _ 3 24 Try.underlying27 hi1 hz1 hs1 hb1 rfl (by decide) rfl hE (hsrc1 _ b3) rfl rfl (by omega) (by omega) ?_
              intro ao1 cap1 ko1 w2 ho1 hf1 hm1
              rw [Nat.zero_add, List.nil_append] at ho1
              try simp only [Nat.zero_add]
              have hrow : Blk w2 U.heap.size 40 (cIxr ⟨x0, x1, x2⟩) := blk_frmI ((Blk.new _ _ _).alloc _) hf1 (fun e => by have := Option.some.inj e; omega)
              obtain ⟨b4, hk1⟩ := app_newI b3 b3.size (fun k e => by cases e; omega) hf1 hm1
              clear hf1 hm1
              refine hK.out _ _ b4 ?_
              clear hK
              try simp only [Act.put, List.setIfInBounds_toArray, List.set_cons_zero, List.set_cons_succ, List.getElem_toArray, List.getElem_cons_zero, List.getElem_cons_succ, Nat.zero_add, List.nil_append]
              refine GoL.on (rs := [13]) (by kernel_rfl) (by decide) ?_
              refine OnL.cons rfl ?_ OnL.nil
              intro K hK
              replace hK := Lib.hid hK
              refine step_appG rfl (.tmp 53) (.tmp 61) 27 40 i1 _ 3 24 Try.underlying27 hi1 hz1 hs1 hb1 rfl (by decide) rfl ho1 (SrcG.row (cs := cIxr ⟨x0, x1, x2⟩) hrow rfl hone) rfl rfl (by omega) (by omega) ?_
              intro ao2 cap2 ko2 w3 ho2 hf2 hm2
              obtain ⟨b5, hk2⟩ := app_newI b4 b4.size hk1 hf2 hm2
              clear hf2 hm2 ho1
              refine hK.out _ _ b5 ?_
              clear hK
              try simp only [Act.put, List.setIfInBounds_toArray, List.set_cons_zero, List.set_cons_succ, List.getElem_toArray, List.getElem_cons_zero, List.getElem_cons_succ, Nat.zero_add, List.nil_append]
              refine GoL.on (rs := [17]) (by kernel_rfl) (by decide) ?_
              refine OnL.cons rfl ?_ OnL.nil
              intro K hK
              replace hK := Lib.hid hK
              refine step_appG rfl (.tmp 62) (.tmp 65) 27 40 i1 _ 3 24 Try.underlying27 hi1 hz1 hs1 hb1 rfl (by decide) rfl ho2 (hsrc2 _ b5) rfl rfl (by omega) (by omega) ?_
              intro ao3 cap3 ko3 w4 ho3 hf3 hm3
              obtain ⟨b6, hk3⟩ := app_newI b5 b5.size hk2 hf3 hm3
              have hfin := Lib.hid (fin w4 ao3 cap3 ko3 b6 hk3 ho3)
              clear hf3 hm3 ho3 ho2
              refine hK.out _ _ b6 ?_
              clear hK
              try simp only [Act.put, List.setIfInBounds_toArray, List.set_cons_zero, List.set_cons_succ, List.getElem_toArray, List.getElem_cons_zero, List.getElem_cons_succ, Nat.zero_add, List.nil_append]
              refine GoL.take (i := 18) (v := ?_) rfl rfl (by kernel_rfl) (fun _ _ _ h => h) (fun _ _ => Iff.rfl) (by rfl) ?_ ?_
              rotate_left
              · intro wx hwx
                go_simp
                try with_reducible rfl
              try simp only [Act.put, List.setIfInBounds_toArray, List.set_cons_zero, List.set_cons_succ, List.getElem_toArray, List.getElem_cons_zero, List.getElem_cons_succ, Nat.zero_add, List.nil_append]
              refine GoL.done (by kernel_rfl) ?_
              refine NoPanic.normal ?_
              clear fin hsrc1 hsrc2 bV hfacts
              go_wp2_with fail
              go_roundg (l.length - (i + 1))
              case measure => omega
              case rel =>
                obtain ⟨P2, e1, e2, e3⟩ := hfin.out
                exact ⟨i + 1, P2, ko3, cap3, ao3, by omega, by go_num, by rw [e1], e2, e3⟩
    · obtain rfl : i = l.length := by omega
      have c0 := hrl
      clear hR
      have hO : Hid (P = ixOf l s) := hO
      go_wp2_with fail
      go_ret
      exact ⟨ko, oc, oo, by rw [hO.out.symm]; rfl, by rw [hO.out.symm]; exact hG⟩
end
end Go.Proofs.Ytbfidpngpdaieaa
