/-
  The document's levels: Sorted. (Written by gen/p_lso.py.)
-/
import Derived.Test.YthlpnlmjpdcbiaaRlh
import Derived.Test.YthlpnlmjpdcbiaaRegL
import Derived.Test.YthlpnlmjpdcbiaaRegS
namespace Go.Proofs.Ythlpnlmjpdcbiaa
open Go.RowKit
set_option linter.unusedSimpArgs false
theorem blk_frm2 {S : Nat → Prop} {w w' : World} {g : Nat} {t : TypeId} {cs : Array Value} (h : Blk w g t cs) (hf : Frm S w w') (hg : ¬ S g) : Blk w' g t cs := (hf.block g h.lt hg).trans h
section
variable {w w' W : World} {r : Nat} {S T : Nat → Prop} {s : Ld} {ko : Option Nat} {ao : Option Addr} {cap : Nat}
set_option maxRecDepth 8000 in
set_option maxHeartbeats 8000000 in
theorem lsorted_any (h : RlB W r S ko ao cap s) (hu : s.L.Pairwise fun a b => a.price ≠ b.price) :
    Calls Try.prog 15 #[.pointer (some ⟨r, 0, none⟩)] W fun e w' => ∃ P ko' cap' ao', e = .returned (.slice ao' P.length cap') ∧ Ord s.buy s.L P ∧ Gr 44 4 cLvl W w' P ko' cap' ao' := by
  have hm := h.most
  have hl := h.len
  obtain ⟨i1, hi1, e1⟩ := Option.map_eq_some_iff.1 infoLvl
  simp only [Prod.mk.injEq] at e1
  obtain ⟨hz1, hs1, hb1⟩ := e1
  go_enter Try.func15, Try.ntmps15
  go_wp2_with fail
  go_loopg [3, 4] s.L.length (fun j p3 p4 wr => ∃ (i : Nat) (P : List Lvl) (ko' : Option Nat) (oc : Nat) (oo : Option Addr), i + j = s.L.length ∧ p4 = .int .i64 (i : Int) ∧ p3 = .slice oo P.length oc ∧ Ord s.buy (s.L.take i) P ∧ Gr 44 4 cLvl W wr P ko' oc oo)
  case atStart => exact ⟨0, [], none, 0, none, by omega, rfl, rfl, by simpa using Ord.nil s.buy, Gr.start W⟩
  case round =>
    obtain ⟨i, P, ko, oc, oo, hi, rfl, rfl, hO, hG⟩ := hrel
    have hR := h.below hG.bel
    have hrl := hR.c2
    by_cases him : i < s.L.length
    · obtain ⟨x, hx⟩ : ∃ x, s.L[i]? = some x := ⟨_, List.getElem?_eq_getElem him⟩
      have hPl : P.length = i := by rw [hO.len, List.length_take]; omega
      have hP200 : P.length ≤ 200 := by omega
      replace hPl := Lib.hid hPl
      have hO2 := hO.more hx fun j y hj hy => uniP_lt hu hj hy hx
      have hple := plc_le s.buy P x.price
      have hbt : ∀ k y, P[k]? = some y → k < plc s.buy P x.price → btr s.buy y.price x.price = true := fun k y hy hk => plc_lt hk hy
      have hbf : ∀ y, P[plc s.buy P x.price]? = some y → btr s.buy y.price x.price = false := fun y hy => plc_at hy
      obtain ⟨d, hd⟩ : ∃ d, d = plc s.buy P x.price := ⟨_, rfl⟩
      rw [← hd] at hO2 hple hbt hbf
      clear hd
      have hi2 : (i : Int) < (s.L.length : Int) := by omega
      have hPG := Lvls.of_own hG.ow
      have cB := fun a b w => better_any s.buy a b w
      have c0 := hR.c0
      have hLv := hR.lvls
      have hbfh := Lib.hid hbf
      have hbth := Lib.hid hbt
      clear hbf hbt
      obtain ⟨bx, offx, rfl, y0, -, -, -⟩ := hLv.get hx
      replace y0 : wr.cell? ⟨bx, offx + i * 4, none⟩ = some (.int .i64 x.price) := y0
      go_wp2_with fail
      go_loopg [5] d (fun j p5 wr' => ∃ k : Nat, k + j = d ∧ p5 = .int .i64 (k : Int) ∧ ∃ m, wr' = wr.drewN m)
      case atStart => exact ⟨0, by omega, rfl, 0, rfl⟩
      case round =>
        obtain ⟨k, hk, rfl, m, rfl⟩ := hrel
        by_cases hkd : k < d
        · obtain ⟨y, hy⟩ : ∃ y, P[k]? = some y := ⟨_, List.getElem?_eq_getElem (by omega)⟩
          have hb := hbth.out k y hy hkd
          obtain ⟨by', offy, rfl, u0, -, -, -⟩ := hPG.get hy
          replace u0 : wr.cell? ⟨by', offy + k * 4, none⟩ = some (.int .i64 y.price) := u0
          have hg : decide (k < P.length) = true := decide_eq_true (by omega)
          have hk2 : (k : Int) < (P.length : Int) := by omega
          have cY := cB y.price x.price
          rw [hb] at cY
          clear hbth hbfh hPG hLv hG hR hO2 hO hy hb h hu cB
          go_wp2_with fail
          go_quiet (first | (go_at_call 18; exact (cY _).mono fun e w h => ⟨h.1, _, h.2⟩))
          go_wp2_with fail
          go_roundg (d - (k + 1))
          case measure => omega
          case rel => exact ⟨k + 1, by omega, by go_num, m + nq, by first | rfl | rw [World.drewN_drewN]⟩
        · obtain rfl : k = d := by omega
          have hfacts : ∀ w, Below wr.heap.size wr w → w.cell? ⟨r, 2, none⟩ = some (.slice (some ⟨bx, offx, none⟩) s.L.length cap) ∧ w.cell? ⟨bx, offx + i * 4, none⟩ = some (.int .i64 x.price) ∧ w.cell? ⟨bx, offx + i * 4 + 1, none⟩ = some (.int .i64 x.qty) ∧ w.cell? ⟨bx, offx + i * 4 + 2, none⟩ = some (.int .i64 x.orders) ∧ w.cell? ⟨bx, offx + i * 4 + 3, none⟩ = some (.int .i64 x.queue) := by
            intro w hb
            obtain ⟨b', o', e', q0, q1, q2, q3⟩ := (hR.below hb).lvls.get hx
            cases e'
            exact ⟨(hR.below hb).c2, q0, q1, q2, q3⟩
          have hone : ∀ u ∈ (cLvl x).toList, u.oneCell' = true := by
            intro u hu
            simp at hu
            rcases hu with rfl | rfl | rfl | rfl <;> rfl
          obtain ⟨hsH, hH⟩ := lvls_hi _ _ _ P k hple wr hG.ow
          obtain ⟨ao4, cap4, hsL, hLo⟩ := lvls_lo _ _ _ P k hple wr hG.ow
          have hsrc1 : ∀ w, Below wr.heap.size wr w → SrcG 4 w oo oc k (lcs (P.take k)) := fun w hb => hH w (hG.ow.below hb)
          have hsrc2 : ∀ w, Below wr.heap.size wr w → SrcG 4 w ao4 cap4 (P.length - k) (lcs (P.drop k)) := fun w hb => hLo w (hG.ow.below hb)
          have fin : ∀ w4 ao3 cap3 ko3, Below wr.heap.size wr w4 → (∀ k, ko3 = some k → wr.heap.size ≤ k) → OwG 44 4 w4 ko3 ao3 cap3 (k + 1 + (P.length - k)) (lcs (P.take k) ++ (cLvl x).toList ++ lcs (P.drop k)) →
              ∃ P2 : List Lvl, k + 1 + (P.length - k) = P2.length ∧ Ord s.buy (s.L.take (i + 1)) P2 ∧ Gr 44 4 cLvl W w4 P2 ko3 cap3 ao3 := by
            intro w4 ao3 cap3 ko3 hb hk' ho
            have e1 : k + 1 + (P.length - k) = (P.take k ++ x :: P.drop k).length := by simp; omega
            refine ⟨_, e1, hO2, ?_, fun q e => Nat.le_trans hG.bel.size (hk' q e), hG.bel.trans (hb.mono hG.bel.size)⟩
            rw [e1] at ho
            simpa [lcs] using ho
          have hcase : (decide (k < P.length) = true ∧ k < P.length ∧ ∃ y, P[k]? = some y ∧ btr s.buy y.price x.price = false) ∨ decide (k < P.length) = false := by
            by_cases g : k < P.length
            · obtain ⟨y, hy⟩ : ∃ y, P[k]? = some y := ⟨_, List.getElem?_eq_getElem g⟩
              exact .inl ⟨decide_eq_true g, g, y, hy, hbfh.out y hy⟩
            · exact .inr (decide_eq_false g)
          have bD : ∀ n, Below wr.heap.size wr ((wr.drewN m).drewN n).drew := fun n => (belowN (belowN (Below.refl _ _) m) n).drew
          obtain ⟨x0, x1, x2, x3⟩ := x
          simp only at *
          clear hbth hbfh hLv hG hR hO2 hO h hu hx hH hLo
          rcases hcase with ⟨hg, hgl, y, hy, hb⟩ | hg
          · obtain ⟨by', offy, rfl, u0, -, -, -⟩ := hPG.get hy
            replace u0 : wr.cell? ⟨by', offy + k * 4, none⟩ = some (.int .i64 y.price) := u0
            have hk2 : (k : Int) < (P.length : Int) := by omega
            have cY := cB y.price x0
            rw [hb] at cY
            clear hPG hy hb cB hgl
            go_wp2_with fail
            go_quiet (first | (go_at_call 18; exact (cY _).mono fun e w h => ⟨h.1, _, h.2⟩))
            go_wp2_with fail
            clear u0 cY hk2 hg c0 y0
            replace bD := bD nq
            generalize (wr.drewN m).drewN nq = wq at *
            refine GoL.start (S := fun _ w => Below wr.heap.size wr w) (by kernel_rfl) bD ?_
            generalize wq.drew = U at bD ⊢
            have bV := bD
            clear bD
            have lV := bV.size
            refine GoL.take (i := 1) (v := ?_) rfl rfl (by kernel_rfl) (fun _ _ _ h => h) (fun _ _ => Iff.rfl) (by rfl) ?_ ?_
            rotate_left
            · intro wx hwx
              go_simp
              try with_reducible rfl
            try simp only [Act.put, List.setIfInBounds_toArray, List.set_cons_zero, List.set_cons_succ, List.getElem_toArray, List.getElem_cons_zero, List.getElem_cons_succ, Nat.zero_add, List.nil_append]
            refine GoL.take (i := 2) (v := ?_) rfl rfl (by kernel_rfl) (fun _ _ _ h => h) (fun _ _ => Iff.rfl) (by rfl) ?_ ?_
            rotate_left
            · intro wx hwx
              go_simp
              try with_reducible rfl
            try simp only [Act.put, List.setIfInBounds_toArray, List.set_cons_zero, List.set_cons_succ, List.getElem_toArray, List.getElem_cons_zero, List.getElem_cons_succ, Nat.zero_add, List.nil_append]
            refine GoL.take (i := 3) (v := ?_) rfl rfl (by kernel_rfl) (fun _ _ _ h => h) (fun _ _ => Iff.rfl) (by rfl) ?_ ?_
            rotate_left
            · intro wx hwx
              go_simp
              try with_reducible rfl
            try simp only [Act.put, List.setIfInBounds_toArray, List.set_cons_zero, List.set_cons_succ, List.getElem_toArray, List.getElem_cons_zero, List.getElem_cons_succ, Nat.zero_add, List.nil_append]
            refine GoL.take (i := 5) (v := ?_) rfl rfl (by kernel_rfl) (fun _ _ _ h => h) (fun _ _ => Iff.rfl) (by rfl) ?_ ?_
            rotate_left
            · intro wx hwx
              go_simp
              try with_reducible rfl
            try simp only [Act.put, List.setIfInBounds_toArray, List.set_cons_zero, List.set_cons_succ, List.getElem_toArray, List.getElem_cons_zero, List.getElem_cons_succ, Nat.zero_add, List.nil_append]
            refine GoL.take (i := 6) (v := ?_) rfl rfl (by kernel_rfl) (fun _ _ _ h => h) (fun _ _ => Iff.rfl) (by rfl) ?_ ?_
            rotate_left
            · intro wx hwx
              go_simp
              try with_reducible rfl
            try simp only [Act.put, List.setIfInBounds_toArray, List.set_cons_zero, List.set_cons_succ, List.getElem_toArray, List.getElem_cons_zero, List.getElem_cons_succ, Nat.zero_add, List.nil_append]
            refine GoL.take (i := 7) (v := ?_) rfl rfl (by kernel_rfl) (fun _ _ _ h => h) (fun _ _ => Iff.rfl) (by rfl) ?_ ?_
            rotate_left
            · intro wx hwx
              go_simp
              try with_reducible rfl
            try simp only [Act.put, List.setIfInBounds_toArray, List.set_cons_zero, List.set_cons_succ, List.getElem_toArray, List.getElem_cons_zero, List.getElem_cons_succ, Nat.zero_add, List.nil_append]
            refine GoL.take (i := 8) (v := ?_) rfl rfl (by kernel_rfl) (fun _ _ _ h => h) (fun _ _ => Iff.rfl) (by rfl) ?_ ?_
            rotate_left
            · intro wx hwx
              obtain ⟨z2, z3, z4, z5, z6⟩ := hfacts wx (Wi.at' hwx)
              go_simp
              try with_reducible rfl
            try simp only [Act.put, List.setIfInBounds_toArray, List.set_cons_zero, List.set_cons_succ, List.getElem_toArray, List.getElem_cons_zero, List.getElem_cons_succ, Nat.zero_add, List.nil_append]
            refine GoL.take (i := 9) (v := ?_) rfl rfl (by kernel_rfl) (fun _ _ _ h => h) (fun _ _ => Iff.rfl) (by rfl) ?_ ?_
            rotate_left
            · intro wx hwx
              go_simp
              try with_reducible rfl
            try simp only [Act.put, List.setIfInBounds_toArray, List.set_cons_zero, List.set_cons_succ, List.getElem_toArray, List.getElem_cons_zero, List.getElem_cons_succ, Nat.zero_add, List.nil_append]
            refine GoL.take (i := 10) (v := ?_) rfl rfl (by kernel_rfl) (fun _ _ _ h => h) (fun _ _ => Iff.rfl) (by rfl) ?_ ?_
            rotate_left
            · intro wx hwx
              go_simp
              try with_reducible rfl
            try simp only [Act.put, List.setIfInBounds_toArray, List.set_cons_zero, List.set_cons_succ, List.getElem_toArray, List.getElem_cons_zero, List.getElem_cons_succ, Nat.zero_add, List.nil_append]
            refine GoL.take (i := 11) (v := ?_) rfl rfl (by kernel_rfl) (fun _ _ _ h => h) (fun _ _ => Iff.rfl) (by rfl) ?_ ?_
            rotate_left
            · intro wx hwx
              obtain ⟨z2, z3, z4, z5, z6⟩ := hfacts wx (Wi.at' hwx)
              go_simp
              try with_reducible rfl
            try simp only [Act.put, List.setIfInBounds_toArray, List.set_cons_zero, List.set_cons_succ, List.getElem_toArray, List.getElem_cons_zero, List.getElem_cons_succ, Nat.zero_add, List.nil_append]
            refine GoL.take (i := 14) (v := ?_) rfl rfl (by kernel_rfl) (fun _ _ _ h => h) (fun _ _ => Iff.rfl) (by rfl) ?_ ?_
            rotate_left
            · intro wx hwx
              go_simp
              try with_reducible rfl
            try simp only [Act.put, List.setIfInBounds_toArray, List.set_cons_zero, List.set_cons_succ, List.getElem_toArray, List.getElem_cons_zero, List.getElem_cons_succ, Nat.zero_add, List.nil_append]
            refine GoL.take (i := 15) (v := ?_) rfl rfl (by kernel_rfl) (fun _ _ _ h => h) (fun _ _ => Iff.rfl) (by rfl) ?_ ?_
            rotate_left
            · intro wx hwx
              go_simp
              try with_reducible rfl
            try simp only [Act.put, List.setIfInBounds_toArray, List.set_cons_zero, List.set_cons_succ, List.getElem_toArray, List.getElem_cons_zero, List.getElem_cons_succ, Nat.zero_add, List.nil_append]
            refine GoL.take (i := 16) (v := ?_) rfl rfl (by kernel_rfl) (fun _ _ _ h => h) (fun _ _ => Iff.rfl) (by rfl) ?_ ?_
            rotate_left
            · intro wx hwx
              go_simp
              try with_reducible rfl
            try simp only [Act.put, List.setIfInBounds_toArray, List.set_cons_zero, List.set_cons_succ, List.getElem_toArray, List.getElem_cons_zero, List.getElem_cons_succ, Nat.zero_add, List.nil_append]
            refine GoL.on (rs := [0, 12]) (by kernel_rfl) (by decide) ?_
            refine OnL.cons rfl ?_ (OnL.cons rfl ?_ OnL.nil)
            · intro K hK
              replace hK := Lib.hid hK
              go_simp
              have b1 := bV.alloc bV.size (.cells #[] 44)
              refine hK.out _ _ b1 ?_
              clear hK
              try simp only [Act.put, List.setIfInBounds_toArray, List.set_cons_zero, List.set_cons_succ, List.getElem_toArray, List.getElem_cons_zero, List.getElem_cons_succ, Nat.zero_add, List.nil_append]
              refine GoL.on (rs := [4, 12]) (by kernel_rfl) (by decide) ?_
              refine OnL.cons rfl ?_ (OnL.cons rfl ?_ OnL.nil)
              · intro K hK
                replace hK := Lib.hid hK
                refine step_appG rfl (.tmp 41) (.tmp 44) 36 44 i1 _ 4 32 Try.underlying36 hi1 hz1 hs1 hb1 rfl (by decide) rfl (OwG.emptyG _ _ U) (hsrc1 _ b1) rfl rfl (by omega) (by omega) ?_
                intro ao1 cap1 ko1 w2 ho1 hf1 hm1
                rw [Nat.zero_add, List.nil_append] at ho1
                try simp only [Nat.zero_add]
                obtain ⟨b2, hk1⟩ := app_newG b1 b1.size (fun k e => by cases e; exact lV) hf1 hm1
                clear hf1 hm1
                refine hK.out _ _ b2 ?_
                clear hK
                try simp only [Act.put, List.setIfInBounds_toArray, List.set_cons_zero, List.set_cons_succ, List.getElem_toArray, List.getElem_cons_zero, List.getElem_cons_succ, Nat.zero_add, List.nil_append]
                refine GoL.on (rs := [12]) (by kernel_rfl) (by decide) ?_
                refine OnL.cons rfl ?_ OnL.nil
                intro K hK
                replace hK := Lib.hid hK
                go_simp
                have b4 := b2.alloc b2.size (.cells (cLvl ⟨x0, x1, x2, x3⟩) 44)
                refine hK.out _ _ b4 ?_
                clear hK
                try simp only [Act.put, List.setIfInBounds_toArray, List.set_cons_zero, List.set_cons_succ, List.getElem_toArray, List.getElem_cons_zero, List.getElem_cons_succ, Nat.zero_add, List.nil_append]
                refine GoL.on (rs := [13]) (by kernel_rfl) (by decide) ?_
                refine OnL.cons rfl ?_ OnL.nil
                intro K hK
                replace hK := Lib.hid hK
                refine step_appG rfl (.tmp 45) (.tmp 53) 36 44 i1 _ 4 32 Try.underlying36 hi1 hz1 hs1 hb1 rfl (by decide) rfl (ho1.alloc _) (SrcG.row (cs := cLvl ⟨x0, x1, x2, x3⟩) (Blk.new _ _ _) rfl hone) rfl rfl (by omega) (by omega) ?_
                intro ao2 cap2 ko2 w3 ho2 hf2 hm2
                obtain ⟨b5, hk2⟩ := app_newG b4 b4.size hk1 hf2 hm2
                clear hf2 hm2 ho1
                refine hK.out _ _ b5 ?_
                clear hK
                try simp only [Act.put, List.setIfInBounds_toArray, List.set_cons_zero, List.set_cons_succ, List.getElem_toArray, List.getElem_cons_zero, List.getElem_cons_succ, Nat.zero_add, List.nil_append]
                refine GoL.on (rs := [17]) (by kernel_rfl) (by decide) ?_
                refine OnL.cons rfl ?_ OnL.nil
                intro K hK
                replace hK := Lib.hid hK
                refine step_appG rfl (.tmp 54) (.tmp 57) 36 44 i1 _ 4 32 Try.underlying36 hi1 hz1 hs1 hb1 rfl (by decide) rfl ho2 (hsrc2 _ b5) rfl rfl (by omega) (by omega) ?_
                intro ao3 cap3 ko3 w4 ho3 hf3 hm3
                obtain ⟨b6, hk3⟩ := app_newG b5 b5.size hk2 hf3 hm3
                have hfin := Lib.hid (fin w4 ao3 cap3 ko3 b6 hk3 ho3)
                clear hf3 hm3 ho3 ho2
                refine hK.out _ _ b6 ?_
                clear hK
                try simp only [Act.put, List.setIfInBounds_toArray, List.set_cons_zero, List.set_cons_succ, List.getElem_toArray, List.getElem_cons_zero, List.getElem_cons_succ, Nat.zero_add, List.nil_append]
                refine GoL.take (i := 18) (v := ?_) rfl rfl (by kernel_rfl) (fun _ _ _ h => h) (fun _ _ => Iff.rfl) (by rfl) ?_ ?_
                rotate_left
                · intro wx hwx
                  go_simp
                  try with_reducible rfl
                try simp only [Act.put, List.setIfInBounds_toArray, List.set_cons_zero, List.set_cons_succ, List.getElem_toArray, List.getElem_cons_zero, List.getElem_cons_succ, Nat.zero_add, List.nil_append]
                refine GoL.done (by kernel_rfl) ?_
                refine NoPanic.normal ?_
                clear fin hsrc1 hsrc2 bV hfacts
                go_wp2_with fail
                go_roundg (s.L.length - (i + 1))
                case measure => omega
                case rel =>
                  obtain ⟨P2, e1, e2, e3⟩ := hfin.out
                  exact ⟨i + 1, P2, ko3, cap3, ao3, by omega, by go_num, by rw [e1], e2, e3⟩
              · intro K hK
                replace hK := Lib.hid hK
                go_simp
                have b3 := b1.alloc b1.size (.cells (cLvl ⟨x0, x1, x2, x3⟩) 44)
                refine hK.out _ _ b3 ?_
                clear hK
                try simp only [Act.put, List.setIfInBounds_toArray, List.set_cons_zero, List.set_cons_succ, List.getElem_toArray, List.getElem_cons_zero, List.getElem_cons_succ, Nat.zero_add, List.nil_append]
                refine GoL.on (rs := [4]) (by kernel_rfl) (by decide) ?_
                refine OnL.cons rfl ?_ OnL.nil
                intro K hK
                replace hK := Lib.hid hK
                refine step_appG rfl (.tmp 41) (.tmp 44) 36 44 i1 _ 4 32 Try.underlying36 hi1 hz1 hs1 hb1 rfl (by decide) rfl ((OwG.emptyG _ _ U).alloc _) (hsrc1 _ b3) rfl rfl (by omega) (by omega) ?_
                intro ao1 cap1 ko1 w2 ho1 hf1 hm1
                rw [Nat.zero_add, List.nil_append] at ho1
                try simp only [Nat.zero_add]
                have hrow : Blk w2 (U.heap.size + 1) 44 (cLvl ⟨x0, x1, x2, x3⟩) := blk_frm2 (Blk.new' (by simp)) hf1 (fun e => by have := Option.some.inj e; omega)
                obtain ⟨b4, hk1⟩ := app_newG b3 b3.size (fun k e => by cases e; exact lV) hf1 hm1
                clear hf1 hm1
                refine hK.out _ _ b4 ?_
                clear hK
                try simp only [Act.put, List.setIfInBounds_toArray, List.set_cons_zero, List.set_cons_succ, List.getElem_toArray, List.getElem_cons_zero, List.getElem_cons_succ, Nat.zero_add, List.nil_append]
                refine GoL.on (rs := [13]) (by kernel_rfl) (by decide) ?_
                refine OnL.cons rfl ?_ OnL.nil
                intro K hK
                replace hK := Lib.hid hK
                refine step_appG rfl (.tmp 45) (.tmp 53) 36 44 i1 _ 4 32 Try.underlying36 hi1 hz1 hs1 hb1 rfl (by decide) rfl ho1 (SrcG.row (cs := cLvl ⟨x0, x1, x2, x3⟩) hrow rfl hone) rfl rfl (by omega) (by omega) ?_
                intro ao2 cap2 ko2 w3 ho2 hf2 hm2
                obtain ⟨b5, hk2⟩ := app_newG b4 b4.size hk1 hf2 hm2
                clear hf2 hm2 ho1
                refine hK.out _ _ b5 ?_
                clear hK
                try simp only [Act.put, List.setIfInBounds_toArray, List.set_cons_zero, List.set_cons_succ, List.getElem_toArray, List.getElem_cons_zero, List.getElem_cons_succ, Nat.zero_add, List.nil_append]
                refine GoL.on (rs := [17]) (by kernel_rfl) (by decide) ?_
                refine OnL.cons rfl ?_ OnL.nil
                intro K hK
                replace hK := Lib.hid hK
                refine step_appG rfl (.tmp 54) (.tmp 57) 36 44 i1 _ 4 32 Try.underlying36 hi1 hz1 hs1 hb1 rfl (by decide) rfl ho2 (hsrc2 _ b5) rfl rfl (by omega) (by omega) ?_
                intro ao3 cap3 ko3 w4 ho3 hf3 hm3
                obtain ⟨b6, hk3⟩ := app_newG b5 b5.size hk2 hf3 hm3
                have hfin := Lib.hid (fin w4 ao3 cap3 ko3 b6 hk3 ho3)
                clear hf3 hm3 ho3 ho2
                refine hK.out _ _ b6 ?_
                clear hK
                try simp only [Act.put, List.setIfInBounds_toArray, List.set_cons_zero, List.set_cons_succ, List.getElem_toArray, List.getElem_cons_zero, List.getElem_cons_succ, Nat.zero_add, List.nil_append]
                refine GoL.take (i := 18) (v := ?_) rfl rfl (by kernel_rfl) (fun _ _ _ h => h) (fun _ _ => Iff.rfl) (by rfl) ?_ ?_
                rotate_left
                · intro wx hwx
                  go_simp
                  try with_reducible rfl
                try simp only [Act.put, List.setIfInBounds_toArray, List.set_cons_zero, List.set_cons_succ, List.getElem_toArray, List.getElem_cons_zero, List.getElem_cons_succ, Nat.zero_add, List.nil_append]
                refine GoL.done (by kernel_rfl) ?_
                refine NoPanic.normal ?_
                clear fin hsrc1 hsrc2 bV hfacts
                go_wp2_with fail
                go_roundg (s.L.length - (i + 1))
                case measure => omega
                case rel =>
                  obtain ⟨P2, e1, e2, e3⟩ := hfin.out
                  exact ⟨i + 1, P2, ko3, cap3, ao3, by omega, by go_num, by rw [e1], e2, e3⟩
            · intro K hK
              replace hK := Lib.hid hK
              go_simp
              have b1 := bV.alloc bV.size (.cells (cLvl ⟨x0, x1, x2, x3⟩) 44)
              refine hK.out _ _ b1 ?_
              clear hK
              try simp only [Act.put, List.setIfInBounds_toArray, List.set_cons_zero, List.set_cons_succ, List.getElem_toArray, List.getElem_cons_zero, List.getElem_cons_succ, Nat.zero_add, List.nil_append]
              refine GoL.on (rs := [0]) (by kernel_rfl) (by decide) ?_
              refine OnL.cons rfl ?_ OnL.nil
              intro K hK
              replace hK := Lib.hid hK
              go_simp
              have b3 := b1.alloc b1.size (.cells #[] 44)
              refine hK.out _ _ b3 ?_
              clear hK
              try simp only [Act.put, List.setIfInBounds_toArray, List.set_cons_zero, List.set_cons_succ, List.getElem_toArray, List.getElem_cons_zero, List.getElem_cons_succ, Nat.zero_add, List.nil_append]
              refine GoL.on (rs := [4]) (by kernel_rfl) (by decide) ?_
              refine OnL.cons rfl ?_ OnL.nil
              have hE : OwG 44 4 ((U.alloc (.cells (cLvl ⟨x0, x1, x2, x3⟩) 44)).alloc (.cells #[] 44)) (some (U.heap.size + 1)) (some ⟨U.heap.size + 1, 0, none⟩) 0 0 [] := by have := OwG.emptyG 44 4 (U.alloc (.cells (cLvl ⟨x0, x1, x2, x3⟩) 44)); rwa [World.size_alloc] at this
              intro K hK
              replace hK := Lib.hid hK
              refine step_appG rfl (.tmp 41) (.tmp 44) 36 44 i1 _ 4 32 Try.underlying36 hi1 hz1 hs1 hb1 rfl (by decide) rfl hE (hsrc1 _ b3) rfl rfl (by omega) (by omega) ?_
              intro ao1 cap1 ko1 w2 ho1 hf1 hm1
              rw [Nat.zero_add, List.nil_append] at ho1
              try simp only [Nat.zero_add]
              have hrow : Blk w2 U.heap.size 44 (cLvl ⟨x0, x1, x2, x3⟩) := blk_frm2 ((Blk.new _ _ _).alloc _) hf1 (fun e => by have := Option.some.inj e; omega)
              obtain ⟨b4, hk1⟩ := app_newG b3 b3.size (fun k e => by cases e; omega) hf1 hm1
              clear hf1 hm1
              refine hK.out _ _ b4 ?_
              clear hK
              try simp only [Act.put, List.setIfInBounds_toArray, List.set_cons_zero, List.set_cons_succ, List.getElem_toArray, List.getElem_cons_zero, List.getElem_cons_succ, Nat.zero_add, List.nil_append]
              refine GoL.on (rs := [13]) (by kernel_rfl) (by decide) ?_
              refine OnL.cons rfl ?_ OnL.nil
              intro K hK
              replace hK := Lib.hid hK
              refine step_appG rfl (.tmp 45) (.tmp 53) 36 44 i1 _ 4 32 Try.underlying36 hi1 hz1 hs1 hb1 rfl (by decide) rfl ho1 (SrcG.row (cs := cLvl ⟨x0, x1, x2, x3⟩) hrow rfl hone) rfl rfl (by omega) (by omega) ?_
              intro ao2 cap2 ko2 w3 ho2 hf2 hm2
              obtain ⟨b5, hk2⟩ := app_newG b4 b4.size hk1 hf2 hm2
              clear hf2 hm2 ho1
              refine hK.out _ _ b5 ?_
              clear hK
              try simp only [Act.put, List.setIfInBounds_toArray, List.set_cons_zero, List.set_cons_succ, List.getElem_toArray, List.getElem_cons_zero, List.getElem_cons_succ, Nat.zero_add, List.nil_append]
              refine GoL.on (rs := [17]) (by kernel_rfl) (by decide) ?_
              refine OnL.cons rfl ?_ OnL.nil
              intro K hK
              replace hK := Lib.hid hK
              refine step_appG rfl (.tmp 54) (.tmp 57) 36 44 i1 _ 4 32 Try.underlying36 hi1 hz1 hs1 hb1 rfl (by decide) rfl ho2 (hsrc2 _ b5) rfl rfl (by omega) (by omega) ?_
              intro ao3 cap3 ko3 w4 ho3 hf3 hm3
              obtain ⟨b6, hk3⟩ := app_newG b5 b5.size hk2 hf3 hm3
              have hfin := Lib.hid (fin w4 ao3 cap3 ko3 b6 hk3 ho3)
              clear hf3 hm3 ho3 ho2
              refine hK.out _ _ b6 ?_
              clear hK
              try simp only [Act.put, List.setIfInBounds_toArray, List.set_cons_zero, List.set_cons_succ, List.getElem_toArray, List.getElem_cons_zero, List.getElem_cons_succ, Nat.zero_add, List.nil_append]
              refine GoL.take (i := 18) (v := ?_) rfl rfl (by kernel_rfl) (fun _ _ _ h => h) (fun _ _ => Iff.rfl) (by rfl) ?_ ?_
              rotate_left
              · intro wx hwx
                go_simp
                try with_reducible rfl
              try simp only [Act.put, List.setIfInBounds_toArray, List.set_cons_zero, List.set_cons_succ, List.getElem_toArray, List.getElem_cons_zero, List.getElem_cons_succ, Nat.zero_add, List.nil_append]
              refine GoL.done (by kernel_rfl) ?_
              refine NoPanic.normal ?_
              clear fin hsrc1 hsrc2 bV hfacts
              go_wp2_with fail
              go_roundg (s.L.length - (i + 1))
              case measure => omega
              case rel =>
                obtain ⟨P2, e1, e2, e3⟩ := hfin.out
                exact ⟨i + 1, P2, ko3, cap3, ao3, by omega, by go_num, by rw [e1], e2, e3⟩
          · clear hPG cB
            go_wp2_with fail
            go_quiet (fail)
            go_wp2_with fail
            clear hg c0 y0
            replace bD := bD nq
            generalize (wr.drewN m).drewN nq = wq at *
            refine GoL.start (S := fun _ w => Below wr.heap.size wr w) (by kernel_rfl) bD ?_
            generalize wq.drew = U at bD ⊢
            have bV := bD
            clear bD
            have lV := bV.size
            refine GoL.take (i := 1) (v := ?_) rfl rfl (by kernel_rfl) (fun _ _ _ h => h) (fun _ _ => Iff.rfl) (by rfl) ?_ ?_
            rotate_left
            · intro wx hwx
              go_simp
              try with_reducible rfl
            try simp only [Act.put, List.setIfInBounds_toArray, List.set_cons_zero, List.set_cons_succ, List.getElem_toArray, List.getElem_cons_zero, List.getElem_cons_succ, Nat.zero_add, List.nil_append]
            refine GoL.take (i := 2) (v := ?_) rfl rfl (by kernel_rfl) (fun _ _ _ h => h) (fun _ _ => Iff.rfl) (by rfl) ?_ ?_
            rotate_left
            · intro wx hwx
              go_simp
              try with_reducible rfl
            try simp only [Act.put, List.setIfInBounds_toArray, List.set_cons_zero, List.set_cons_succ, List.getElem_toArray, List.getElem_cons_zero, List.getElem_cons_succ, Nat.zero_add, List.nil_append]
            refine GoL.take (i := 3) (v := ?_) rfl rfl (by kernel_rfl) (fun _ _ _ h => h) (fun _ _ => Iff.rfl) (by rfl) ?_ ?_
            rotate_left
            · intro wx hwx
              go_simp
              try with_reducible rfl
            try simp only [Act.put, List.setIfInBounds_toArray, List.set_cons_zero, List.set_cons_succ, List.getElem_toArray, List.getElem_cons_zero, List.getElem_cons_succ, Nat.zero_add, List.nil_append]
            refine GoL.take (i := 5) (v := ?_) rfl rfl (by kernel_rfl) (fun _ _ _ h => h) (fun _ _ => Iff.rfl) (by rfl) ?_ ?_
            rotate_left
            · intro wx hwx
              go_simp
              try with_reducible rfl
            try simp only [Act.put, List.setIfInBounds_toArray, List.set_cons_zero, List.set_cons_succ, List.getElem_toArray, List.getElem_cons_zero, List.getElem_cons_succ, Nat.zero_add, List.nil_append]
            refine GoL.take (i := 6) (v := ?_) rfl rfl (by kernel_rfl) (fun _ _ _ h => h) (fun _ _ => Iff.rfl) (by rfl) ?_ ?_
            rotate_left
            · intro wx hwx
              go_simp
              try with_reducible rfl
            try simp only [Act.put, List.setIfInBounds_toArray, List.set_cons_zero, List.set_cons_succ, List.getElem_toArray, List.getElem_cons_zero, List.getElem_cons_succ, Nat.zero_add, List.nil_append]
            refine GoL.take (i := 7) (v := ?_) rfl rfl (by kernel_rfl) (fun _ _ _ h => h) (fun _ _ => Iff.rfl) (by rfl) ?_ ?_
            rotate_left
            · intro wx hwx
              go_simp
              try with_reducible rfl
            try simp only [Act.put, List.setIfInBounds_toArray, List.set_cons_zero, List.set_cons_succ, List.getElem_toArray, List.getElem_cons_zero, List.getElem_cons_succ, Nat.zero_add, List.nil_append]
            refine GoL.take (i := 8) (v := ?_) rfl rfl (by kernel_rfl) (fun _ _ _ h => h) (fun _ _ => Iff.rfl) (by rfl) ?_ ?_
            rotate_left
            · intro wx hwx
              obtain ⟨z2, z3, z4, z5, z6⟩ := hfacts wx (Wi.at' hwx)
              go_simp
              try with_reducible rfl
            try simp only [Act.put, List.setIfInBounds_toArray, List.set_cons_zero, List.set_cons_succ, List.getElem_toArray, List.getElem_cons_zero, List.getElem_cons_succ, Nat.zero_add, List.nil_append]
            refine GoL.take (i := 9) (v := ?_) rfl rfl (by kernel_rfl) (fun _ _ _ h => h) (fun _ _ => Iff.rfl) (by rfl) ?_ ?_
            rotate_left
            · intro wx hwx
              go_simp
              try with_reducible rfl
            try simp only [Act.put, List.setIfInBounds_toArray, List.set_cons_zero, List.set_cons_succ, List.getElem_toArray, List.getElem_cons_zero, List.getElem_cons_succ, Nat.zero_add, List.nil_append]
            refine GoL.take (i := 10) (v := ?_) rfl rfl (by kernel_rfl) (fun _ _ _ h => h) (fun _ _ => Iff.rfl) (by rfl) ?_ ?_
            rotate_left
            · intro wx hwx
              go_simp
              try with_reducible rfl
            try simp only [Act.put, List.setIfInBounds_toArray, List.set_cons_zero, List.set_cons_succ, List.getElem_toArray, List.getElem_cons_zero, List.getElem_cons_succ, Nat.zero_add, List.nil_append]
            refine GoL.take (i := 11) (v := ?_) rfl rfl (by kernel_rfl) (fun _ _ _ h => h) (fun _ _ => Iff.rfl) (by rfl) ?_ ?_
            rotate_left
            · intro wx hwx
              obtain ⟨z2, z3, z4, z5, z6⟩ := hfacts wx (Wi.at' hwx)
              go_simp
              try with_reducible rfl
            try simp only [Act.put, List.setIfInBounds_toArray, List.set_cons_zero, List.set_cons_succ, List.getElem_toArray, List.getElem_cons_zero, List.getElem_cons_succ, Nat.zero_add, List.nil_append]
            refine GoL.take (i := 14) (v := ?_) rfl rfl (by kernel_rfl) (fun _ _ _ h => h) (fun _ _ => Iff.rfl) (by rfl) ?_ ?_
            rotate_left
            · intro wx hwx
              go_simp
              try with_reducible rfl
            try simp only [Act.put, List.setIfInBounds_toArray, List.set_cons_zero, List.set_cons_succ, List.getElem_toArray, List.getElem_cons_zero, List.getElem_cons_succ, Nat.zero_add, List.nil_append]
            refine GoL.take (i := 15) (v := ?_) rfl rfl (by kernel_rfl) (fun _ _ _ h => h) (fun _ _ => Iff.rfl) (by rfl) ?_ ?_
            rotate_left
            · intro wx hwx
              go_simp
              try with_reducible rfl
            try simp only [Act.put, List.setIfInBounds_toArray, List.set_cons_zero, List.set_cons_succ, List.getElem_toArray, List.getElem_cons_zero, List.getElem_cons_succ, Nat.zero_add, List.nil_append]
            refine GoL.take (i := 16) (v := ?_) rfl rfl (by kernel_rfl) (fun _ _ _ h => h) (fun _ _ => Iff.rfl) (by rfl) ?_ ?_
            rotate_left
            · intro wx hwx
              go_simp
              try with_reducible rfl
            try simp only [Act.put, List.setIfInBounds_toArray, List.set_cons_zero, List.set_cons_succ, List.getElem_toArray, List.getElem_cons_zero, List.getElem_cons_succ, Nat.zero_add, List.nil_append]
            refine GoL.on (rs := [0, 12]) (by kernel_rfl) (by decide) ?_
            refine OnL.cons rfl ?_ (OnL.cons rfl ?_ OnL.nil)
            · intro K hK
              replace hK := Lib.hid hK
              go_simp
              have b1 := bV.alloc bV.size (.cells #[] 44)
              refine hK.out _ _ b1 ?_
              clear hK
              try simp only [Act.put, List.setIfInBounds_toArray, List.set_cons_zero, List.set_cons_succ, List.getElem_toArray, List.getElem_cons_zero, List.getElem_cons_succ, Nat.zero_add, List.nil_append]
              refine GoL.on (rs := [4, 12]) (by kernel_rfl) (by decide) ?_
              refine OnL.cons rfl ?_ (OnL.cons rfl ?_ OnL.nil)
              · intro K hK
                replace hK := Lib.hid hK
                refine step_appG rfl (.tmp 41) (.tmp 44) 36 44 i1 _ 4 32 Try.underlying36 hi1 hz1 hs1 hb1 rfl (by decide) rfl (OwG.emptyG _ _ U) (hsrc1 _ b1) rfl rfl (by omega) (by omega) ?_
                intro ao1 cap1 ko1 w2 ho1 hf1 hm1
                rw [Nat.zero_add, List.nil_append] at ho1
                try simp only [Nat.zero_add]
                obtain ⟨b2, hk1⟩ := app_newG b1 b1.size (fun k e => by cases e; exact lV) hf1 hm1
                clear hf1 hm1
                refine hK.out _ _ b2 ?_
                clear hK
                try simp only [Act.put, List.setIfInBounds_toArray, List.set_cons_zero, List.set_cons_succ, List.getElem_toArray, List.getElem_cons_zero, List.getElem_cons_succ, Nat.zero_add, List.nil_append]
                refine GoL.on (rs := [12]) (by kernel_rfl) (by decide) ?_
                refine OnL.cons rfl ?_ OnL.nil
                intro K hK
                replace hK := Lib.hid hK
                go_simp
                have b4 := b2.alloc b2.size (.cells (cLvl ⟨x0, x1, x2, x3⟩) 44)
                refine hK.out _ _ b4 ?_
                clear hK
                try simp only [Act.put, List.setIfInBounds_toArray, List.set_cons_zero, List.set_cons_succ, List.getElem_toArray, List.getElem_cons_zero, List.getElem_cons_succ, Nat.zero_add, List.nil_append]
                refine GoL.on (rs := [13]) (by kernel_rfl) (by decide) ?_
                refine OnL.cons rfl ?_ OnL.nil
                intro K hK
                replace hK := Lib.hid hK
                refine step_appG rfl (.tmp 45) (.tmp 53) 36 44 i1 _ 4 32 Try.underlying36 hi1 hz1 hs1 hb1 rfl (by decide) rfl (ho1.alloc _) (SrcG.row (cs := cLvl ⟨x0, x1, x2, x3⟩) (Blk.new _ _ _) rfl hone) rfl rfl (by omega) (by omega) ?_
                intro ao2 cap2 ko2 w3 ho2 hf2 hm2
                obtain ⟨b5, hk2⟩ := app_newG b4 b4.size hk1 hf2 hm2
                clear hf2 hm2 ho1
                refine hK.out _ _ b5 ?_
                clear hK
                try simp only [Act.put, List.setIfInBounds_toArray, List.set_cons_zero, List.set_cons_succ, List.getElem_toArray, List.getElem_cons_zero, List.getElem_cons_succ, Nat.zero_add, List.nil_append]
                refine GoL.on (rs := [17]) (by kernel_rfl) (by decide) ?_
                refine OnL.cons rfl ?_ OnL.nil
                intro K hK
                replace hK := Lib.hid hK
                refine step_appG rfl (.tmp 54) (.tmp 57) 36 44 i1 _ 4 32 Try.underlying36 hi1 hz1 hs1 hb1 rfl (by decide) rfl ho2 (hsrc2 _ b5) rfl rfl (by omega) (by omega) ?_
                intro ao3 cap3 ko3 w4 ho3 hf3 hm3
                obtain ⟨b6, hk3⟩ := app_newG b5 b5.size hk2 hf3 hm3
                have hfin := Lib.hid (fin w4 ao3 cap3 ko3 b6 hk3 ho3)
                clear hf3 hm3 ho3 ho2
                refine hK.out _ _ b6 ?_
                clear hK
                try simp only [Act.put, List.setIfInBounds_toArray, List.set_cons_zero, List.set_cons_succ, List.getElem_toArray, List.getElem_cons_zero, List.getElem_cons_succ, Nat.zero_add, List.nil_append]
                refine GoL.take (i := 18) (v := ?_) rfl rfl (by kernel_rfl) (fun _ _ _ h => h) (fun _ _ => Iff.rfl) (by rfl) ?_ ?_
                rotate_left
                · intro wx hwx
                  go_simp
                  try with_reducible rfl
                try simp only [Act.put, List.setIfInBounds_toArray, List.set_cons_zero, List.set_cons_succ, List.getElem_toArray, List.getElem_cons_zero, List.getElem_cons_succ, Nat.zero_add, List.nil_append]
                refine GoL.done (by kernel_rfl) ?_
                refine NoPanic.normal ?_
                clear fin hsrc1 hsrc2 bV hfacts
                go_wp2_with fail
                go_roundg (s.L.length - (i + 1))
                case measure => omega
                case rel =>
                  obtain ⟨P2, e1, e2, e3⟩ := hfin.out
                  exact ⟨i + 1, P2, ko3, cap3, ao3, by omega, by go_num, by rw [e1], e2, e3⟩
              · intro K hK
                replace hK := Lib.hid hK
                go_simp
                have b3 := b1.alloc b1.size (.cells (cLvl ⟨x0, x1, x2, x3⟩) 44)
                refine hK.out _ _ b3 ?_
                clear hK
                try simp only [Act.put, List.setIfInBounds_toArray, List.set_cons_zero, List.set_cons_succ, List.getElem_toArray, List.getElem_cons_zero, List.getElem_cons_succ, Nat.zero_add, List.nil_append]
                refine GoL.on (rs := [4]) (by kernel_rfl) (by decide) ?_
                refine OnL.cons rfl ?_ OnL.nil
                intro K hK
                replace hK := Lib.hid hK
                refine step_appG rfl (.tmp 41) (.tmp 44) 36 44 i1 _ 4 32 Try.underlying36 hi1 hz1 hs1 hb1 rfl (by decide) rfl ((OwG.emptyG _ _ U).alloc _) (hsrc1 _ b3) rfl rfl (by omega) (by omega) ?_
                intro ao1 cap1 ko1 w2 ho1 hf1 hm1
                rw [Nat.zero_add, List.nil_append] at ho1
                try simp only [Nat.zero_add]
                have hrow : Blk w2 (U.heap.size + 1) 44 (cLvl ⟨x0, x1, x2, x3⟩) := blk_frm2 (Blk.new' (by simp)) hf1 (fun e => by have := Option.some.inj e; omega)
                obtain ⟨b4, hk1⟩ := app_newG b3 b3.size (fun k e => by cases e; exact lV) hf1 hm1
                clear hf1 hm1
                refine hK.out _ _ b4 ?_
                clear hK
                try simp only [Act.put, List.setIfInBounds_toArray, List.set_cons_zero, List.set_cons_succ, List.getElem_toArray, List.getElem_cons_zero, List.getElem_cons_succ, Nat.zero_add, List.nil_append]
                refine GoL.on (rs := [13]) (by kernel_rfl) (by decide) ?_
                refine OnL.cons rfl ?_ OnL.nil
                intro K hK
                replace hK := Lib.hid hK
                refine step_appG rfl (.tmp 45) (.tmp 53) 36 44 i1 _ 4 32 Try.underlying36 hi1 hz1 hs1 hb1 rfl (by decide) rfl ho1 (SrcG.row (cs := cLvl ⟨x0, x1, x2, x3⟩) hrow rfl hone) rfl rfl (by omega) (by omega) ?_
                intro ao2 cap2 ko2 w3 ho2 hf2 hm2
                obtain ⟨b5, hk2⟩ := app_newG b4 b4.size hk1 hf2 hm2
                clear hf2 hm2 ho1
                refine hK.out _ _ b5 ?_
                clear hK
                try simp only [Act.put, List.setIfInBounds_toArray, List.set_cons_zero, List.set_cons_succ, List.getElem_toArray, List.getElem_cons_zero, List.getElem_cons_succ, Nat.zero_add, List.nil_append]
                refine GoL.on (rs := [17]) (by kernel_rfl) (by decide) ?_
                refine OnL.cons rfl ?_ OnL.nil
                intro K hK
                replace hK := Lib.hid hK
                refine step_appG rfl (.tmp 54) (.tmp 57) 36 44 i1 _ 4 32 Try.underlying36 hi1 hz1 hs1 hb1 rfl (by decide) rfl ho2 (hsrc2 _ b5) rfl rfl (by omega) (by omega) ?_
                intro ao3 cap3 ko3 w4 ho3 hf3 hm3
                obtain ⟨b6, hk3⟩ := app_newG b5 b5.size hk2 hf3 hm3
                have hfin := Lib.hid (fin w4 ao3 cap3 ko3 b6 hk3 ho3)
                clear hf3 hm3 ho3 ho2
                refine hK.out _ _ b6 ?_
                clear hK
                try simp only [Act.put, List.setIfInBounds_toArray, List.set_cons_zero, List.set_cons_succ, List.getElem_toArray, List.getElem_cons_zero, List.getElem_cons_succ, Nat.zero_add, List.nil_append]
                refine GoL.take (i := 18) (v := ?_) rfl rfl (by kernel_rfl) (fun _ _ _ h => h) (fun _ _ => Iff.rfl) (by rfl) ?_ ?_
                rotate_left
                · intro wx hwx
                  go_simp
                  try with_reducible rfl
                try simp only [Act.put, List.setIfInBounds_toArray, List.set_cons_zero, List.set_cons_succ, List.getElem_toArray, List.getElem_cons_zero, List.getElem_cons_succ, Nat.zero_add, List.nil_append]
                refine GoL.done (by kernel_rfl) ?_
                refine NoPanic.normal ?_
                clear fin hsrc1 hsrc2 bV hfacts
                go_wp2_with fail
                go_roundg (s.L.length - (i + 1))
                case measure => omega
                case rel =>
                  obtain ⟨P2, e1, e2, e3⟩ := hfin.out
                  exact ⟨i + 1, P2, ko3, cap3, ao3, by omega, by go_num, by rw [e1], e2, e3⟩
            · intro K hK
              replace hK := Lib.hid hK
              go_simp
              have b1 := bV.alloc bV.size (.cells (cLvl ⟨x0, x1, x2, x3⟩) 44)
              refine hK.out _ _ b1 ?_
              clear hK
              try simp only [Act.put, List.setIfInBounds_toArray, List.set_cons_zero, List.set_cons_succ, List.getElem_toArray, List.getElem_cons_zero, List.getElem_cons_succ, Nat.zero_add, List.nil_append]
              refine GoL.on (rs := [0]) (by kernel_rfl) (by decide) ?_
              refine OnL.cons rfl ?_ OnL.nil
              intro K hK
              replace hK := Lib.hid hK
              go_simp
              have b3 := b1.alloc b1.size (.cells #[] 44)
              refine hK.out _ _ b3 ?_
              clear hK
              try simp only [Act.put, List.setIfInBounds_toArray, List.set_cons_zero, List.set_cons_succ, List.getElem_toArray, List.getElem_cons_zero, List.getElem_cons_succ, Nat.zero_add, List.nil_append]
              refine GoL.on (rs := [4]) (by kernel_rfl) (by decide) ?_
              refine OnL.cons rfl ?_ OnL.nil
              have hE : OwG 44 4 ((U.alloc (.cells (cLvl ⟨x0, x1, x2, x3⟩) 44)).alloc (.cells #[] 44)) (some (U.heap.size + 1)) (some ⟨U.heap.size + 1, 0, none⟩) 0 0 [] := by have := OwG.emptyG 44 4 (U.alloc (.cells (cLvl ⟨x0, x1, x2, x3⟩) 44)); rwa [World.size_alloc] at this
              intro K hK
              replace hK := Lib.hid hK
              refine step_appG rfl (.tmp 41) (.tmp 44) 36 44 i1 _ 4 32 Try.underlying36 hi1 hz1 hs1 hb1 rfl (by decide) rfl hE (hsrc1 _ b3) rfl rfl (by omega) (by omega) ?_
              intro ao1 cap1 ko1 w2 ho1 hf1 hm1
              rw [Nat.zero_add, List.nil_append] at ho1
              try simp only [Nat.zero_add]
              have hrow : Blk w2 U.heap.size 44 (cLvl ⟨x0, x1, x2, x3⟩) := blk_frm2 ((Blk.new _ _ _).alloc _) hf1 (fun e => by have := Option.some.inj e; omega)
              obtain ⟨b4, hk1⟩ := app_newG b3 b3.size (fun k e => by cases e; omega) hf1 hm1
              clear hf1 hm1
              refine hK.out _ _ b4 ?_
              clear hK
              try simp only [Act.put, List.setIfInBounds_toArray, List.set_cons_zero, List.set_cons_succ, List.getElem_toArray, List.getElem_cons_zero, List.getElem_cons_succ, Nat.zero_add, List.nil_append]
              refine GoL.on (rs := [13]) (by kernel_rfl) (by decide) ?_
              refine OnL.cons rfl ?_ OnL.nil
              intro K hK
              replace hK := Lib.hid hK
              refine step_appG rfl (.tmp 45) (.tmp 53) 36 44 i1 _ 4 32 Try.underlying36 hi1 hz1 hs1 hb1 rfl (by decide) rfl ho1 (SrcG.row (cs := cLvl ⟨x0, x1, x2, x3⟩) hrow rfl hone) rfl rfl (by omega) (by omega) ?_
              intro ao2 cap2 ko2 w3 ho2 hf2 hm2
              obtain ⟨b5, hk2⟩ := app_newG b4 b4.size hk1 hf2 hm2
              clear hf2 hm2 ho1
              refine hK.out _ _ b5 ?_
              clear hK
              try simp only [Act.put, List.setIfInBounds_toArray, List.set_cons_zero, List.set_cons_succ, List.getElem_toArray, List.getElem_cons_zero, List.getElem_cons_succ, Nat.zero_add, List.nil_append]
              refine GoL.on (rs := [17]) (by kernel_rfl) (by decide) ?_
              refine OnL.cons rfl ?_ OnL.nil
              intro K hK
              replace hK := Lib.hid hK
              refine step_appG rfl (.tmp 54) (.tmp 57) 36 44 i1 _ 4 32 Try.underlying36 hi1 hz1 hs1 hb1 rfl (by decide) rfl ho2 (hsrc2 _ b5) rfl rfl (by omega) (by omega) ?_
              intro ao3 cap3 ko3 w4 ho3 hf3 hm3
              obtain ⟨b6, hk3⟩ := app_newG b5 b5.size hk2 hf3 hm3
              have hfin := Lib.hid (fin w4 ao3 cap3 ko3 b6 hk3 ho3)
              clear hf3 hm3 ho3 ho2
              refine hK.out _ _ b6 ?_
              clear hK
              try simp only [Act.put, List.setIfInBounds_toArray, List.set_cons_zero, List.set_cons_succ, List.getElem_toArray, List.getElem_cons_zero, List.getElem_cons_succ, Nat.zero_add, List.nil_append]
              refine GoL.take (i := 18) (v := ?_) rfl rfl (by kernel_rfl) (fun _ _ _ h => h) (fun _ _ => Iff.rfl) (by rfl) ?_ ?_
              rotate_left
              · intro wx hwx
                go_simp
                try with_reducible rfl
              try simp only [Act.put, List.setIfInBounds_toArray, List.set_cons_zero, List.set_cons_succ, List.getElem_toArray, List.getElem_cons_zero, List.getElem_cons_succ, Nat.zero_add, List.nil_append]
              refine GoL.done (by kernel_rfl) ?_
              refine NoPanic.normal ?_
              clear fin hsrc1 hsrc2 bV hfacts
              go_wp2_with fail
              go_roundg (s.L.length - (i + 1))
              case measure => omega
              case rel =>
                obtain ⟨P2, e1, e2, e3⟩ := hfin.out
                exact ⟨i + 1, P2, ko3, cap3, ao3, by omega, by go_num, by rw [e1], e2, e3⟩
    · obtain rfl : i = s.L.length := by omega
      rw [List.take_length] at hO
      go_wp2_with fail
      go_ret
      exact ⟨P, ko, oc, oo, rfl, hO, hG⟩
end
end Go.Proofs.Ythlpnlmjpdcbiaa
