/-
  AllotFair. (Written by gen/p_alr.py.)
-/
import Derived.Test.YtdmjcjheanedgaaDoorAlqq
import Derived.Test.YtdmjcjheanedgaaDoorGC
namespace Go.Proofs.YtdmjcjheanedgaaDoor
open Go.RowKit
set_option linter.unusedSimpArgs false
theorem two_new (U : World) (T : TypeId) : ∃ U2, U2 = (U.alloc (.cells #[.int .i64 0, .int .i64 0, .int .i64 0, .int .i64 0, .int .i64 0, .int .i64 0, .int .i64 0] T)).alloc (.cells #[.int .i64 0, .int .i64 0, .int .i64 0, .int .i64 0, .int .i64 0, .int .i64 0, .int .i64 0] T) ∧ Blk U2 U.heap.size T (cOrd ⟨0, 0, 0, 0, 0, 0, 0⟩) ∧ Blk U2 (U.heap.size + 1) T (cOrd ⟨0, 0, 0, 0, 0, 0, 0⟩) ∧ ∀ B V, Below B V U → B ≤ U.heap.size → Below B V U2 :=
  ⟨_, rfl, (Blk.new _ _ _).alloc _, Blk.new' (by simp), fun _ _ h hs => (h.alloc hs _).alloc (by simp; omega) _⟩
theorem lay_ord {w : World} {p : Nat} {T : TypeId} {m : Ord} (h : Blk w p T (cOrd m)) (v0 v1 v2 v3 v4 v5 v6 : Int) : ∃ U, U = (((((((w.setCell ⟨p, 0, none⟩ (.int .i64 v0)).setCell ⟨p, 1, none⟩ (.int .i64 v1)).setCell ⟨p, 2, none⟩ (.int .i64 v2)).setCell ⟨p, 3, none⟩ (.int .i64 v3)).setCell ⟨p, 4, none⟩ (.int .i64 v4)).setCell ⟨p, 5, none⟩ (.int .i64 v5)).setCell ⟨p, 6, none⟩ (.int .i64 v6)) ∧ Blk U p T (cOrd ⟨v0, v1, v2, v3, v4, v5, v6⟩) ∧ (∀ c T' cs, c ≠ p → Blk w c T' cs → Blk U c T' cs) ∧ ∀ B V, B ≤ p → Below B V w → Below B V U := by
  refine ⟨_, rfl, Ord.lay h v0 v1 v2 v3 v4 v5 v6, fun c T' cs hc hb => ?_, fun B V hB hb => Ord.below hb hB _ _ _ _ _ _ _⟩
  have hf := Ord.frm (S := fun c => c = p) (Frm.refl _ w) (.inl rfl) (.int .i64 v0) (.int .i64 v1) (.int .i64 v2) (.int .i64 v3) (.int .i64 v4) (.int .i64 v5) (.int .i64 v6)
  exact (hf.block c hb.lt hc).trans hb
set_option maxRecDepth 8000 in
set_option maxHeartbeats 8000000 in
theorem afair_any (ao : Option Addr) (cap : Nat) (l : List Ord) (price : Int) (W : World) (hG : Gl W) (hL : Ords W ao cap l) (hF : ∀ m ∈ l, m.Fit) :
    Calls Tryd.prog 5 #[.slice ao l.length cap, .int .i64 price] W fun e w' => e = .returned (.bool true) ∧ Below W.heap.size W w' := by
  have hl1 := hL.len
  have hl2 := hL.top
  unfold maxLen at hl2
  have hl3 : l.length ≤ 9223372036854775807 := by omega
  clear hl1 hl2
  have cA := fun w (h : Gl w) => alive18_any w h
  have key : (decide ((60 : Int) < (l.length : Int)) = true ∨ (decide ((60 : Int) < (l.length : Int)) = false ∧ (decide (price < 1) = true ∨ (decide (price < 1) = false ∧ decide (1099511627776 < price) = true)))) ∨
      (decide ((60 : Int) < (l.length : Int)) = false ∧ decide (price < 1) = false ∧ decide (1099511627776 < price) = false ∧ l.length ≤ 60 ∧ 1 ≤ price ∧ price ≤ 1099511627776) := by
    simp only [decide_eq_true_eq, decide_eq_false_iff_not]
    omega
  rcases key with key | ⟨d60, d1, d2, h60, q1, q2⟩
  · rcases key with d60 | ⟨d60, d1 | ⟨d1, d2⟩⟩
    all_goals
      go_enter Tryd.func5, Tryd.ntmps5
      go_wp2_with (first
        | (go_at_call 6; refine (cA _ hG).mono ?_; rintro e w3 ⟨rfl, hb3⟩; clear cA)
        | fail)
      go_ret
      exact ⟨rfl, hb3⟩
  have cB := books_any ao cap l W hG hL hF (by omega)
  have hok : (bks l).Ok := bks_ok hF
  clear hL hF h60 hl3
  generalize bks l = b at *
  have htot := prsL_tot hok ⟨q1, q2⟩
  have hpos := prsL_pos b.L price
  have hfair : Hid (∀ (i k : Nat) (x y : Ord), b.L[i]? = some x → b.L[k]? = some y → x.side = y.side → (bett x.side x.price y.price = true ∨ (x.price = y.price ∧ i < k)) → 0 < ofP (prsL b.L price) y.id → ofP (prsL b.L price) x.id = x.qty) := Lib.hid fun i k x y hx hy hs ha h => by
    refine of_fair hok ⟨q1, q2⟩ (List.mem_of_getElem? hx) (List.mem_of_getElem? hy) hs ?_ h
    rcases ha with ha | ⟨ha, hik⟩
    · exact .inl ha
    · exact .inr ⟨by rw [ha, bett_irr], by rw [hok.u.x hx, hok.u.x hy]; exact hik⟩
  have hlen : b.L.length ≤ 500 := by
    have := hok.len
    have := hok.s2
    omega
  have cP := fun g t k w (h : Bb W (fun _ => False) g t k b b w) => bbPairs price h
  have cO := fun id w ao cap h => al_of (W := w) (ao := ao) (cap := cap) (prsL b.L price) hpos htot id h
  have cQ := fun s p q w => pb_better s p q w
  have fin : ∀ g t k w, Bb W (fun _ => False) g t k b b w → Below W.heap.size W w := fun g t k w h => h.frm.below (Nat.le_refl _) (fun _ f => f.elim)
  have hrow : ∀ g t k w, Bb W (fun _ => False) g t k b b w → ∃ ro rc, ∀ w', Below w.heap.size w w' → w'.cell? ⟨t, 2, none⟩ = some (.slice ro b.L.length rc) ∧ Ords w' ro rc b.L := fun g t k w h => by
    obtain ⟨Sp, Sr, -, h2, -⟩ := h.both
    obtain ⟨ko, ro, rc, h⟩ := h2
    exact ⟨ro, rc, fun w' hb => ⟨(h.below hb).c2, (h.below hb).rows⟩⟩
  clear htot hpos hok q1 q2
  generalize prsL b.L price = P at *
  obtain ⟨n, hn⟩ : ∃ n, n = b.L.length := ⟨_, rfl⟩
  simp only [← hn] at hrow hlen
  replace hn := Lib.hid hn
  go_enter Tryd.func5, Tryd.ntmps5
  go_wp2_with (first
    | (go_at_call 7; refine cB.mono ?_; rintro e w2 ⟨g, t, rfl, k2⟩; clear cB)
    | (go_at_call 10; (with_reducible refine (cP _ _ _ _ k2).mono ?_); rintro e V ⟨ao3, cap3, rfl, hP3, k3, -⟩; clear cP; obtain ⟨ro, rc, hC⟩ := hrow _ _ _ _ k3; clear hrow)
    | fail)
  have hend := fin _ _ _ _ k3
  clear fin k3 k2
  have hget : ∀ (i : Nat) (x : Ord), b.L[i]? = some x → ∃ bx ox, ro = some ⟨bx, ox, none⟩ ∧ ∀ w, Below V.heap.size V w → w.cell? ⟨bx, ox + i * 7, none⟩ = some (.int .i64 x.id) ∧ w.cell? ⟨bx, ox + i * 7 + 1, none⟩ = some (.int .i64 x.owner) ∧ w.cell? ⟨bx, ox + i * 7 + 2, none⟩ = some (.int .i64 x.side) ∧ w.cell? ⟨bx, ox + i * 7 + 3, none⟩ = some (.int .i64 x.price) ∧ w.cell? ⟨bx, ox + i * 7 + 4, none⟩ = some (.int .i64 x.qty) ∧ w.cell? ⟨bx, ox + i * 7 + 5, none⟩ = some (.int .i64 x.flags) ∧ w.cell? ⟨bx, ox + i * 7 + 6, none⟩ = some (.int .i64 x.seq) := fun i x hx => by
    obtain ⟨bx, ox, e, -⟩ := (hC V (Below.refl _ _)).2.get hx
    refine ⟨bx, ox, e, fun w hb => ?_⟩
    obtain ⟨b', o', e', y⟩ := (hC w hb).2.get hx
    rw [e] at e'
    cases e'
    exact y
  have hC2 : Hid (∀ w, Below V.heap.size V w → w.cell? ⟨t, 2, none⟩ = some (.slice ro n rc)) := Lib.hid fun w h => (hC w h).1
  replace hget := Lib.hid hget
  clear hC
  go_loopg [8] n (fun j p8 wr => ∃ i : Nat, i + j = n ∧ p8 = .int .i64 (i : Int) ∧ Below V.heap.size V wr)
  case atStart => exact ⟨0, by omega, rfl, Below.refl _ _⟩
  case round =>
    obtain ⟨i, hij, rfl, hb⟩ := hrel
    have c2 := hC2.out wr hb
    by_cases hin : i < n
    · have hil : (i : Int) < (n : Int) := by omega
      go_wp2_with fail
      clear c2
      go_loopg [9] n (fun j p9 wr' => ∃ k : Nat, k + j = n ∧ p9 = .int .i64 (k : Int) ∧ Below V.heap.size V wr')
      case atStart => exact ⟨0, by omega, rfl, hb⟩
      case round =>
        clear hb
        obtain ⟨k, hkj, rfl, hb⟩ := hrel
        have c2 := hC2.out wr hb
        by_cases hkn : k < n
        · have hkl : (k : Int) < (n : Int) := by omega
          obtain ⟨x, hx⟩ : ∃ x, b.L[i]? = some x := ⟨_, List.getElem?_eq_getElem (by rw [← hn.out]; exact hin)⟩
          obtain ⟨y, hy⟩ : ∃ y, b.L[k]? = some y := ⟨_, List.getElem?_eq_getElem (by rw [← hn.out]; exact hkn)⟩
          obtain ⟨bx, ox, rfl, hxc⟩ := hget.out i x hx
          obtain ⟨by', oy, e, hyc⟩ := hget.out k y hy
          cases e
          have hf := hfair.out i k x y hx hy
          have cOx := fun w a c h => cO x.id w a c h
          have cOy := fun w a c h => cO y.id w a c h
          have cQ' := fun w => cQ x.side x.price y.price w
          have key : ((x.side != y.side) = true ∨ ((x.side != y.side) = false ∧ bett x.side x.price y.price = false ∧ ((x.price != y.price) = true ∨ ((x.price != y.price) = false ∧ decide (k ≤ i) = true)))) ∨ ((x.side != y.side) = false ∧ (bett x.side x.price y.price = true ∨ (bett x.side x.price y.price = false ∧ (x.price != y.price) = false ∧ decide (k ≤ i) = false)) ∧ (decide (0 < ofP P y.id) = false ∨ (decide (0 < ofP P y.id) = true ∧ (ofP P x.id != x.qty) = false))) := by
            by_cases h1 : x.side = y.side
            · have e1 : (x.side != y.side) = false := by simpa using h1
              cases hbt : bett x.side x.price y.price with
              | true =>
                refine .inr ⟨e1, .inl rfl, ?_⟩
                by_cases h0 : 0 < ofP P y.id
                · exact .inr ⟨decide_eq_true h0, by simpa using hf h1 (.inl hbt) h0⟩
                · exact .inl (decide_eq_false h0)
              | false =>
                by_cases h2 : x.price = y.price
                · have e2 : (x.price != y.price) = false := by simpa using h2
                  by_cases h3 : k ≤ i
                  · exact .inl (.inr ⟨e1, rfl, .inr ⟨e2, decide_eq_true h3⟩⟩)
                  · refine .inr ⟨e1, .inr ⟨rfl, e2, decide_eq_false h3⟩, ?_⟩
                    by_cases h0 : 0 < ofP P y.id
                    · exact .inr ⟨decide_eq_true h0, by simpa using hf h1 (.inr ⟨h2, by omega⟩) h0⟩
                    · exact .inl (decide_eq_false h0)
                · exact .inl (.inr ⟨e1, rfl, .inl (by simpa using h2)⟩)
            · exact .inl (.inl (by simpa using h1))
          have hkey : (decide (k ≤ i) = decide ((k : Int) ≤ (i : Int))) := by
            by_cases h : k ≤ i
            · rw [decide_eq_true h, decide_eq_true (by omega)]
            · rw [decide_eq_false h, decide_eq_false (by omega)]
          rw [hkey] at key
          generalize bett x.side x.price y.price = bt at *
          generalize ofP P x.id = mx at *
          generalize ofP P y.id = my at *
          clear hf hx hy hfair hkey cO cQ
          obtain ⟨x0, x1, x2, x3, x4, x5, x6⟩ := x
          obtain ⟨y0, y1, y2, y3, y4, y5, y6⟩ := y
          simp only at hxc hyc cOx cOy cQ' key
          have hfac : Hid (∀ w, Below V.heap.size V w → _) := Lib.hid fun w h => (⟨hC2.out w h, (hxc w h).1, (hxc w h).2.1, (hxc w h).2.2.1, (hxc w h).2.2.2.1, (hxc w h).2.2.2.2.1, (hxc w h).2.2.2.2.2.1, (hxc w h).2.2.2.2.2.2, hyc w h⟩ : _ ∧ _ ∧ _ ∧ _ ∧ _ ∧ _ ∧ _ ∧ _ ∧ _)
          clear hxc hyc
          go_wp2_with fail
          clear c2
          refine GoL.start (S := fun _ w => Below V.heap.size V w) (by kernel_rfl) hb.drew ?_
          have hU := hb.drew
          generalize wr.drew = U at hU ⊢
          clear hb
          refine GoL.take (i := 0) (v := ?_) rfl rfl (by kernel_rfl) (fun _ _ _ h => h) (fun _ _ => Iff.rfl) (by rfl) ?_ ?_
          rotate_left
          · intro wx hwx
            have hwx := Wi.at' hwx
            go_simp
            all_goals first
              | done
              | with_reducible rfl
              | assumption
              | (simp_all; done)
          try simp only [Act.put, List.setIfInBounds_toArray, List.set_cons_zero, List.set_cons_succ, List.getElem_toArray, List.getElem_cons_zero, List.getElem_cons_succ]
          refine GoL.take (i := 1) (v := ?_) rfl rfl (by kernel_rfl) (fun _ _ _ h => h) (fun _ _ => Iff.rfl) (by rfl) ?_ ?_
          rotate_left
          · intro wx hwx
            have hwx := Wi.at' hwx
            obtain ⟨f0, x0, x1, x2, x3, x4, x5, x6, y0, y1, y2, y3, y4, y5, y6⟩ := hfac.out wx hwx
            go_simp
            all_goals first
              | done
              | with_reducible rfl
              | assumption
              | (simp_all; done)
          try simp only [Act.put, List.setIfInBounds_toArray, List.set_cons_zero, List.set_cons_succ, List.getElem_toArray, List.getElem_cons_zero, List.getElem_cons_succ]
          refine GoL.take (i := 2) (v := ?_) rfl rfl (by kernel_rfl) (fun _ _ _ h => h) (fun _ _ => Iff.rfl) (by rfl) ?_ ?_
          rotate_left
          · intro wx hwx
            have hwx := Wi.at' hwx
            go_simp
            all_goals first
              | done
              | with_reducible rfl
              | assumption
              | (simp_all; done)
          try simp only [Act.put, List.setIfInBounds_toArray, List.set_cons_zero, List.set_cons_succ, List.getElem_toArray, List.getElem_cons_zero, List.getElem_cons_succ]
          refine GoL.take (i := 3) (v := ?_) rfl rfl (by kernel_rfl) (fun _ _ _ h => h) (fun _ _ => Iff.rfl) (by rfl) ?_ ?_
          rotate_left
          · intro wx hwx
            have hwx := Wi.at' hwx
            obtain ⟨f0, x0, x1, x2, x3, x4, x5, x6, y0, y1, y2, y3, y4, y5, y6⟩ := hfac.out wx hwx
            go_simp
            all_goals first
              | done
              | with_reducible rfl
              | assumption
              | (simp_all; done)
          try simp only [Act.put, List.setIfInBounds_toArray, List.set_cons_zero, List.set_cons_succ, List.getElem_toArray, List.getElem_cons_zero, List.getElem_cons_succ]
          refine GoL.take (i := 4) (v := ?_) rfl rfl (by kernel_rfl) (fun _ _ _ h => h) (fun _ _ => Iff.rfl) (by rfl) ?_ ?_
          rotate_left
          · intro wx hwx
            have hwx := Wi.at' hwx
            go_simp
            all_goals first
              | done
              | with_reducible rfl
              | assumption
              | (simp_all; done)
          try simp only [Act.put, List.setIfInBounds_toArray, List.set_cons_zero, List.set_cons_succ, List.getElem_toArray, List.getElem_cons_zero, List.getElem_cons_succ]
          refine GoL.take (i := 5) (v := ?_) rfl rfl (by kernel_rfl) (fun _ _ _ h => h) (fun _ _ => Iff.rfl) (by rfl) ?_ ?_
          rotate_left
          · intro wx hwx
            have hwx := Wi.at' hwx
            obtain ⟨f0, x0, x1, x2, x3, x4, x5, x6, y0, y1, y2, y3, y4, y5, y6⟩ := hfac.out wx hwx
            go_simp
            all_goals first
              | done
              | with_reducible rfl
              | assumption
              | (simp_all; done)
          try simp only [Act.put, List.setIfInBounds_toArray, List.set_cons_zero, List.set_cons_succ, List.getElem_toArray, List.getElem_cons_zero, List.getElem_cons_succ]
          refine GoL.take (i := 6) (v := ?_) rfl rfl (by kernel_rfl) (fun _ _ _ h => h) (fun _ _ => Iff.rfl) (by rfl) ?_ ?_
          rotate_left
          · intro wx hwx
            have hwx := Wi.at' hwx
            obtain ⟨f0, x0, x1, x2, x3, x4, x5, x6, y0, y1, y2, y3, y4, y5, y6⟩ := hfac.out wx hwx
            go_simp
            all_goals first
              | done
              | with_reducible rfl
              | assumption
              | (simp_all; done)
          try simp only [Act.put, List.setIfInBounds_toArray, List.set_cons_zero, List.set_cons_succ, List.getElem_toArray, List.getElem_cons_zero, List.getElem_cons_succ]
          refine GoL.take (i := 7) (v := ?_) rfl rfl (by kernel_rfl) (fun _ _ _ h => h) (fun _ _ => Iff.rfl) (by rfl) ?_ ?_
          rotate_left
          · intro wx hwx
            have hwx := Wi.at' hwx
            go_simp
            all_goals first
              | done
              | with_reducible rfl
              | assumption
              | (simp_all; done)
          try simp only [Act.put, List.setIfInBounds_toArray, List.set_cons_zero, List.set_cons_succ, List.getElem_toArray, List.getElem_cons_zero, List.getElem_cons_succ]
          refine GoL.take (i := 8) (v := ?_) rfl rfl (by kernel_rfl) (fun _ _ _ h => h) (fun _ _ => Iff.rfl) (by rfl) ?_ ?_
          rotate_left
          · intro wx hwx
            have hwx := Wi.at' hwx
            obtain ⟨f0, x0, x1, x2, x3, x4, x5, x6, y0, y1, y2, y3, y4, y5, y6⟩ := hfac.out wx hwx
            go_simp
            all_goals first
              | done
              | with_reducible rfl
              | assumption
              | (simp_all; done)
          try simp only [Act.put, List.setIfInBounds_toArray, List.set_cons_zero, List.set_cons_succ, List.getElem_toArray, List.getElem_cons_zero, List.getElem_cons_succ]
          refine GoL.take (i := 9) (v := ?_) rfl rfl (by kernel_rfl) (fun _ _ _ h => h) (fun _ _ => Iff.rfl) (by rfl) ?_ ?_
          rotate_left
          · intro wx hwx
            have hwx := Wi.at' hwx
            go_simp
            all_goals first
              | done
              | with_reducible rfl
              | assumption
              | (simp_all; done)
          try simp only [Act.put, List.setIfInBounds_toArray, List.set_cons_zero, List.set_cons_succ, List.getElem_toArray, List.getElem_cons_zero, List.getElem_cons_succ]
          refine GoL.take (i := 10) (v := ?_) rfl rfl (by kernel_rfl) (fun _ _ _ h => h) (fun _ _ => Iff.rfl) (by rfl) ?_ ?_
          rotate_left
          · intro wx hwx
            have hwx := Wi.at' hwx
            obtain ⟨f0, x0, x1, x2, x3, x4, x5, x6, y0, y1, y2, y3, y4, y5, y6⟩ := hfac.out wx hwx
            go_simp
            all_goals first
              | done
              | with_reducible rfl
              | assumption
              | (simp_all; done)
          try simp only [Act.put, List.setIfInBounds_toArray, List.set_cons_zero, List.set_cons_succ, List.getElem_toArray, List.getElem_cons_zero, List.getElem_cons_succ]
          refine GoL.take (i := 11) (v := ?_) rfl rfl (by kernel_rfl) (fun _ _ _ h => h) (fun _ _ => Iff.rfl) (by rfl) ?_ ?_
          rotate_left
          · intro wx hwx
            have hwx := Wi.at' hwx
            go_simp
            all_goals first
              | done
              | with_reducible rfl
              | assumption
              | (simp_all; done)
          try simp only [Act.put, List.setIfInBounds_toArray, List.set_cons_zero, List.set_cons_succ, List.getElem_toArray, List.getElem_cons_zero, List.getElem_cons_succ]
          refine GoL.take (i := 12) (v := ?_) rfl rfl (by kernel_rfl) (fun _ _ _ h => h) (fun _ _ => Iff.rfl) (by rfl) ?_ ?_
          rotate_left
          · intro wx hwx
            have hwx := Wi.at' hwx
            obtain ⟨f0, x0, x1, x2, x3, x4, x5, x6, y0, y1, y2, y3, y4, y5, y6⟩ := hfac.out wx hwx
            go_simp
            all_goals first
              | done
              | with_reducible rfl
              | assumption
              | (simp_all; done)
          try simp only [Act.put, List.setIfInBounds_toArray, List.set_cons_zero, List.set_cons_succ, List.getElem_toArray, List.getElem_cons_zero, List.getElem_cons_succ]
          refine GoL.take (i := 13) (v := ?_) rfl rfl (by kernel_rfl) (fun _ _ _ h => h) (fun _ _ => Iff.rfl) (by rfl) ?_ ?_
          rotate_left
          · intro wx hwx
            have hwx := Wi.at' hwx
            obtain ⟨f0, x0, x1, x2, x3, x4, x5, x6, y0, y1, y2, y3, y4, y5, y6⟩ := hfac.out wx hwx
            go_simp
            all_goals first
              | done
              | with_reducible rfl
              | assumption
              | (simp_all; done)
          try simp only [Act.put, List.setIfInBounds_toArray, List.set_cons_zero, List.set_cons_succ, List.getElem_toArray, List.getElem_cons_zero, List.getElem_cons_succ]
          refine GoL.on (rs := [14, 15]) (by kernel_rfl) (by decide) ?_
          refine OnL.cons rfl ?_ (OnL.cons rfl ?_ OnL.nil)
          · intro K hK
            replace hK := Lib.hid hK
            go_simp
            refine hK.out _ _ (hU.alloc hU.size (.cells #[.int .i64 0, .int .i64 0, .int .i64 0, .int .i64 0, .int .i64 0, .int .i64 0, .int .i64 0] 44)) ?_
            clear hK
            try simp only [Act.put, List.setIfInBounds_toArray, List.set_cons_zero, List.set_cons_succ, List.getElem_toArray, List.getElem_cons_zero, List.getElem_cons_succ]
            refine GoL.on (rs := [15]) (by kernel_rfl) (by decide) ?_
            refine OnL.cons rfl ?_ OnL.nil
            intro K hK
            replace hK := Lib.hid hK
            go_simp
            obtain ⟨U2, hU2, B1, B2, hbb⟩ := two_new U 44
            have hV2 := hbb _ _ hU hU.size
            have hVs := hU.size
            rw [← hU2]
            refine hK.out _ _ hV2 ?_
            clear hK
            clear hU2 hbb
            try simp only [Act.put, List.setIfInBounds_toArray, List.set_cons_zero, List.set_cons_succ, List.getElem_toArray, List.getElem_cons_zero, List.getElem_cons_succ]
            obtain ⟨c0, c1, c2, c3, c4, c5, c6⟩ := Ord.cells B1
            have hfr := (B1).free
            refine GoL.on (rs := [16]) (by kernel_rfl) (by decide) ?_
            refine OnL.cons rfl ?_ OnL.nil
            intro K hK
            replace hK := Lib.hid hK
            go_simp
            obtain ⟨U3, hU3, Bx3, hk3, hb3⟩ := lay_ord B1 x0 x1 x2 x3 x4 x5 x6
            have hV3 := hb3 V.heap.size V (by omega) hV2
            have By3 := hk3 _ _ _ (by omega) B2
            rw [← hU3]
            refine hK.out _ _ hV3 ?_
            clear hK
            clear hU3 hk3 hb3 c0 c1 c2 c3 c4 c5 c6 hfr B1 B2 hV2
            try simp only [Act.put, List.setIfInBounds_toArray, List.set_cons_zero, List.set_cons_succ, List.getElem_toArray, List.getElem_cons_zero, List.getElem_cons_succ]
            obtain ⟨c0, c1, c2, c3, c4, c5, c6⟩ := Ord.cells By3
            have hfr := By3.free
            refine GoL.on (rs := [17]) (by kernel_rfl) (by decide) ?_
            refine OnL.cons rfl ?_ OnL.nil
            intro K hK
            replace hK := Lib.hid hK
            go_simp
            obtain ⟨U4, hU4, By4, hk4, hb4⟩ := lay_ord By3 y0 y1 y2 y3 y4 y5 y6
            have hV4 := hb4 V.heap.size V (by omega) hV3
            have Bx4 := hk4 _ _ _ (by omega) Bx3
            rw [← hU4]
            refine hK.out _ _ hV4 ?_
            clear hK
            clear hU4 hk4 hb4 c0 c1 c2 c3 c4 c5 c6 hfr Bx3 By3 hV3
            try simp only [Act.put, List.setIfInBounds_toArray, List.set_cons_zero, List.set_cons_succ, List.getElem_toArray, List.getElem_cons_zero, List.getElem_cons_succ]
            refine GoL.done (by kernel_rfl) ?_
            refine NoPanic.normal ?_
            have hcc : Hid (∀ w, Below U4.heap.size U4 w → w.cell? ⟨U.heap.size, 0, none⟩ = some (.int .i64 x0) ∧ w.cell? ⟨U.heap.size, 2, none⟩ = some (.int .i64 x2) ∧ w.cell? ⟨U.heap.size, 3, none⟩ = some (.int .i64 x3) ∧ w.cell? ⟨U.heap.size, 4, none⟩ = some (.int .i64 x4) ∧ w.cell? ⟨(U.heap.size + 1), 0, none⟩ = some (.int .i64 y0) ∧ w.cell? ⟨(U.heap.size + 1), 2, none⟩ = some (.int .i64 y2) ∧ w.cell? ⟨(U.heap.size + 1), 3, none⟩ = some (.int .i64 y3) ∧ Below V.heap.size V w) := Lib.hid fun w h => by
              have hx := Bx4.below h Bx4.lt
              have hy := By4.below h By4.lt
              exact ⟨hx.cell_eq 0 _ rfl, hx.cell_eq 2 _ rfl, hx.cell_eq 3 _ rfl, hx.cell_eq 4 _ rfl, hy.cell_eq 0 _ rfl, hy.cell_eq 2 _ rfl, hy.cell_eq 3 _ rfl, hV4.trans (h.mono hV4.size)⟩
            have hPP : ∀ w, Below U4.heap.size U4 w → Prs w ao3 cap3 P := fun w h => hP3.below (hV4.trans (h.mono hV4.size))
            obtain ⟨u0, u2, u3, u4, v0, v2, v3, -⟩ := hcc.out U4 (Below.refl _ _)
            clear Bx4 By4 hU hVs hfac hget
            rcases key with (e1 | ⟨e1, rfl, e2 | ⟨e2, e3⟩⟩) | ⟨e1, rfl | ⟨rfl, e2, e3⟩, e4 | ⟨e4, e5⟩⟩
            · go_wp2_with (first
                | (go_at_call 17; refine (cQ' _).mono ?_; rintro e w8 ⟨rfl, hw8⟩; subst w8; clear cQ')
                | fail)
              go_roundg (n - (k + 1))
              case measure => omega
              case rel => exact ⟨k + 1, by omega, by go_num, hV4⟩
            · go_wp2_with (first
                | (go_at_call 17; refine (cQ' _).mono ?_; rintro e w8 ⟨rfl, hw8⟩; subst w8; clear cQ')
                | fail)
              go_roundg (n - (k + 1))
              case measure => omega
              case rel => exact ⟨k + 1, by omega, by go_num, hV4⟩
            · have g1 := of_decide_eq_true e3
              have g2 : k ≤ i := by omega
              have e6 : decide (k ≤ i) = true := decide_eq_true g2
              go_wp2_with (first
                | (go_at_call 17; refine (cQ' _).mono ?_; rintro e w8 ⟨rfl, hw8⟩; subst w8; clear cQ')
                | fail)
              go_roundg (n - (k + 1))
              case measure => omega
              case rel => exact ⟨k + 1, by omega, by go_num, hV4⟩
            · go_wp2_with (first
                | (go_at_call 17; refine (cQ' _).mono ?_; rintro e w8 ⟨rfl, hw8⟩; subst w8; clear cQ')
                | fail)
              clear u0 u2 u3 u4 v0 v2 v3
              refine GoL.start (S := fun _ w => Below U4.heap.size U4 w) (by kernel_rfl) (Below.refl _ _).drew ?_
              have hS : Below U4.heap.size U4 U4.drew := (Below.refl _ _).drew
              refine GoL.take (i := 0) (v := ?_) rfl rfl (by kernel_rfl) (fun _ _ _ h => h) (fun _ _ => Iff.rfl) (by rfl) ?_ ?_
              rotate_left
              · intro wx hwx
                have hwx := Wi.at' hwx
                go_simp
                all_goals first
                  | done
                  | with_reducible rfl
                  | assumption
                  | (simp_all; done)
              try simp only [Act.put, List.setIfInBounds_toArray, List.set_cons_zero, List.set_cons_succ, List.getElem_toArray, List.getElem_cons_zero, List.getElem_cons_succ]
              refine GoL.take (i := 1) (v := ?_) rfl rfl (by kernel_rfl) (fun _ _ _ h => h) (fun _ _ => Iff.rfl) (by rfl) ?_ ?_
              rotate_left
              · intro wx hwx
                have hwx := Wi.at' hwx
                go_simp
                all_goals first
                  | done
                  | with_reducible rfl
                  | assumption
                  | (simp_all; done)
              try simp only [Act.put, List.setIfInBounds_toArray, List.set_cons_zero, List.set_cons_succ, List.getElem_toArray, List.getElem_cons_zero, List.getElem_cons_succ]
              refine GoL.take (i := 2) (v := ?_) rfl rfl (by kernel_rfl) (fun _ _ _ h => h) (fun _ _ => Iff.rfl) (by rfl) ?_ ?_
              rotate_left
              · intro wx hwx
                have hwx := Wi.at' hwx
                obtain ⟨u0, u2, u3, u4, v0, v2, v3, hbe⟩ := hcc.out wx hwx
                go_simp
                all_goals first
                  | done
                  | with_reducible rfl
                  | assumption
                  | (simp_all; done)
              try simp only [Act.put, List.setIfInBounds_toArray, List.set_cons_zero, List.set_cons_succ, List.getElem_toArray, List.getElem_cons_zero, List.getElem_cons_succ]
              refine GoL.on (rs := [3]) (by kernel_rfl) (by decide) ?_
              refine OnL.cons rfl ?_ OnL.nil
              intro K hK
              replace hK := Lib.hid hK
              go_simp
              refine (cOy _ _ _ (hPP _ hS)).mono ?_
              rintro e w5 ⟨rfl, hbx⟩
              have hS := hS.trans (hbx.mono hS.size)
              clear hbx
              refine hK.out _ _ hS ?_
              clear hK
              try simp only [Act.put, List.setIfInBounds_toArray, List.set_cons_zero, List.set_cons_succ, List.getElem_toArray, List.getElem_cons_zero, List.getElem_cons_succ]
              refine GoL.take (i := 4) (v := (.bool false)) rfl rfl (by kernel_rfl) (fun _ _ _ h => h) (fun _ _ => Iff.rfl) (by rfl) ?_ ?_
              · intro wx hwx
                have hwx := Wi.at' hwx
                go_simp
                all_goals first
                  | done
                  | with_reducible rfl
                  | assumption
                  | (simp_all; done)
              try simp only [Act.put, List.setIfInBounds_toArray, List.set_cons_zero, List.set_cons_succ, List.getElem_toArray, List.getElem_cons_zero, List.getElem_cons_succ]
              refine GoL.take (i := 5) (v := (.bool false)) rfl rfl (by kernel_rfl) (fun _ _ _ h => h) (fun _ _ => Iff.rfl) (by rfl) ?_ ?_
              · intro wx hwx
                have hwx := Wi.at' hwx
                go_simp
                all_goals first
                  | done
                  | with_reducible rfl
                  | assumption
                  | (simp_all; done)
              try simp only [Act.put, List.setIfInBounds_toArray, List.set_cons_zero, List.set_cons_succ, List.getElem_toArray, List.getElem_cons_zero, List.getElem_cons_succ]
              refine GoL.skip (i := 6) rfl rfl (by kernel_rfl) (fun _ _ _ h => h) (fun _ _ => Iff.rfl) (by rfl) ?_
              try simp only [Act.put, List.setIfInBounds_toArray, List.set_cons_zero, List.set_cons_succ, List.getElem_toArray, List.getElem_cons_zero, List.getElem_cons_succ]
              refine GoL.skip (i := 7) rfl rfl (by kernel_rfl) (fun _ _ _ h => h) (fun _ _ => Iff.rfl) (by rfl) ?_
              try simp only [Act.put, List.setIfInBounds_toArray, List.set_cons_zero, List.set_cons_succ, List.getElem_toArray, List.getElem_cons_zero, List.getElem_cons_succ]
              refine GoL.skip (i := 8) rfl rfl (by kernel_rfl) (fun _ _ _ h => h) (fun _ _ => Iff.rfl) (by rfl) ?_
              try simp only [Act.put, List.setIfInBounds_toArray, List.set_cons_zero, List.set_cons_succ, List.getElem_toArray, List.getElem_cons_zero, List.getElem_cons_succ]
              refine GoL.skip (i := 9) rfl rfl (by kernel_rfl) (fun _ _ _ h => h) (fun _ _ => Iff.rfl) (by rfl) ?_
              try simp only [Act.put, List.setIfInBounds_toArray, List.set_cons_zero, List.set_cons_succ, List.getElem_toArray, List.getElem_cons_zero, List.getElem_cons_succ]
              refine GoL.skip (i := 10) rfl rfl (by kernel_rfl) (fun _ _ _ h => h) (fun _ _ => Iff.rfl) (by rfl) ?_
              try simp only [Act.put, List.setIfInBounds_toArray, List.set_cons_zero, List.set_cons_succ, List.getElem_toArray, List.getElem_cons_zero, List.getElem_cons_succ]
              refine GoL.skip (i := 11) rfl rfl (by kernel_rfl) (fun _ _ _ h => h) (fun _ _ => Iff.rfl) (by rfl) ?_
              try simp only [Act.put, List.setIfInBounds_toArray, List.set_cons_zero, List.set_cons_succ, List.getElem_toArray, List.getElem_cons_zero, List.getElem_cons_succ]
              refine GoL.skip (i := 12) rfl rfl (by kernel_rfl) (fun _ _ _ h => h) (fun _ _ => Iff.rfl) (by rfl) ?_
              try simp only [Act.put, List.setIfInBounds_toArray, List.set_cons_zero, List.set_cons_succ, List.getElem_toArray, List.getElem_cons_zero, List.getElem_cons_succ]
              refine GoL.take (i := 13) (v := (.bool false)) rfl rfl (by kernel_rfl) (fun _ _ _ h => h) (fun _ _ => Iff.rfl) (by rfl) ?_ ?_
              · intro wx hwx
                have hwx := Wi.at' hwx
                go_simp
                all_goals first
                  | done
                  | with_reducible rfl
                  | assumption
                  | (simp_all; done)
              try simp only [Act.put, List.setIfInBounds_toArray, List.set_cons_zero, List.set_cons_succ, List.getElem_toArray, List.getElem_cons_zero, List.getElem_cons_succ]
              refine GoL.done (by kernel_rfl) ?_
              refine NoPanic.normal ?_
              go_wp2_with fail
              go_roundg (n - (k + 1))
              case measure => omega
              case rel => exact ⟨k + 1, by omega, by go_num, hV4.trans (hS.mono hV4.size)⟩
            · go_wp2_with (first
                | (go_at_call 17; refine (cQ' _).mono ?_; rintro e w8 ⟨rfl, hw8⟩; subst w8; clear cQ')
                | fail)
              clear u0 u2 u3 u4 v0 v2 v3
              refine GoL.start (S := fun _ w => Below U4.heap.size U4 w) (by kernel_rfl) (Below.refl _ _).drew ?_
              have hS : Below U4.heap.size U4 U4.drew := (Below.refl _ _).drew
              refine GoL.take (i := 0) (v := ?_) rfl rfl (by kernel_rfl) (fun _ _ _ h => h) (fun _ _ => Iff.rfl) (by rfl) ?_ ?_
              rotate_left
              · intro wx hwx
                have hwx := Wi.at' hwx
                go_simp
                all_goals first
                  | done
                  | with_reducible rfl
                  | assumption
                  | (simp_all; done)
              try simp only [Act.put, List.setIfInBounds_toArray, List.set_cons_zero, List.set_cons_succ, List.getElem_toArray, List.getElem_cons_zero, List.getElem_cons_succ]
              refine GoL.take (i := 1) (v := ?_) rfl rfl (by kernel_rfl) (fun _ _ _ h => h) (fun _ _ => Iff.rfl) (by rfl) ?_ ?_
              rotate_left
              · intro wx hwx
                have hwx := Wi.at' hwx
                go_simp
                all_goals first
                  | done
                  | with_reducible rfl
                  | assumption
                  | (simp_all; done)
              try simp only [Act.put, List.setIfInBounds_toArray, List.set_cons_zero, List.set_cons_succ, List.getElem_toArray, List.getElem_cons_zero, List.getElem_cons_succ]
              refine GoL.take (i := 2) (v := ?_) rfl rfl (by kernel_rfl) (fun _ _ _ h => h) (fun _ _ => Iff.rfl) (by rfl) ?_ ?_
              rotate_left
              · intro wx hwx
                have hwx := Wi.at' hwx
                obtain ⟨u0, u2, u3, u4, v0, v2, v3, hbe⟩ := hcc.out wx hwx
                go_simp
                all_goals first
                  | done
                  | with_reducible rfl
                  | assumption
                  | (simp_all; done)
              try simp only [Act.put, List.setIfInBounds_toArray, List.set_cons_zero, List.set_cons_succ, List.getElem_toArray, List.getElem_cons_zero, List.getElem_cons_succ]
              refine GoL.on (rs := [3]) (by kernel_rfl) (by decide) ?_
              refine OnL.cons rfl ?_ OnL.nil
              intro K hK
              replace hK := Lib.hid hK
              go_simp
              refine (cOy _ _ _ (hPP _ hS)).mono ?_
              rintro e w5 ⟨rfl, hbx⟩
              have hS := hS.trans (hbx.mono hS.size)
              clear hbx
              refine hK.out _ _ hS ?_
              clear hK
              try simp only [Act.put, List.setIfInBounds_toArray, List.set_cons_zero, List.set_cons_succ, List.getElem_toArray, List.getElem_cons_zero, List.getElem_cons_succ]
              refine GoL.take (i := 4) (v := (.bool true)) rfl rfl (by kernel_rfl) (fun _ _ _ h => h) (fun _ _ => Iff.rfl) (by rfl) ?_ ?_
              · intro wx hwx
                have hwx := Wi.at' hwx
                go_simp
                all_goals first
                  | done
                  | with_reducible rfl
                  | assumption
                  | (simp_all; done)
              try simp only [Act.put, List.setIfInBounds_toArray, List.set_cons_zero, List.set_cons_succ, List.getElem_toArray, List.getElem_cons_zero, List.getElem_cons_succ]
              refine GoL.take (i := 5) (v := (.bool true)) rfl rfl (by kernel_rfl) (fun _ _ _ h => h) (fun _ _ => Iff.rfl) (by rfl) ?_ ?_
              · intro wx hwx
                have hwx := Wi.at' hwx
                go_simp
                all_goals first
                  | done
                  | with_reducible rfl
                  | assumption
                  | (simp_all; done)
              try simp only [Act.put, List.setIfInBounds_toArray, List.set_cons_zero, List.set_cons_succ, List.getElem_toArray, List.getElem_cons_zero, List.getElem_cons_succ]
              refine GoL.take (i := 6) (v := ?_) rfl rfl (by kernel_rfl) (fun _ _ _ h => h) (fun _ _ => Iff.rfl) (by rfl) ?_ ?_
              rotate_left
              · intro wx hwx
                have hwx := Wi.at' hwx
                go_simp
                all_goals first
                  | done
                  | with_reducible rfl
                  | assumption
                  | (simp_all; done)
              try simp only [Act.put, List.setIfInBounds_toArray, List.set_cons_zero, List.set_cons_succ, List.getElem_toArray, List.getElem_cons_zero, List.getElem_cons_succ]
              refine GoL.take (i := 7) (v := ?_) rfl rfl (by kernel_rfl) (fun _ _ _ h => h) (fun _ _ => Iff.rfl) (by rfl) ?_ ?_
              rotate_left
              · intro wx hwx
                have hwx := Wi.at' hwx
                go_simp
                all_goals first
                  | done
                  | with_reducible rfl
                  | assumption
                  | (simp_all; done)
              try simp only [Act.put, List.setIfInBounds_toArray, List.set_cons_zero, List.set_cons_succ, List.getElem_toArray, List.getElem_cons_zero, List.getElem_cons_succ]
              refine GoL.take (i := 8) (v := ?_) rfl rfl (by kernel_rfl) (fun _ _ _ h => h) (fun _ _ => Iff.rfl) (by rfl) ?_ ?_
              rotate_left
              · intro wx hwx
                have hwx := Wi.at' hwx
                obtain ⟨u0, u2, u3, u4, v0, v2, v3, hbe⟩ := hcc.out wx hwx
                go_simp
                all_goals first
                  | done
                  | with_reducible rfl
                  | assumption
                  | (simp_all; done)
              try simp only [Act.put, List.setIfInBounds_toArray, List.set_cons_zero, List.set_cons_succ, List.getElem_toArray, List.getElem_cons_zero, List.getElem_cons_succ]
              refine GoL.take (i := 10) (v := ?_) rfl rfl (by kernel_rfl) (fun _ _ _ h => h) (fun _ _ => Iff.rfl) (by rfl) ?_ ?_
              rotate_left
              · intro wx hwx
                have hwx := Wi.at' hwx
                go_simp
                all_goals first
                  | done
                  | with_reducible rfl
                  | assumption
                  | (simp_all; done)
              try simp only [Act.put, List.setIfInBounds_toArray, List.set_cons_zero, List.set_cons_succ, List.getElem_toArray, List.getElem_cons_zero, List.getElem_cons_succ]
              refine GoL.take (i := 11) (v := ?_) rfl rfl (by kernel_rfl) (fun _ _ _ h => h) (fun _ _ => Iff.rfl) (by rfl) ?_ ?_
              rotate_left
              · intro wx hwx
                have hwx := Wi.at' hwx
                obtain ⟨u0, u2, u3, u4, v0, v2, v3, hbe⟩ := hcc.out wx hwx
                go_simp
                all_goals first
                  | done
                  | with_reducible rfl
                  | assumption
                  | (simp_all; done)
              try simp only [Act.put, List.setIfInBounds_toArray, List.set_cons_zero, List.set_cons_succ, List.getElem_toArray, List.getElem_cons_zero, List.getElem_cons_succ]
              refine GoL.on (rs := [9]) (by kernel_rfl) (by decide) ?_
              refine OnL.cons rfl ?_ OnL.nil
              intro K hK
              replace hK := Lib.hid hK
              go_simp
              refine (cOx _ _ _ (hPP _ hS)).mono ?_
              rintro e w6 ⟨rfl, hbx⟩
              have hS := hS.trans (hbx.mono hS.size)
              clear hbx
              refine hK.out _ _ hS ?_
              clear hK
              try simp only [Act.put, List.setIfInBounds_toArray, List.set_cons_zero, List.set_cons_succ, List.getElem_toArray, List.getElem_cons_zero, List.getElem_cons_succ]
              refine GoL.take (i := 12) (v := (.bool false)) rfl rfl (by kernel_rfl) (fun _ _ _ h => h) (fun _ _ => Iff.rfl) (by rfl) ?_ ?_
              · intro wx hwx
                have hwx := Wi.at' hwx
                go_simp
                all_goals first
                  | done
                  | with_reducible rfl
                  | assumption
                  | (simp_all; done)
              try simp only [Act.put, List.setIfInBounds_toArray, List.set_cons_zero, List.set_cons_succ, List.getElem_toArray, List.getElem_cons_zero, List.getElem_cons_succ]
              refine GoL.take (i := 13) (v := (.bool false)) rfl rfl (by kernel_rfl) (fun _ _ _ h => h) (fun _ _ => Iff.rfl) (by rfl) ?_ ?_
              · intro wx hwx
                have hwx := Wi.at' hwx
                go_simp
                all_goals first
                  | done
                  | with_reducible rfl
                  | assumption
                  | (simp_all; done)
              try simp only [Act.put, List.setIfInBounds_toArray, List.set_cons_zero, List.set_cons_succ, List.getElem_toArray, List.getElem_cons_zero, List.getElem_cons_succ]
              refine GoL.done (by kernel_rfl) ?_
              refine NoPanic.normal ?_
              go_wp2_with fail
              go_roundg (n - (k + 1))
              case measure => omega
              case rel => exact ⟨k + 1, by omega, by go_num, hV4.trans (hS.mono hV4.size)⟩
            · have g1 := of_decide_eq_false e3
              have g2 : ¬ k ≤ i := by omega
              have e6 : decide (k ≤ i) = false := decide_eq_false g2
              have g3 : i < k := by omega
              go_wp2_with (first
                | (go_at_call 17; refine (cQ' _).mono ?_; rintro e w8 ⟨rfl, hw8⟩; subst w8; clear cQ')
                | fail)
              clear u0 u2 u3 u4 v0 v2 v3
              refine GoL.start (S := fun _ w => Below U4.heap.size U4 w) (by kernel_rfl) (Below.refl _ _).drew ?_
              have hS : Below U4.heap.size U4 U4.drew := (Below.refl _ _).drew
              refine GoL.take (i := 0) (v := ?_) rfl rfl (by kernel_rfl) (fun _ _ _ h => h) (fun _ _ => Iff.rfl) (by rfl) ?_ ?_
              rotate_left
              · intro wx hwx
                have hwx := Wi.at' hwx
                go_simp
                all_goals first
                  | done
                  | with_reducible rfl
                  | assumption
                  | (simp_all; done)
              try simp only [Act.put, List.setIfInBounds_toArray, List.set_cons_zero, List.set_cons_succ, List.getElem_toArray, List.getElem_cons_zero, List.getElem_cons_succ]
              refine GoL.take (i := 1) (v := ?_) rfl rfl (by kernel_rfl) (fun _ _ _ h => h) (fun _ _ => Iff.rfl) (by rfl) ?_ ?_
              rotate_left
              · intro wx hwx
                have hwx := Wi.at' hwx
                go_simp
                all_goals first
                  | done
                  | with_reducible rfl
                  | assumption
                  | (simp_all; done)
              try simp only [Act.put, List.setIfInBounds_toArray, List.set_cons_zero, List.set_cons_succ, List.getElem_toArray, List.getElem_cons_zero, List.getElem_cons_succ]
              refine GoL.take (i := 2) (v := ?_) rfl rfl (by kernel_rfl) (fun _ _ _ h => h) (fun _ _ => Iff.rfl) (by rfl) ?_ ?_
              rotate_left
              · intro wx hwx
                have hwx := Wi.at' hwx
                obtain ⟨u0, u2, u3, u4, v0, v2, v3, hbe⟩ := hcc.out wx hwx
                go_simp
                all_goals first
                  | done
                  | with_reducible rfl
                  | assumption
                  | (simp_all; done)
              try simp only [Act.put, List.setIfInBounds_toArray, List.set_cons_zero, List.set_cons_succ, List.getElem_toArray, List.getElem_cons_zero, List.getElem_cons_succ]
              refine GoL.on (rs := [3]) (by kernel_rfl) (by decide) ?_
              refine OnL.cons rfl ?_ OnL.nil
              intro K hK
              replace hK := Lib.hid hK
              go_simp
              refine (cOy _ _ _ (hPP _ hS)).mono ?_
              rintro e w5 ⟨rfl, hbx⟩
              have hS := hS.trans (hbx.mono hS.size)
              clear hbx
              refine hK.out _ _ hS ?_
              clear hK
              try simp only [Act.put, List.setIfInBounds_toArray, List.set_cons_zero, List.set_cons_succ, List.getElem_toArray, List.getElem_cons_zero, List.getElem_cons_succ]
              refine GoL.take (i := 4) (v := (.bool false)) rfl rfl (by kernel_rfl) (fun _ _ _ h => h) (fun _ _ => Iff.rfl) (by rfl) ?_ ?_
              · intro wx hwx
                have hwx := Wi.at' hwx
                go_simp
                all_goals first
                  | done
                  | with_reducible rfl
                  | assumption
                  | (simp_all; done)
              try simp only [Act.put, List.setIfInBounds_toArray, List.set_cons_zero, List.set_cons_succ, List.getElem_toArray, List.getElem_cons_zero, List.getElem_cons_succ]
              refine GoL.take (i := 5) (v := (.bool false)) rfl rfl (by kernel_rfl) (fun _ _ _ h => h) (fun _ _ => Iff.rfl) (by rfl) ?_ ?_
              · intro wx hwx
                have hwx := Wi.at' hwx
                go_simp
                all_goals first
                  | done
                  | with_reducible rfl
                  | assumption
                  | (simp_all; done)
              try simp only [Act.put, List.setIfInBounds_toArray, List.set_cons_zero, List.set_cons_succ, List.getElem_toArray, List.getElem_cons_zero, List.getElem_cons_succ]
              refine GoL.skip (i := 6) rfl rfl (by kernel_rfl) (fun _ _ _ h => h) (fun _ _ => Iff.rfl) (by rfl) ?_
              try simp only [Act.put, List.setIfInBounds_toArray, List.set_cons_zero, List.set_cons_succ, List.getElem_toArray, List.getElem_cons_zero, List.getElem_cons_succ]
              refine GoL.skip (i := 7) rfl rfl (by kernel_rfl) (fun _ _ _ h => h) (fun _ _ => Iff.rfl) (by rfl) ?_
              try simp only [Act.put, List.setIfInBounds_toArray, List.set_cons_zero, List.set_cons_succ, List.getElem_toArray, List.getElem_cons_zero, List.getElem_cons_succ]
              refine GoL.skip (i := 8) rfl rfl (by kernel_rfl) (fun _ _ _ h => h) (fun _ _ => Iff.rfl) (by rfl) ?_
              try simp only [Act.put, List.setIfInBounds_toArray, List.set_cons_zero, List.set_cons_succ, List.getElem_toArray, List.getElem_cons_zero, List.getElem_cons_succ]
              refine GoL.skip (i := 9) rfl rfl (by kernel_rfl) (fun _ _ _ h => h) (fun _ _ => Iff.rfl) (by rfl) ?_
              try simp only [Act.put, List.setIfInBounds_toArray, List.set_cons_zero, List.set_cons_succ, List.getElem_toArray, List.getElem_cons_zero, List.getElem_cons_succ]
              refine GoL.skip (i := 10) rfl rfl (by kernel_rfl) (fun _ _ _ h => h) (fun _ _ => Iff.rfl) (by rfl) ?_
              try simp only [Act.put, List.setIfInBounds_toArray, List.set_cons_zero, List.set_cons_succ, List.getElem_toArray, List.getElem_cons_zero, List.getElem_cons_succ]
              refine GoL.skip (i := 11) rfl rfl (by kernel_rfl) (fun _ _ _ h => h) (fun _ _ => Iff.rfl) (by rfl) ?_
              try simp only [Act.put, List.setIfInBounds_toArray, List.set_cons_zero, List.set_cons_succ, List.getElem_toArray, List.getElem_cons_zero, List.getElem_cons_succ]
              refine GoL.skip (i := 12) rfl rfl (by kernel_rfl) (fun _ _ _ h => h) (fun _ _ => Iff.rfl) (by rfl) ?_
              try simp only [Act.put, List.setIfInBounds_toArray, List.set_cons_zero, List.set_cons_succ, List.getElem_toArray, List.getElem_cons_zero, List.getElem_cons_succ]
              refine GoL.take (i := 13) (v := (.bool false)) rfl rfl (by kernel_rfl) (fun _ _ _ h => h) (fun _ _ => Iff.rfl) (by rfl) ?_ ?_
              · intro wx hwx
                have hwx := Wi.at' hwx
                go_simp
                all_goals first
                  | done
                  | with_reducible rfl
                  | assumption
                  | (simp_all; done)
              try simp only [Act.put, List.setIfInBounds_toArray, List.set_cons_zero, List.set_cons_succ, List.getElem_toArray, List.getElem_cons_zero, List.getElem_cons_succ]
              refine GoL.done (by kernel_rfl) ?_
              refine NoPanic.normal ?_
              go_wp2_with fail
              go_roundg (n - (k + 1))
              case measure => omega
              case rel => exact ⟨k + 1, by omega, by go_num, hV4.trans (hS.mono hV4.size)⟩
            · have g1 := of_decide_eq_false e3
              have g2 : ¬ k ≤ i := by omega
              have e6 : decide (k ≤ i) = false := decide_eq_false g2
              have g3 : i < k := by omega
              go_wp2_with (first
                | (go_at_call 17; refine (cQ' _).mono ?_; rintro e w8 ⟨rfl, hw8⟩; subst w8; clear cQ')
                | fail)
              clear u0 u2 u3 u4 v0 v2 v3
              refine GoL.start (S := fun _ w => Below U4.heap.size U4 w) (by kernel_rfl) (Below.refl _ _).drew ?_
              have hS : Below U4.heap.size U4 U4.drew := (Below.refl _ _).drew
              refine GoL.take (i := 0) (v := ?_) rfl rfl (by kernel_rfl) (fun _ _ _ h => h) (fun _ _ => Iff.rfl) (by rfl) ?_ ?_
              rotate_left
              · intro wx hwx
                have hwx := Wi.at' hwx
                go_simp
                all_goals first
                  | done
                  | with_reducible rfl
                  | assumption
                  | (simp_all; done)
              try simp only [Act.put, List.setIfInBounds_toArray, List.set_cons_zero, List.set_cons_succ, List.getElem_toArray, List.getElem_cons_zero, List.getElem_cons_succ]
              refine GoL.take (i := 1) (v := ?_) rfl rfl (by kernel_rfl) (fun _ _ _ h => h) (fun _ _ => Iff.rfl) (by rfl) ?_ ?_
              rotate_left
              · intro wx hwx
                have hwx := Wi.at' hwx
                go_simp
                all_goals first
                  | done
                  | with_reducible rfl
                  | assumption
                  | (simp_all; done)
              try simp only [Act.put, List.setIfInBounds_toArray, List.set_cons_zero, List.set_cons_succ, List.getElem_toArray, List.getElem_cons_zero, List.getElem_cons_succ]
              refine GoL.take (i := 2) (v := ?_) rfl rfl (by kernel_rfl) (fun _ _ _ h => h) (fun _ _ => Iff.rfl) (by rfl) ?_ ?_
              rotate_left
              · intro wx hwx
                have hwx := Wi.at' hwx
                obtain ⟨u0, u2, u3, u4, v0, v2, v3, hbe⟩ := hcc.out wx hwx
                go_simp
                all_goals first
                  | done
                  | with_reducible rfl
                  | assumption
                  | (simp_all; done)
              try simp only [Act.put, List.setIfInBounds_toArray, List.set_cons_zero, List.set_cons_succ, List.getElem_toArray, List.getElem_cons_zero, List.getElem_cons_succ]
              refine GoL.on (rs := [3]) (by kernel_rfl) (by decide) ?_
              refine OnL.cons rfl ?_ OnL.nil
              intro K hK
              replace hK := Lib.hid hK
              go_simp
              refine (cOy _ _ _ (hPP _ hS)).mono ?_
              rintro e w5 ⟨rfl, hbx⟩
              have hS := hS.trans (hbx.mono hS.size)
              clear hbx
              refine hK.out _ _ hS ?_
              clear hK
              try simp only [Act.put, List.setIfInBounds_toArray, List.set_cons_zero, List.set_cons_succ, List.getElem_toArray, List.getElem_cons_zero, List.getElem_cons_succ]
              refine GoL.take (i := 4) (v := (.bool true)) rfl rfl (by kernel_rfl) (fun _ _ _ h => h) (fun _ _ => Iff.rfl) (by rfl) ?_ ?_
              · intro wx hwx
                have hwx := Wi.at' hwx
                go_simp
                all_goals first
                  | done
                  | with_reducible rfl
                  | assumption
                  | (simp_all; done)
              try simp only [Act.put, List.setIfInBounds_toArray, List.set_cons_zero, List.set_cons_succ, List.getElem_toArray, List.getElem_cons_zero, List.getElem_cons_succ]
              refine GoL.take (i := 5) (v := (.bool true)) rfl rfl (by kernel_rfl) (fun _ _ _ h => h) (fun _ _ => Iff.rfl) (by rfl) ?_ ?_
              · intro wx hwx
                have hwx := Wi.at' hwx
                go_simp
                all_goals first
                  | done
                  | with_reducible rfl
                  | assumption
                  | (simp_all; done)
              try simp only [Act.put, List.setIfInBounds_toArray, List.set_cons_zero, List.set_cons_succ, List.getElem_toArray, List.getElem_cons_zero, List.getElem_cons_succ]
              refine GoL.take (i := 6) (v := ?_) rfl rfl (by kernel_rfl) (fun _ _ _ h => h) (fun _ _ => Iff.rfl) (by rfl) ?_ ?_
              rotate_left
              · intro wx hwx
                have hwx := Wi.at' hwx
                go_simp
                all_goals first
                  | done
                  | with_reducible rfl
                  | assumption
                  | (simp_all; done)
              try simp only [Act.put, List.setIfInBounds_toArray, List.set_cons_zero, List.set_cons_succ, List.getElem_toArray, List.getElem_cons_zero, List.getElem_cons_succ]
              refine GoL.take (i := 7) (v := ?_) rfl rfl (by kernel_rfl) (fun _ _ _ h => h) (fun _ _ => Iff.rfl) (by rfl) ?_ ?_
              rotate_left
              · intro wx hwx
                have hwx := Wi.at' hwx
                go_simp
                all_goals first
                  | done
                  | with_reducible rfl
                  | assumption
                  | (simp_all; done)
              try simp only [Act.put, List.setIfInBounds_toArray, List.set_cons_zero, List.set_cons_succ, List.getElem_toArray, List.getElem_cons_zero, List.getElem_cons_succ]
              refine GoL.take (i := 8) (v := ?_) rfl rfl (by kernel_rfl) (fun _ _ _ h => h) (fun _ _ => Iff.rfl) (by rfl) ?_ ?_
              rotate_left
              · intro wx hwx
                have hwx := Wi.at' hwx
                obtain ⟨u0, u2, u3, u4, v0, v2, v3, hbe⟩ := hcc.out wx hwx
                go_simp
                all_goals first
                  | done
                  | with_reducible rfl
                  | assumption
                  | (simp_all; done)
              try simp only [Act.put, List.setIfInBounds_toArray, List.set_cons_zero, List.set_cons_succ, List.getElem_toArray, List.getElem_cons_zero, List.getElem_cons_succ]
              refine GoL.take (i := 10) (v := ?_) rfl rfl (by kernel_rfl) (fun _ _ _ h => h) (fun _ _ => Iff.rfl) (by rfl) ?_ ?_
              rotate_left
              · intro wx hwx
                have hwx := Wi.at' hwx
                go_simp
                all_goals first
                  | done
                  | with_reducible rfl
                  | assumption
                  | (simp_all; done)
              try simp only [Act.put, List.setIfInBounds_toArray, List.set_cons_zero, List.set_cons_succ, List.getElem_toArray, List.getElem_cons_zero, List.getElem_cons_succ]
              refine GoL.take (i := 11) (v := ?_) rfl rfl (by kernel_rfl) (fun _ _ _ h => h) (fun _ _ => Iff.rfl) (by rfl) ?_ ?_
              rotate_left
              · intro wx hwx
                have hwx := Wi.at' hwx
                obtain ⟨u0, u2, u3, u4, v0, v2, v3, hbe⟩ := hcc.out wx hwx
                go_simp
                all_goals first
                  | done
                  | with_reducible rfl
                  | assumption
                  | (simp_all; done)
              try simp only [Act.put, List.setIfInBounds_toArray, List.set_cons_zero, List.set_cons_succ, List.getElem_toArray, List.getElem_cons_zero, List.getElem_cons_succ]
              refine GoL.on (rs := [9]) (by kernel_rfl) (by decide) ?_
              refine OnL.cons rfl ?_ OnL.nil
              intro K hK
              replace hK := Lib.hid hK
              go_simp
              refine (cOx _ _ _ (hPP _ hS)).mono ?_
              rintro e w6 ⟨rfl, hbx⟩
              have hS := hS.trans (hbx.mono hS.size)
              clear hbx
              refine hK.out _ _ hS ?_
              clear hK
              try simp only [Act.put, List.setIfInBounds_toArray, List.set_cons_zero, List.set_cons_succ, List.getElem_toArray, List.getElem_cons_zero, List.getElem_cons_succ]
              refine GoL.take (i := 12) (v := (.bool false)) rfl rfl (by kernel_rfl) (fun _ _ _ h => h) (fun _ _ => Iff.rfl) (by rfl) ?_ ?_
              · intro wx hwx
                have hwx := Wi.at' hwx
                go_simp
                all_goals first
                  | done
                  | with_reducible rfl
                  | assumption
                  | (simp_all; done)
              try simp only [Act.put, List.setIfInBounds_toArray, List.set_cons_zero, List.set_cons_succ, List.getElem_toArray, List.getElem_cons_zero, List.getElem_cons_succ]
              refine GoL.take (i := 13) (v := (.bool false)) rfl rfl (by kernel_rfl) (fun _ _ _ h => h) (fun _ _ => Iff.rfl) (by rfl) ?_ ?_
              · intro wx hwx
                have hwx := Wi.at' hwx
                go_simp
                all_goals first
                  | done
                  | with_reducible rfl
                  | assumption
                  | (simp_all; done)
              try simp only [Act.put, List.setIfInBounds_toArray, List.set_cons_zero, List.set_cons_succ, List.getElem_toArray, List.getElem_cons_zero, List.getElem_cons_succ]
              refine GoL.done (by kernel_rfl) ?_
              refine NoPanic.normal ?_
              go_wp2_with fail
              go_roundg (n - (k + 1))
              case measure => omega
              case rel => exact ⟨k + 1, by omega, by go_num, hV4.trans (hS.mono hV4.size)⟩
          · intro K hK
            replace hK := Lib.hid hK
            go_simp
            refine hK.out _ _ (hU.alloc hU.size (.cells #[.int .i64 0, .int .i64 0, .int .i64 0, .int .i64 0, .int .i64 0, .int .i64 0, .int .i64 0] 44)) ?_
            clear hK
            try simp only [Act.put, List.setIfInBounds_toArray, List.set_cons_zero, List.set_cons_succ, List.getElem_toArray, List.getElem_cons_zero, List.getElem_cons_succ]
            refine GoL.on (rs := [14]) (by kernel_rfl) (by decide) ?_
            refine OnL.cons rfl ?_ OnL.nil
            intro K hK
            replace hK := Lib.hid hK
            go_simp
            obtain ⟨U2, hU2, B1, B2, hbb⟩ := two_new U 44
            have hV2 := hbb _ _ hU hU.size
            have hVs := hU.size
            rw [← hU2]
            refine hK.out _ _ hV2 ?_
            clear hK
            clear hU2 hbb
            try simp only [Act.put, List.setIfInBounds_toArray, List.set_cons_zero, List.set_cons_succ, List.getElem_toArray, List.getElem_cons_zero, List.getElem_cons_succ]
            obtain ⟨c0, c1, c2, c3, c4, c5, c6⟩ := Ord.cells B2
            have hfr := (B2).free
            refine GoL.on (rs := [16]) (by kernel_rfl) (by decide) ?_
            refine OnL.cons rfl ?_ OnL.nil
            intro K hK
            replace hK := Lib.hid hK
            go_simp
            obtain ⟨U3, hU3, Bx3, hk3, hb3⟩ := lay_ord B2 x0 x1 x2 x3 x4 x5 x6
            have hV3 := hb3 V.heap.size V (by omega) hV2
            have By3 := hk3 _ _ _ (by omega) B1
            rw [← hU3]
            refine hK.out _ _ hV3 ?_
            clear hK
            clear hU3 hk3 hb3 c0 c1 c2 c3 c4 c5 c6 hfr B1 B2 hV2
            try simp only [Act.put, List.setIfInBounds_toArray, List.set_cons_zero, List.set_cons_succ, List.getElem_toArray, List.getElem_cons_zero, List.getElem_cons_succ]
            obtain ⟨c0, c1, c2, c3, c4, c5, c6⟩ := Ord.cells By3
            have hfr := By3.free
            refine GoL.on (rs := [17]) (by kernel_rfl) (by decide) ?_
            refine OnL.cons rfl ?_ OnL.nil
            intro K hK
            replace hK := Lib.hid hK
            go_simp
            obtain ⟨U4, hU4, By4, hk4, hb4⟩ := lay_ord By3 y0 y1 y2 y3 y4 y5 y6
            have hV4 := hb4 V.heap.size V (by omega) hV3
            have Bx4 := hk4 _ _ _ (by omega) Bx3
            rw [← hU4]
            refine hK.out _ _ hV4 ?_
            clear hK
            clear hU4 hk4 hb4 c0 c1 c2 c3 c4 c5 c6 hfr Bx3 By3 hV3
            try simp only [Act.put, List.setIfInBounds_toArray, List.set_cons_zero, List.set_cons_succ, List.getElem_toArray, List.getElem_cons_zero, List.getElem_cons_succ]
            refine GoL.done (by kernel_rfl) ?_
            refine NoPanic.normal ?_
            have hcc : Hid (∀ w, Below U4.heap.size U4 w → w.cell? ⟨(U.heap.size + 1), 0, none⟩ = some (.int .i64 x0) ∧ w.cell? ⟨(U.heap.size + 1), 2, none⟩ = some (.int .i64 x2) ∧ w.cell? ⟨(U.heap.size + 1), 3, none⟩ = some (.int .i64 x3) ∧ w.cell? ⟨(U.heap.size + 1), 4, none⟩ = some (.int .i64 x4) ∧ w.cell? ⟨U.heap.size, 0, none⟩ = some (.int .i64 y0) ∧ w.cell? ⟨U.heap.size, 2, none⟩ = some (.int .i64 y2) ∧ w.cell? ⟨U.heap.size, 3, none⟩ = some (.int .i64 y3) ∧ Below V.heap.size V w) := Lib.hid fun w h => by
              have hx := Bx4.below h Bx4.lt
              have hy := By4.below h By4.lt
              exact ⟨hx.cell_eq 0 _ rfl, hx.cell_eq 2 _ rfl, hx.cell_eq 3 _ rfl, hx.cell_eq 4 _ rfl, hy.cell_eq 0 _ rfl, hy.cell_eq 2 _ rfl, hy.cell_eq 3 _ rfl, hV4.trans (h.mono hV4.size)⟩
            have hPP : ∀ w, Below U4.heap.size U4 w → Prs w ao3 cap3 P := fun w h => hP3.below (hV4.trans (h.mono hV4.size))
            obtain ⟨u0, u2, u3, u4, v0, v2, v3, -⟩ := hcc.out U4 (Below.refl _ _)
            clear Bx4 By4 hU hVs hfac hget
            rcases key with (e1 | ⟨e1, rfl, e2 | ⟨e2, e3⟩⟩) | ⟨e1, rfl | ⟨rfl, e2, e3⟩, e4 | ⟨e4, e5⟩⟩
            · go_wp2_with (first
                | (go_at_call 17; refine (cQ' _).mono ?_; rintro e w8 ⟨rfl, hw8⟩; subst w8; clear cQ')
                | fail)
              go_roundg (n - (k + 1))
              case measure => omega
              case rel => exact ⟨k + 1, by omega, by go_num, hV4⟩
            · go_wp2_with (first
                | (go_at_call 17; refine (cQ' _).mono ?_; rintro e w8 ⟨rfl, hw8⟩; subst w8; clear cQ')
                | fail)
              go_roundg (n - (k + 1))
              case measure => omega
              case rel => exact ⟨k + 1, by omega, by go_num, hV4⟩
            · have g1 := of_decide_eq_true e3
              have g2 : k ≤ i := by omega
              have e6 : decide (k ≤ i) = true := decide_eq_true g2
              go_wp2_with (first
                | (go_at_call 17; refine (cQ' _).mono ?_; rintro e w8 ⟨rfl, hw8⟩; subst w8; clear cQ')
                | fail)
              go_roundg (n - (k + 1))
              case measure => omega
              case rel => exact ⟨k + 1, by omega, by go_num, hV4⟩
            · go_wp2_with (first
                | (go_at_call 17; refine (cQ' _).mono ?_; rintro e w8 ⟨rfl, hw8⟩; subst w8; clear cQ')
                | fail)
              clear u0 u2 u3 u4 v0 v2 v3
              refine GoL.start (S := fun _ w => Below U4.heap.size U4 w) (by kernel_rfl) (Below.refl _ _).drew ?_
              have hS : Below U4.heap.size U4 U4.drew := (Below.refl _ _).drew
              refine GoL.take (i := 0) (v := ?_) rfl rfl (by kernel_rfl) (fun _ _ _ h => h) (fun _ _ => Iff.rfl) (by rfl) ?_ ?_
              rotate_left
              · intro wx hwx
                have hwx := Wi.at' hwx
                go_simp
                all_goals first
                  | done
                  | with_reducible rfl
                  | assumption
                  | (simp_all; done)
              try simp only [Act.put, List.setIfInBounds_toArray, List.set_cons_zero, List.set_cons_succ, List.getElem_toArray, List.getElem_cons_zero, List.getElem_cons_succ]
              refine GoL.take (i := 1) (v := ?_) rfl rfl (by kernel_rfl) (fun _ _ _ h => h) (fun _ _ => Iff.rfl) (by rfl) ?_ ?_
              rotate_left
              · intro wx hwx
                have hwx := Wi.at' hwx
                go_simp
                all_goals first
                  | done
                  | with_reducible rfl
                  | assumption
                  | (simp_all; done)
              try simp only [Act.put, List.setIfInBounds_toArray, List.set_cons_zero, List.set_cons_succ, List.getElem_toArray, List.getElem_cons_zero, List.getElem_cons_succ]
              refine GoL.take (i := 2) (v := ?_) rfl rfl (by kernel_rfl) (fun _ _ _ h => h) (fun _ _ => Iff.rfl) (by rfl) ?_ ?_
              rotate_left
              · intro wx hwx
                have hwx := Wi.at' hwx
                obtain ⟨u0, u2, u3, u4, v0, v2, v3, hbe⟩ := hcc.out wx hwx
                go_simp
                all_goals first
                  | done
                  | with_reducible rfl
                  | assumption
                  | (simp_all; done)
              try simp only [Act.put, List.setIfInBounds_toArray, List.set_cons_zero, List.set_cons_succ, List.getElem_toArray, List.getElem_cons_zero, List.getElem_cons_succ]
              refine GoL.on (rs := [3]) (by kernel_rfl) (by decide) ?_
              refine OnL.cons rfl ?_ OnL.nil
              intro K hK
              replace hK := Lib.hid hK
              go_simp
              refine (cOy _ _ _ (hPP _ hS)).mono ?_
              rintro e w5 ⟨rfl, hbx⟩
              have hS := hS.trans (hbx.mono hS.size)
              clear hbx
              refine hK.out _ _ hS ?_
              clear hK
              try simp only [Act.put, List.setIfInBounds_toArray, List.set_cons_zero, List.set_cons_succ, List.getElem_toArray, List.getElem_cons_zero, List.getElem_cons_succ]
              refine GoL.take (i := 4) (v := (.bool false)) rfl rfl (by kernel_rfl) (fun _ _ _ h => h) (fun _ _ => Iff.rfl) (by rfl) ?_ ?_
              · intro wx hwx
                have hwx := Wi.at' hwx
                go_simp
                all_goals first
                  | done
                  | with_reducible rfl
                  | assumption
                  | (simp_all; done)
              try simp only [Act.put, List.setIfInBounds_toArray, List.set_cons_zero, List.set_cons_succ, List.getElem_toArray, List.getElem_cons_zero, List.getElem_cons_succ]
              refine GoL.take (i := 5) (v := (.bool false)) rfl rfl (by kernel_rfl) (fun _ _ _ h => h) (fun _ _ => Iff.rfl) (by rfl) ?_ ?_
              · intro wx hwx
                have hwx := Wi.at' hwx
                go_simp
                all_goals first
                  | done
                  | with_reducible rfl
                  | assumption
                  | (simp_all; done)
              try simp only [Act.put, List.setIfInBounds_toArray, List.set_cons_zero, List.set_cons_succ, List.getElem_toArray, List.getElem_cons_zero, List.getElem_cons_succ]
              refine GoL.skip (i := 6) rfl rfl (by kernel_rfl) (fun _ _ _ h => h) (fun _ _ => Iff.rfl) (by rfl) ?_
              try simp only [Act.put, List.setIfInBounds_toArray, List.set_cons_zero, List.set_cons_succ, List.getElem_toArray, List.getElem_cons_zero, List.getElem_cons_succ]
              refine GoL.skip (i := 7) rfl rfl (by kernel_rfl) (fun _ _ _ h => h) (fun _ _ => Iff.rfl) (by rfl) ?_
              try simp only [Act.put, List.setIfInBounds_toArray, List.set_cons_zero, List.set_cons_succ, List.getElem_toArray, List.getElem_cons_zero, List.getElem_cons_succ]
              refine GoL.skip (i := 8) rfl rfl (by kernel_rfl) (fun _ _ _ h => h) (fun _ _ => Iff.rfl) (by rfl) ?_
              try simp only [Act.put, List.setIfInBounds_toArray, List.set_cons_zero, List.set_cons_succ, List.getElem_toArray, List.getElem_cons_zero, List.getElem_cons_succ]
              refine GoL.skip (i := 9) rfl rfl (by kernel_rfl) (fun _ _ _ h => h) (fun _ _ => Iff.rfl) (by rfl) ?_
              try simp only [Act.put, List.setIfInBounds_toArray, List.set_cons_zero, List.set_cons_succ, List.getElem_toArray, List.getElem_cons_zero, List.getElem_cons_succ]
              refine GoL.skip (i := 10) rfl rfl (by kernel_rfl) (fun _ _ _ h => h) (fun _ _ => Iff.rfl) (by rfl) ?_
              try simp only [Act.put, List.setIfInBounds_toArray, List.set_cons_zero, List.set_cons_succ, List.getElem_toArray, List.getElem_cons_zero, List.getElem_cons_succ]
              refine GoL.skip (i := 11) rfl rfl (by kernel_rfl) (fun _ _ _ h => h) (fun _ _ => Iff.rfl) (by rfl) ?_
              try simp only [Act.put, List.setIfInBounds_toArray, List.set_cons_zero, List.set_cons_succ, List.getElem_toArray, List.getElem_cons_zero, List.getElem_cons_succ]
              refine GoL.skip (i := 12) rfl rfl (by kernel_rfl) (fun _ _ _ h => h) (fun _ _ => Iff.rfl) (by rfl) ?_
              try simp only [Act.put, List.setIfInBounds_toArray, List.set_cons_zero, List.set_cons_succ, List.getElem_toArray, List.getElem_cons_zero, List.getElem_cons_succ]
              refine GoL.take (i := 13) (v := (.bool false)) rfl rfl (by kernel_rfl) (fun _ _ _ h => h) (fun _ _ => Iff.rfl) (by rfl) ?_ ?_
              · intro wx hwx
                have hwx := Wi.at' hwx
                go_simp
                all_goals first
                  | done
                  | with_reducible rfl
                  | assumption
                  | (simp_all; done)
              try simp only [Act.put, List.setIfInBounds_toArray, List.set_cons_zero, List.set_cons_succ, List.getElem_toArray, List.getElem_cons_zero, List.getElem_cons_succ]
              refine GoL.done (by kernel_rfl) ?_
              refine NoPanic.normal ?_
              go_wp2_with fail
              go_roundg (n - (k + 1))
              case measure => omega
              case rel => exact ⟨k + 1, by omega, by go_num, hV4.trans (hS.mono hV4.size)⟩
            · go_wp2_with (first
                | (go_at_call 17; refine (cQ' _).mono ?_; rintro e w8 ⟨rfl, hw8⟩; subst w8; clear cQ')
                | fail)
              clear u0 u2 u3 u4 v0 v2 v3
              refine GoL.start (S := fun _ w => Below U4.heap.size U4 w) (by kernel_rfl) (Below.refl _ _).drew ?_
              have hS : Below U4.heap.size U4 U4.drew := (Below.refl _ _).drew
              refine GoL.take (i := 0) (v := ?_) rfl rfl (by kernel_rfl) (fun _ _ _ h => h) (fun _ _ => Iff.rfl) (by rfl) ?_ ?_
              rotate_left
              · intro wx hwx
                have hwx := Wi.at' hwx
                go_simp
                all_goals first
                  | done
                  | with_reducible rfl
                  | assumption
                  | (simp_all; done)
              try simp only [Act.put, List.setIfInBounds_toArray, List.set_cons_zero, List.set_cons_succ, List.getElem_toArray, List.getElem_cons_zero, List.getElem_cons_succ]
              refine GoL.take (i := 1) (v := ?_) rfl rfl (by kernel_rfl) (fun _ _ _ h => h) (fun _ _ => Iff.rfl) (by rfl) ?_ ?_
              rotate_left
              · intro wx hwx
                have hwx := Wi.at' hwx
                go_simp
                all_goals first
                  | done
                  | with_reducible rfl
                  | assumption
                  | (simp_all; done)
              try simp only [Act.put, List.setIfInBounds_toArray, List.set_cons_zero, List.set_cons_succ, List.getElem_toArray, List.getElem_cons_zero, List.getElem_cons_succ]
              refine GoL.take (i := 2) (v := ?_) rfl rfl (by kernel_rfl) (fun _ _ _ h => h) (fun _ _ => Iff.rfl) (by rfl) ?_ ?_
              rotate_left
              · intro wx hwx
                have hwx := Wi.at' hwx
                obtain ⟨u0, u2, u3, u4, v0, v2, v3, hbe⟩ := hcc.out wx hwx
                go_simp
                all_goals first
                  | done
                  | with_reducible rfl
                  | assumption
                  | (simp_all; done)
              try simp only [Act.put, List.setIfInBounds_toArray, List.set_cons_zero, List.set_cons_succ, List.getElem_toArray, List.getElem_cons_zero, List.getElem_cons_succ]
              refine GoL.on (rs := [3]) (by kernel_rfl) (by decide) ?_
              refine OnL.cons rfl ?_ OnL.nil
              intro K hK
              replace hK := Lib.hid hK
              go_simp
              refine (cOy _ _ _ (hPP _ hS)).mono ?_
              rintro e w5 ⟨rfl, hbx⟩
              have hS := hS.trans (hbx.mono hS.size)
              clear hbx
              refine hK.out _ _ hS ?_
              clear hK
              try simp only [Act.put, List.setIfInBounds_toArray, List.set_cons_zero, List.set_cons_succ, List.getElem_toArray, List.getElem_cons_zero, List.getElem_cons_succ]
              refine GoL.take (i := 4) (v := (.bool true)) rfl rfl (by kernel_rfl) (fun _ _ _ h => h) (fun _ _ => Iff.rfl) (by rfl) ?_ ?_
              · intro wx hwx
                have hwx := Wi.at' hwx
                go_simp
                all_goals first
                  | done
                  | with_reducible rfl
                  | assumption
                  | (simp_all; done)
              try simp only [Act.put, List.setIfInBounds_toArray, List.set_cons_zero, List.set_cons_succ, List.getElem_toArray, List.getElem_cons_zero, List.getElem_cons_succ]
              refine GoL.take (i := 5) (v := (.bool true)) rfl rfl (by kernel_rfl) (fun _ _ _ h => h) (fun _ _ => Iff.rfl) (by rfl) ?_ ?_
              · intro wx hwx
                have hwx := Wi.at' hwx
                go_simp
                all_goals first
                  | done
                  | with_reducible rfl
                  | assumption
                  | (simp_all; done)
              try simp only [Act.put, List.setIfInBounds_toArray, List.set_cons_zero, List.set_cons_succ, List.getElem_toArray, List.getElem_cons_zero, List.getElem_cons_succ]
              refine GoL.take (i := 6) (v := ?_) rfl rfl (by kernel_rfl) (fun _ _ _ h => h) (fun _ _ => Iff.rfl) (by rfl) ?_ ?_
              rotate_left
              · intro wx hwx
                have hwx := Wi.at' hwx
                go_simp
                all_goals first
                  | done
                  | with_reducible rfl
                  | assumption
                  | (simp_all; done)
              try simp only [Act.put, List.setIfInBounds_toArray, List.set_cons_zero, List.set_cons_succ, List.getElem_toArray, List.getElem_cons_zero, List.getElem_cons_succ]
              refine GoL.take (i := 7) (v := ?_) rfl rfl (by kernel_rfl) (fun _ _ _ h => h) (fun _ _ => Iff.rfl) (by rfl) ?_ ?_
              rotate_left
              · intro wx hwx
                have hwx := Wi.at' hwx
                go_simp
                all_goals first
                  | done
                  | with_reducible rfl
                  | assumption
                  | (simp_all; done)
              try simp only [Act.put, List.setIfInBounds_toArray, List.set_cons_zero, List.set_cons_succ, List.getElem_toArray, List.getElem_cons_zero, List.getElem_cons_succ]
              refine GoL.take (i := 8) (v := ?_) rfl rfl (by kernel_rfl) (fun _ _ _ h => h) (fun _ _ => Iff.rfl) (by rfl) ?_ ?_
              rotate_left
              · intro wx hwx
                have hwx := Wi.at' hwx
                obtain ⟨u0, u2, u3, u4, v0, v2, v3, hbe⟩ := hcc.out wx hwx
                go_simp
                all_goals first
                  | done
                  | with_reducible rfl
                  | assumption
                  | (simp_all; done)
              try simp only [Act.put, List.setIfInBounds_toArray, List.set_cons_zero, List.set_cons_succ, List.getElem_toArray, List.getElem_cons_zero, List.getElem_cons_succ]
              refine GoL.take (i := 10) (v := ?_) rfl rfl (by kernel_rfl) (fun _ _ _ h => h) (fun _ _ => Iff.rfl) (by rfl) ?_ ?_
              rotate_left
              · intro wx hwx
                have hwx := Wi.at' hwx
                go_simp
                all_goals first
                  | done
                  | with_reducible rfl
                  | assumption
                  | (simp_all; done)
              try simp only [Act.put, List.setIfInBounds_toArray, List.set_cons_zero, List.set_cons_succ, List.getElem_toArray, List.getElem_cons_zero, List.getElem_cons_succ]
              refine GoL.take (i := 11) (v := ?_) rfl rfl (by kernel_rfl) (fun _ _ _ h => h) (fun _ _ => Iff.rfl) (by rfl) ?_ ?_
              rotate_left
              · intro wx hwx
                have hwx := Wi.at' hwx
                obtain ⟨u0, u2, u3, u4, v0, v2, v3, hbe⟩ := hcc.out wx hwx
                go_simp
                all_goals first
                  | done
                  | with_reducible rfl
                  | assumption
                  | (simp_all; done)
              try simp only [Act.put, List.setIfInBounds_toArray, List.set_cons_zero, List.set_cons_succ, List.getElem_toArray, List.getElem_cons_zero, List.getElem_cons_succ]
              refine GoL.on (rs := [9]) (by kernel_rfl) (by decide) ?_
              refine OnL.cons rfl ?_ OnL.nil
              intro K hK
              replace hK := Lib.hid hK
              go_simp
              refine (cOx _ _ _ (hPP _ hS)).mono ?_
              rintro e w6 ⟨rfl, hbx⟩
              have hS := hS.trans (hbx.mono hS.size)
              clear hbx
              refine hK.out _ _ hS ?_
              clear hK
              try simp only [Act.put, List.setIfInBounds_toArray, List.set_cons_zero, List.set_cons_succ, List.getElem_toArray, List.getElem_cons_zero, List.getElem_cons_succ]
              refine GoL.take (i := 12) (v := (.bool false)) rfl rfl (by kernel_rfl) (fun _ _ _ h => h) (fun _ _ => Iff.rfl) (by rfl) ?_ ?_
              · intro wx hwx
                have hwx := Wi.at' hwx
                go_simp
                all_goals first
                  | done
                  | with_reducible rfl
                  | assumption
                  | (simp_all; done)
              try simp only [Act.put, List.setIfInBounds_toArray, List.set_cons_zero, List.set_cons_succ, List.getElem_toArray, List.getElem_cons_zero, List.getElem_cons_succ]
              refine GoL.take (i := 13) (v := (.bool false)) rfl rfl (by kernel_rfl) (fun _ _ _ h => h) (fun _ _ => Iff.rfl) (by rfl) ?_ ?_
              · intro wx hwx
                have hwx := Wi.at' hwx
                go_simp
                all_goals first
                  | done
                  | with_reducible rfl
                  | assumption
                  | (simp_all; done)
              try simp only [Act.put, List.setIfInBounds_toArray, List.set_cons_zero, List.set_cons_succ, List.getElem_toArray, List.getElem_cons_zero, List.getElem_cons_succ]
              refine GoL.done (by kernel_rfl) ?_
              refine NoPanic.normal ?_
              go_wp2_with fail
              go_roundg (n - (k + 1))
              case measure => omega
              case rel => exact ⟨k + 1, by omega, by go_num, hV4.trans (hS.mono hV4.size)⟩
            · have g1 := of_decide_eq_false e3
              have g2 : ¬ k ≤ i := by omega
              have e6 : decide (k ≤ i) = false := decide_eq_false g2
              have g3 : i < k := by omega
              go_wp2_with (first
                | (go_at_call 17; refine (cQ' _).mono ?_; rintro e w8 ⟨rfl, hw8⟩; subst w8; clear cQ')
                | fail)
              clear u0 u2 u3 u4 v0 v2 v3
              refine GoL.start (S := fun _ w => Below U4.heap.size U4 w) (by kernel_rfl) (Below.refl _ _).drew ?_
              have hS : Below U4.heap.size U4 U4.drew := (Below.refl _ _).drew
              refine GoL.take (i := 0) (v := ?_) rfl rfl (by kernel_rfl) (fun _ _ _ h => h) (fun _ _ => Iff.rfl) (by rfl) ?_ ?_
              rotate_left
              · intro wx hwx
                have hwx := Wi.at' hwx
                go_simp
                all_goals first
                  | done
                  | with_reducible rfl
                  | assumption
                  | (simp_all; done)
              try simp only [Act.put, List.setIfInBounds_toArray, List.set_cons_zero, List.set_cons_succ, List.getElem_toArray, List.getElem_cons_zero, List.getElem_cons_succ]
              refine GoL.take (i := 1) (v := ?_) rfl rfl (by kernel_rfl) (fun _ _ _ h => h) (fun _ _ => Iff.rfl) (by rfl) ?_ ?_
              rotate_left
              · intro wx hwx
                have hwx := Wi.at' hwx
                go_simp
                all_goals first
                  | done
                  | with_reducible rfl
                  | assumption
                  | (simp_all; done)
              try simp only [Act.put, List.setIfInBounds_toArray, List.set_cons_zero, List.set_cons_succ, List.getElem_toArray, List.getElem_cons_zero, List.getElem_cons_succ]
              refine GoL.take (i := 2) (v := ?_) rfl rfl (by kernel_rfl) (fun _ _ _ h => h) (fun _ _ => Iff.rfl) (by rfl) ?_ ?_
              rotate_left
              · intro wx hwx
                have hwx := Wi.at' hwx
                obtain ⟨u0, u2, u3, u4, v0, v2, v3, hbe⟩ := hcc.out wx hwx
                go_simp
                all_goals first
                  | done
                  | with_reducible rfl
                  | assumption
                  | (simp_all; done)
              try simp only [Act.put, List.setIfInBounds_toArray, List.set_cons_zero, List.set_cons_succ, List.getElem_toArray, List.getElem_cons_zero, List.getElem_cons_succ]
              refine GoL.on (rs := [3]) (by kernel_rfl) (by decide) ?_
              refine OnL.cons rfl ?_ OnL.nil
              intro K hK
              replace hK := Lib.hid hK
              go_simp
              refine (cOy _ _ _ (hPP _ hS)).mono ?_
              rintro e w5 ⟨rfl, hbx⟩
              have hS := hS.trans (hbx.mono hS.size)
              clear hbx
              refine hK.out _ _ hS ?_
              clear hK
              try simp only [Act.put, List.setIfInBounds_toArray, List.set_cons_zero, List.set_cons_succ, List.getElem_toArray, List.getElem_cons_zero, List.getElem_cons_succ]
              refine GoL.take (i := 4) (v := (.bool false)) rfl rfl (by kernel_rfl) (fun _ _ _ h => h) (fun _ _ => Iff.rfl) (by rfl) ?_ ?_
              · intro wx hwx
                have hwx := Wi.at' hwx
                go_simp
                all_goals first
                  | done
                  | with_reducible rfl
                  | assumption
                  | (simp_all; done)
              try simp only [Act.put, List.setIfInBounds_toArray, List.set_cons_zero, List.set_cons_succ, List.getElem_toArray, List.getElem_cons_zero, List.getElem_cons_succ]
              refine GoL.take (i := 5) (v := (.bool false)) rfl rfl (by kernel_rfl) (fun _ _ _ h => h) (fun _ _ => Iff.rfl) (by rfl) ?_ ?_
              · intro wx hwx
                have hwx := Wi.at' hwx
                go_simp
                all_goals first
                  | done
                  | with_reducible rfl
                  | assumption
                  | (simp_all; done)
              try simp only [Act.put, List.setIfInBounds_toArray, List.set_cons_zero, List.set_cons_succ, List.getElem_toArray, List.getElem_cons_zero, List.getElem_cons_succ]
              refine GoL.skip (i := 6) rfl rfl (by kernel_rfl) (fun _ _ _ h => h) (fun _ _ => Iff.rfl) (by rfl) ?_
              try simp only [Act.put, List.setIfInBounds_toArray, List.set_cons_zero, List.set_cons_succ, List.getElem_toArray, List.getElem_cons_zero, List.getElem_cons_succ]
              refine GoL.skip (i := 7) rfl rfl (by kernel_rfl) (fun _ _ _ h => h) (fun _ _ => Iff.rfl) (by rfl) ?_
              try simp only [Act.put, List.setIfInBounds_toArray, List.set_cons_zero, List.set_cons_succ, List.getElem_toArray, List.getElem_cons_zero, List.getElem_cons_succ]
              refine GoL.skip (i := 8) rfl rfl (by kernel_rfl) (fun _ _ _ h => h) (fun _ _ => Iff.rfl) (by rfl) ?_
              try simp only [Act.put, List.setIfInBounds_toArray, List.set_cons_zero, List.set_cons_succ, List.getElem_toArray, List.getElem_cons_zero, List.getElem_cons_succ]
              refine GoL.skip (i := 9) rfl rfl (by kernel_rfl) (fun _ _ _ h => h) (fun _ _ => Iff.rfl) (by rfl) ?_
              try simp only [Act.put, List.setIfInBounds_toArray, List.set_cons_zero, List.set_cons_succ, List.getElem_toArray, List.getElem_cons_zero, List.getElem_cons_succ]
              refine GoL.skip (i := 10) rfl rfl (by kernel_rfl) (fun _ _ _ h => h) (fun _ _ => Iff.rfl) (by rfl) ?_
              try simp only [Act.put, List.setIfInBounds_toArray, List.set_cons_zero, List.set_cons_succ, List.getElem_toArray, List.getElem_cons_zero, List.getElem_cons_succ]
              refine GoL.skip (i := 11) rfl rfl (by kernel_rfl) (fun _ _ _ h => h) (fun _ _ => Iff.rfl) (by rfl) ?_
              try simp only [Act.put, List.setIfInBounds_toArray, List.set_cons_zero, List.set_cons_succ, List.getElem_toArray, List.getElem_cons_zero, List.getElem_cons_succ]
              refine GoL.skip (i := 12) rfl rfl (by kernel_rfl) (fun _ _ _ h => h) (fun _ _ => Iff.rfl) (by rfl) ?_
              try simp only [Act.put, List.setIfInBounds_toArray, List.set_cons_zero, List.set_cons_succ, List.getElem_toArray, List.getElem_cons_zero, List.getElem_cons_succ]
              refine GoL.take (i := 13) (v := (.bool false)) rfl rfl (by kernel_rfl) (fun _ _ _ h => h) (fun _ _ => Iff.rfl) (by rfl) ?_ ?_
              · intro wx hwx
                have hwx := Wi.at' hwx
                go_simp
                all_goals first
                  | done
                  | with_reducible rfl
                  | assumption
                  | (simp_all; done)
              try simp only [Act.put, List.setIfInBounds_toArray, List.set_cons_zero, List.set_cons_succ, List.getElem_toArray, List.getElem_cons_zero, List.getElem_cons_succ]
              refine GoL.done (by kernel_rfl) ?_
              refine NoPanic.normal ?_
              go_wp2_with fail
              go_roundg (n - (k + 1))
              case measure => omega
              case rel => exact ⟨k + 1, by omega, by go_num, hV4.trans (hS.mono hV4.size)⟩
            · have g1 := of_decide_eq_false e3
              have g2 : ¬ k ≤ i := by omega
              have e6 : decide (k ≤ i) = false := decide_eq_false g2
              have g3 : i < k := by omega
              go_wp2_with (first
                | (go_at_call 17; refine (cQ' _).mono ?_; rintro e w8 ⟨rfl, hw8⟩; subst w8; clear cQ')
                | fail)
              clear u0 u2 u3 u4 v0 v2 v3
              refine GoL.start (S := fun _ w => Below U4.heap.size U4 w) (by kernel_rfl) (Below.refl _ _).drew ?_
              have hS : Below U4.heap.size U4 U4.drew := (Below.refl _ _).drew
              refine GoL.take (i := 0) (v := ?_) rfl rfl (by kernel_rfl) (fun _ _ _ h => h) (fun _ _ => Iff.rfl) (by rfl) ?_ ?_
              rotate_left
              · intro wx hwx
                have hwx := Wi.at' hwx
                go_simp
                all_goals first
                  | done
                  | with_reducible rfl
                  | assumption
                  | (simp_all; done)
              try simp only [Act.put, List.setIfInBounds_toArray, List.set_cons_zero, List.set_cons_succ, List.getElem_toArray, List.getElem_cons_zero, List.getElem_cons_succ]
              refine GoL.take (i := 1) (v := ?_) rfl rfl (by kernel_rfl) (fun _ _ _ h => h) (fun _ _ => Iff.rfl) (by rfl) ?_ ?_
              rotate_left
              · intro wx hwx
                have hwx := Wi.at' hwx
                go_simp
                all_goals first
                  | done
                  | with_reducible rfl
                  | assumption
                  | (simp_all; done)
              try simp only [Act.put, List.setIfInBounds_toArray, List.set_cons_zero, List.set_cons_succ, List.getElem_toArray, List.getElem_cons_zero, List.getElem_cons_succ]
              refine GoL.take (i := 2) (v := ?_) rfl rfl (by kernel_rfl) (fun _ _ _ h => h) (fun _ _ => Iff.rfl) (by rfl) ?_ ?_
              rotate_left
              · intro wx hwx
                have hwx := Wi.at' hwx
                obtain ⟨u0, u2, u3, u4, v0, v2, v3, hbe⟩ := hcc.out wx hwx
                go_simp
                all_goals first
                  | done
                  | with_reducible rfl
                  | assumption
                  | (simp_all; done)
              try simp only [Act.put, List.setIfInBounds_toArray, List.set_cons_zero, List.set_cons_succ, List.getElem_toArray, List.getElem_cons_zero, List.getElem_cons_succ]
              refine GoL.on (rs := [3]) (by kernel_rfl) (by decide) ?_
              refine OnL.cons rfl ?_ OnL.nil
              intro K hK
              replace hK := Lib.hid hK
              go_simp
              refine (cOy _ _ _ (hPP _ hS)).mono ?_
              rintro e w5 ⟨rfl, hbx⟩
              have hS := hS.trans (hbx.mono hS.size)
              clear hbx
              refine hK.out _ _ hS ?_
              clear hK
              try simp only [Act.put, List.setIfInBounds_toArray, List.set_cons_zero, List.set_cons_succ, List.getElem_toArray, List.getElem_cons_zero, List.getElem_cons_succ]
              refine GoL.take (i := 4) (v := (.bool true)) rfl rfl (by kernel_rfl) (fun _ _ _ h => h) (fun _ _ => Iff.rfl) (by rfl) ?_ ?_
              · intro wx hwx
                have hwx := Wi.at' hwx
                go_simp
                all_goals first
                  | done
                  | with_reducible rfl
                  | assumption
                  | (simp_all; done)
              try simp only [Act.put, List.setIfInBounds_toArray, List.set_cons_zero, List.set_cons_succ, List.getElem_toArray, List.getElem_cons_zero, List.getElem_cons_succ]
              refine GoL.take (i := 5) (v := (.bool true)) rfl rfl (by kernel_rfl) (fun _ _ _ h => h) (fun _ _ => Iff.rfl) (by rfl) ?_ ?_
              · intro wx hwx
                have hwx := Wi.at' hwx
                go_simp
                all_goals first
                  | done
                  | with_reducible rfl
                  | assumption
                  | (simp_all; done)
              try simp only [Act.put, List.setIfInBounds_toArray, List.set_cons_zero, List.set_cons_succ, List.getElem_toArray, List.getElem_cons_zero, List.getElem_cons_succ]
              refine GoL.take (i := 6) (v := ?_) rfl rfl (by kernel_rfl) (fun _ _ _ h => h) (fun _ _ => Iff.rfl) (by rfl) ?_ ?_
              rotate_left
              · intro wx hwx
                have hwx := Wi.at' hwx
                go_simp
                all_goals first
                  | done
                  | with_reducible rfl
                  | assumption
                  | (simp_all; done)
              try simp only [Act.put, List.setIfInBounds_toArray, List.set_cons_zero, List.set_cons_succ, List.getElem_toArray, List.getElem_cons_zero, List.getElem_cons_succ]
              refine GoL.take (i := 7) (v := ?_) rfl rfl (by kernel_rfl) (fun _ _ _ h => h) (fun _ _ => Iff.rfl) (by rfl) ?_ ?_
              rotate_left
              · intro wx hwx
                have hwx := Wi.at' hwx
                go_simp
                all_goals first
                  | done
                  | with_reducible rfl
                  | assumption
                  | (simp_all; done)
              try simp only [Act.put, List.setIfInBounds_toArray, List.set_cons_zero, List.set_cons_succ, List.getElem_toArray, List.getElem_cons_zero, List.getElem_cons_succ]
              refine GoL.take (i := 8) (v := ?_) rfl rfl (by kernel_rfl) (fun _ _ _ h => h) (fun _ _ => Iff.rfl) (by rfl) ?_ ?_
              rotate_left
              · intro wx hwx
                have hwx := Wi.at' hwx
                obtain ⟨u0, u2, u3, u4, v0, v2, v3, hbe⟩ := hcc.out wx hwx
                go_simp
                all_goals first
                  | done
                  | with_reducible rfl
                  | assumption
                  | (simp_all; done)
              try simp only [Act.put, List.setIfInBounds_toArray, List.set_cons_zero, List.set_cons_succ, List.getElem_toArray, List.getElem_cons_zero, List.getElem_cons_succ]
              refine GoL.take (i := 10) (v := ?_) rfl rfl (by kernel_rfl) (fun _ _ _ h => h) (fun _ _ => Iff.rfl) (by rfl) ?_ ?_
              rotate_left
              · intro wx hwx
                have hwx := Wi.at' hwx
                go_simp
                all_goals first
                  | done
                  | with_reducible rfl
                  | assumption
                  | (simp_all; done)
              try simp only [Act.put, List.setIfInBounds_toArray, List.set_cons_zero, List.set_cons_succ, List.getElem_toArray, List.getElem_cons_zero, List.getElem_cons_succ]
              refine GoL.take (i := 11) (v := ?_) rfl rfl (by kernel_rfl) (fun _ _ _ h => h) (fun _ _ => Iff.rfl) (by rfl) ?_ ?_
              rotate_left
              · intro wx hwx
                have hwx := Wi.at' hwx
                obtain ⟨u0, u2, u3, u4, v0, v2, v3, hbe⟩ := hcc.out wx hwx
                go_simp
                all_goals first
                  | done
                  | with_reducible rfl
                  | assumption
                  | (simp_all; done)
              try simp only [Act.put, List.setIfInBounds_toArray, List.set_cons_zero, List.set_cons_succ, List.getElem_toArray, List.getElem_cons_zero, List.getElem_cons_succ]
              refine GoL.on (rs := [9]) (by kernel_rfl) (by decide) ?_
              refine OnL.cons rfl ?_ OnL.nil
              intro K hK
              replace hK := Lib.hid hK
              go_simp
              refine (cOx _ _ _ (hPP _ hS)).mono ?_
              rintro e w6 ⟨rfl, hbx⟩
              have hS := hS.trans (hbx.mono hS.size)
              clear hbx
              refine hK.out _ _ hS ?_
              clear hK
              try simp only [Act.put, List.setIfInBounds_toArray, List.set_cons_zero, List.set_cons_succ, List.getElem_toArray, List.getElem_cons_zero, List.getElem_cons_succ]
              refine GoL.take (i := 12) (v := (.bool false)) rfl rfl (by kernel_rfl) (fun _ _ _ h => h) (fun _ _ => Iff.rfl) (by rfl) ?_ ?_
              · intro wx hwx
                have hwx := Wi.at' hwx
                go_simp
                all_goals first
                  | done
                  | with_reducible rfl
                  | assumption
                  | (simp_all; done)
              try simp only [Act.put, List.setIfInBounds_toArray, List.set_cons_zero, List.set_cons_succ, List.getElem_toArray, List.getElem_cons_zero, List.getElem_cons_succ]
              refine GoL.take (i := 13) (v := (.bool false)) rfl rfl (by kernel_rfl) (fun _ _ _ h => h) (fun _ _ => Iff.rfl) (by rfl) ?_ ?_
              · intro wx hwx
                have hwx := Wi.at' hwx
                go_simp
                all_goals first
                  | done
                  | with_reducible rfl
                  | assumption
                  | (simp_all; done)
              try simp only [Act.put, List.setIfInBounds_toArray, List.set_cons_zero, List.set_cons_succ, List.getElem_toArray, List.getElem_cons_zero, List.getElem_cons_succ]
              refine GoL.done (by kernel_rfl) ?_
              refine NoPanic.normal ?_
              go_wp2_with fail
              go_roundg (n - (k + 1))
              case measure => omega
              case rel => exact ⟨k + 1, by omega, by go_num, hV4.trans (hS.mono hV4.size)⟩
        · have e : k = n := by omega
          subst e
          have hkl : ¬ (k : Int) < (k : Int) := by omega
          clear hget hfair cO cQ
          go_wp2_with fail
          go_roundg (k - (i + 1))
          case measure => omega
          case rel => exact ⟨i + 1, by omega, by go_num, hb⟩
    · have e : i = n := by omega
      subst e
      have hil : ¬ (i : Int) < (i : Int) := by omega
      have hbw := hend.trans (hb.mono hend.size)
      clear hget hfair cO cQ hn
      go_wp2_with (first
        | (go_at_call 6; refine (cA _ (hG.below hbw)).mono ?_; rintro e w9 ⟨rfl, hb9⟩; clear cA)
        | fail)
      go_ret
      exact ⟨rfl, hbw.trans (hb9.mono hbw.size)⟩
end Go.Proofs.YtdmjcjheanedgaaDoor
