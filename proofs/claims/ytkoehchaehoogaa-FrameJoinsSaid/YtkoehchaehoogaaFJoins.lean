/-
  FrameJoins, for every list of pieces.
-/
import Derived.Test.YtkoehchaehoogaaJoinM
import Derived.Test.YtkoehchaehoogaaPost
namespace Go.Proofs.Ytkoehchaehoogaa
open Go.RowKit

/-- A joiner's Add, whatever came before. -/
theorem jadd_both (g : Nat) (al xs : List Nat) (hal : al.length ≤ 100000) (hxs : xs.length ≤ 100000) :
    ∃ ns : List (List Nat), Hid ((allF (al ++ xs)).1 = (allF al).1 ++ ns) ∧ ∀ (W : World) (kj j bcap : Nat) (bo : Option Addr), Jn W g kj (left al).1 (left al).2 → Bt W j bo bcap xs → Calls Try.prog 15 #[.pointer (some ⟨g, 0, none⟩), .slice bo xs.length bcap] W fun e w' => ∃ ao cap kj', e = .returned (.slice ao ns.length cap) ∧ Lb w' ao cap ns ∧
      Jn w' g kj' (left (al ++ xs)).1 (left (al ++ xs)).2 ∧ Frm (fun b => b = g) W w' ∧ ((left (al ++ xs)).1 ≠ [] → W.heap.size ≤ kj') := by
  by_cases h4 : (allF al).2.2 = 4
  · have e := (allF_more al xs).1 h4
    have e1 : left al = ([], 4) := if_pos h4
    have e2 : left (al ++ xs) = ([], 4) := if_pos (by rw [e]; exact h4)
    refine ⟨[], by simp [Hid, e], fun W kj j bcap bo h hX => ?_⟩
    rw [e1] at h
    rw [e2]
    exact (jadd_fault g kj [] _ W h).mono fun e w' ⟨h1, h2⟩ => ⟨none, 0, kj, h1, Lb.nil _, h2 ▸ h, h2 ▸ Frm.refl _ _, fun hx => absurd rfl hx⟩
  · obtain ⟨m1, m2⟩ := left_more xs h4
    have e1 := left_ok h4
    have hl := left_len al
    refine ⟨_, m1, fun W kj j bcap bo h hX => ?_⟩
    rw [m2]
    have hz : (left al).2 = 0 := by rw [e1]
    rw [hz] at h
    refine (jadd_any g kj j bcap bo (left al).1 xs (by omega) (by omega) (by omega) W h hX).mono fun e w' h => ?_
    obtain ⟨ko, ao, cap, k', h1, h2, h3, h4, _, h6⟩ := h
    exact ⟨ao, cap, k', h1, h2.lb, h3, h4, fun _ => h6⟩
/-- Behind some pieces: all bytes that came, and the joiner. -/
structure Jns (W : World) (g : Nat) (w : World) (al : List Nat) (kA : Nat) (aA : Option Addr) (cA : Nat) : Prop where
  ow : Ow w kA aA cA al
  jn : ∃ kj, Jn w g kj (left al).1 (left al).2 ∧ ((left al).1 ≠ [] → kj ≠ kA)
  gk : g ≠ kA
  bel : Below W.heap.size W w
  old : W.heap.size ≤ g
  new : W.heap.size ≤ kA
section
variable {W w w1 w2 w3 : World} {g kA cA kA' cA' : Nat} {aA aA' : Option Addr} {al xs : List Nat}
theorem Jns.lt (h : Jns W g w al kA aA cA) : g < w.heap.size := by obtain ⟨kj, ⟨_, _, hb, _⟩, _⟩ := h.jn; exact hb.lt
theorem Jns.app (h : Jns W g w al kA aA cA) (hf : Frm (fun b => b = kA) w w1) (hk : kA' = kA ∨ w.heap.size ≤ kA') :
    (∃ kj, Jn w1 g kj (left al).1 (left al).2) ∧ g ≠ kA' ∧ Below W.heap.size W w1 ∧ W.heap.size ≤ kA' ∧ g < w1.heap.size := by
  have h1 := h.lt
  have h2 := h.new
  have h3 := h.gk
  have h4 := h.bel.size
  obtain ⟨kj, hj, hn⟩ := h.jn
  refine ⟨⟨kj, hj.frm hf h.gk (fun hx e => hn hx e)⟩, ?_, h.bel.trans (hf.below h.bel.size (fun b e => by rw [e]; exact h.new)), ?_, Nat.lt_of_lt_of_le h1 hf.size⟩
  · rcases hk with rfl | hk
    · exact h3
    · omega
  · rcases hk with rfl | hk
    · exact h2
    · omega
theorem Jns.next {kj : Nat} (ho : Ow w1 kA' aA' cA' (al ++ xs)) (hg : g ≠ kA') (hb : Below W.heap.size W w1) (hn : W.heap.size ≤ kA') (old : W.heap.size ≤ g) (hb2 : Below w1.heap.size w1 w2) (hJ : Jn w3 g kj (left (al ++ xs)).1 (left (al ++ xs)).2) (hF : Frm (fun b => b = g) w2 w3) (hk : (left (al ++ xs)).1 ≠ [] → w2.heap.size ≤ kj) :
    Jns W g w3 (al ++ xs) kA' aA' cA' := by
  have hs := hb2.size
  refine ⟨(ho.below hb2).frm hF (fun _ e => hg e.symm), ⟨kj, hJ, fun hx e => ?_⟩, hg, (hb.trans (hb2.mono hb.size)).trans (hF.below (Nat.le_trans hb.size hs) (fun b e => by rw [e]; exact old)), old, hn⟩
  have h1 := hk hx
  have h2 : al ++ xs ≠ [] := by
    intro e0
    have := left_len (al ++ xs)
    rw [e0] at this
    exact hx (List.eq_nil_of_length_eq_zero (by rw [e0]; simpa using this))
  have h3 := ho.bt.size h2
  omega
theorem Jns.drewN (h : Jns W g w al kA aA cA) (m : Nat) : Jns W g (w.drewN m) al kA aA cA := by
  obtain ⟨kj, hj, hn⟩ := h.jn
  exact ⟨h.ow.keep fun _ => rfl, ⟨kj, hj.below (Below.drewN (Below.refl _ w) m), hn⟩, h.gk, Below.drewN h.bel m, h.old, h.new⟩
end
section
variable {w : World} {cap n m : Nat} {ao : Option Addr} {us ts : List (List Nat)}
theorem Lb.cut0 (h : Lb w ao cap us) (hd : us.drop n = ts) (hn : n = cap) (hx : n ≤ us.length) : Lb w ao 0 ts := by rw [← hd]; exact h.dropAll hn hx
theorem Lb.cutE (h : Lb w ao cap us) (hd : us.drop n = ts) (hm : m = n) (hx : n ≤ us.length) : Lb w (Option.map (fun x => x.add m) ao) (cap - m) ts := by subst hm; rw [← hd]; exact h.drop hx
end
set_option maxRecDepth 8000 in
set_option maxHeartbeats 2000000 in
theorem joins_any (lo : Option Addr) (lc : Nat) (ls : List (List Nat)) (W : World) (hL : Lb W lo lc ls) :
    Calls Try.prog 5 #[.slice lo ls.length lc] W fun e w' => e = .returned (.bool true) ∧ Below W.heap.size W w' := by
  have hl := hL.len
  have hm := hL.top
  unfold maxLen at hm
  have cA := fun w => alive_any w
  by_cases hs : ls.length ≤ 20
  · obtain ⟨g, hg⟩ : ∃ g, g = W.heap.size := ⟨_, rfl⟩
    have hj0 : Jns W g (W.alloc (.cells #[.slice none 0 0, .int .i64 0] 39)) [] (g + 1) none 0 := by
      rw [hg]
      exact ⟨Ow.nil _ _, ⟨W.heap.size + 2, ⟨none, 0, Blk.new _ _ _, Bt.nil _ _, by omega⟩, by omega⟩, by omega, (Below.refl _ W).alloc (Nat.le_refl _) _, Nat.le_refl _, by omega⟩
    go_enter Try.func5, Try.ntmps5
    go_wp2_with fail
    rw [← hg]
    clear hg
    go_loopg [5, 6, 7] ls.length (fun j p5 p6 p7 wr => ∃ (q : Nat) (al : List Nat) (kA : Nat) (aA : Option Addr) (cA tl : Nat), q + j = ls.length ∧ p7 = .int .i64 (q : Int) ∧ p5 = .slice aA al.length cA ∧ p6 = .int .i64 (tl : Int) ∧ al.length ≤ 200 * q ∧ Hid (tl = (allF al).1.length) ∧ Hid (tl ≤ 2100) ∧ Jns W g wr al kA aA cA)
    case atStart => exact ⟨0, [], g + 1, none, 0, 0, by omega, rfl, rfl, rfl, by simp, rfl, Nat.zero_le _, hj0⟩
    case round =>
      obtain ⟨q, al, kA, aA, cA', tl, hq, rfl, rfl, rfl, hal, htl, htl2, hJ⟩ := hrel
      by_cases hj : q < ls.length
      · obtain ⟨xs, hxs⟩ : ∃ x, ls[q]? = some x := ⟨ls[q], List.getElem?_eq_getElem hj⟩
        obtain ⟨b1, off1, k1, eo1, ec1, rfl, hg1⟩ := hL.get hxs
        obtain ⟨hx, c1⟩ := hg1 wr hJ.bel
        have hxl := hx.len
        have hxm := hx.top
        unfold maxLen at hxm
        clear hxs hL
        by_cases hx2 : xs.length ≤ 200
        · obtain ⟨ns, hns, cJ⟩ := jadd_both g al xs (by omega) (by omega)
          obtain ⟨s1, s2, s3⟩ := allF_size (al ++ xs)
          have hfl := frames_len (al ++ xs)
          rw [List.length_append] at s1 s3 hfl
          obtain ⟨en, f, hall⟩ : ∃ en f, allF (al ++ xs) = ((allF al).1 ++ ns, en, f) := ⟨_, _, Prod.ext hns.out rfl⟩
          rw [hall] at s1 s2 s3 hfl
          have hnl : tl + ns.length ≤ 2100 := by
            simp only [List.length_append] at hfl
            rw [htl.out]
            omega
          have hll : left (al ++ xs) = if f = 4 then ([], 4) else ((al ++ xs).drop en, 0) := by unfold left; rw [hall]
          have hal2 : (al ++ xs).length ≤ 2000000 := by rw [List.length_append]; omega
          have cL : ∀ (w : World) (k c : Nat) (a : Option Addr), Ow w k a c (al ++ xs) → Calls Try.prog 13 #[.slice a (al.length + xs.length) c] w fun e w' => ∃ aA cA kO aO cO, e = .returned (.tuple #[.slice aA (tl + ns.length) cA, .slice aO (tl + ns.length) cO, .int .i64 (en : Int), .int .i64 (f : Int)]) ∧
              Lo (· = k) w' kO aO cO ((allF al).1 ++ ns) ∧ Below w.heap.size w w' ∧ (∀ q, kO = some q → w.heap.size ≤ q) := fun w k c a h => by
            have := all_any k c a (al ++ xs) hal2 w h.bt
            rw [hall, List.length_append] at this
            refine this.mono fun e w' h => ?_
            obtain ⟨kA, aA, cA, kO, aO, cO, h1, _, h2, h3, _, h4⟩ := h
            refine ⟨aA, cA, kO, aO, cO, ?_, h2, h3, h4⟩
            rw [h1, htl.out, List.length_append]
          have hpl : Hid (((allF al).1 ++ ns).drop tl = ns) := by
            show _ = _
            rw [htl.out]
            exact List.drop_left
          have hpl2 : Hid (tl ≤ ((allF al).1 ++ ns).length) := by
            show _ ≤ _
            rw [htl.out, List.length_append]
            omega
          have htl3 : Hid (tl + ns.length = (allF (al ++ xs)).1.length) := by
            show _ = _
            rw [hall, htl.out, List.length_append]
          obtain ⟨lv, lf, hlv⟩ : ∃ lv lf, left (al ++ xs) = (lv, lf) := ⟨_, _, rfl⟩
          have hlv2 : (f = 4 ∧ lv.length = 0 ∧ lf = 4) ∨ (f = 0 ∧ lv.length + en = al.length + xs.length ∧ lf = 0) ∨ (f = 3 ∧ lv.length + en = al.length + xs.length ∧ lf = 0) := by
            have hd : ((al ++ xs).drop en).length = al.length + xs.length - en := by rw [List.length_drop, List.length_append]
            rw [hlv] at hll
            simp only at s1 s2
            rcases s2 with rfl | rfl | rfl
            · rw [if_neg (by decide)] at hll
              cases hll
              omega
            · rw [if_neg (by decide)] at hll
              cases hll
              omega
            · rw [if_pos rfl] at hll
              cases hll
              simp
          have hN : ∀ (w1 w2 w3 : World) (kA' cA' kj : Nat) (aA' : Option Addr), Ow w1 kA' aA' cA' (al ++ xs) → g ≠ kA' → Below W.heap.size W w1 → W.heap.size ≤ kA' → Below w1.heap.size w1 w2 → Jn w3 g kj lv lf → Frm (fun b => b = g) w2 w3 → (lv ≠ [] → w2.heap.size ≤ kj) → Jns W g w3 (al ++ xs) kA' aA' cA' := fun w1 w2 w3 kA' cA' kj aA' h1 h2 h3 h4 h5 h6 h7 h8 =>
            Jns.next h1 h2 h3 h4 hJ.old h5 (by rw [hlv]; exact h6) h7 (by rw [hlv]; exact h8)
          rw [hlv] at cJ
          have hJn : ∀ (w : World) (kA' cA' : Nat) (aA' : Option Addr), Jns W g w (al ++ xs) kA' aA' cA' → ∃ kj, Jn w g kj lv lf := fun w kA' cA' aA' h => by
            obtain ⟨kj, h1, _⟩ := h.jn
            rw [hlv] at h1
            exact ⟨kj, h1⟩
          clear hll hlv hall s2 s3 hal2 htl hns hfl s1
          have hold := hJ.old
          rcases hlv2 with ⟨rfl, hlv0, rfl⟩ | ⟨rfl, hlv0, rfl⟩ | ⟨rfl, hlv0, rfl⟩
          all_goals
            go_wp2_with (first
              | (at_builtin; refine wpList_app rfl (.tmp 30) (.tmp 34) rfl hJ.ow hx rfl rfl rfl rfl (by omega) ?_; intro ao1 cap1 k1 w1 ho1 hf1 hk1; obtain ⟨⟨kj, hj1⟩, hgk1, hb1, hn1, hgl1⟩ := hJ.app hf1 hk1; clear hJ c1)
              | (go_at_call 13; refine (cL _ _ _ _ ho1).mono ?_; rintro e w2 ⟨aA2, cA2, kO, aO, cO, rfl, hOl, hb2, hkO⟩; obtain ⟨hx2', c2⟩ := hg1 w2 (hb1.trans (hb2.mono hb1.size)); clear cL)
              | (go_at_call 15; refine (cJ _ _ _ _ _ (hj1.below hb2) hx2').mono ?_; rintro e w3 ⟨aN, cN, kj3, rfl, hLN, hj3, hF3, hk3⟩; have hJ3 := hN _ _ _ _ _ _ _ ho1 hgk1 hb1 hn1 hb2 hj3 hF3 hk3; have c3 := (hg1 w3 hJ3.bel).2; have hO3 := (hOl.frm hF3 (fun q e1 e2 => by have := hkO q e1; omega) (fun q _ _ e1 e2 => hgk1 (e2.symm.trans e1))).lb; clear cJ hN ho1 hgk1 hb1 hn1 hb2 hj3 hF3 hk3 hOl hkO c2 hx2')
              | (go_at_call 15; refine (jadd_nil _ _).mono ?_; rintro e w4 ⟨rfl, rfl⟩)
              | (go_at_call 16; (with_reducible refine (lists_same _ hLN (Lb.cut0 hO3 hpl.out ?_ hpl2.out) rfl ?_ ?_).mono ?_); omega; omega; omega; rintro e w5 ⟨rfl, m5, rfl⟩; replace hJ3 := hJ3.drewN m5; obtain ⟨kj5, hj5⟩ := hJn _ _ _ _ hJ3; clear hLN hO3)
              | (go_at_call 16; (with_reducible refine (lists_same _ hLN (Lb.cutE hO3 hpl.out ?_ hpl2.out) rfl ?_ ?_).mono ?_); omega; omega; omega; rintro e w5 ⟨rfl, m5, rfl⟩; replace hJ3 := hJ3.drewN m5; obtain ⟨kj5, hj5⟩ := hJn _ _ _ _ hJ3; clear hLN hO3)
              | (go_at_call 17; (with_reducible refine (jfault_any _ _ _ _ _ hj5).mono ?_); rintro e w6 ⟨rfl, rfl⟩)
              | (go_at_call 18; (with_reducible refine (jwaits_any _ _ _ _ _ hj5).mono ?_); rintro e w7 ⟨rfl, rfl⟩))
            all_goals first
              | (exfalso; omega)
              | skip
            all_goals go_roundg (ls.length - (q + 1))
            all_goals first
              | (case measure => omega)
              | skip
            all_goals exact ⟨q + 1, al ++ xs, _, _, _, tl + ns.length, by omega, by go_num, by rw [List.length_append], by go_num, by rw [List.length_append]; omega, htl3, hnl, hJ3⟩
        · go_wp2_with (go_at_call 7; refine (cA _).mono ?_; rintro e w7 ⟨rfl, hb7⟩)
          go_ret
          exact ⟨rfl, hJ.bel.trans (hb7.mono hJ.bel.size)⟩
      · have hqe : q = ls.length := by omega
        subst hqe
        go_wp2_with (first
          | (go_at_call 17; refine (jfault_nil _).mono ?_; rintro e w1 ⟨rfl, rfl⟩)
          | (go_at_call 18; refine (jwaits_nil _).mono ?_; rintro e w1 ⟨rfl, rfl⟩)
          | (go_at_call 7; refine (cA _).mono ?_; rintro e w7 ⟨rfl, hb7⟩))
        go_ret
        exact ⟨rfl, hJ.bel.trans (hb7.mono hJ.bel.size)⟩
  · go_enter Try.func5, Try.ntmps5
    go_wp2_with (go_at_call 7; refine (cA _).mono ?_; rintro e w7 ⟨rfl, hb7⟩)
    all_goals first
      | (exfalso; omega)
      | (go_ret; exact ⟨rfl, hb7⟩)
end Go.Proofs.Ytkoehchaehoogaa
