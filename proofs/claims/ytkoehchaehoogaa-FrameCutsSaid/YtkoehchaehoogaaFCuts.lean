/-
  FrameCuts, for every list of payloads and all cuts.
-/
import Derived.Test.YtkoehchaehoogaaJoin
import Derived.Test.YtkoehchaehoogaaPost
namespace Go.Proofs.Ytkoehchaehoogaa
open Go.RowKit

theorem left_ok {b : List Nat} (h : (allF b).2.2 ≠ 4) : left b = (b.drop (allF b).2.1, 0) := if_neg h
theorem left_more {b : List Nat} (t : List Nat) (h : (allF b).2.2 ≠ 4) : (allF (b ++ t)).1 = (allF b).1 ++ (allF ((left b).1 ++ t)).1 ∧ left (b ++ t) = left ((left b).1 ++ t) := by
  have e := (allF_more b t).2 h
  have hd : (b ++ t).drop (allF b).2.1 = b.drop (allF b).2.1 ++ t := List.drop_append_of_le_length (allF_size b).1
  rw [left_ok h]
  refine ⟨by rw [e], ?_⟩
  unfold left
  rw [e]
  simp only
  rw [← List.drop_drop, hd]
theorem no4 {S : List Nat} (h : (allF S).2.2 = 0) (s : Nat) : (allF (S.take s)).2.2 ≠ 4 := by
  intro e
  have h1 := (allF_more (S.take s) (S.drop s)).1 e
  rw [List.take_append_drop] at h1
  rw [h1, e] at h
  cases h
theorem frames_len (b : List Nat) : 2 * (allF b).1.length ≤ b.length := by
  have h1 := length_le_tot (allF b).1
  rw [tot_allF] at h1
  have h2 := (allF_size b).1
  omega
theorem left_len (b : List Nat) : (left b).1.length ≤ b.length := by
  unfold left
  split
  · simp
  · simp only [List.length_drop]; omega
/-- Behind s bytes of the stream S: what the joiner at g holds, and what has come out. -/
structure Cut (W : World) (g kA : Nat) (S : List Nat) (w : World) (s : Nat) (kO : Option Nat) (aO : Option Addr) (cO : Nat) (os : List (List Nat)) : Prop where
  jn : ∃ kj, Jn w g kj (left (S.take s)).1 0
  out : Lo (· ≠ g) w kO aO cO os
  eq : os = (allF (S.take s)).1
  kO : ∀ q, kO = some q → g < q
  bel : Below W.heap.size W w
  old : W.heap.size ≤ g
/-- A piece more. -/
theorem Cut.step {W wr w1 w2 : World} {g kA s n kn cO cO' : Nat} {S rs : List Nat} {kO ko' kO' : Option Nat} {aO aO' : Option Addr} {os ns : List (List Nat)} {cs ds : List Value} (h : Cut W g kA S wr s kO aO cO os) (h4 : (allF S).2.2 = 0)
    (hn : ns = (allF ((left (S.take s)).1 ++ (S.drop s).take n)).1) (hlo : Els (wr.heap.size ≤ ·) w1 ko' ns ds) (hJ : Jn w1 g kn (left ((left (S.take s)).1 ++ (S.drop s).take n)).1 (left ((left (S.take s)).1 ++ (S.drop s).take n)).2) (hF : Frm (fun b => b = g) wr w1) (hkn : wr.heap.size ≤ kn)
    (hcs : Els (· ≠ g) wr kO os cs) (ho : OwG 22 1 w2 kO' aO' cO' (os.length + ns.length) (cs ++ ds)) (hf : Frm (fun b => kO = some b) w1 w2) (hm : Moved w1 kO kO')
    {jn : Nat} {ja : Option Addr} {jc : Nat} (hA : Bt wr jn ja jc rs) (hAg : rs ≠ [] → jn < g) :
    Cut W g kA S w2 (s + n) kO' aO' cO' (os ++ ns) ∧ Bt w2 jn ja jc rs := by
  have e1 : S.take (s + n) = S.take s ++ (S.drop s).take n := List.take_add
  obtain ⟨m1, m2⟩ := left_more ((S.drop s).take n) (no4 h4 s)
  have hz : (left (S.take s ++ (S.drop s).take n)).2 = 0 := by rw [← e1, left_ok (no4 h4 _)]
  have hlt : ∀ q, kO = some q → q < wr.heap.size := fun q e => by have := h.out; subst e; exact this.lt
  have hgl : g < wr.heap.size := by obtain ⟨_, _, _, hb, _⟩ := h.jn; exact hb.lt
  have hs1 := hF.size
  have hs2 := hf.size
  rw [← m2] at hJ
  rw [hz] at hJ
  refine ⟨⟨⟨kn, ?_⟩, ⟨cs ++ ds, by rw [List.length_append]; exact ho, ?_⟩, ?_, ?_, ?_, h.old⟩, ?_⟩
  · rw [e1]
    exact hJ.frm hf (fun e => by have := h.kO g e; omega) (fun _ e => by have := hlt kn e; omega)
  · refine Els.moved (Els.append (hcs.frm hF (fun q _ _ hq e => hq e)) ⟨hlo.1, fun i xs hi => ?_⟩) hf hm
    obtain ⟨k, eo, ec, b1, b2, b3⟩ := hlo.2 i xs hi
    exact ⟨k, eo, ec, b1, b2, fun hx => ⟨fun e => by have := hlt k e; have := (show wr.heap.size ≤ k from (b3 hx).2); omega, fun e => by have := (show wr.heap.size ≤ k from (b3 hx).2); omega⟩⟩
  · rw [e1, m1, h.eq, hn]
  · intro q hq
    rcases hm with e | e | ⟨q2, e, h2⟩
    · rw [e] at hq; cases hq
    · rw [e] at hq; exact h.kO q hq
    · rw [e] at hq
      cases hq
      omega
  · exact (h.bel.trans (hF.below h.bel.size (fun b e => by rw [e]; exact h.old))).trans (hf.below (Nat.le_trans h.bel.size hs1) (fun b e => by have := h.kO b e; have := h.old; omega))
  · exact (hA.frm hF (fun hx e => by have := hAg hx; omega)).frm hf (fun hx e => by have := hAg hx; have := h.kO jn e; omega)
/-- A joiner's Add, as a cut stream asks for it. -/
theorem cut_add {W w : World} {g kA s cO : Nat} {S : List Nat} {kO : Option Nat} {aO : Option Addr} {os : List (List Nat)} (h : Cut W g kA S w s kO aO cO os) (hS : S.length ≤ 2000) {ja : Option Addr} {jc : Nat} (hA : Bt w kA ja jc (S.drop s)) (n : Nat) (hn : n ≤ (S.drop s).length) :
    ∃ ns : List (List Nat), Hid (ns = (allF ((left (S.take s)).1 ++ (S.drop s).take n)).1) ∧ ns.length ≤ 2000 ∧ Calls Try.prog 15 #[.pointer (some ⟨g, 0, none⟩), .slice ja n jc] w fun e w' => ∃ ko' ao' cap' kn ds, e = .returned (.slice ao' ns.length cap') ∧
      OwG 22 1 w' ko' ao' cap' ns.length ds ∧ Els (w.heap.size ≤ ·) w' ko' ns ds ∧ Jn w' g kn (left ((left (S.take s)).1 ++ (S.drop s).take n)).1 (left ((left (S.take s)).1 ++ (S.drop s).take n)).2 ∧ Frm (fun b => b = g) w w' ∧ w.heap.size ≤ kn := by
  obtain ⟨kj, hj⟩ := h.jn
  have hl1 := left_len (S.take s)
  have hl2 : (S.take s).length ≤ S.length := by rw [List.length_take]; omega
  have hl3 : (S.drop s).length ≤ S.length := by rw [List.length_drop]; omega
  have hl4 : ((S.drop s).take n).length = n := by rw [List.length_take]; omega
  have hfl := frames_len ((left (S.take s)).1 ++ (S.drop s).take n)
  rw [List.length_append] at hfl
  refine ⟨_, rfl, by omega, ?_⟩
  have c := jadd_any g kj kA jc ja (left (S.take s)).1 ((S.drop s).take n) (by omega) (by omega) (by omega) w hj (hA.take hn)
  rw [hl4] at c
  refine c.mono fun e w' h => ?_
  obtain ⟨ko, ao, cap, k', h1, ⟨ds, h2, h3⟩, h4, h5, _, h6⟩ := h
  exact ⟨ko, ao, cap, k', ds, h1, h2, h3, h4, h5, h6⟩
theorem lists_same {ac bc n m : Nat} {ao bo : Option Addr} {us ts : List (List Nat)} (W : World) (hA : Lb W ao ac us) (hB : Lb W bo bc ts) (h : us = ts) (hn : n = us.length) (hm : m = ts.length) :
    Calls Try.prog 16 #[.slice ao n ac, .slice bo m bc] W fun e w' => e = .returned (.bool true) ∧ ∃ m, w' = W.drewN m := by
  subst hn hm
  exact (lists_any ac bc ao bo us ts W hA hB).mono fun e w' h2 => ⟨h2.1.trans (by rw [decide_eq_true h]), h2.2⟩
section
variable {w : World} {k cap n m : Nat} {ao : Option Addr} {xs zs : List Nat}
theorem Bt.cut0 (h : Bt w k ao cap xs) (hd : xs.drop n = zs) (hn : n = cap) (hx : n ≤ xs.length) : Bt w k ao 0 zs := by rw [← hd]; exact h.dropAll hn hx
theorem Bt.cutE (h : Bt w k ao cap xs) (hd : xs.drop n = zs) (hm : m = n) (hx : n ≤ xs.length) : Bt w k (Option.map (fun x => x.add m) ao) (cap - m) zs := by subst hm; rw [← hd]; exact h.drop hx
theorem Bt.cutN (h : Bt w k ao cap xs) (hd : xs.drop n = zs) (hn : n = 0) : Bt w k ao cap zs := by subst hn; rw [← hd]; simpa using h
end
theorem puts_take {ls : List (List Nat)} {q : Nat} {xs : List Nat} (h : ls[q]? = some xs) : (ls.take (q + 1)).flatMap putF = (ls.take q).flatMap putF ++ putF xs := by
  rw [List.take_add_one, h]
  simp
set_option maxHeartbeats 1000000 in
theorem cuts_any (lo : Option Addr) (lc : Nat) (ls : List (List Nat)) (co : Option Addr) (cc : Nat) (zs : List Int) (W : World) (hL : Lb W lo lc ls) (hI : It .i64 W co cc zs) :
    Calls Try.prog 6 #[.slice lo ls.length lc, .slice co zs.length cc] W fun e w' => e = .returned (.bool true) ∧ Below W.heap.size W w' := by
  have hl := hL.len
  have hm := hL.top
  have hl2 := hI.len
  have hm2 := hI.top
  unfold maxLen at hm hm2
  have cA := fun w => alive_any w
  by_cases hs : ls.length ≤ 20 ∧ zs.length ≤ 20
  · obtain ⟨hs1, hs2⟩ := hs
    go_enter Try.func6, Try.ntmps6
    go_wp2_with fail
    go_loopg [5, 6] ls.length (fun j p5 p6 wr => ∃ (q : Nat) (aA : Option Addr) (cA kA : Nat) (al : List Nat), q + j = ls.length ∧ p6 = .int .i64 (q : Int) ∧ p5 = .slice aA al.length cA ∧ Ow wr kA aA cA al ∧ al.length ≤ 66 * q ∧ Hid (al = (ls.take q).flatMap putF) ∧ Hid (∀ p ∈ ls.take q, p.length ≤ 64) ∧ Below W.heap.size W wr ∧ Hid (W.heap.size ≤ kA))
    case atStart => exact ⟨0, none, 0, W.heap.size, [], by omega, rfl, rfl, Ow.nil _ _, by simp, by simp [Hid], by simp [Hid], Below.refl _ _, Nat.le_refl _⟩
    case round =>
      obtain ⟨q, aA, cA', kA, al, hq, rfl, rfl, hO, hal, hS, hall, hbel, hkA⟩ := hrel
      by_cases hj : q < ls.length
      · obtain ⟨xs, hxs⟩ : ∃ x, ls[q]? = some x := ⟨ls[q], List.getElem?_eq_getElem hj⟩
        obtain ⟨b1, off1, k1, eo1, ec1, rfl, hg1⟩ := hL.get hxs
        obtain ⟨hx, c1⟩ := hg1 wr hbel
        have hxl := hx.len
        have hxm := hx.top
        unfold maxLen at hxm
        by_cases hx64 : xs.length ≤ 64
        · have hpl := putF_length xs
          have hS2 : Hid (al ++ putF xs = (ls.take (q + 1)).flatMap putF) := by
            show _ = _
            rw [puts_take hxs, hS.out]
          have hall2 : Hid (∀ p ∈ ls.take (q + 1), p.length ≤ 64) := by
            show ∀ p ∈ ls.take (q + 1), p.length ≤ 64
            rw [List.take_add_one, hxs]
            intro p hp
            rcases List.mem_append.1 hp with hp | hp
            · exact hall.out p hp
            · simp at hp
              rw [hp]
              exact hx64
          have cP := fput_ok k1 ec1 eo1 xs hx64 wr hx
          clear hxs hS hall hI hL
          go_wp2_with (first
            | (go_at_call 8; refine cP.mono ?_; rintro e w1 ⟨ao1, cap1, k2, rfl, hP, hb1, hk2⟩; obtain ⟨-, c2⟩ := hg1 w1 (hbel.trans (hb1.mono hbel.size)); have hO1 := hO.below hb1)
            | (at_builtin; refine wpList_app rfl (.tmp 52) (.tmp 53) rfl hO1 hP rfl rfl rfl hpl.symm (by omega) ?_; intro ao3 cap3 k3 w3 ho3 hf3 hk3))
          go_roundg (ls.length - (q + 1))
          case measure => omega
          case rel =>
            have hz := hbel.size
            have hz1 := hb1.size
            refine ⟨q + 1, ao3, cap3, k3, al ++ putF xs, by omega, by go_num, by rw [List.length_append, hpl], ho3, by rw [List.length_append, hpl]; omega, hS2, hall2, (hbel.trans (hb1.mono hz)).trans (hf3.below (by omega) (by rintro b rfl; exact hkA.out)), ?_⟩
            show _ ≤ _
            rcases hk3 with e | hk3
            · rw [e]; exact hkA.out
            · omega
        · have cP := fput_big k1 ec1 eo1 xs (by omega) wr hx
          clear hxs hS hall hI hL
          go_wp2_with (first
            | (go_at_call 8; refine cP.mono ?_; rintro e w1 ⟨rfl, rfl⟩)
            | (go_at_call 7; refine (cA _).mono ?_; rintro e w7 ⟨rfl, hb7⟩))
          go_ret
          exact ⟨rfl, hbel.trans (hb7.mono hbel.size)⟩
      · have hqe : q = ls.length := by omega
        subst hqe
        have hS' : al = ls.flatMap putF := by rw [hS.out, List.take_of_length_le (Nat.le_refl _)]
        have hA0 := allF_puts ls (by have := hall.out; rwa [List.take_of_length_le (Nat.le_refl _)] at this)
        rw [← hS'] at hA0
        have h4 : (allF al).2.2 = 0 := by rw [hA0]
        have hfin : (allF al).1 = ls := by rw [hA0]
        have hlfin : left al = ([], 0) := by rw [left_ok (by rw [h4]; decide), hA0]; simp
        have HS : Hid (al.length ≤ 2000) := (by omega : al.length ≤ 2000)
        obtain ⟨g, hg⟩ : ∃ g, g = wr.heap.size := ⟨_, rfl⟩
        have hAg : al ≠ [] → kA < g := fun hx => by rw [hg]; exact hO.bt.size hx
        have hB0 := hO.bt.alloc (.cells #[.slice none 0 0, .int .i64 0] 39)
        have hc0 : Cut W g kA al (wr.alloc (.cells #[.slice none 0 0, .int .i64 0] 39)) 0 none none 0 [] := by
          rw [hg]
          exact ⟨⟨wr.heap.size + 1, none, 0, Blk.new _ _ _, Bt.nil _ _, by omega⟩, Lo.nil _ _, rfl, (by intro q e; cases e), hbel.alloc hbel.size _, hbel.size⟩
        obtain ⟨i2, hi2, hz2, hss2, hbb2⟩ := info_parts infoBs
        clear hS hall hO hal hkA hS' hA0
        go_wp2_with fail
        rw [← hg]
        clear hg
        go_loopg [5, 10, 11] zs.length (fun j p5 p10 p11 w2 => ∃ (q s : Nat) (aA2 : Option Addr) (cA2 : Nat) (kO : Option Nat) (aO : Option Addr) (cO : Nat) (os : List (List Nat)) (r : Nat), q + j = zs.length ∧ p11 = .int .i64 (q : Int) ∧ p5 = .slice aA2 r cA2 ∧ Hid (r = (al.drop s).length) ∧ p10 = .slice aO os.length cO ∧ Bt w2 kA aA2 cA2 (al.drop s) ∧ Cut W g kA al w2 s kO aO cO os)
        case atStart => exact ⟨0, 0, aA, cA', none, none, 0, [], al.length, by omega, rfl, rfl, by simp [Hid], rfl, by simpa using hB0, hc0⟩
        case round =>
          obtain ⟨q2, s, aA2, cA2, kO, aO, cO, os, r, hq2, rfl, rfl, hr, rfl, hBA, hcut⟩ := hrel
          have hkOg := hcut.kO
          have hAg' : al.drop s ≠ [] → kA < g := fun hx => hAg (by rintro rfl; simp at hx)
          have hol : os.length ≤ 2000 := by
            have h1 := frames_len (al.take s)
            rw [← hcut.eq, List.length_take] at h1
            have := HS.out
            omega
          have hrc : r ≤ cA2 := by rw [hr.out]; exact hBA.len
          have hct := hBA.top
          unfold maxLen at hct
          by_cases hj : q2 < zs.length
          · obtain ⟨c, hc⟩ : ∃ c, zs[q2]? = some c := ⟨zs[q2], List.getElem?_eq_getElem hj⟩
            obtain ⟨b2, off2, rfl, hgI⟩ := hI.get hc
            have ci := hgI _ hcut.bel
            obtain ⟨n, hn, hcn⟩ : ∃ n : Nat, n ≤ r ∧ (c ≤ 0 → n = 0) ∧ (0 ≤ c → c ≤ (r : Int) → c = (n : Int)) ∧ ((r : Int) ≤ c → n = r) := by
              by_cases h1 : c ≤ 0
              · exact ⟨0, by omega, by omega⟩
              · by_cases h2 : c ≤ r
                · exact ⟨c.toNat, by omega, by omega⟩
                · exact ⟨r, by omega, by omega⟩
            obtain ⟨ns, hns, hnl, cJ0⟩ := cut_add hcut HS.out hBA n (by rw [← hr.out]; exact hn)
            have cJ : ∀ m, m = n → Calls Try.prog 15 #[.pointer (some ⟨g, 0, none⟩), .slice aA2 m cA2] wr _ := fun m e => by
              subst e
              exact cJ0
            obtain ⟨cs, hgo, hEo⟩ := hcut.out
            have hnr : n ≤ (al.drop s).length := by rw [← hr.out]; exact hn
            have hdd : (al.drop s).drop n = al.drop (s + n) := List.drop_drop
            have hdl : Hid (r - n = (al.drop (s + n)).length) := by
              show _ = _
              rw [← hdd, List.length_drop, ← hr.out]
            replace hnr := (show Hid _ from hnr)
            replace hdd := (show Hid _ from hdd)
            clear hc hI hL hgI cJ0
            go_wp2_with (first
              | (go_at_call 15; refine (cJ _ (by omega)).mono ?_; rintro e w3 ⟨ko', ao', cap', kn, ds, rfl, hgd, hed, hJ, hF, hkn⟩; have hgo1 := hgo.frm hF (fun q e1 e2 => by have := hkOg q e1; omega))
              | (at_builtin; refine wpList_appG rfl (.tmp 69) (.tmp 73) 31 22 i2 _ 1 24 Try.underlying31 hi2 hz2 hss2 hbb2 rfl (by decide) rfl hgo1 (hgd.src hed.one) rfl rfl (by omega) (by omega) ?_; intro aO' cO' kO' w4 ho4 hf4 hm4; obtain ⟨hcut', hA'⟩ := Cut.step hcut h4 hns.out hed hJ hF hkn hEo ho4 hf4 hm4 hBA hAg'))
            all_goals go_roundg (zs.length - (q2 + 1))
            all_goals first
              | (case measure => omega)
              | skip
            all_goals
              refine ⟨q2 + 1, s + n, _, _, kO', aO', cO', os ++ ns, _, by omega, by go_num, rfl, ?_, by rw [List.length_append], ?_, hcut'⟩
              · show _ = _
                rw [← hdl.out]
                omega
              · first
                  | (refine Bt.cut0 hA' hdd.out ?_ hnr.out; omega)
                  | (refine Bt.cutE hA' hdd.out ?_ hnr.out; omega)
                  | (refine Bt.cutN hA' hdd.out ?_; omega)
          · have hq2e : q2 = zs.length := by omega
            subst hq2e
            obtain ⟨ns, hns, hnl, cJ⟩ := cut_add hcut HS.out hBA r (by rw [← hr.out]; exact Nat.le_refl _)
            obtain ⟨cs, hgo, hEo⟩ := hcut.out
            have htk : Hid (al.take (s + r) = al) := by
              show _ = _
              refine List.take_of_length_le ?_
              rw [hr.out, List.length_drop]
              omega
            clear hI hc0 hB0
            go_wp2_with (first
              | (go_at_call 15; refine cJ.mono ?_; rintro e w3 ⟨ko', ao', cap', kn, ds, rfl, hgd, hed, hJ, hF, hkn⟩; have hgo1 := hgo.frm hF (fun q e1 e2 => by have := hkOg q e1; omega))
              | (at_builtin; refine wpList_appG rfl (.tmp 78) (.tmp 80) 31 22 i2 _ 1 24 Try.underlying31 hi2 hz2 hss2 hbb2 rfl (by decide) rfl hgo1 (hgd.src hed.one) rfl rfl (by omega) (by omega) ?_; intro aO' cO' kO' w4 ho4 hf4 hm4; obtain ⟨hcut', hA'⟩ := Cut.step hcut h4 hns.out hed hJ hF hkn hEo ho4 hf4 hm4 hBA hAg'; have hos := hcut'.eq; have hjn := hcut'.jn; rw [htk.out] at hos hjn; rw [hfin] at hos; rw [hlfin] at hjn; obtain ⟨kj, hj4⟩ := hjn; have hb4 := hcut'.bel; have hlb := hcut'.out.lb; have hL4 := hL.below hb4; clear hgo hgo1 hgd hed hJ hF hm4 hf4 ho4 hcut hcut' hEo hA' hL)
              | (go_at_call 16; refine (lists_same _ hlb hL4 hos (by rw [List.length_append]) rfl).mono ?_; rintro e w5 ⟨rfl, m5, rfl⟩; replace hj4 := hj4.below (Below.drewN (Below.refl _ w4) m5); replace hb4 := Below.drewN hb4 m5; clear hlb hL4)
              | (go_at_call 18; refine (jwaits_any _ _ _ _ _ hj4).mono ?_; rintro e w6 ⟨rfl, rfl⟩)
              | (go_at_call 17; refine (jfault_any _ _ _ _ _ hj4).mono ?_; rintro e w7 ⟨rfl, rfl⟩)
              | (go_at_call 7; refine (cA _).mono ?_; rintro e w8 ⟨rfl, hb8⟩; have hb9 := hb4.trans (hb8.mono hb4.size)))
            go_ret
            exact ⟨rfl, hb9⟩
  · go_enter Try.func6, Try.ntmps6
    go_wp2_with (go_at_call 7; refine (cA _).mono ?_; rintro e w7 ⟨rfl, hb7⟩)
    all_goals first
      | (exfalso; omega)
      | (go_ret; exact ⟨rfl, hb7⟩)
end Go.Proofs.Ytkoehchaehoogaa
