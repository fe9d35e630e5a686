/-
  A Joiner: Add, Fault, Waits.
-/
import Derived.Test.YtkoehchaehoogaaFrmA
import Derived.Test.YtkoehchaehoogaaConcat
namespace Go.Proofs.Ytkoehchaehoogaa
open Go.RowKit

/-- A joiner at block g: the bytes ws wait (in block k), the fault is f. -/
def Jn (w : World) (g k : Nat) (ws : List Nat) (f : Nat) : Prop := ∃ ao cap, Blk w g 39 #[.slice ao ws.length cap, .int .i64 (f : Int)] ∧ Bt w k ao cap ws ∧ (ws ≠ [] → g ≠ k)
theorem Jn.frm {S : Nat → Prop} {w w' : World} {g k f : Nat} {ws : List Nat} (h : Jn w g k ws f) (hf : Frm S w w') (hg : ¬ S g) (hk : ws ≠ [] → ¬ S k) : Jn w' g k ws f := by
  obtain ⟨ao, cap, h1, h2, h3⟩ := h
  exact ⟨ao, cap, h1.frm hf hg, h2.frm hf hk, h3⟩
theorem Jn.below {w w' : World} {g k f : Nat} {ws : List Nat} (h : Jn w g k ws f) (hf : Below w.heap.size w w') : Jn w' g k ws f := h.frm (Frm.of_below (S := fun _ => False) hf) (fun f => f) (fun _ f => f)
theorem jfault_any (g k f : Nat) (ws : List Nat) (W : World) (h : Jn W g k ws f) :
    Calls Try.prog 17 #[.pointer (some ⟨g, 0, none⟩)] W fun e w' => e = .returned (.int .i64 (f : Int)) ∧ W = w' := by
  obtain ⟨ao, cap, h1, -, -⟩ := h
  have c1 : W.cell? ⟨g, 1, none⟩ = some (.int .i64 (f : Int)) := h1.cell_eq 1 _ rfl
  go_enter Try.func17, Try.ntmps17
  go_wp2
  go_ret
  exact ⟨rfl, rfl⟩
theorem jfault_nil (W : World) :
    Calls Try.prog 17 #[.pointer none] W fun e w' => e = .returned (.int .i64 3) ∧ W = w' := by
  go_enter Try.func17, Try.ntmps17
  go_wp2
  go_ret
  exact ⟨rfl, rfl⟩
theorem jwaits_any (g k f : Nat) (ws : List Nat) (W : World) (h : Jn W g k ws f) :
    Calls Try.prog 18 #[.pointer (some ⟨g, 0, none⟩)] W fun e w' => e = .returned (.int .i64 (ws.length : Int)) ∧ W = w' := by
  obtain ⟨ao, cap, h1, -, -⟩ := h
  have c1 : W.cell? ⟨g, 0, none⟩ = some (.slice ao ws.length cap) := h1.cell_eq 0 _ rfl
  go_enter Try.func18, Try.ntmps18
  go_wp2
  go_ret
  exact ⟨rfl, rfl⟩
theorem jwaits_nil (W : World) :
    Calls Try.prog 18 #[.pointer none] W fun e w' => e = .returned (.int .i64 0) ∧ W = w' := by
  go_enter Try.func18, Try.ntmps18
  go_wp2
  go_ret
  exact ⟨rfl, rfl⟩
theorem jadd_nil (v : Value) (W : World) :
    Calls Try.prog 15 #[.pointer none, v] W fun e w' => e = .returned (.slice none 0 0) ∧ W = w' := by
  go_enter Try.func15, Try.ntmps15
  go_wp2_with fail
  go_step3
  go_wp2_with (go_at_call 17; refine (jfault_nil _).mono ?_; rintro e w1 ⟨rfl, rfl⟩)
  rw [Exit.noGoto_ret]
  go_ret
  exact ⟨rfl, rfl⟩
theorem jadd_fault (g k : Nat) (ws : List Nat) (v : Value) (W : World) (h : Jn W g k ws 4) :
    Calls Try.prog 15 #[.pointer (some ⟨g, 0, none⟩), v] W fun e w' => e = .returned (.slice none 0 0) ∧ W = w' := by
  have cF := jfault_any g k 4 ws W h
  go_enter Try.func15, Try.ntmps15
  go_wp2_with fail
  go_step3
  go_wp2_with (go_at_call 17; refine cF.mono ?_; rintro e w1 ⟨rfl, rfl⟩)
  rw [Exit.noGoto_ret]
  go_ret
  exact ⟨rfl, rfl⟩
/-- What waits behind a stream, and the fault. -/
def left (zs : List Nat) : List Nat × Nat := if (allF zs).2.2 = 4 then ([], 4) else (zs.drop (allF zs).2.1, 0)
def Joined (W w' : World) (e : Ending) (g : Nat) (zs : List Nat) : Prop := ∃ ko ao cap k', e = .returned (.slice ao (allF zs).1.length cap) ∧ Lo (W.heap.size ≤ ·) w' ko ao cap (allF zs).1 ∧ Jn w' g k' (left zs).1 (left zs).2 ∧ Frm (fun b => b = g) W w' ∧ (∀ q, ko = some q → W.heap.size ≤ q) ∧ W.heap.size ≤ k'
theorem run_left3 {zs : List Nat} {pre : List (List Nat)} {i : Nat} (hi : i ≤ zs.length) (h0 : takeF (zs.drop i) = ([], 0, 3)) (h : allF zs = (pre ++ (allF (zs.drop i)).1, i + (allF (zs.drop i)).2.1, (allF (zs.drop i)).2.2)) : (allF zs).1 = pre ∧ left zs = (zs.drop i, 0) := by
  by_cases hz : i < zs.length
  · have e := run_stop hz h0 (by decide) h
    unfold left
    rw [e]
    exact ⟨rfl, rfl⟩
  · have e := run_end (by omega) h
    unfold left
    rw [e]
    exact ⟨rfl, rfl⟩
theorem run_left4 {zs : List Nat} {pre : List (List Nat)} {i : Nat} (hi : i ≤ zs.length) (h0 : takeF (zs.drop i) = ([], 0, 4)) (h : allF zs = (pre ++ (allF (zs.drop i)).1, i + (allF (zs.drop i)).2.1, (allF (zs.drop i)).2.2)) : (allF zs).1 = pre ∧ left zs = ([], 4) := by
  by_cases hz : i < zs.length
  · have e := run_stop hz h0 (by decide) h
    unfold left
    rw [e]
    exact ⟨rfl, rfl⟩
  · rw [List.drop_eq_nil_of_le (by omega)] at h0
    cases h0
/-- Behind a round's append. -/
theorem join_app {W W1 wr w1 w2 : World} {kr cr' cap' cP' k' : Nat} {ao' ar' aP' : Option Addr} {kP kP' : Option Nat} {pre : List (List Nat)} {p rs : List Nat} {o : Obj} {cs : List Value}
    (hbel : Below W.heap.size W wr) (hW1 : W.heap.size ≤ W1.heap.size) (h1r : W1.heap.size ≤ wr.heap.size) (hb1 : Below wr.heap.size wr w1) (hr1 : rs ≠ [] → kr < W1.heap.size) (hBr : Bt wr kr ar' cr' rs) (hE : Els (W.heap.size ≤ ·) wr kP pre cs) (hPlt : ∀ q, kP = some q → q < wr.heap.size)
    (hp : Bt w1 k' ao' cap' p) (hk' : wr.heap.size ≤ k') (ho : OwG 22 1 w2 kP' aP' cP' (pre.length + 1) (cs ++ [.slice ao' p.length cap'])) (hf : Frm (fun b => kP = some b) (w1.alloc o) w2) (hm : Moved (w1.alloc o) kP kP') (hkP : ∀ q, kP = some q → W1.heap.size ≤ q) :
    Bt w2 kr ar' cr' rs ∧ Lo (W.heap.size ≤ ·) w2 kP' aP' cP' (pre ++ [p]) ∧ Below W.heap.size W w2 ∧ W1.heap.size ≤ w2.heap.size ∧ (∀ q, kP' = some q → W1.heap.size ≤ q) := by
  have s1 := hbel.size
  have s2 := hb1.size
  have s3 : w1.heap.size + 1 ≤ w2.heap.size := by have := hf.size; simpa using this
  have hal : Below w1.heap.size w1 (w1.alloc o) := (Below.refl _ w1).alloc (Nat.le_refl _) _
  have hal2 : Below wr.heap.size wr (w1.alloc o) := hb1.alloc s2 _
  refine ⟨(hBr.below hal2).frm hf (fun hx hs => ?_), ⟨_, by rw [List.length_append]; exact ho, ?_⟩, ?_, by omega, ?_⟩
  · have := hr1 hx
    have := hkP kr hs
    omega
  · refine Els.moved (Els.append (hE.frm (Frm.of_below (S := fun _ => False) hal2) (fun _ _ _ _ f => f)) (Els.single (hp.alloc _) fun _ => ⟨fun e => ?_, Nat.le_trans s1 hk'⟩)) hf hm
    have := hPlt k' e
    omega
  · exact ((hbel.trans (hb1.mono s1)).alloc (by omega) _).trans (hf.below (by simp; omega) (fun q hq => Nat.le_trans hW1 (hkP q hq)))
  · intro q hq
    rcases hm with h | h | ⟨q2, h, h2⟩
    · rw [h] at hq; cases hq
    · rw [h] at hq; exact hkP q hq
    · rw [h] at hq
      cases hq
      have h2' : w1.heap.size + 1 ≤ q := by simpa using h2
      omega
theorem join_end {W w2 : World} {g k2 c2 cP f : Nat} {a2 aP : Option Addr} {kP : Option Nat} {pre : List (List Nat)} {rs zs : List Nat} {x : Value} (hF : Frm (fun b => b = g) W w2) (hgW : g < W.heap.size) (hblk : Blk w2 g 39 #[x, .int .i64 (f : Int)])
    (hP : Lo (W.heap.size ≤ ·) w2 kP aP cP pre) (hB : Bt w2 k2 a2 c2 rs) (hk2 : W.heap.size ≤ k2) (hkP : ∀ q, kP = some q → W.heap.size ≤ q) (e1 : (allF zs).1 = pre) (e2 : left zs = (rs, f)) :
    Joined W (w2.setCell ⟨g, 0, none⟩ (.slice a2 rs.length c2)) (.returned (.slice aP pre.length cP)) g zs := by
  have hs : Frm (fun b => b = g) w2 (w2.setCell ⟨g, 0, none⟩ (.slice a2 rs.length c2)) := (Frm.refl _ w2).setCell _ _ (.inl rfl)
  unfold Joined
  rw [e1, e2]
  refine ⟨kP, aP, cP, k2, rfl, hP.frm hs (fun q hq e => ?_) (fun q _ _ hq e => ?_), ⟨a2, c2, hblk.set 0 _, hB.frm hs (fun _ e => ?_), fun _ e => ?_⟩, hF.setCell _ _ (.inl rfl), hkP, hk2⟩
  · have := hkP q hq; omega
  · have := (show W.heap.size ≤ q from hq); omega
  · omega
  · omega
theorem jadd_any (g k j bcap : Nat) (bo : Option Addr) (ws ys : List Nat) (hws : ws.length ≤ 2000000) (hys : ys.length ≤ 2000000) (hsum : ws.length + ys.length ≤ 2000000) (W : World) (h : Jn W g k ws 0) (hY : Bt W j bo bcap ys) :
    Calls Try.prog 15 #[.pointer (some ⟨g, 0, none⟩), .slice bo ys.length bcap] W fun e w' => Joined W w' e g (ws ++ ys) := by
  have cF := jfault_any g k 0 ws W h
  obtain ⟨ao, cap, h1, h2, h3⟩ := h
  have c0 : W.cell? ⟨g, 0, none⟩ = some (.slice ao ws.length cap) := h1.cell_eq 0 _ rfl
  have hw := (Below.refl _ W).alloc (Nat.le_refl _) (.cells #[.slice ao ws.length cap, .slice bo ys.length bcap] 22)
  have cC := concat_any k cap j bcap W.heap.size ao bo ws ys hws hys _ (h2.below hw) (hY.below hw) (Blk.new _ _ _)
  have hgW := h1.lt
  obtain ⟨zs, hzs⟩ : ∃ zs, zs = ws ++ ys := ⟨_, rfl⟩
  have hzl : zs.length ≤ 2000000 := by rw [hzs, List.length_append]; exact hsum
  rw [← hzs] at cC ⊢
  clear h2 hY h3 hzs
  obtain ⟨i2, hi2, hz2, hs2, hb2⟩ := info_parts infoBs
  go_enter Try.func15, Try.ntmps15
  go_wp2_with fail
  go_step3
  go_wp2_with (first
    | (go_at_call 17; refine cF.mono ?_; rintro e w1 ⟨rfl, rfl⟩)
    | (go_at_call 30; refine cC.mono ?_; rintro e W1 ⟨v, rfl, ar, cr, kr, rfl, hB1, hb1, hkr⟩))
  have hbW1 : Below W.heap.size W W1 := hw.trans (hb1.mono (by simp))
  have hs1 : W.heap.size + 1 ≤ W1.heap.size := by have := hb1.size; simpa using this
  clear c0 cC cF hw hb1
  have hr1 : zs ≠ [] → kr < W1.heap.size := hB1.size
  go_step3
  go_wp2_with fail
  go_loopg [5, 6] zs.length (fun j p5 p6 wr => ∃ (i : Nat) (pre : List (List Nat)) (ar' : Option Addr) (cr' : Nat) (kP : Option Nat) (aP : Option Addr) (cP : Nat), i + j = zs.length ∧ p5 = .slice ar' j cr' ∧ p6 = .slice aP pre.length cP ∧ pre.length ≤ i ∧ Bt wr kr ar' cr' (zs.drop i) ∧ Lo (W.heap.size ≤ ·) wr kP aP cP pre ∧ Below W.heap.size W wr ∧ W1.heap.size ≤ wr.heap.size ∧
    Hid (allF zs = (pre ++ (allF (zs.drop i)).1, i + (allF (zs.drop i)).2.1, (allF (zs.drop i)).2.2)) ∧ Hid (∀ q, kP = some q → W1.heap.size ≤ q))
  case atStart => exact ⟨0, [], ar, cr, none, none, 0, by omega, rfl, rfl, by simp, by simpa using hB1, Lo.nil _ _, hbW1, Nat.le_refl _, by simp [Hid], (by intro q e; cases e)⟩
  case round =>
    obtain ⟨i, pre, ar', cr', kP, aP, cP, hij, rfl, rfl, hpi, hBr, hP, hbel, hz1, hall, hkP⟩ := hrel
    have hli : (zs.drop i).length = gk := by rw [List.length_drop]; omega
    have hlc := hBr.len
    have cT := ftake_any kr cr' ar' (zs.drop i) wr hBr
    rw [hli] at cT
    have hblk := h1.below hbel hgW
    rcases takeF_cases (zs.drop i) with h0 | h0 | ⟨p, h0, hp1, hp2⟩
    · obtain ⟨e1, e2⟩ := run_left3 (by omega) h0 hall.out
      rw [h0] at cT
      clear hall h0
      have cCl : ∀ w, Bt w kr ar' cr' (zs.drop i) → Calls Try.prog 28 #[.slice ar' gk cr'] w fun e w' => ∃ a2 c2 k2, e = .returned (.slice a2 gk c2) ∧ Bt w' k2 a2 c2 (zs.drop i) ∧ Below w.heap.size w w' ∧ w.heap.size ≤ k2 := fun w hb => by
        have := clone_any kr cr' ar' (zs.drop i) (by omega) w hb
        rw [hli] at this
        exact this.mono fun e w' ⟨v, h1, a2, c2, k2, h2, h3⟩ => ⟨a2, c2, k2, by rw [h1, h2, hli], h3⟩
      go_wp2_with (first
        | (go_at_call 10; refine cT.mono ?_; rintro e w1 ⟨ao', cap', k', rfl, hp, hb1', hk'⟩)
        | (go_at_call 28; refine (cCl _ (hBr.below hb1')).mono ?_; rintro e w2 ⟨a2, c2, k2, rfl, hB2, hb2', hk2⟩; have hb12 := hb1'.trans (hb2'.mono hb1'.size); have hblk2 := hblk.below hb12 hblk.lt; have d0 := hblk2.cell_eq 0 _ rfl; have d1 := hblk2.free 0))
      rw [Exit.noGoto_ret]
      go_ret
      have hbW2 := hbel.trans (hb12.mono hbel.size)
      rw [← hli]
      exact join_end (Frm.of_below hbW2) hgW hblk2 (hP.below hb12) hB2 (Nat.le_trans (Nat.le_trans hbel.size hb1'.size) hk2) (fun q hq => by have := hkP.out q hq; omega) e1 e2
    · obtain ⟨e1, e2⟩ := run_left4 (by omega) h0 hall.out
      rw [h0] at cT
      clear hall h0
      have cCl : ∀ w, Calls Try.prog 28 #[.slice none 0 0] w _ := fun w => clone_any 0 0 none [] (by simp) w (Bt.nil _ _)
      go_wp2_with (first
        | (go_at_call 10; refine cT.mono ?_; rintro e w1 ⟨ao', cap', k', rfl, hp, hb1', hk'⟩; have hblk1 := hblk.below hb1' hblk.lt; have d2 := hblk1.cell_eq 1 _ rfl; have d3 := hblk1.free 1)
        | (go_at_call 28; refine (cCl _).mono ?_; rintro e w2 ⟨v, rfl, a2, c2, k2, rfl, hB2, hb2', hk2⟩; have hblk2 := (hblk1.set 1 (.int .i64 4)).below hb2' (hblk1.set 1 (.int .i64 4)).lt; have d0 := hblk2.cell_eq 0 _ rfl; have d1 := hblk2.free 0))
      rw [Exit.noGoto_ret]
      go_ret
      have hbW1' := hbel.trans (hb1'.mono hbel.size)
      have hF1 : Frm (fun b => b = g) w1 (w1.setCell ⟨g, 1, none⟩ (.int .i64 4)) := (Frm.refl _ w1).setCell _ _ (.inl rfl)
      have hF2 : Frm (fun b => b = g) W w2 := ((Frm.of_below hbW1').trans hF1 (fun q e => .inl e)).trans (Frm.of_below (S := fun _ => False) hb2') (fun _ f => f.elim)
      have hsW := hbW1'.size
      have hs2 := hF1.size
      refine join_end hF2 hgW hblk2 (((hP.below hb1').frm hF1 (fun q hq e => ?_) (fun q _ _ hq e => ?_)).below hb2') hB2 (by omega) (fun q hq => by have := hkP.out q hq; omega) e1 e2
      · have := hkP.out q hq; omega
      · have := (show W.heap.size ≤ q from hq); omega
    · have hE : Hid _ := run_step (by omega) h0 hall.out
      have hpl : (pre ++ [p]).length = pre.length + 1 := by simp
      rw [h0] at cT
      clear hall h0
      obtain ⟨cs, hP1, hP2⟩ := hP
      have hPlt : ∀ q, kP = some q → q < wr.heap.size := fun q e => by subst e; exact hP1.lt
      have hdd : (zs.drop i).drop (2 + p.length) = zs.drop (i + (2 + p.length)) := List.drop_drop
      go_wp2_with (first
        | (go_at_call 10; refine cT.mono ?_; rintro e w1 ⟨ao', cap', k', rfl, hp, hb1', hk'⟩; have hP1' := hP1.below hb1')
        | (at_builtin; refine wpList_appG rfl (.tmp 33) (.tmp 35) 31 22 i2 _ 1 24 Try.underlying31 hi2 hz2 hs2 hb2 rfl (by decide) rfl (hP1'.alloc _) (SrcG.one1 _ _ rfl _) rfl rfl (by omega) (by omega) ?_; intro aP' cP' kP' w3 ho3 hf3 hm3; obtain ⟨q1, q2, q3, q4, q5⟩ := join_app hbel (by omega) hz1 hb1' (fun hx => hr1 (by rintro rfl; simp at hx)) hBr hP2 hPlt hp hk' ho3 hf3 hm3 hkP.out))
      · go_roundg (zs.length - (i + (2 + p.length)))
        case measure => omega
        case rel =>
          have q1' := q1.dropAll (n := 2 + p.length) (by omega) (by omega)
          rw [hdd] at q1'
          refine ⟨i + (2 + p.length), pre ++ [p], _, _, kP', aP', cP', by omega, by rw [show gk - (2 + p.length) = zs.length - (i + (2 + p.length)) by omega], by rw [hpl], by omega, q1', q2, q3, q4, hE, q5⟩
      · go_roundg (zs.length - (i + (2 + p.length)))
        case measure => omega
        case rel =>
          have q1' := q1.drop (n := 2 + p.length) (by omega)
          rw [hdd] at q1'
          refine ⟨i + (2 + p.length), pre ++ [p], _, _, kP', aP', cP', by omega, by rw [show gk - (2 + p.length) = zs.length - (i + (2 + p.length)) by omega], by rw [hpl], by omega, q1', q2, q3, q4, hE, q5⟩
end Go.Proofs.Ytkoehchaehoogaa
