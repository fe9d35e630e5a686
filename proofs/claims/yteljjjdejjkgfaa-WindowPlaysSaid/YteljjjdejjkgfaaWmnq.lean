/-
  Mean, Roll, Reset of the program's window. (Written by gen/p_wmn.py.)
-/
import Derived.Test.YteljjjdejjkgfaaWadq
import Derived.Test.YteljjjdejjkgfaaGI
import Derived.Test.YteljjjdejjkgfaaDivq
import Derived.StillTailTactics
namespace Go.Proofs.Yteljjjdejjkgfaa
open Go.RowKit
set_option linter.unusedSimpArgs false
/-- Two orders, one way on. -/
theorem merge_pw {G P : Nat → World → Prop} {X : Prop} (h1 : (∀ ax w, P ax w → G ax w) → X) (h2 : ∀ ax w, P ax w → G ax w) : X := h1 h2
theorem wd_new (w : World) : ∃ V, V = w.alloc (.cells #[.int .u64 0, .int .u64 0] 53) ∧ Blk V w.heap.size 53 #[.int .u64 0, .int .u64 0] ∧ Below w.heap.size w V := ⟨_, rfl, Blk.new _ _ _, (Below.refl _ _).alloc (Nat.le_refl _) _⟩
theorem wd_lay {w : World} {ax : Nat} (h : Blk w ax 53 #[.int .u64 0, .int .u64 0]) (a b : Int) : ∃ V, V = (w.setCell ⟨ax, 0, none⟩ (.int .u64 a)).setCell ⟨ax, 1, none⟩ (.int .u64 b) ∧ Blk V ax 53 #[.int .u64 a, .int .u64 b] ∧ ∀ B W0, B ≤ ax → Below B W0 w → Below B W0 V :=
  ⟨_, rfl, (h.set 0 (.int .u64 a)).set 1 (.int .u64 b), fun _ _ hB hb => (hb.setCell (p := ⟨ax, 0, none⟩) hB _).setCell (p := ⟨ax, 1, none⟩) hB _⟩
section
variable {w w' W V0 : World} {g : Nat} {S T : Nat → Prop} {m m' : Wn} {ko : Option Nat} {ao : Option Addr} {cap : Nat}
theorem Tp.ahead (h : Tp V0 g S m w) (hF : Frm S W V0) : Tp W g S m w := by
  obtain ⟨S', h1, h2, h3⟩ := h
  exact ⟨S', h1, hF.trans h2 (fun c e => .inl e), fun c e => (h3 c e).imp id (Nat.le_trans hF.size)⟩
set_option maxRecDepth 100000 in
set_option maxHeartbeats 8000000 in
theorem wp_mean (t : Int) (_ht : In64 t) (hlen : m.L.length ≤ 1000000) (h : WP W g S m) : Calls Try.prog 16 #[.pointer (some ⟨g, 0, none⟩), .int .i64 t] W fun e w' => e = .returned (.tuple #[.int .i64 (m.mean t).1.1, .bool (m.mean t).1.2]) ∧ Tp W g S (m.mean t).2 w' := by
  obtain ⟨ko, ao, cap, h⟩ := h
  have cK := paccepts_any t h
  by_cases hk0 : tickOk m.last t
  rotate_left
  · have e : m.mean t = ((0, false), m) := by unfold Wn.mean; exact if_neg hk0
    rw [e]
    rw [decide_eq_false hk0] at cK
    have hk : ∀ w, Below W.heap.size W w → Tp W g S m w := fun w hb => Tp.below ⟨ko, ao, cap, h⟩ hb
    clear e h hk0 hlen
    go_enter Try.func16, Try.ntmps16
    go_wp2_with (first
      | (go_at_call 26; refine cK.mono ?_; rintro e w ⟨rfl, hb⟩; clear cK)
      | fail)
    go_ret2
    exact ⟨rfl, hk _ hb⟩
  rw [decide_eq_true hk0] at cK
  have hk : ∀ w, Below W.heap.size W w → w.cell? ⟨g, 3, none⟩ = some (.int .i64 m.last) ∧ (∀ i, w.frozen? ⟨g, i, none⟩ = false) ∧ WpB (w.setCell ⟨g, 3, none⟩ (.int .i64 t)) g S ko ao cap { m with last := t } ∧ Frm S W (w.setCell ⟨g, 3, none⟩ (.int .i64 t)) := fun w hb => by
    have h0 := h.below hb
    have hs : (w.setCell ⟨g, 3, none⟩ (.int .i64 t)).heap.size = w.heap.size := by simp
    have hok : ({ m with last := t } : Wn).Ok := ⟨h.ok.s, h.ok.g, h.ok.r, ⟨hk0.1, hk0.2.1⟩, fun x hx => ⟨(h.ok.ok x hx).1, by have := (h.ok.ok x hx).2; have := hk0.2.2; simp only; omega⟩, h.ok.srt⟩
    exact ⟨h0.hg.cell_eq 3 _ rfl, h0.hg.free, ⟨h0.hg.set 3 _, h0.how.keep fun k e => heap_oth _ _ _ (h0.sk k e).2, h0.sg, h0.sk, fun c hc => by rw [hs]; exact h0.lt c hc, hok⟩, (Frm.of_below hb).setCell ⟨g, 3, none⟩ _ (.inl h.sg)⟩
  have hgr := h.ok.g
  have hall : ∀ x ∈ m.inW t, x.Ok := fun x hx => (h.ok.ok x (List.mem_filter.1 hx).1).1
  have hinl : (m.inW t).length ≤ 1000000 := Nat.le_trans (List.length_filter_le _ _) hlen
  have hmean : m.mean t = if m.inW t = [] then ((0, false), { m with last := t, L := [] }) else ((gridM (pqs (m.inW t) / qqs (m.inW t)) m.grid, true), { m with last := t, L := m.inW t }) := by
    unfold Wn.mean
    exact if_pos hk0
  have hinw : ({ m with last := t } : Wn).inW t = m.inW t := rfl
  have cL : ∀ w, WpB w g S ko ao cap { m with last := t } → Calls Try.prog 32 #[.pointer (some ⟨g, 0, none⟩), .int .i64 t] w fun e w' => e = .returned (.tuple #[]) ∧ Tp w g S { m with last := t, L := m.inW t } w' := fun w hw => by
    have := pleave_any (m := { m with last := t }) t ⟨hk0.1, hk0.2.1⟩ hlen hw
    rw [hinw] at this
    exact this
  obtain ⟨s1, s2, s3, s4⟩ := sums_small2 hall hinl
  have hsp := sums_small hall
  have hgl := h.lt g h.sg
  rw [hmean]
  clear hmean hinw h hk0
  by_cases hemp : m.inW t = []
  · rw [if_pos hemp]
    rw [hemp] at cL
    clear s1 s2 s3 s4 hsp hall hinl hgr hemp
    have cD : ∀ w, Calls Try.prog 33 #[.agg #[.int .u64 (hi 0), .int .u64 (lo 0)], .int .u64 (lo 0)] w fun e w' => e = .returned (.tuple #[.agg #[.int .u64 0, .int .u64 0], .int .u64 0, .bool false]) ∧ Below w.heap.size w w' := fun w => div_zero 0 ⟨by omega, by omega⟩ w
    obtain ⟨qh, hqh⟩ : ∃ q : Int, q = 0 := ⟨_, rfl⟩
    obtain ⟨ql, hql⟩ : ∃ q : Int, q = 0 := ⟨_, rfl⟩
    obtain ⟨rr, hrr⟩ : ∃ q : Int, q = 0 := ⟨_, rfl⟩
    obtain ⟨ok, hok⟩ : ∃ q : Bool, q = false := ⟨_, rfl⟩
    replace cD : ∀ w, Calls Try.prog 33 #[.agg #[.int .u64 (hi 0), .int .u64 (lo 0)], .int .u64 (lo 0)] w fun e w' => e = .returned (.tuple #[.agg #[.int .u64 qh, .int .u64 ql], .int .u64 rr, .bool ok]) ∧ Below w.heap.size w w' := by rw [hqh, hql, hrr, hok]; exact cD
    clear hqh hql hrr
    replace hok := Lib.hid hok
    go_enter Try.func16, Try.ntmps16
    go_wp2_with (first
      | (go_at_call 26; refine cK.mono ?_; rintro e w ⟨rfl, hb⟩; clear cK; obtain ⟨c3, fr, hw0, hF0⟩ := hk w hb; clear hk)
      | (go_at_call 32; refine (cL _ hw0).mono ?_; rintro e V ⟨rfl, hT⟩; clear cL)
      | fail)
    replace hT := hT.ahead hF0
    have hT2 := hT
    obtain ⟨S', ⟨ko', ao', cap', hW'⟩, hF', hS'⟩ := hT2
    have hBg : Blk V g 55 (cWin m.span m.grid m.ref t ao' 0 cap' 0 0) := hW'.hg
    clear hW' hF' hS' hF0 hw0 c3 fr hb
    have hT2 := Lib.hid fun w (hw : Below V.heap.size V w) => hT.more hw
    clear hT
    refine GoL.start (S := fun _ w => Below V.heap.size V w) (by kernel_rfl) (Below.refl _ _).drew ?_
    have hS : Below V.heap.size V V.drew := (Below.refl _ _).drew
    generalize V.drew = U at hS ⊢
    have hS0 := hS
    have hax0 := fun w (h : Below V.heap.size V w) => h.size
    apply merge_pw (P := fun ax w => Below V.heap.size V w ∧ Blk w ax 53 #[.int .u64 qh, .int .u64 ql] ∧ V.heap.size ≤ ax)
    · intro hk
      refine GoL.take (i := 0) (v := ?_) rfl rfl (by kernel_rfl) (fun _ _ _ h => h) (fun _ _ => Iff.rfl) (by rfl) ?_ ?_
      rotate_left
      · intro wx hwx
        have hwx := Wi.at' hwx
        go_simp
        all_goals first
          | done
          | with_reducible rfl
          | assumption
          | (simp_all; done)
      try simp only [Act.put, List.setIfInBounds_toArray, List.set_cons_zero, List.set_cons_succ, List.getElem_toArray, List.getElem_cons_zero, List.getElem_cons_succ]
      refine GoL.take (i := 1) (v := ?_) rfl rfl (by kernel_rfl) (fun _ _ _ h => h) (fun _ _ => Iff.rfl) (by rfl) ?_ ?_
      rotate_left
      · intro wx hwx
        have hwx := Wi.at' hwx
        go_simp
        all_goals first
          | done
          | with_reducible rfl
          | assumption
          | (simp_all; done)
      try simp only [Act.put, List.setIfInBounds_toArray, List.set_cons_zero, List.set_cons_succ, List.getElem_toArray, List.getElem_cons_zero, List.getElem_cons_succ]
      refine GoL.take (i := 2) (v := ?_) rfl rfl (by kernel_rfl) (fun _ _ _ h => h) (fun _ _ => Iff.rfl) (by rfl) ?_ ?_
      rotate_left
      · intro wx hwx
        have hwx := Wi.at' hwx
        go_simp
        all_goals first
          | done
          | with_reducible rfl
          | assumption
          | (simp_all; done)
      try simp only [Act.put, List.setIfInBounds_toArray, List.set_cons_zero, List.set_cons_succ, List.getElem_toArray, List.getElem_cons_zero, List.getElem_cons_succ]
      refine GoL.take (i := 3) (v := ?_) rfl rfl (by kernel_rfl) (fun _ _ _ h => h) (fun _ _ => Iff.rfl) (by rfl) ?_ ?_
      rotate_left
      · intro wx hwx
        have hwx := Wi.at' hwx
        have z5 := (hBg.below hwx hBg.lt).cell_eq 5 _ rfl
        have z6 := (hBg.below hwx hBg.lt).cell_eq 6 _ rfl
        have z8 := (hBg.below hwx hBg.lt).cell_eq 8 _ rfl
        go_simp
        all_goals first
          | done
          | with_reducible rfl
          | assumption
          | (simp_all; done)
      try simp only [Act.put, List.setIfInBounds_toArray, List.set_cons_zero, List.set_cons_succ, List.getElem_toArray, List.getElem_cons_zero, List.getElem_cons_succ]
      refine GoL.take (i := 4) (v := ?_) rfl rfl (by kernel_rfl) (fun _ _ _ h => h) (fun _ _ => Iff.rfl) (by rfl) ?_ ?_
      rotate_left
      · intro wx hwx
        have hwx := Wi.at' hwx
        go_simp
        all_goals first
          | done
          | with_reducible rfl
          | assumption
          | (simp_all; done)
      try simp only [Act.put, List.setIfInBounds_toArray, List.set_cons_zero, List.set_cons_succ, List.getElem_toArray, List.getElem_cons_zero, List.getElem_cons_succ]
      refine GoL.take (i := 5) (v := ?_) rfl rfl (by kernel_rfl) (fun _ _ _ h => h) (fun _ _ => Iff.rfl) (by rfl) ?_ ?_
      rotate_left
      · intro wx hwx
        have hwx := Wi.at' hwx
        go_simp
        all_goals first
          | done
          | with_reducible rfl
          | assumption
          | (simp_all; done)
      try simp only [Act.put, List.setIfInBounds_toArray, List.set_cons_zero, List.set_cons_succ, List.getElem_toArray, List.getElem_cons_zero, List.getElem_cons_succ]
      refine GoL.take (i := 6) (v := ?_) rfl rfl (by kernel_rfl) (fun _ _ _ h => h) (fun _ _ => Iff.rfl) (by rfl) ?_ ?_
      rotate_left
      · intro wx hwx
        have hwx := Wi.at' hwx
        go_simp
        all_goals first
          | done
          | with_reducible rfl
          | assumption
          | (simp_all; done)
      try simp only [Act.put, List.setIfInBounds_toArray, List.set_cons_zero, List.set_cons_succ, List.getElem_toArray, List.getElem_cons_zero, List.getElem_cons_succ]
      refine GoL.take (i := 7) (v := ?_) rfl rfl (by kernel_rfl) (fun _ _ _ h => h) (fun _ _ => Iff.rfl) (by rfl) ?_ ?_
      rotate_left
      · intro wx hwx
        have hwx := Wi.at' hwx
        go_simp
        all_goals first
          | done
          | with_reducible rfl
          | assumption
          | (simp_all; done)
      try simp only [Act.put, List.setIfInBounds_toArray, List.set_cons_zero, List.set_cons_succ, List.getElem_toArray, List.getElem_cons_zero, List.getElem_cons_succ]
      refine GoL.take (i := 8) (v := ?_) rfl rfl (by kernel_rfl) (fun _ _ _ h => h) (fun _ _ => Iff.rfl) (by rfl) ?_ ?_
      rotate_left
      · intro wx hwx
        have hwx := Wi.at' hwx
        have z5 := (hBg.below hwx hBg.lt).cell_eq 5 _ rfl
        have z6 := (hBg.below hwx hBg.lt).cell_eq 6 _ rfl
        have z8 := (hBg.below hwx hBg.lt).cell_eq 8 _ rfl
        go_simp
        all_goals first
          | done
          | with_reducible rfl
          | assumption
          | (simp_all; done)
      try simp only [Act.put, List.setIfInBounds_toArray, List.set_cons_zero, List.set_cons_succ, List.getElem_toArray, List.getElem_cons_zero, List.getElem_cons_succ]
      refine GoL.on (rs := [9, 14]) (by kernel_rfl) (by decide) ?_
      refine OnL.cons rfl ?_ (OnL.cons rfl ?_ OnL.nil)
      · intro K hK
        replace hK := Lib.hid hK
        go_simp
        refine (cD _).mono ?_
        rintro e w2 ⟨rfl, hb2⟩
        have hS := hS.trans (hb2.mono hS.size)
        have hSc := hS
        refine hK.out _ _ hS ?_
        clear hK
        try simp only [Act.put, List.setIfInBounds_toArray, List.set_cons_zero, List.set_cons_succ, List.getElem_toArray, List.getElem_cons_zero, List.getElem_cons_succ]
        refine GoL.take (i := 10) (v := ?_) rfl rfl (by kernel_rfl) (fun _ _ _ h => h) (fun _ _ => Iff.rfl) (by rfl) ?_ ?_
        rotate_left
        · intro wx hwx
          have hwx := Wi.at' hwx
          go_simp
          all_goals first
            | done
            | with_reducible rfl
            | assumption
            | (simp_all; done)
        try simp only [Act.put, List.setIfInBounds_toArray, List.set_cons_zero, List.set_cons_succ, List.getElem_toArray, List.getElem_cons_zero, List.getElem_cons_succ]
        refine GoL.take (i := 11) (v := (.agg #[.int .u64 qh, .int .u64 ql])) rfl rfl (by kernel_rfl) (fun _ _ _ h => h) (fun _ _ => Iff.rfl) (by rfl) ?_ ?_
        · intro wx hwx
          have hwx := Wi.at' hwx
          go_simp
          all_goals first
            | done
            | with_reducible rfl
            | assumption
            | (simp_all; done)
        try simp only [Act.put, List.setIfInBounds_toArray, List.set_cons_zero, List.set_cons_succ, List.getElem_toArray, List.getElem_cons_zero, List.getElem_cons_succ]
        refine GoL.take (i := 12) (v := (.int .u64 rr)) rfl rfl (by kernel_rfl) (fun _ _ _ h => h) (fun _ _ => Iff.rfl) (by rfl) ?_ ?_
        · intro wx hwx
          have hwx := Wi.at' hwx
          go_simp
          all_goals first
            | done
            | with_reducible rfl
            | assumption
            | (simp_all; done)
        try simp only [Act.put, List.setIfInBounds_toArray, List.set_cons_zero, List.set_cons_succ, List.getElem_toArray, List.getElem_cons_zero, List.getElem_cons_succ]
        refine GoL.take (i := 13) (v := (.bool ok)) rfl rfl (by kernel_rfl) (fun _ _ _ h => h) (fun _ _ => Iff.rfl) (by rfl) ?_ ?_
        · intro wx hwx
          have hwx := Wi.at' hwx
          go_simp
          all_goals first
            | done
            | with_reducible rfl
            | assumption
            | (simp_all; done)
        try simp only [Act.put, List.setIfInBounds_toArray, List.set_cons_zero, List.set_cons_succ, List.getElem_toArray, List.getElem_cons_zero, List.getElem_cons_succ]
        refine GoL.on (rs := [14]) (by kernel_rfl) (by decide) ?_
        refine OnL.cons rfl ?_ OnL.nil
        intro K hK
        replace hK := Lib.hid hK
        obtain ⟨V2, hV2, hN, hbel⟩ := wd_new w2
        have hS := hS.trans (hbel.mono hS.size)
        go_simp
        rw [← hV2]
        refine hK.out _ _ hS ?_
        clear hK
        have hge := hax0 _ hSc
        generalize hax : w2.heap.size = ax at hN hge ⊢
        clear hV2
        try simp only [Act.put, List.setIfInBounds_toArray, List.set_cons_zero, List.set_cons_succ, List.getElem_toArray, List.getElem_cons_zero, List.getElem_cons_succ]
        refine GoL.on (rs := [15]) (by kernel_rfl) (by decide) ?_
        refine OnL.cons rfl ?_ OnL.nil
        intro K hK
        replace hK := Lib.hid hK
        obtain ⟨V3, hV3, hN3, hb3⟩ := wd_lay hN qh ql
        have z0 := hN.cell_eq 0 _ rfl
        have z1 := hN.cell_eq 1 _ rfl
        have zf := hN.free
        have hS4 := hb3 _ _ hge hS
        go_simp
        rw [← hV3]
        refine hK.out _ _ hS4 ?_
        clear hK hV3 z0 z1 zf
        try simp only [Act.put, List.setIfInBounds_toArray, List.set_cons_zero, List.set_cons_succ, List.getElem_toArray, List.getElem_cons_zero, List.getElem_cons_succ]
        refine GoL.take (i := 16) (v := ?_) rfl rfl (by kernel_rfl) (fun _ _ _ h => h) (fun _ _ => Iff.rfl) (by rfl) ?_ ?_
        rotate_left
        · intro wx hwx
          have hwx := Wi.at' hwx
          go_simp
          all_goals first
            | done
            | with_reducible rfl
            | assumption
            | (simp_all; done)
        try simp only [Act.put, List.setIfInBounds_toArray, List.set_cons_zero, List.set_cons_succ, List.getElem_toArray, List.getElem_cons_zero, List.getElem_cons_succ]
        refine GoL.take (i := 17) (v := ?_) rfl rfl (by kernel_rfl) (fun _ _ _ h => h) (fun _ _ => Iff.rfl) (by rfl) ?_ ?_
        rotate_left
        · intro wx hwx
          have hwx := Wi.at' hwx
          go_simp
          all_goals first
            | done
            | with_reducible rfl
            | assumption
            | (simp_all; done)
        try simp only [Act.put, List.setIfInBounds_toArray, List.set_cons_zero, List.set_cons_succ, List.getElem_toArray, List.getElem_cons_zero, List.getElem_cons_succ]
        refine GoL.done (by kernel_rfl) ?_
        refine NoPanic.normal ?_
        exact hk ax V3 ⟨hS4, hN3, hge⟩
      · intro K hK
        replace hK := Lib.hid hK
        obtain ⟨V2, hV2, hN, hbel⟩ := wd_new U
        have hS := hS.trans (hbel.mono hS.size)
        go_simp
        rw [← hV2]
        refine hK.out _ _ hS ?_
        clear hK
        have hge := hax0 _ hS0
        generalize hax : U.heap.size = ax at hN hge ⊢
        clear hV2
        try simp only [Act.put, List.setIfInBounds_toArray, List.set_cons_zero, List.set_cons_succ, List.getElem_toArray, List.getElem_cons_zero, List.getElem_cons_succ]
        refine GoL.on (rs := [9]) (by kernel_rfl) (by decide) ?_
        refine OnL.cons rfl ?_ OnL.nil
        intro K hK
        replace hK := Lib.hid hK
        go_simp
        refine (cD _).mono ?_
        rintro e w2 ⟨rfl, hb2⟩
        have hS := hS.trans (hb2.mono hS.size)
        have hSc := hS
        have hN := hN.below hb2 hN.lt
        refine hK.out _ _ hS ?_
        clear hK
        try simp only [Act.put, List.setIfInBounds_toArray, List.set_cons_zero, List.set_cons_succ, List.getElem_toArray, List.getElem_cons_zero, List.getElem_cons_succ]
        refine GoL.take (i := 10) (v := ?_) rfl rfl (by kernel_rfl) (fun _ _ _ h => h) (fun _ _ => Iff.rfl) (by rfl) ?_ ?_
        rotate_left
        · intro wx hwx
          have hwx := Wi.at' hwx
          go_simp
          all_goals first
            | done
            | with_reducible rfl
            | assumption
            | (simp_all; done)
        try simp only [Act.put, List.setIfInBounds_toArray, List.set_cons_zero, List.set_cons_succ, List.getElem_toArray, List.getElem_cons_zero, List.getElem_cons_succ]
        refine GoL.take (i := 11) (v := (.agg #[.int .u64 qh, .int .u64 ql])) rfl rfl (by kernel_rfl) (fun _ _ _ h => h) (fun _ _ => Iff.rfl) (by rfl) ?_ ?_
        · intro wx hwx
          have hwx := Wi.at' hwx
          go_simp
          all_goals first
            | done
            | with_reducible rfl
            | assumption
            | (simp_all; done)
        try simp only [Act.put, List.setIfInBounds_toArray, List.set_cons_zero, List.set_cons_succ, List.getElem_toArray, List.getElem_cons_zero, List.getElem_cons_succ]
        refine GoL.take (i := 12) (v := (.int .u64 rr)) rfl rfl (by kernel_rfl) (fun _ _ _ h => h) (fun _ _ => Iff.rfl) (by rfl) ?_ ?_
        · intro wx hwx
          have hwx := Wi.at' hwx
          go_simp
          all_goals first
            | done
            | with_reducible rfl
            | assumption
            | (simp_all; done)
        try simp only [Act.put, List.setIfInBounds_toArray, List.set_cons_zero, List.set_cons_succ, List.getElem_toArray, List.getElem_cons_zero, List.getElem_cons_succ]
        refine GoL.take (i := 13) (v := (.bool ok)) rfl rfl (by kernel_rfl) (fun _ _ _ h => h) (fun _ _ => Iff.rfl) (by rfl) ?_ ?_
        · intro wx hwx
          have hwx := Wi.at' hwx
          go_simp
          all_goals first
            | done
            | with_reducible rfl
            | assumption
            | (simp_all; done)
        try simp only [Act.put, List.setIfInBounds_toArray, List.set_cons_zero, List.set_cons_succ, List.getElem_toArray, List.getElem_cons_zero, List.getElem_cons_succ]
        refine GoL.on (rs := [15]) (by kernel_rfl) (by decide) ?_
        refine OnL.cons rfl ?_ OnL.nil
        intro K hK
        replace hK := Lib.hid hK
        obtain ⟨V3, hV3, hN3, hb3⟩ := wd_lay hN qh ql
        have z0 := hN.cell_eq 0 _ rfl
        have z1 := hN.cell_eq 1 _ rfl
        have zf := hN.free
        have hS4 := hb3 _ _ hge hS
        go_simp
        rw [← hV3]
        refine hK.out _ _ hS4 ?_
        clear hK hV3 z0 z1 zf
        try simp only [Act.put, List.setIfInBounds_toArray, List.set_cons_zero, List.set_cons_succ, List.getElem_toArray, List.getElem_cons_zero, List.getElem_cons_succ]
        refine GoL.take (i := 16) (v := ?_) rfl rfl (by kernel_rfl) (fun _ _ _ h => h) (fun _ _ => Iff.rfl) (by rfl) ?_ ?_
        rotate_left
        · intro wx hwx
          have hwx := Wi.at' hwx
          go_simp
          all_goals first
            | done
            | with_reducible rfl
            | assumption
            | (simp_all; done)
        try simp only [Act.put, List.setIfInBounds_toArray, List.set_cons_zero, List.set_cons_succ, List.getElem_toArray, List.getElem_cons_zero, List.getElem_cons_succ]
        refine GoL.take (i := 17) (v := ?_) rfl rfl (by kernel_rfl) (fun _ _ _ h => h) (fun _ _ => Iff.rfl) (by rfl) ?_ ?_
        rotate_left
        · intro wx hwx
          have hwx := Wi.at' hwx
          go_simp
          all_goals first
            | done
            | with_reducible rfl
            | assumption
            | (simp_all; done)
        try simp only [Act.put, List.setIfInBounds_toArray, List.set_cons_zero, List.set_cons_succ, List.getElem_toArray, List.getElem_cons_zero, List.getElem_cons_succ]
        refine GoL.done (by kernel_rfl) ?_
        refine NoPanic.normal ?_
        exact hk ax V3 ⟨hS4, hN3, hge⟩
    rintro ax w5 ⟨hS5, hN5, hge5⟩
    have hT5 := hT2.out w5 hS5
    have hok1 := hok.out
    subst hok1
    clear hT2 hok hBg hS5 cD
    go_wp2_with fail
    go_ret2
    exact ⟨rfl, hT5⟩
  · rw [if_neg hemp]
    have hpos := List.length_pos_iff.2 hemp
    have hq1 := (qqs_pos hall).1
    obtain ⟨P, hP⟩ : ∃ P, P = pqs (m.inW t) := ⟨_, rfl⟩
    obtain ⟨Q, hQ⟩ : ∃ Q, Q = qqs (m.inW t) := ⟨_, rfl⟩
    rw [← hP, ← hQ]
    rw [← hP] at s1 s4 hsp
    rw [← hQ] at s2 s3 hsp hq1
    have hQ1 : 1 ≤ Q := by omega
    obtain ⟨n, hn⟩ : ∃ n, n = P / Q := ⟨_, rfl⟩
    have hn0 : 0 ≤ n := by rw [hn]; exact Int.ediv_nonneg s1 s2
    have hn1 : n ≤ 1099511627776 := by
      have h1 := hsp.2.2.2
      have h2 : P ≤ 1099511627776 * Q := by omega
      rw [hn]
      exact Int.ediv_le_of_le_mul (by omega) h2
    rw [← hn]
    have cD : ∀ w, Calls Try.prog 33 #[.agg #[.int .u64 (hi P), .int .u64 (lo P)], .int .u64 (lo Q)] w fun e w' => e = .returned (.tuple #[.agg #[.int .u64 (hi n), .int .u64 (lo n)], .int .u64 (P % Q), .bool true]) ∧ Below w.heap.size w w' := fun w => by
      rw [hn, (hi_small Q ⟨by omega, by omega⟩).2]
      exact div_pos P Q ⟨by omega, by omega⟩ (by omega) (by omega) w
    rw [(hi_small n ⟨by omega, by omega⟩).1, (hi_small n ⟨by omega, by omega⟩).2] at cD
    clear hn
    obtain ⟨qh, hqh⟩ : ∃ q : Int, q = 0 := ⟨_, rfl⟩
    obtain ⟨ql, hql⟩ : ∃ q : Int, q = n := ⟨_, rfl⟩
    obtain ⟨rr, hrr⟩ : ∃ q : Int, q = P % Q := ⟨_, rfl⟩
    obtain ⟨ok, hok⟩ : ∃ q : Bool, q = true := ⟨_, rfl⟩
    rw [← hqh, ← hql, ← hrr, ← hok] at cD
    have cW := fun w => fdown_any n m.grid ⟨by omega, by omega⟩ ⟨by omega, by omega⟩ w
    have hdw : downV n m.grid = n - n % m.grid := by unfold downV; exact if_neg (by omega)
    rw [hdw] at cW
    have hwn : IntKind.i64.wrap n = n := by rw [IntKind.wrap_i64]; omega
    have xm := wmax_fact (n - n % m.grid) m.grid (gridM n m.grid) rfl
    obtain ⟨G, hG⟩ : ∃ G, G = gridM n m.grid := ⟨_, rfl⟩
    rw [← hG] at xm ⊢
    obtain ⟨y, hy⟩ : ∃ y, y = n - n % m.grid := ⟨_, rfl⟩
    rw [← hy] at cW xm
    clear hqh hrr hdw hG hy hpos hq1 hsp s1 s2 s3 s4 hQ1 hn0 hn1 hgr hall hinl hemp hlen
    replace hok := Lib.hid hok
    replace hql := Lib.hid hql
    go_enter Try.func16, Try.ntmps16
    go_wp2_with (first
      | (go_at_call 26; refine cK.mono ?_; rintro e w ⟨rfl, hb⟩; clear cK; obtain ⟨c3, fr, hw0, hF0⟩ := hk w hb; clear hk)
      | (go_at_call 32; refine (cL _ hw0).mono ?_; rintro e V ⟨rfl, hT⟩; clear cL)
      | fail)
    replace hT := hT.ahead hF0
    have hT2 := hT
    obtain ⟨S', ⟨ko', ao', cap', hW'⟩, hF', hS'⟩ := hT2
    have hBg : Blk V g 55 (cWin m.span m.grid m.ref t ao' (m.inW t).length cap' P Q) := by rw [hP, hQ]; exact hW'.hg
    clear hW' hF' hS' hF0 hw0 c3 fr hb hP hQ
    have hT2 := Lib.hid fun w (hw : Below V.heap.size V w) => hT.more hw
    clear hT
    refine GoL.start (S := fun _ w => Below V.heap.size V w) (by kernel_rfl) (Below.refl _ _).drew ?_
    have hS : Below V.heap.size V V.drew := (Below.refl _ _).drew
    generalize V.drew = U at hS ⊢
    have hS0 := hS
    have hax0 := fun w (h : Below V.heap.size V w) => h.size
    apply merge_pw (P := fun ax w => Below V.heap.size V w ∧ Blk w ax 53 #[.int .u64 qh, .int .u64 ql] ∧ V.heap.size ≤ ax)
    · intro hk
      refine GoL.take (i := 0) (v := ?_) rfl rfl (by kernel_rfl) (fun _ _ _ h => h) (fun _ _ => Iff.rfl) (by rfl) ?_ ?_
      rotate_left
      · intro wx hwx
        have hwx := Wi.at' hwx
        go_simp
        all_goals first
          | done
          | with_reducible rfl
          | assumption
          | (simp_all; done)
      try simp only [Act.put, List.setIfInBounds_toArray, List.set_cons_zero, List.set_cons_succ, List.getElem_toArray, List.getElem_cons_zero, List.getElem_cons_succ]
      refine GoL.take (i := 1) (v := ?_) rfl rfl (by kernel_rfl) (fun _ _ _ h => h) (fun _ _ => Iff.rfl) (by rfl) ?_ ?_
      rotate_left
      · intro wx hwx
        have hwx := Wi.at' hwx
        go_simp
        all_goals first
          | done
          | with_reducible rfl
          | assumption
          | (simp_all; done)
      try simp only [Act.put, List.setIfInBounds_toArray, List.set_cons_zero, List.set_cons_succ, List.getElem_toArray, List.getElem_cons_zero, List.getElem_cons_succ]
      refine GoL.take (i := 2) (v := ?_) rfl rfl (by kernel_rfl) (fun _ _ _ h => h) (fun _ _ => Iff.rfl) (by rfl) ?_ ?_
      rotate_left
      · intro wx hwx
        have hwx := Wi.at' hwx
        go_simp
        all_goals first
          | done
          | with_reducible rfl
          | assumption
          | (simp_all; done)
      try simp only [Act.put, List.setIfInBounds_toArray, List.set_cons_zero, List.set_cons_succ, List.getElem_toArray, List.getElem_cons_zero, List.getElem_cons_succ]
      refine GoL.take (i := 3) (v := ?_) rfl rfl (by kernel_rfl) (fun _ _ _ h => h) (fun _ _ => Iff.rfl) (by rfl) ?_ ?_
      rotate_left
      · intro wx hwx
        have hwx := Wi.at' hwx
        have z5 := (hBg.below hwx hBg.lt).cell_eq 5 _ rfl
        have z6 := (hBg.below hwx hBg.lt).cell_eq 6 _ rfl
        have z8 := (hBg.below hwx hBg.lt).cell_eq 8 _ rfl
        go_simp
        all_goals first
          | done
          | with_reducible rfl
          | assumption
          | (simp_all; done)
      try simp only [Act.put, List.setIfInBounds_toArray, List.set_cons_zero, List.set_cons_succ, List.getElem_toArray, List.getElem_cons_zero, List.getElem_cons_succ]
      refine GoL.take (i := 4) (v := ?_) rfl rfl (by kernel_rfl) (fun _ _ _ h => h) (fun _ _ => Iff.rfl) (by rfl) ?_ ?_
      rotate_left
      · intro wx hwx
        have hwx := Wi.at' hwx
        go_simp
        all_goals first
          | done
          | with_reducible rfl
          | assumption
          | (simp_all; done)
      try simp only [Act.put, List.setIfInBounds_toArray, List.set_cons_zero, List.set_cons_succ, List.getElem_toArray, List.getElem_cons_zero, List.getElem_cons_succ]
      refine GoL.take (i := 5) (v := ?_) rfl rfl (by kernel_rfl) (fun _ _ _ h => h) (fun _ _ => Iff.rfl) (by rfl) ?_ ?_
      rotate_left
      · intro wx hwx
        have hwx := Wi.at' hwx
        go_simp
        all_goals first
          | done
          | with_reducible rfl
          | assumption
          | (simp_all; done)
      try simp only [Act.put, List.setIfInBounds_toArray, List.set_cons_zero, List.set_cons_succ, List.getElem_toArray, List.getElem_cons_zero, List.getElem_cons_succ]
      refine GoL.take (i := 6) (v := ?_) rfl rfl (by kernel_rfl) (fun _ _ _ h => h) (fun _ _ => Iff.rfl) (by rfl) ?_ ?_
      rotate_left
      · intro wx hwx
        have hwx := Wi.at' hwx
        go_simp
        all_goals first
          | done
          | with_reducible rfl
          | assumption
          | (simp_all; done)
      try simp only [Act.put, List.setIfInBounds_toArray, List.set_cons_zero, List.set_cons_succ, List.getElem_toArray, List.getElem_cons_zero, List.getElem_cons_succ]
      refine GoL.take (i := 7) (v := ?_) rfl rfl (by kernel_rfl) (fun _ _ _ h => h) (fun _ _ => Iff.rfl) (by rfl) ?_ ?_
      rotate_left
      · intro wx hwx
        have hwx := Wi.at' hwx
        go_simp
        all_goals first
          | done
          | with_reducible rfl
          | assumption
          | (simp_all; done)
      try simp only [Act.put, List.setIfInBounds_toArray, List.set_cons_zero, List.set_cons_succ, List.getElem_toArray, List.getElem_cons_zero, List.getElem_cons_succ]
      refine GoL.take (i := 8) (v := ?_) rfl rfl (by kernel_rfl) (fun _ _ _ h => h) (fun _ _ => Iff.rfl) (by rfl) ?_ ?_
      rotate_left
      · intro wx hwx
        have hwx := Wi.at' hwx
        have z5 := (hBg.below hwx hBg.lt).cell_eq 5 _ rfl
        have z6 := (hBg.below hwx hBg.lt).cell_eq 6 _ rfl
        have z8 := (hBg.below hwx hBg.lt).cell_eq 8 _ rfl
        go_simp
        all_goals first
          | done
          | with_reducible rfl
          | assumption
          | (simp_all; done)
      try simp only [Act.put, List.setIfInBounds_toArray, List.set_cons_zero, List.set_cons_succ, List.getElem_toArray, List.getElem_cons_zero, List.getElem_cons_succ]
      refine GoL.on (rs := [9, 14]) (by kernel_rfl) (by decide) ?_
      refine OnL.cons rfl ?_ (OnL.cons rfl ?_ OnL.nil)
      · intro K hK
        replace hK := Lib.hid hK
        go_simp
        refine (cD _).mono ?_
        rintro e w2 ⟨rfl, hb2⟩
        have hS := hS.trans (hb2.mono hS.size)
        have hSc := hS
        refine hK.out _ _ hS ?_
        clear hK
        try simp only [Act.put, List.setIfInBounds_toArray, List.set_cons_zero, List.set_cons_succ, List.getElem_toArray, List.getElem_cons_zero, List.getElem_cons_succ]
        refine GoL.take (i := 10) (v := ?_) rfl rfl (by kernel_rfl) (fun _ _ _ h => h) (fun _ _ => Iff.rfl) (by rfl) ?_ ?_
        rotate_left
        · intro wx hwx
          have hwx := Wi.at' hwx
          go_simp
          all_goals first
            | done
            | with_reducible rfl
            | assumption
            | (simp_all; done)
        try simp only [Act.put, List.setIfInBounds_toArray, List.set_cons_zero, List.set_cons_succ, List.getElem_toArray, List.getElem_cons_zero, List.getElem_cons_succ]
        refine GoL.take (i := 11) (v := (.agg #[.int .u64 qh, .int .u64 ql])) rfl rfl (by kernel_rfl) (fun _ _ _ h => h) (fun _ _ => Iff.rfl) (by rfl) ?_ ?_
        · intro wx hwx
          have hwx := Wi.at' hwx
          go_simp
          all_goals first
            | done
            | with_reducible rfl
            | assumption
            | (simp_all; done)
        try simp only [Act.put, List.setIfInBounds_toArray, List.set_cons_zero, List.set_cons_succ, List.getElem_toArray, List.getElem_cons_zero, List.getElem_cons_succ]
        refine GoL.take (i := 12) (v := (.int .u64 rr)) rfl rfl (by kernel_rfl) (fun _ _ _ h => h) (fun _ _ => Iff.rfl) (by rfl) ?_ ?_
        · intro wx hwx
          have hwx := Wi.at' hwx
          go_simp
          all_goals first
            | done
            | with_reducible rfl
            | assumption
            | (simp_all; done)
        try simp only [Act.put, List.setIfInBounds_toArray, List.set_cons_zero, List.set_cons_succ, List.getElem_toArray, List.getElem_cons_zero, List.getElem_cons_succ]
        refine GoL.take (i := 13) (v := (.bool ok)) rfl rfl (by kernel_rfl) (fun _ _ _ h => h) (fun _ _ => Iff.rfl) (by rfl) ?_ ?_
        · intro wx hwx
          have hwx := Wi.at' hwx
          go_simp
          all_goals first
            | done
            | with_reducible rfl
            | assumption
            | (simp_all; done)
        try simp only [Act.put, List.setIfInBounds_toArray, List.set_cons_zero, List.set_cons_succ, List.getElem_toArray, List.getElem_cons_zero, List.getElem_cons_succ]
        refine GoL.on (rs := [14]) (by kernel_rfl) (by decide) ?_
        refine OnL.cons rfl ?_ OnL.nil
        intro K hK
        replace hK := Lib.hid hK
        obtain ⟨V2, hV2, hN, hbel⟩ := wd_new w2
        have hS := hS.trans (hbel.mono hS.size)
        go_simp
        rw [← hV2]
        refine hK.out _ _ hS ?_
        clear hK
        have hge := hax0 _ hSc
        generalize hax : w2.heap.size = ax at hN hge ⊢
        clear hV2
        try simp only [Act.put, List.setIfInBounds_toArray, List.set_cons_zero, List.set_cons_succ, List.getElem_toArray, List.getElem_cons_zero, List.getElem_cons_succ]
        refine GoL.on (rs := [15]) (by kernel_rfl) (by decide) ?_
        refine OnL.cons rfl ?_ OnL.nil
        intro K hK
        replace hK := Lib.hid hK
        obtain ⟨V3, hV3, hN3, hb3⟩ := wd_lay hN qh ql
        have z0 := hN.cell_eq 0 _ rfl
        have z1 := hN.cell_eq 1 _ rfl
        have zf := hN.free
        have hS4 := hb3 _ _ hge hS
        go_simp
        rw [← hV3]
        refine hK.out _ _ hS4 ?_
        clear hK hV3 z0 z1 zf
        try simp only [Act.put, List.setIfInBounds_toArray, List.set_cons_zero, List.set_cons_succ, List.getElem_toArray, List.getElem_cons_zero, List.getElem_cons_succ]
        refine GoL.take (i := 16) (v := ?_) rfl rfl (by kernel_rfl) (fun _ _ _ h => h) (fun _ _ => Iff.rfl) (by rfl) ?_ ?_
        rotate_left
        · intro wx hwx
          have hwx := Wi.at' hwx
          go_simp
          all_goals first
            | done
            | with_reducible rfl
            | assumption
            | (simp_all; done)
        try simp only [Act.put, List.setIfInBounds_toArray, List.set_cons_zero, List.set_cons_succ, List.getElem_toArray, List.getElem_cons_zero, List.getElem_cons_succ]
        refine GoL.take (i := 17) (v := ?_) rfl rfl (by kernel_rfl) (fun _ _ _ h => h) (fun _ _ => Iff.rfl) (by rfl) ?_ ?_
        rotate_left
        · intro wx hwx
          have hwx := Wi.at' hwx
          go_simp
          all_goals first
            | done
            | with_reducible rfl
            | assumption
            | (simp_all; done)
        try simp only [Act.put, List.setIfInBounds_toArray, List.set_cons_zero, List.set_cons_succ, List.getElem_toArray, List.getElem_cons_zero, List.getElem_cons_succ]
        refine GoL.done (by kernel_rfl) ?_
        refine NoPanic.normal ?_
        exact hk ax V3 ⟨hS4, hN3, hge⟩
      · intro K hK
        replace hK := Lib.hid hK
        obtain ⟨V2, hV2, hN, hbel⟩ := wd_new U
        have hS := hS.trans (hbel.mono hS.size)
        go_simp
        rw [← hV2]
        refine hK.out _ _ hS ?_
        clear hK
        have hge := hax0 _ hS0
        generalize hax : U.heap.size = ax at hN hge ⊢
        clear hV2
        try simp only [Act.put, List.setIfInBounds_toArray, List.set_cons_zero, List.set_cons_succ, List.getElem_toArray, List.getElem_cons_zero, List.getElem_cons_succ]
        refine GoL.on (rs := [9]) (by kernel_rfl) (by decide) ?_
        refine OnL.cons rfl ?_ OnL.nil
        intro K hK
        replace hK := Lib.hid hK
        go_simp
        refine (cD _).mono ?_
        rintro e w2 ⟨rfl, hb2⟩
        have hS := hS.trans (hb2.mono hS.size)
        have hSc := hS
        have hN := hN.below hb2 hN.lt
        refine hK.out _ _ hS ?_
        clear hK
        try simp only [Act.put, List.setIfInBounds_toArray, List.set_cons_zero, List.set_cons_succ, List.getElem_toArray, List.getElem_cons_zero, List.getElem_cons_succ]
        refine GoL.take (i := 10) (v := ?_) rfl rfl (by kernel_rfl) (fun _ _ _ h => h) (fun _ _ => Iff.rfl) (by rfl) ?_ ?_
        rotate_left
        · intro wx hwx
          have hwx := Wi.at' hwx
          go_simp
          all_goals first
            | done
            | with_reducible rfl
            | assumption
            | (simp_all; done)
        try simp only [Act.put, List.setIfInBounds_toArray, List.set_cons_zero, List.set_cons_succ, List.getElem_toArray, List.getElem_cons_zero, List.getElem_cons_succ]
        refine GoL.take (i := 11) (v := (.agg #[.int .u64 qh, .int .u64 ql])) rfl rfl (by kernel_rfl) (fun _ _ _ h => h) (fun _ _ => Iff.rfl) (by rfl) ?_ ?_
        · intro wx hwx
          have hwx := Wi.at' hwx
          go_simp
          all_goals first
            | done
            | with_reducible rfl
            | assumption
            | (simp_all; done)
        try simp only [Act.put, List.setIfInBounds_toArray, List.set_cons_zero, List.set_cons_succ, List.getElem_toArray, List.getElem_cons_zero, List.getElem_cons_succ]
        refine GoL.take (i := 12) (v := (.int .u64 rr)) rfl rfl (by kernel_rfl) (fun _ _ _ h => h) (fun _ _ => Iff.rfl) (by rfl) ?_ ?_
        · intro wx hwx
          have hwx := Wi.at' hwx
          go_simp
          all_goals first
            | done
            | with_reducible rfl
            | assumption
            | (simp_all; done)
        try simp only [Act.put, List.setIfInBounds_toArray, List.set_cons_zero, List.set_cons_succ, List.getElem_toArray, List.getElem_cons_zero, List.getElem_cons_succ]
        refine GoL.take (i := 13) (v := (.bool ok)) rfl rfl (by kernel_rfl) (fun _ _ _ h => h) (fun _ _ => Iff.rfl) (by rfl) ?_ ?_
        · intro wx hwx
          have hwx := Wi.at' hwx
          go_simp
          all_goals first
            | done
            | with_reducible rfl
            | assumption
            | (simp_all; done)
        try simp only [Act.put, List.setIfInBounds_toArray, List.set_cons_zero, List.set_cons_succ, List.getElem_toArray, List.getElem_cons_zero, List.getElem_cons_succ]
        refine GoL.on (rs := [15]) (by kernel_rfl) (by decide) ?_
        refine OnL.cons rfl ?_ OnL.nil
        intro K hK
        replace hK := Lib.hid hK
        obtain ⟨V3, hV3, hN3, hb3⟩ := wd_lay hN qh ql
        have z0 := hN.cell_eq 0 _ rfl
        have z1 := hN.cell_eq 1 _ rfl
        have zf := hN.free
        have hS4 := hb3 _ _ hge hS
        go_simp
        rw [← hV3]
        refine hK.out _ _ hS4 ?_
        clear hK hV3 z0 z1 zf
        try simp only [Act.put, List.setIfInBounds_toArray, List.set_cons_zero, List.set_cons_succ, List.getElem_toArray, List.getElem_cons_zero, List.getElem_cons_succ]
        refine GoL.take (i := 16) (v := ?_) rfl rfl (by kernel_rfl) (fun _ _ _ h => h) (fun _ _ => Iff.rfl) (by rfl) ?_ ?_
        rotate_left
        · intro wx hwx
          have hwx := Wi.at' hwx
          go_simp
          all_goals first
            | done
            | with_reducible rfl
            | assumption
            | (simp_all; done)
        try simp only [Act.put, List.setIfInBounds_toArray, List.set_cons_zero, List.set_cons_succ, List.getElem_toArray, List.getElem_cons_zero, List.getElem_cons_succ]
        refine GoL.take (i := 17) (v := ?_) rfl rfl (by kernel_rfl) (fun _ _ _ h => h) (fun _ _ => Iff.rfl) (by rfl) ?_ ?_
        rotate_left
        · intro wx hwx
          have hwx := Wi.at' hwx
          go_simp
          all_goals first
            | done
            | with_reducible rfl
            | assumption
            | (simp_all; done)
        try simp only [Act.put, List.setIfInBounds_toArray, List.set_cons_zero, List.set_cons_succ, List.getElem_toArray, List.getElem_cons_zero, List.getElem_cons_succ]
        refine GoL.done (by kernel_rfl) ?_
        refine NoPanic.normal ?_
        exact hk ax V3 ⟨hS4, hN3, hge⟩
    rintro ax w5 ⟨hS5, hN5, hge5⟩
    have hT5 := Lib.hid fun w (hw : Below w5.heap.size w5 w) => hT2.out w (hS5.trans (hw.mono hS5.size))
    have hok1 := hok.out
    have hql1 := hql.out
    subst hok1
    subst hql1
    have hcd : ∀ w, Below w5.heap.size w5 w → w.cell? ⟨g, 1, none⟩ = some (.int .i64 m.grid) := fun w hw => (hBg.below (hS5.trans (hw.mono hS5.size)) hBg.lt).cell_eq 1 _ rfl
    have hcn : ∀ w, Below w5.heap.size w5 w → w.cell? ⟨ax, 1, none⟩ = some (.int .u64 ql) := fun w hw => (hN5.below hw hN5.lt).cell_eq 1 _ rfl
    clear hT2 hok hBg hS5 hN5 cD
    go_wp2_with fail
    refine wp_region_S (S := fun _ w => Below w5.heap.size w5 w) (by kernel_rfl) (Below.refl _ _).drew ?_
    refine AllS.next (v := ?_) rfl rfl rfl (by kernel_rfl) ?_ ?_
    rotate_left
    · refine yieldsS_run (fun _ _ h => h) (by rfl) ?_
      intro L wx hS
      go_simp
      all_goals first
        | done
        | with_reducible rfl
        | assumption
        | (simp_all; done)
    try simp only [Act.put, List.setIfInBounds_toArray, List.set_cons_zero, List.set_cons_succ, List.getElem_toArray, List.getElem_cons_zero, List.getElem_cons_succ]
    refine AllS.next (v := ?_) rfl rfl rfl (by kernel_rfl) ?_ ?_
    rotate_left
    · refine yieldsS_run (fun _ _ h => h) (by rfl) ?_
      intro L wx hS
      have n1 := hcn wx hS
      go_simp
      all_goals first
        | done
        | with_reducible rfl
        | assumption
        | (simp_all; done)
    try simp only [Act.put, List.setIfInBounds_toArray, List.set_cons_zero, List.set_cons_succ, List.getElem_toArray, List.getElem_cons_zero, List.getElem_cons_succ]
    refine AllS.next (v := (.int .i64 ql)) rfl rfl rfl (by kernel_rfl) ?_ ?_
    · refine yieldsS_run (fun _ _ h => h) (by rfl) ?_
      intro L wx hS
      have e := hwn
      go_simp
      all_goals first
        | done
        | with_reducible rfl
        | assumption
        | (simp_all; done)
    try simp only [Act.put, List.setIfInBounds_toArray, List.set_cons_zero, List.set_cons_succ, List.getElem_toArray, List.getElem_cons_zero, List.getElem_cons_succ]
    refine AllS.next (v := ?_) rfl rfl rfl (by kernel_rfl) ?_ ?_
    rotate_left
    · refine yieldsS_run (fun _ _ h => h) (by rfl) ?_
      intro L wx hS
      go_simp
      all_goals first
        | done
        | with_reducible rfl
        | assumption
        | (simp_all; done)
    try simp only [Act.put, List.setIfInBounds_toArray, List.set_cons_zero, List.set_cons_succ, List.getElem_toArray, List.getElem_cons_zero, List.getElem_cons_succ]
    refine AllS.next (v := ?_) rfl rfl rfl (by kernel_rfl) ?_ ?_
    rotate_left
    · refine yieldsS_run (fun _ _ h => h) (by rfl) ?_
      intro L wx hS
      go_simp
      all_goals first
        | done
        | with_reducible rfl
        | assumption
        | (simp_all; done)
    try simp only [Act.put, List.setIfInBounds_toArray, List.set_cons_zero, List.set_cons_succ, List.getElem_toArray, List.getElem_cons_zero, List.getElem_cons_succ]
    refine AllS.next (v := ?_) rfl rfl rfl (by kernel_rfl) ?_ ?_
    rotate_left
    · refine yieldsS_run (fun _ _ h => h) (by rfl) ?_
      intro L wx hS
      go_simp
      all_goals first
        | done
        | with_reducible rfl
        | assumption
        | (simp_all; done)
    try simp only [Act.put, List.setIfInBounds_toArray, List.set_cons_zero, List.set_cons_succ, List.getElem_toArray, List.getElem_cons_zero, List.getElem_cons_succ]
    refine AllS.next (v := ?_) rfl rfl rfl (by kernel_rfl) ?_ ?_
    rotate_left
    · refine yieldsS_run (fun _ _ h => h) (by rfl) ?_
      intro L wx hS
      have c1 := hcd wx hS
      go_simp
      all_goals first
        | done
        | with_reducible rfl
        | assumption
        | (simp_all; done)
    try simp only [Act.put, List.setIfInBounds_toArray, List.set_cons_zero, List.set_cons_succ, List.getElem_toArray, List.getElem_cons_zero, List.getElem_cons_succ]
    refine AllS.next (v := (.int .i64 y)) rfl rfl rfl (by kernel_rfl) ?_ ?_
    · refine yieldsS_call (f := 34) (args := #[.int .i64 ql, .int .i64 m.grid]) (by rfl) ?_ ?_
      · intro wx
        go_simp
        try with_reducible rfl
      · intro L wx hS
        exact (cW wx).mono fun e w h => ⟨h.1, hS.trans (h.2.mono hS.size)⟩
    try simp only [Act.put, List.setIfInBounds_toArray, List.set_cons_zero, List.set_cons_succ, List.getElem_toArray, List.getElem_cons_zero, List.getElem_cons_succ]
    refine AllS.next (v := ?_) rfl rfl rfl (by kernel_rfl) ?_ ?_
    rotate_left
    · refine yieldsS_run (fun _ _ h => h) (by rfl) ?_
      intro L wx hS
      go_simp
      all_goals first
        | done
        | with_reducible rfl
        | assumption
        | (simp_all; done)
    try simp only [Act.put, List.setIfInBounds_toArray, List.set_cons_zero, List.set_cons_succ, List.getElem_toArray, List.getElem_cons_zero, List.getElem_cons_succ]
    refine AllS.next (v := ?_) rfl rfl rfl (by kernel_rfl) ?_ ?_
    rotate_left
    · refine yieldsS_run (fun _ _ h => h) (by rfl) ?_
      intro L wx hS
      go_simp
      all_goals first
        | done
        | with_reducible rfl
        | assumption
        | (simp_all; done)
    try simp only [Act.put, List.setIfInBounds_toArray, List.set_cons_zero, List.set_cons_succ, List.getElem_toArray, List.getElem_cons_zero, List.getElem_cons_succ]
    refine AllS.next (v := ?_) rfl rfl rfl (by kernel_rfl) ?_ ?_
    rotate_left
    · refine yieldsS_run (fun _ _ h => h) (by rfl) ?_
      intro L wx hS
      go_simp
      all_goals first
        | done
        | with_reducible rfl
        | assumption
        | (simp_all; done)
    try simp only [Act.put, List.setIfInBounds_toArray, List.set_cons_zero, List.set_cons_succ, List.getElem_toArray, List.getElem_cons_zero, List.getElem_cons_succ]
    refine AllS.next (v := ?_) rfl rfl rfl (by kernel_rfl) ?_ ?_
    rotate_left
    · refine yieldsS_run (fun _ _ h => h) (by rfl) ?_
      intro L wx hS
      have c1 := hcd wx hS
      go_simp
      all_goals first
        | done
        | with_reducible rfl
        | assumption
        | (simp_all; done)
    try simp only [Act.put, List.setIfInBounds_toArray, List.set_cons_zero, List.set_cons_succ, List.getElem_toArray, List.getElem_cons_zero, List.getElem_cons_succ]
    refine AllS.next (v := (.int .i64 G)) rfl rfl rfl (by kernel_rfl) ?_ ?_
    · refine yieldsS_run (fun _ _ h => h) (by rfl) ?_
      intro L wx hS
      have e := xm
      go_simp
      all_goals first
        | done
        | with_reducible rfl
        | assumption
        | (simp_all; done)
    try simp only [Act.put, List.setIfInBounds_toArray, List.set_cons_zero, List.set_cons_succ, List.getElem_toArray, List.getElem_cons_zero, List.getElem_cons_succ]
    refine AllS.next (v := ?_) rfl rfl rfl (by kernel_rfl) ?_ ?_
    rotate_left
    · refine yieldsS_run (fun _ _ h => h) (by rfl) ?_
      intro L wx hS
      go_simp
      all_goals first
        | done
        | with_reducible rfl
        | assumption
        | (simp_all; done)
    try simp only [Act.put, List.setIfInBounds_toArray, List.set_cons_zero, List.set_cons_succ, List.getElem_toArray, List.getElem_cons_zero, List.getElem_cons_succ]
    refine AllS.next (v := ?_) rfl rfl rfl (by kernel_rfl) ?_ ?_
    rotate_left
    · refine yieldsS_run (fun _ _ h => h) (by rfl) ?_
      intro L wx hS
      go_simp
      all_goals first
        | done
        | with_reducible rfl
        | assumption
        | (simp_all; done)
    try simp only [Act.put, List.setIfInBounds_toArray, List.set_cons_zero, List.set_cons_succ, List.getElem_toArray, List.getElem_cons_zero, List.getElem_cons_succ]
    refine AllS.done (by kernel_rfl) ?_
    intro w9 hS9
    try simp only [Act.put, List.setIfInBounds_toArray, List.set_cons_zero, List.set_cons_succ, List.getElem_toArray, List.getElem_cons_zero, List.getElem_cons_succ]
    have hT9 := hT5.out w9 hS9
    clear hT5 hcd hcn
    go_wp2_with fail
    go_ret2
    exact ⟨rfl, hT9⟩
theorem Wn.mean_num (hok : m.Ok) (t : Int) : In64 (m.mean t).1.1 := by
  rcases h : (m.mean t).1.2 with _ | _
  · have : (m.mean t).1.1 = 0 := by
      revert h
      unfold Wn.mean
      split
      · split
        · intro _; rfl
        · intro h; cases h
      · intro _; rfl
    rw [this]
    unfold In64
    omega
  · have := Wn.mean_range hok t h
    unfold In64
    omega
set_option maxRecDepth 8000 in
set_option maxHeartbeats 4000000 in
theorem wp_roll (t bps : Int) (ht : In64 t) (hb : In64 bps) (hlen : m.L.length ≤ 1000000) (h : WP W g S m) : Calls Try.prog 17 #[.pointer (some ⟨g, 0, none⟩), .int .i64 t, .int .i64 bps] W fun e w' => e = .returned (.tuple #[.int .i64 (m.roll t bps).1.1, .bool (m.roll t bps).1.2]) ∧ Tp W g S (m.roll t bps).2 w' := by
  have cM := wp_mean t ht hlen h
  have href := m.mean_ref t
  have hok := h.ok
  have hnum := Wn.mean_num hok t
  have hrng := fun e => Wn.mean_range hok t e
  have hrf := hok.r
  unfold Wn.roll
  obtain ⟨⟨⟨n, is⟩, m2⟩, hx⟩ : ∃ x, x = m.mean t := ⟨_, rfl⟩
  rw [← hx] at cM href hnum hrng
  rw [← hx]
  simp only at cM href hnum hrng ⊢
  clear hx h
  have hcell : ∀ w, Tp W g S m2 w → w.cell? ⟨g, 2, none⟩ = some (.int .i64 m.ref) ∧ (∀ i, w.frozen? ⟨g, i, none⟩ = false) ∧ (∀ w', Below w.heap.size w w' → Tp W g S m2 w') ∧ (is = true → Tp W g S { m2 with ref := n } (w.setCell ⟨g, 2, none⟩ (.int .i64 n))) ∧ ∃ S', WP w g S' m2 := fun w h => by
    have h0 := h
    obtain ⟨S', ⟨ko, ao, cap, h1⟩, h2, h3⟩ := h
    have c2 := h1.hg.cell_eq 2 _ rfl
    rw [href] at c2
    have hs : (w.setCell ⟨g, 2, none⟩ (.int .i64 n)).heap.size = w.heap.size := by simp
    refine ⟨c2, h1.hg.free, fun w' hb => h0.more hb, fun e => ⟨S', ⟨ko, ao, cap, h1.hg.set 2 _, h1.how.keep fun k e => heap_oth _ _ _ (h1.sk k e).2, h1.sg, h1.sk, fun c hc => by rw [hs]; exact h1.lt c hc, ⟨h1.ok.s, h1.ok.g, hrng e, h1.ok.l, h1.ok.ok, h1.ok.srt⟩⟩, h2.setCell ⟨g, 2, none⟩ _ (h3 g h1.sg), h3⟩, S', ko, ao, cap, h1⟩
  have cV := fun w => wp_moved m.ref n bps (by unfold In64; omega) hnum hb w
  have cR : ∀ w, Tp W g S m2 w → Calls Try.prog 11 #[.pointer (some ⟨g, 0, none⟩)] w fun e w' => e = .returned (.int .i64 m.ref) ∧ Below w.heap.size w w' := fun w h => by
    obtain ⟨-, -, -, -, S', h'⟩ := hcell w h
    have := wp_ref h'
    rw [href] at this
    exact this
  clear hok hnum hrng hrf ht hb hlen
  have key : (is = false) ∨ (is = true ∧ (movedB m.ref n bps = false ∨ movedB m.ref n bps = true)) := by
    cases is <;> cases movedB m.ref n bps <;> simp
  generalize movedB m.ref n bps = v at *
  rcases key with rfl | ⟨rfl, rfl | rfl⟩
  · rw [if_neg (by simp)]
    clear cV
    go_enter Try.func17, Try.ntmps17
    go_wp2_with (first
      | (go_at_call 16; refine cM.mono ?_; rintro e w ⟨rfl, k⟩; clear cM; obtain ⟨c2, -⟩ := hcell w k)
      | (go_at_call 11; refine (cR _ k).mono ?_; rintro e w2 ⟨rfl, b2⟩; clear cR c2; have k2 := (hcell w k).2.2.1 w2 b2)
      | fail)
    refine bodyPost_ret (v := .tuple #[.int .i64 m.ref, .bool false]) ?_ rfl ?_
    rotate_left
    · exact ⟨rfl, k2⟩
    simp [results, Try.results17, go_sem]
  · rw [if_neg (by simp)]
    go_enter Try.func17, Try.ntmps17
    go_wp2_with (first
      | (go_at_call 16; refine cM.mono ?_; rintro e w ⟨rfl, k⟩; clear cM; obtain ⟨c2, -⟩ := hcell w k)
      | (go_at_call 13; refine (cV _).mono ?_; rintro e w2 ⟨rfl, b2⟩; clear cV c2; have k2 := (hcell w k).2.2.1 w2 b2)
      | (go_at_call 11; refine (cR _ k2).mono ?_; rintro e w3 ⟨rfl, b3⟩; clear cR; have k3 := (hcell w2 k2).2.2.1 w3 b3)
      | fail)
    refine bodyPost_ret (v := .tuple #[.int .i64 m.ref, .bool false]) ?_ rfl ?_
    rotate_left
    · exact ⟨rfl, k3⟩
    simp [results, Try.results17, go_sem]
  · rw [if_pos ⟨rfl, rfl⟩]
    clear cR
    go_enter Try.func17, Try.ntmps17
    go_wp2_with (first
      | (go_at_call 16; refine cM.mono ?_; rintro e w ⟨rfl, k⟩; clear cM; obtain ⟨c2, -⟩ := hcell w k)
      | (go_at_call 13; refine (cV _).mono ?_; rintro e w2 ⟨rfl, b2⟩; clear cV c2; have k2 := (hcell w k).2.2.1 w2 b2; obtain ⟨c2, fr, -, hT, -⟩ := hcell w2 k2)
      | fail)
    refine bodyPost_ret (v := .tuple #[.int .i64 n, .bool true]) ?_ rfl ?_
    rotate_left
    · exact ⟨rfl, hT trivial⟩
    simp [results, Try.results17, go_sem]
/-- What Reset lays. -/
theorem WpB.laid (h : WpB W g S ko ao cap m) {p : Int} (hp : refOk p m.grid) : Tp W g S { m with ref := p, L := [] } (((((((((W.setCell ⟨g, 0, none⟩ (.int .i64 m.span)).setCell ⟨g, 1, none⟩ (.int .i64 m.grid)).setCell ⟨g, 2, none⟩ (.int .i64 p)).setCell ⟨g, 3, none⟩ (.int .i64 m.last)).setCell ⟨g, 4, none⟩ (.slice none 0 0)).setCell ⟨g, 5, none⟩ (.int .u64 0)).setCell ⟨g, 6, none⟩ (.int .u64 0)).setCell ⟨g, 7, none⟩ (.int .u64 0)).setCell ⟨g, 8, none⟩ (.int .u64 0)) := by
  have h0 := h.hg
  have h11 : Blk _ g 55 #[.int .i64 m.span, .int .i64 m.grid, .int .i64 m.ref, .int .i64 m.last, .slice ao m.L.length cap, .int .u64 (hi (pqs m.L)), .int .u64 (lo (pqs m.L)), .int .u64 (hi (qqs m.L)), .int .u64 (lo (qqs m.L))] := h0.set 0 (.int .i64 m.span)
  have h12 : Blk _ g 55 #[.int .i64 m.span, .int .i64 m.grid, .int .i64 m.ref, .int .i64 m.last, .slice ao m.L.length cap, .int .u64 (hi (pqs m.L)), .int .u64 (lo (pqs m.L)), .int .u64 (hi (qqs m.L)), .int .u64 (lo (qqs m.L))] := h11.set 1 (.int .i64 m.grid)
  have h13 : Blk _ g 55 #[.int .i64 m.span, .int .i64 m.grid, .int .i64 p, .int .i64 m.last, .slice ao m.L.length cap, .int .u64 (hi (pqs m.L)), .int .u64 (lo (pqs m.L)), .int .u64 (hi (qqs m.L)), .int .u64 (lo (qqs m.L))] := h12.set 2 (.int .i64 p)
  have h14 : Blk _ g 55 #[.int .i64 m.span, .int .i64 m.grid, .int .i64 p, .int .i64 m.last, .slice ao m.L.length cap, .int .u64 (hi (pqs m.L)), .int .u64 (lo (pqs m.L)), .int .u64 (hi (qqs m.L)), .int .u64 (lo (qqs m.L))] := h13.set 3 (.int .i64 m.last)
  have h15 : Blk _ g 55 #[.int .i64 m.span, .int .i64 m.grid, .int .i64 p, .int .i64 m.last, .slice none 0 0, .int .u64 (hi (pqs m.L)), .int .u64 (lo (pqs m.L)), .int .u64 (hi (qqs m.L)), .int .u64 (lo (qqs m.L))] := h14.set 4 (.slice none 0 0)
  have h16 : Blk _ g 55 #[.int .i64 m.span, .int .i64 m.grid, .int .i64 p, .int .i64 m.last, .slice none 0 0, .int .u64 0, .int .u64 (lo (pqs m.L)), .int .u64 (hi (qqs m.L)), .int .u64 (lo (qqs m.L))] := h15.set 5 (.int .u64 0)
  have h17 : Blk _ g 55 #[.int .i64 m.span, .int .i64 m.grid, .int .i64 p, .int .i64 m.last, .slice none 0 0, .int .u64 0, .int .u64 0, .int .u64 (hi (qqs m.L)), .int .u64 (lo (qqs m.L))] := h16.set 6 (.int .u64 0)
  have h18 : Blk _ g 55 #[.int .i64 m.span, .int .i64 m.grid, .int .i64 p, .int .i64 m.last, .slice none 0 0, .int .u64 0, .int .u64 0, .int .u64 0, .int .u64 (lo (qqs m.L))] := h17.set 7 (.int .u64 0)
  have h19 : Blk _ g 55 #[.int .i64 m.span, .int .i64 m.grid, .int .i64 p, .int .i64 m.last, .slice none 0 0, .int .u64 0, .int .u64 0, .int .u64 0, .int .u64 0] := h18.set 8 (.int .u64 0)
  have h1 := h19
  have f0 : Frm S W W := Frm.refl S W
  have f1 := f0.setCell ⟨g, 0, none⟩ (.int .i64 m.span) (.inl h.sg)
  have f2 := f1.setCell ⟨g, 1, none⟩ (.int .i64 m.grid) (.inl h.sg)
  have f3 := f2.setCell ⟨g, 2, none⟩ (.int .i64 p) (.inl h.sg)
  have f4 := f3.setCell ⟨g, 3, none⟩ (.int .i64 m.last) (.inl h.sg)
  have f5 := f4.setCell ⟨g, 4, none⟩ (.slice none 0 0) (.inl h.sg)
  have f6 := f5.setCell ⟨g, 5, none⟩ (.int .u64 0) (.inl h.sg)
  have f7 := f6.setCell ⟨g, 6, none⟩ (.int .u64 0) (.inl h.sg)
  have f8 := f7.setCell ⟨g, 7, none⟩ (.int .u64 0) (.inl h.sg)
  have f9 := f8.setCell ⟨g, 8, none⟩ (.int .u64 0) (.inl h.sg)
  have hF := f9
  unfold refOk at hp
  exact ⟨S, ⟨none, none, 0, h1, OwD.nil _ _ _, h.sg, (fun k e => by cases e), fun c hc => Nat.lt_of_lt_of_le (h.lt c hc) hF.size, ⟨h.ok.s, h.ok.g, by simp only; omega, h.ok.l, (fun x hx => by cases hx), List.Pairwise.nil⟩⟩, hF, fun c hc => .inl hc⟩
set_option maxRecDepth 100000 in
set_option maxHeartbeats 4000000 in
theorem wp_reset (p : Int) (hp : In64 p) (h : WP W g S m) : Calls Try.prog 18 #[.pointer (some ⟨g, 0, none⟩), .int .i64 p] W fun e w' => e = .returned (.int .i64 (m.reset p).1) ∧ Tp W g S (m.reset p).2 w' := by
  obtain ⟨ko, ao, cap, h⟩ := h
  have hgr := h.ok.g
  have cP := fun w => fprice_any p m.grid hp ⟨by omega, by omega⟩ w
  have hpv := priceV_ok p m.grid hgr.1
  have c1 := h.hg.cell_eq 1 _ rfl
  unfold Wn.reset
  by_cases hq : refOk p m.grid
  · rw [decide_eq_true hq] at hpv
    rw [if_pos hq]
    have e0 : priceV p m.grid = 0 := by simpa using hpv
    rw [e0] at cP
    have hk : ∀ w, Below W.heap.size W w → (∀ w2, Below w.heap.size w w2 → w2.cell? ⟨g, 0, none⟩ = some (.int .i64 m.span) ∧ w2.cell? ⟨g, 1, none⟩ = some (.int .i64 m.grid) ∧ w2.cell? ⟨g, 3, none⟩ = some (.int .i64 m.last)) ∧ ∀ w2, Below w.heap.size w w2 → ∃ c2 c4 c5 c6 c7 c8, w2.cell? ⟨g, 2, none⟩ = some c2 ∧ w2.cell? ⟨g, 4, none⟩ = some c4 ∧ w2.cell? ⟨g, 5, none⟩ = some c5 ∧ w2.cell? ⟨g, 6, none⟩ = some c6 ∧ w2.cell? ⟨g, 7, none⟩ = some c7 ∧ w2.cell? ⟨g, 8, none⟩ = some c8 ∧ (∀ i, w2.frozen? ⟨g, i, none⟩ = false) ∧ ∀ w3, w3 = (((((((((w2.setCell ⟨g, 0, none⟩ (.int .i64 m.span)).setCell ⟨g, 1, none⟩ (.int .i64 m.grid)).setCell ⟨g, 2, none⟩ (.int .i64 p)).setCell ⟨g, 3, none⟩ (.int .i64 m.last)).setCell ⟨g, 4, none⟩ (.slice none 0 0)).setCell ⟨g, 5, none⟩ (.int .u64 0)).setCell ⟨g, 6, none⟩ (.int .u64 0)).setCell ⟨g, 7, none⟩ (.int .u64 0)).setCell ⟨g, 8, none⟩ (.int .u64 0)) → Tp W g S { m with ref := p, L := [] } w3 := fun w hb => by
      have h1 := h.below hb
      refine ⟨fun w2 hb2 => ?_, fun w2 hb2 => ?_⟩
      · have h2 := h1.hg.below hb2 h1.hg.lt
        exact ⟨h2.cell_eq 0 _ rfl, h2.cell_eq 1 _ rfl, h2.cell_eq 3 _ rfl⟩
      · have h2 := h1.below hb2
        exact ⟨_, _, _, _, _, _, h2.hg.cell_eq 2 _ rfl, h2.hg.cell_eq 4 _ rfl, h2.hg.cell_eq 5 _ rfl, h2.hg.cell_eq 6 _ rfl, h2.hg.cell_eq 7 _ rfl, h2.hg.cell_eq 8 _ rfl, h2.hg.free, fun w3 e => by rw [e]; exact (h2.laid hq).ahead (Frm.of_below (hb.trans (hb2.mono hb.size)))⟩
    replace hk := Lib.hid hk
    clear h hq hpv e0 hgr hp
    go_enter Try.func18, Try.ntmps18
    go_wp2_with (first
      | (go_at_call 19; refine (cP _).mono ?_; rintro e w ⟨rfl, hb⟩; clear cP c1; obtain ⟨hr, hs⟩ := hk.out w hb; clear hk; obtain ⟨d0, d1, d3⟩ := hr w (Below.refl _ _))
      | fail)
    go_still_tail 16, (by kernel_rfl)
    change wpList _ _ _ _ _ (World.drew _)
    have hbd : Below w.heap.size w w.drew := (Below.refl _ _).drew
    obtain ⟨c2, c4, c5, c6, c7, c8, z2, z4, z5, z6, z7, z8, fr, hT⟩ := hs _ hbd
    obtain ⟨z0, z1, z3⟩ := hr _ hbd
    replace hT := Lib.hid hT
    clear hr hs d0 d1 d3 hbd hb
    generalize w.drew = V at *
    go_wp2_with fail
    go_ret
    exact ⟨rfl, hT.out _ rfl⟩
  · rw [decide_eq_false hq] at hpv
    rw [if_neg hq]
    have e0 : (priceV p m.grid != 0) = true := by simpa using hpv
    have hk : ∀ w, Below W.heap.size W w → Tp W g S m w := fun w hb => Tp.below ⟨ko, ao, cap, h⟩ hb
    clear h hq hpv hp
    generalize priceV p m.grid = x at *
    go_enter Try.func18, Try.ntmps18
    go_wp2_with (first
      | (go_at_call 19; refine (cP _).mono ?_; rintro e w ⟨rfl, hb⟩; clear cP)
      | fail)
    go_ret
    exact ⟨rfl, hk _ hb⟩
end
end Go.Proofs.Yteljjjdejjkgfaa
