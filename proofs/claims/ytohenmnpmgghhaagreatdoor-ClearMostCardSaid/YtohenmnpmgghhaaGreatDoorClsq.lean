/-
  What the program's clear answers: Choose, Free, Allowed.
-/
import Derived.Test.YtohenmnpmgghhaaGreatDoorGHc
import Derived.Test.YtohenmnpmgghhaaGreatDoorGHd
import Derived.Test.YtohenmnpmgghhaaGreatDoorGHe
import Derived.Test.YtohenmnpmgghhaaGreatDoorGCf
namespace Go.Proofs.YtohenmnpmgghhaaGreatDoor
open Go.RowKit
set_option linter.unusedSimpArgs false
theorem chs_none (rf lo hi : Int) : chsL [] rf lo hi = (.zero, false) := by
  have key : (bestL [] rf (alwL [] rf lo hi)).volume = 0 := by
    by_cases hn : alwL [] rf lo hi = []
    · rw [hn]; rfl
    · obtain ⟨⟨p, -, e⟩, -⟩ := bestL_spec (L := []) (r := rf) hn
      rw [e]
      rfl
  unfold chsL
  rw [if_pos key]
section
variable {W : World} {L : List Ord} {p : Option Addr}
set_option maxRecDepth 8000 in
set_option maxHeartbeats 8000000 in
theorem chs_any (rf lo hi : Int) (hrf : 0 ≤ rf ∧ rf ≤ 1099511627776) (hL : LOk L)
    (cOf : ∀ w, Below W.heap.size W w → Calls Tryz.prog 26 #[.pointer p] w fun e w' => ∃ c, e = .returned (.pointer c) ∧ CvP w.heap.size w' c L ∧ Below w.heap.size w w') :
    Calls Tryz.prog 10 #[.pointer p, .int .i64 rf, .agg #[.int .i64 lo, .int .i64 hi]] W fun e w' => e = .returned (.tuple #[vPrc (chsL L rf lo hi).1, .bool (chsL L rf lo hi).2]) ∧ Below W.heap.size W w' := by
  have hmf : ∀ (fn : Fn) (first cap : Array Value) (w : World), (Instr.makeFunc fn first cap).run Tryz.prog w = .ok (.func fn first cap) w := fun _ _ _ _ => rfl
  obtain ⟨W1, hW1⟩ : ∃ W1, W1 = ((W.alloc (.cells #[.int .i64 rf] 2)).alloc (.cells #[.int .i64 lo, .int .i64 hi] 24)).alloc (.cells (cPrc .zero) 32) := ⟨_, rfl⟩
  have m1 : Mem W [(W.heap.size + 1 + 1, 32, cPrc .zero), (W.heap.size + 1, 24, #[.int .i64 lo, .int .i64 hi]), (W.heap.size, 2, #[.int .i64 rf])] W1 := by
    rw [hW1]
    exact (((Mem.start W).new _ _).new' _ _ (by simp)).new' _ _ (by simp)
  have hb1 := m1.below
  have hF := m1.blk W.heap.size 2 #[.int .i64 rf] (by simp)
  have hD := m1.blk (W.heap.size + 1) 24 #[.int .i64 lo, .int .i64 hi] (by simp)
  have hR := m1.blk (W.heap.size + 1 + 1) 32 (cPrc .zero) (by simp)
  have cO1 := cOf W1 hb1
  obtain ⟨l, hl⟩ : ∃ l, l = alwL L rf lo hi := ⟨_, rfl⟩
  have cA := fun (B : Nat) (c : Option Addr) (w : World) (h : CvP B w c L) => allow_any rf lo hi h
  have hwf := alw_wf L rf lo hi
  have hlen := alw_len L rf lo hi
  have hl5 := hL.len
  have hmn := mnI_all L rf l
  have hq : ∀ x ∈ l.map (prcOf L), 0 ≤ x.price ∧ x.price ≤ 1099511627776 := fun x hx => by
    obtain ⟨z, hz, rfl⟩ := List.mem_map.1 hx
    exact (hwf z (by rw [← hl]; exact hz)).1
  unfold chsL
  rw [← hl] at hwf hlen ⊢
  simp only [← hl] at cA
  clear hl cOf m1 hwf
  have h6 : l.length ≤ 600 := by omega
  have hml : (l.map (prcOf L)).length = l.length := List.length_map _
  have cE := fun (B : Nat) (c ao : Option Addr) (cap : Nat) (w : World) (hI : It .i64 w ao cap l) (hc : CvP B w c L) => evald_any l w hI hc h6
  obtain ⟨n, hn⟩ : ∃ n, n = l.length := ⟨_, rfl⟩
  rw [← hn] at cA cE hlen h6 hml hmn
  have hcell : ∀ w, Below W1.heap.size W1 w → (w.cell? ⟨W.heap.size, 0, none⟩ = some (.int .i64 rf) ∧ w.cell? ⟨W.heap.size + 1, 0, none⟩ = some (.int .i64 lo) ∧ w.cell? ⟨W.heap.size + 1, 1, none⟩ = some (.int .i64 hi)) := fun w hw =>
    ⟨(hF.below hw hF.lt).cell_eq 0 _ rfl, (hD.below hw hD.lt).cell_eq 0 _ rfl, (hD.below hw hD.lt).cell_eq 1 _ rfl⟩
  have hres : ∀ w, Below W1.heap.size W1 w → ∀ m : Prc, ((w.cell? ⟨W.heap.size + 1 + 1, 0, none⟩ = some (.int .i64 0) ∧ w.cell? ⟨W.heap.size + 1 + 1, 1, none⟩ = some (.int .i64 0) ∧ w.cell? ⟨W.heap.size + 1 + 1, 2, none⟩ = some (.int .i64 0)) ∧ ∀ k, w.frozen? ⟨W.heap.size + 1 + 1, k, none⟩ = false) ∧ ∃ V, V = ((w.setCell ⟨W.heap.size + 1 + 1, 0, none⟩ (.int .i64 m.price)).setCell ⟨W.heap.size + 1 + 1, 1, none⟩ (.int .i64 m.volume)).setCell ⟨W.heap.size + 1 + 1, 2, none⟩ (.int .i64 m.odds) ∧
      (V.cell? ⟨W.heap.size + 1 + 1, 0, none⟩ = some (.int .i64 m.price) ∧ V.cell? ⟨W.heap.size + 1 + 1, 1, none⟩ = some (.int .i64 m.volume) ∧ V.cell? ⟨W.heap.size + 1 + 1, 2, none⟩ = some (.int .i64 m.odds)) ∧ Below W.heap.size W V := fun w hw m => by
    have h := hR.below hw hR.lt
    exact ⟨⟨Prc.cells (m := .zero) h, h.free⟩, _, rfl, Prc.cells (Prc.lay h _ _ _), Prc.below (hb1.trans (hw.mono hb1.size)) (by omega) _ _ _⟩
  replace hres := Lib.hid hres
  obtain ⟨z0, z1, z2⟩ := hcell W1 (Below.refl _ _)
  have cM : 0 < n → ∀ (ko : Option Nat) (ao : Option Addr) (cap : Nat) (w3 w4 : World), Gr 32 3 cPrc w3 w4 (l.map (prcOf L)) ko cap ao → Below W1.heap.size W1 w4 →
      Calls Tryz.prog 30 #[.slice ao n cap, .func (.func 31) #[] #[.pointer (some ⟨W.heap.size, 0, none⟩)]] w4 fun e w' => e = .returned (vPrc (bestL L rf l)) ∧ Below w4.heap.size w4 w' := fun h0 ko ao cap w3 w4 hG hb => by
    have := minf_any rf w4 (Prcs.of_own hG.ow) (by omega) (by omega) hq hrf (hF.below hb hF.lt)
    rw [hml, hmn] at this
    exact this
  have h0n : l = [] → bestL L rf l = .zero := fun e => by rw [e]; rfl
  clear hF hD hR hq hmn hml hl5 hL
  obtain ⟨m, hm⟩ : ∃ m, m = bestL L rf l := ⟨_, rfl⟩
  rw [← hm] at h0n ⊢
  simp only [← hm] at cM
  simp only [cPrc, Prc.zero] at hW1
  by_cases hz : n = 0
  · have hle : l = [] := List.eq_nil_of_length_eq_zero (by omega)
    obtain rfl : m = .zero := h0n hle
    have en : ((n : Int) == 0) = true := by simp [hz]
    clear cM h0n hm hz hle hn hlen
    go_enter Tryz.func10, Tryz.ntmps10
    go_wp2_with (first
      | (rw [← hW1]; clear hW1)
      | (go_at_call 26; refine cO1.mono ?_; rintro e w2 ⟨c, rfl, hc2, hb2⟩; clear cO1; obtain ⟨f0, f1, f2⟩ := hcell w2 hb2; have cA2 := cA _ c w2 hc2; clear cA)
      | (go_at_call 28; refine cA2.mono ?_; rintro e w3 ⟨ao3, cap3, rfl, hI3, hb3⟩; clear cA2; have cE3 := cE _ c ao3 cap3 w3 hI3 (hc2.below hb3); clear cE)
      | (go_at_call 27; refine cE3.mono ?_; rintro e w4 ⟨ko4, cap4, ao4, rfl, hG4⟩; clear cE3; have hb14 := (hb2.trans (hb3.mono hb2.size)).trans (hG4.bel.mono (Nat.le_trans hb2.size hb3.size)); obtain ⟨⟨⟨q0, q1, q2⟩, hfz⟩, V, hV, ⟨p0, p1, p2⟩, hbV⟩ := hres.out w4 hb14 .zero; clear hres; subst hV; simp only [Prc.zero] at p0 p1 p2 hbV)
      | fail)
    refine bodyPost_ret (v := .tuple #[.agg #[.int .i64 0, .int .i64 0, .int .i64 0], .bool false]) ?_ rfl ⟨rfl, hbV⟩
    simp [results, Tryz.results10, go_sem, p0, p1, p2]
  · have en : ((n : Int) == 0) = false := by simp [hz]
    have hnx : ∀ w5, Below W1.heap.size W1 w5 → ∃ V5, V5 = w5.alloc (.cells (cPrc m) 32) ∧ Below W1.heap.size W1 V5 ∧ (V5.cell? ⟨w5.heap.size, 0, none⟩ = some (.int .i64 m.price) ∧ V5.cell? ⟨w5.heap.size, 1, none⟩ = some (.int .i64 m.volume) ∧ V5.cell? ⟨w5.heap.size, 2, none⟩ = some (.int .i64 m.odds)) := fun w5 hb =>
      ⟨_, rfl, hb.alloc hb.size _, Prc.cells (Blk.new w5 32 (cPrc m))⟩
    replace cM := cM (by omega)
    clear h0n hm hz hn hlen h6
    obtain ⟨mp, mv, mo⟩ := m
    simp only [cPrc] at hnx
    simp only [vPrc, cPrc] at cM
    by_cases h0 : mv = 0
    · rw [if_pos h0]
      have e0 : (mv == 0) = true := by simp [h0]
      clear h0
      go_enter Tryz.func10, Tryz.ntmps10
      go_wp2_with (first
            | (rw [← hW1]; clear hW1)
            | (go_at_call 26; refine cO1.mono ?_; rintro e w2 ⟨c, rfl, hc2, hb2⟩; clear cO1; obtain ⟨f0, f1, f2⟩ := hcell w2 hb2; have cA2 := cA _ c w2 hc2; clear cA)
            | (go_at_call 28; refine cA2.mono ?_; rintro e w3 ⟨ao3, cap3, rfl, hI3, hb3⟩; clear cA2; have cE3 := cE _ c ao3 cap3 w3 hI3 (hc2.below hb3); clear cE)
            | (go_at_call 27; refine cE3.mono ?_; rintro e w4 ⟨ko4, cap4, ao4, rfl, hG4⟩; clear cE3; have hb14 := (hb2.trans (hb3.mono hb2.size)).trans (hG4.bel.mono (Nat.le_trans hb2.size hb3.size)); have cM4 := cM ko4 ao4 cap4 w3 w4 hG4 hb14; clear cM)
            | (go_at_call 30; refine cM4.mono ?_; rintro e w5 ⟨rfl, hb5⟩; clear cM4; obtain ⟨V5, hV5, hb15, ⟨u0, u1, u2⟩⟩ := hnx w5 (hb14.trans (hb5.mono hb14.size)); clear hnx; obtain ⟨⟨⟨q0, q1, q2⟩, hfz⟩, V, hV, ⟨p0, p1, p2⟩, hbV⟩ := hres.out V5 hb15 .zero; clear hres; subst hV; simp only [Prc.zero] at p0 p1 p2 hbV)
            | (rw [← hV5]; clear hV5)
                  | fail)
      refine bodyPost_ret (v := .tuple #[.agg #[.int .i64 0, .int .i64 0, .int .i64 0], .bool false]) ?_ rfl ⟨rfl, hbV⟩
      simp [results, Tryz.results10, go_sem, p0, p1, p2]

    · rw [if_neg h0]
      have e0 : (mv == 0) = false := by simp [h0]
      clear h0
      go_enter Tryz.func10, Tryz.ntmps10
      go_wp2_with (first
            | (rw [← hW1]; clear hW1)
            | (go_at_call 26; refine cO1.mono ?_; rintro e w2 ⟨c, rfl, hc2, hb2⟩; clear cO1; obtain ⟨f0, f1, f2⟩ := hcell w2 hb2; have cA2 := cA _ c w2 hc2; clear cA)
            | (go_at_call 28; refine cA2.mono ?_; rintro e w3 ⟨ao3, cap3, rfl, hI3, hb3⟩; clear cA2; have cE3 := cE _ c ao3 cap3 w3 hI3 (hc2.below hb3); clear cE)
            | (go_at_call 27; refine cE3.mono ?_; rintro e w4 ⟨ko4, cap4, ao4, rfl, hG4⟩; clear cE3; have hb14 := (hb2.trans (hb3.mono hb2.size)).trans (hG4.bel.mono (Nat.le_trans hb2.size hb3.size)); have cM4 := cM ko4 ao4 cap4 w3 w4 hG4 hb14; clear cM)
            | (go_at_call 30; refine cM4.mono ?_; rintro e w5 ⟨rfl, hb5⟩; clear cM4; obtain ⟨V5, hV5, hb15, ⟨u0, u1, u2⟩⟩ := hnx w5 (hb14.trans (hb5.mono hb14.size)); clear hnx; obtain ⟨⟨⟨q0, q1, q2⟩, hfz⟩, V, hV, ⟨p0, p1, p2⟩, hbV⟩ := hres.out V5 hb15 ⟨mp, mv, mo⟩; clear hres; subst hV; simp only at p0 p1 p2 hbV)
            | (rw [← hV5]; clear hV5)
                  | fail)
      refine bodyPost_ret (v := .tuple #[.agg #[.int .i64 mp, .int .i64 mv, .int .i64 mo], .bool true]) ?_ rfl ⟨rfl, hbV⟩
      simp [results, Tryz.results10, go_sem, p0, p1, p2]
end
section
variable {W : World} {g k : Nat} {S : Nat → Prop} {b : Bk}
theorem cl_choose (rf lo hi : Int) (hrf : 0 ≤ rf ∧ rf ≤ 1099511627776) (_hlo : In64 lo) (_hhi : In64 hi) (h : PB W g S k b) : Calls Tryz.prog 10 #[.pointer (some ⟨g, 0, none⟩), .int .i64 rf, .agg #[.int .i64 lo, .int .i64 hi]] W fun e w' => e = .returned (.tuple #[vPrc (chsL b.L rf lo hi).1, .bool (chsL b.L rf lo hi).2]) ∧ Below W.heap.size W w' :=
  chs_any rf lo hi hrf h.ok.lok fun _ hw => cv_of (h.below hw)
set_option maxRecDepth 8000 in
/-- Free over Choose. -/
theorem free_walk {p : Option Addr} (rf : Int) (z : Prc) (q : Bool) (W : World)
    (cC : ∀ w, Below W.heap.size W w → Calls Tryz.prog 10 #[.pointer p, .int .i64 rf, .agg #[.int .i64 1, .int .i64 1099511627776]] w fun e w' => e = .returned (.tuple #[vPrc z, .bool q]) ∧ Below w.heap.size w w') :
    Calls Tryz.prog 12 #[.pointer p, .int .i64 rf] W fun e w' => e = .returned (.tuple #[vPrc z, .bool q]) ∧ Below W.heap.size W w' := by
  obtain ⟨W1, hW1⟩ : ∃ W1, W1 = W.alloc (.cells (cPrc .zero) 32) := ⟨_, rfl⟩
  have hb1 : Below W.heap.size W W1 := by rw [hW1]; exact (Below.refl _ _).alloc (Nat.le_refl _) _
  have hR1 : Blk W1 W.heap.size 32 (cPrc .zero) := by rw [hW1]; exact Blk.new _ _ _
  have cC1 := cC W1 hb1
  clear cC
  obtain ⟨zp, zv, zo⟩ := z
  have hnx : ∀ w2, Below W1.heap.size W1 w2 → (w2.cell? ⟨W.heap.size, 0, none⟩ = some (.int .i64 0) ∧ w2.cell? ⟨W.heap.size, 1, none⟩ = some (.int .i64 0) ∧ w2.cell? ⟨W.heap.size, 2, none⟩ = some (.int .i64 0)) ∧ (∀ i, w2.frozen? ⟨W.heap.size, i, none⟩ = false) ∧ Hid (∀ V, V = ((w2.setCell ⟨W.heap.size, 0, none⟩ (.int .i64 zp)).setCell ⟨W.heap.size, 1, none⟩ (.int .i64 zv)).setCell ⟨W.heap.size, 2, none⟩ (.int .i64 zo) → (V.cell? ⟨W.heap.size, 0, none⟩ = some (.int .i64 zp) ∧ V.cell? ⟨W.heap.size, 1, none⟩ = some (.int .i64 zv) ∧ V.cell? ⟨W.heap.size, 2, none⟩ = some (.int .i64 zo)) ∧ Below W.heap.size W V) := fun w2 hb => by
    have h := hR1.below hb hR1.lt
    refine ⟨Prc.cells (m := .zero) h, h.free, Lib.hid ?_⟩
    rintro V rfl
    exact ⟨Prc.cells (m := ⟨zp, zv, zo⟩) (Prc.lay h zp zv zo), Prc.below (hb1.trans (hb.mono hb1.size)) (Nat.le_refl _) _ _ _⟩
  simp only [vPrc, cPrc, Prc.zero] at hW1 cC1 ⊢
  clear hR1
  go_enter Tryz.func12, Tryz.ntmps12
  go_wp2_with (first
    | (rw [← hW1]; clear hW1)
    | (go_at_call 10; refine cC1.mono ?_; rintro e w2 ⟨rfl, hb2⟩; clear cC1; obtain ⟨⟨z0, z1, z2⟩, zf, hrest⟩ := hnx w2 hb2; clear hnx)
    | fail)
  obtain ⟨⟨g0, g1, g2⟩, hf⟩ := hrest.out _ rfl
  refine bodyPost_ret (v := .tuple #[.agg #[.int .i64 zp, .int .i64 zv, .int .i64 zo], .bool q]) ?_ rfl ?_
  rotate_left
  · exact ⟨rfl, hf⟩
  simp [results, Tryz.results12, go_sem, g0, g1, g2]
theorem cl_free (rf : Int) (hrf : 0 ≤ rf ∧ rf ≤ 1099511627776) (h : PB W g S k b) : Calls Tryz.prog 12 #[.pointer (some ⟨g, 0, none⟩), .int .i64 rf] W fun e w' => e = .returned (.tuple #[vPrc (chsL b.L rf 1 1099511627776).1, .bool (chsL b.L rf 1 1099511627776).2]) ∧ Below W.heap.size W w' :=
  free_walk rf _ _ W fun _ hw => cl_choose rf 1 1099511627776 hrf ⟨by omega, by omega⟩ ⟨by omega, by omega⟩ (h.below hw)
theorem cl_free_nil (rf : Int) (hrf : 0 ≤ rf ∧ rf ≤ 1099511627776) (W : World) : Calls Tryz.prog 12 #[.pointer none, .int .i64 rf] W fun e w' => e = .returned (.tuple #[vPrc .zero, .bool false]) ∧ Below W.heap.size W w' :=
  free_walk rf _ _ W fun w _ => by
    have := chs_any (W := w) (p := none) rf 1 1099511627776 hrf LOk.nil fun w' _ => cv_of_nil w'
    rw [chs_none] at this
    exact this
set_option maxRecDepth 8000 in
theorem cl_allowed (rf lo hi : Int) (_hrf : 0 ≤ rf ∧ rf ≤ 1099511627776) (_hlo : In64 lo) (_hhi : In64 hi) (h : PB W g S k b) : Calls Tryz.prog 16 #[.pointer (some ⟨g, 0, none⟩), .int .i64 rf, .agg #[.int .i64 lo, .int .i64 hi]] W fun e w' => ∃ ao cap, e = .returned (.slice ao (alwL b.L rf lo hi).length cap) ∧ It .i64 w' ao cap (alwL b.L rf lo hi) ∧ Below W.heap.size W w' := by
  obtain ⟨W1, hW1⟩ : ∃ W1, W1 = W.alloc (.cells #[.int .i64 lo, .int .i64 hi] 24) := ⟨_, rfl⟩
  have hb1 : Below W.heap.size W W1 := by rw [hW1]; exact (Below.refl _ _).alloc (Nat.le_refl _) _
  have hBd : Blk W1 W.heap.size 24 #[.int .i64 lo, .int .i64 hi] := by rw [hW1]; exact Blk.new _ _ _
  have hcell : ∀ w, Below W1.heap.size W1 w → w.cell? ⟨W.heap.size, 0, none⟩ = some (.int .i64 lo) ∧ w.cell? ⟨W.heap.size, 1, none⟩ = some (.int .i64 hi) := fun w hw => ⟨(hBd.below hw hBd.lt).cell_eq 0 _ rfl, (hBd.below hw hBd.lt).cell_eq 1 _ rfl⟩
  have cOf := fun w (hw : Below W1.heap.size W1 w) => cv_of (h.below (hb1.trans (hw.mono hb1.size)))
  have cA := fun (B : Nat) (c : Option Addr) (w : World) (h : CvP B w c b.L) => allow_any rf lo hi h
  clear hBd h
  generalize alwL b.L rf lo hi = A at *
  generalize b.L = L at *
  go_enter Tryz.func16, Tryz.ntmps16
  go_wp2_with (first
    | (rw [← hW1]; clear hW1)
    | fail)
  refine GoL.start (S := fun _ w => Below W1.heap.size W1 w) (by kernel_rfl) (Below.refl _ _).drew ?_
  have hS : Below W1.heap.size W1 W1.drew := (Below.refl _ _).drew
  refine GoL.take (i := 0) (v := ?_) rfl rfl (by kernel_rfl) (fun _ _ _ h => h) (fun _ _ => Iff.rfl) (by rfl) ?_ ?_
  rotate_left
  · intro wx hwx
    have hwx := Wi.at' hwx
    go_simp
    all_goals first
      | done
      | with_reducible rfl
      | assumption
      | (simp_all; done)
  try simp only [Act.put, List.setIfInBounds_toArray, List.set_cons_zero, List.set_cons_succ, List.getElem_toArray, List.getElem_cons_zero, List.getElem_cons_succ]
  refine GoL.take (i := 2) (v := ?_) rfl rfl (by kernel_rfl) (fun _ _ _ h => h) (fun _ _ => Iff.rfl) (by rfl) ?_ ?_
  rotate_left
  · intro wx hwx
    have hwx := Wi.at' hwx
    go_simp
    all_goals first
      | done
      | with_reducible rfl
      | assumption
      | (simp_all; done)
  try simp only [Act.put, List.setIfInBounds_toArray, List.set_cons_zero, List.set_cons_succ, List.getElem_toArray, List.getElem_cons_zero, List.getElem_cons_succ]
  refine GoL.take (i := 3) (v := ?_) rfl rfl (by kernel_rfl) (fun _ _ _ h => h) (fun _ _ => Iff.rfl) (by rfl) ?_ ?_
  rotate_left
  · intro wx hwx
    have hwx := Wi.at' hwx
    obtain ⟨v0, v1⟩ := hcell wx hwx
    go_simp
    all_goals first
      | done
      | with_reducible rfl
      | assumption
      | (simp_all; done)
  try simp only [Act.put, List.setIfInBounds_toArray, List.set_cons_zero, List.set_cons_succ, List.getElem_toArray, List.getElem_cons_zero, List.getElem_cons_succ]
  refine GoL.on (rs := [1]) (by kernel_rfl) (by decide) ?_
  refine OnL.cons rfl ?_ OnL.nil
  intro K hK
  replace hK := Lib.hid hK
  go_simp
  refine (cOf _ hS).mono ?_
  rintro e w2 ⟨c, rfl, hc, hbx⟩
  have hS := hS.trans (hbx.mono hS.size)
  clear hbx
  refine hK.out _ _ hS ?_
  clear hK
  try simp only [Act.put, List.setIfInBounds_toArray, List.set_cons_zero, List.set_cons_succ, List.getElem_toArray, List.getElem_cons_zero, List.getElem_cons_succ]
  refine GoL.on (rs := [4]) (by kernel_rfl) (by decide) ?_
  refine OnL.cons rfl ?_ OnL.nil
  intro K hK
  replace hK := Lib.hid hK
  go_simp
  refine (cA _ _ _ hc).mono ?_
  rintro e w3 ⟨ao, cap, rfl, hI, hbx⟩
  have hS := hS.trans (hbx.mono hS.size)
  clear hbx
  refine hK.out _ _ hS ?_
  clear hK
  try simp only [Act.put, List.setIfInBounds_toArray, List.set_cons_zero, List.set_cons_succ, List.getElem_toArray, List.getElem_cons_zero, List.getElem_cons_succ]
  refine GoL.take (i := 5) (v := ?_) rfl rfl (by kernel_rfl) (fun _ _ _ h => h) (fun _ _ => Iff.rfl) (by rfl) ?_ ?_
  rotate_left
  · intro wx hwx
    have hwx := Wi.at' hwx
    go_simp
    all_goals first
      | done
      | with_reducible rfl
      | assumption
      | (simp_all; done)
  try simp only [Act.put, List.setIfInBounds_toArray, List.set_cons_zero, List.set_cons_succ, List.getElem_toArray, List.getElem_cons_zero, List.getElem_cons_succ]
  refine GoL.done (by kernel_rfl) ?_
  refine NoPanic.normal ?_
  have hfin := hb1.trans (hS.mono hb1.size)
  clear hS hc cA cOf hcell
  go_wp2_with fail
  go_ret
  exact ⟨ao, cap, rfl, hI, hfin⟩
theorem cl_allowed_nil (rf lo hi : Int) (W : World) : Calls Tryz.prog 16 #[.pointer none, .int .i64 rf, .agg #[.int .i64 lo, .int .i64 hi]] W fun e w' => ∃ ao cap, e = .returned (.slice ao 0 cap) ∧ Below W.heap.size W w' := by
  have hb1 : Below W.heap.size W (W.alloc (.cells #[.int .i64 lo, .int .i64 hi] 24)) := (Below.refl _ _).alloc (Nat.le_refl _) _
  go_enter Tryz.func16, Tryz.ntmps16
  go_wp2_with fail
  go_ret
  exact ⟨none, 0, rfl, hb1⟩
end
end Go.Proofs.YtohenmnpmgghhaaGreatDoor
