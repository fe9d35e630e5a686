/-
  The contract of package config's Encode.
-/
import Derived.Test.YtbkiipeoabbiiaaWalkC
import Derived.Test.YtbkiipeoabbiiaaCfgT
import Derived.Test.YtbkiipeoabbiiaaCfgB
import Derived.Test.YtbkiipeoabbiiaaOctW
import Derived.Test.YtbkiipeoabbiiaaFm
namespace Go.Proofs.Ytbkiipeoabbiiaa
open Go.RowKit
/-- The writer behind the function value, and how many numbers may come yet. -/
def IW (g tb : Nat) (s : List Nat × Nat) (S : Nat → Prop) (w : World) : Prop :=
  s.1.length + 10 * s.2 ≤ 10000 ∧ ∃ ao cap k, Blk w g 63 #[.slice ao s.1.length cap] ∧ Ow w k ao cap s.1 ∧ Blk w tb 61 #[.pointer (some ⟨g, 0, none⟩)] ∧ g ≠ tb ∧ (ao ≠ none → g ≠ k ∧ k ≠ tb) ∧ S = fun b => b = g ∨ b = tb ∨ (ao ≠ none ∧ b = k)
def okW (n : Int) : Prop := 0 ≤ n ∧ n < 9223372036854775808
def nxW (s : List Nat × Nat) (n : Int) : List Nat × Nat := (s.1 ++ num n.toNat, s.2 - 1)
theorem num10 (n : Nat) (h : n < 18446744073709551616) : (num n).length ≤ 10 := num_length 9 n (by omega)
set_option maxHeartbeats 1000000 in
theorem enc1_any (n : Nat) (hn : n < 9223372036854775808) (g k tb : Nat) (xs : List Nat) (hx : xs.length ≤ 1000000) (W : World) (hW : Wr W g k xs) (hb : Blk W tb 61 #[.pointer (some ⟨g, 0, none⟩)]) :
    Calls Try.prog 42 #[.int .i64 (n : Int), .pointer (some ⟨tb, 0, none⟩)] W fun e w' => e = .returned (.int .i64 (n : Int)) ∧ Wrote W g k w' (xs ++ num n) := by
  have cN := num_any n (by omega) g k xs hx W hW
  have x0 := hb.cell_eq 0 _ rfl
  have hcv : ∀ w, (convert 2 67 (.int .i64 (n : Int))).run Try.prog w = .ok (.int .u64 (n : Int)) w := by
    exact fun w => conv_u64 Try.underlying2 n (by omega) w
  go_enter Try.func42, Try.ntmps42
  go_wp2_with (go_at_call 43; refine cN.mono ?_; rintro e w1 ⟨rfl, hw1⟩)
  go_ret
  exact ⟨rfl, hw1⟩
theorem nmW (g tb : Nat) : Nm (List Nat × Nat) 42 #[.pointer (some ⟨tb, 0, none⟩)] (IW g tb) okW (fun _ n => n) nxW Prod.snd := by
  refine ⟨enters_of Try.func42 (by kernel_rfl) (by kernel_rfl), ?_, ?_, ?_, fun s n => by simp [nxW]; omega⟩
  · rintro s S w ⟨-, ao, cap, k, hb, ho, ht, -, -, rfl⟩ b (rfl | rfl | ⟨hao, rfl⟩)
    · exact hb.lt
    · exact ht.lt
    · exact ho.size hao
  · rintro s S w w' T ⟨hl, ao, cap, k, hb, ho, ht, hgt, hk, rfl⟩ hf hT
    refine ⟨hl, ao, cap, k, hb.frm hf (fun h => hT g h (.inl rfl)), ho.frm hf (fun hao h => hT k h (.inr (.inr ⟨hao, rfl⟩))), ht.frm hf (fun h => hT tb h (.inr (.inl rfl))), hgt, hk, rfl⟩
  · rintro ⟨zs, j⟩ S w n ⟨hl, ao, cap, k, hb, ho, ht, hgt, hk, rfl⟩ ⟨hn0, hn1⟩ hfu
    simp only at hl hfu hb ho
    obtain ⟨m, rfl⟩ : ∃ m : Nat, n = m := ⟨n.toNat, by omega⟩
    have hm : m < 9223372036854775808 := by omega
    obtain ⟨k0, hW, hk0⟩ : ∃ k0, Wr w g k0 zs ∧ ((ao ≠ none ∧ k0 = k) ∨ (ao = none ∧ k0 = w.heap.size)) := by
      cases ao with
      | none =>
        have hz : zs = [] ∧ cap = 0 := by
          rcases ho.at' with ⟨-, hc⟩ | ⟨h, -⟩
          · have := ho.len; exact ⟨List.eq_nil_of_length_eq_zero (by omega), hc⟩
          · cases h
        obtain ⟨rfl, rfl⟩ := hz
        exact ⟨w.heap.size, ⟨none, 0, hb, Ow.nil _ _, fun e => by have := hb.lt; omega⟩, .inr ⟨rfl, rfl⟩⟩
      | some a => exact ⟨k, ⟨some a, cap, hb, ho, (hk (by simp)).1⟩, .inl ⟨by simp, rfl⟩⟩
    refine (enc1_any m hm g k0 tb zs (by omega) w hW ht).mono fun e w' h => ⟨h.1, ?_⟩
    obtain ⟨k', hW', hF, hk'⟩ := h.2
    obtain ⟨ao', cap', hb', ho', hgk'⟩ := hW'
    have htl := ht.lt
    have hkt : k0 ≠ tb := by
      rcases hk0 with ⟨h1, h2⟩ | ⟨h1, h2⟩
      · rw [h2]; exact (hk h1).2
      · omega
    have hF2 : Frm (fun b => b = g ∨ b = tb ∨ (ao ≠ none ∧ b = k)) w w' := hF.mono fun b hb h => by
      rcases h with h | h
      · exact .inl h
      · rcases hk0 with ⟨h1, h2⟩ | ⟨h1, h2⟩
        · exact .inr (.inr ⟨h1, by rw [h, h2]⟩)
        · omega
    refine ⟨fun b => b = g ∨ b = tb ∨ (ao' ≠ none ∧ b = k'), ⟨?_, ao', cap', k', hb', ho', ht.frm hF (fun h => ?_), hgt, fun _ => ⟨hgk', ?_⟩, rfl⟩, hF2, ?_⟩
    · have := num10 m (by omega)
      simp only [nxW, List.length_append, Int.toNat_natCast]
      omega
    · rcases h with h | h
      · exact hgt h.symm
      · exact hkt h.symm
    · rcases hk' with h | h
      · rw [h]; exact hkt
      · omega
    · rintro b (h | h | ⟨h1, h2⟩)
      · exact .inl (.inl h)
      · exact .inl (.inr (.inl h))
      · rcases hk' with h | h
        · rcases hk0 with ⟨h3, h4⟩ | ⟨h3, h4⟩
          · exact .inl (.inr (.inr ⟨h3, by rw [h2, h, h4]⟩))
          · exact .inr (by rw [h2, h, h4]; exact Nat.le_refl _)
        · exact .inr (by rw [h2]; exact h)
/-- Numbers that go through a writer stay, and are written. -/
theorem passW : ∀ (ks : List Bool) (vs : List Int) (s : List Nat × Nat), ks.length = vs.length → (passL (fun _ n => n) nxW ks vs s).2.1 = s.1 ++ (vs.map Int.toNat).flatMap num
  | [], [], s, _ => by simp [passL]
  | a :: ks, b :: vs, s, h => by
    simp only [passL]
    rw [passW ks vs (nxW s b) (by simpa using h)]
    simp [nxW, List.append_assoc]
  | [], _ :: _, _, h => by simp at h
  | _ :: _, [], _, h => by simp at h
theorem fit_same (us : List Int) : fitL us.length us = us := by simp [fitL]
theorem walkW {c : Cfg} (h : (checkF c).1 = 0) (j : Nat) : (walkP (fun _ n => n) nxW c ([], j)).fine = true ∧ (walkP (fun _ n => n) nxW c ([], j)).s.1 = formK c := by
  have hR := checkF_right h
  have hn := hR.n1
  have hm := hR.n2
  have l1 := flat_len fieldsL 16 (fun _ => rfl) c.syms
  have l2 := flat_len rowL2 2 (fun _ => rfl) c.rows
  have a1 : ¬ (8 : Int) < (c.syms.length : Int) := by omega
  have a2 : ¬ (20 : Int) < (c.rows.length : Int) := by omega
  unfold walkP
  rw [if_neg a1]
  simp only [Int.toNat_natCast]
  rw [if_neg a2, ← l1, fit_same, ← l2, fit_same]
  refine ⟨rfl, ?_⟩
  have e1 : ([c.syms.length] : List Nat).flatMap num = num c.syms.length := by simp
  have e3 : ([c.rows.length] : List Nat).flatMap num = num c.rows.length := by simp
  have e2 : ((c.syms.flatMap fieldsL).map Int.toNat) = c.syms.flatMap symN := by
    rw [List.map_flatMap]
    rfl
  have e4 : ((c.rows.flatMap rowL2).map Int.toNat) = c.rows.flatMap rowN := by
    rw [List.map_flatMap]
    rfl
  have e5 : (tailI c).map Int.toNat = tailN c := rfl
  have x1 := passW (rep c.syms.length K16) (c.syms.flatMap fieldsL) (nxW ([], j) c.syms.length) (by rw [rep_length, l1]; rfl)
  generalize passL (fun _ n => n) nxW (rep c.syms.length K16) (c.syms.flatMap fieldsL) (nxW ([], j) c.syms.length) = p at x1 ⊢
  have x2 := passW (rep c.rows.length K2) (c.rows.flatMap rowL2) (nxW p.2 c.rows.length) (by rw [rep_length, l2]; rfl)
  generalize passL (fun _ n => n) nxW (rep c.rows.length K2) (c.rows.flatMap rowL2) (nxW p.2 c.rows.length) = q at x2 ⊢
  have x3 := passW K6 (tailI c) q.2 rfl
  rw [x3, x2]
  simp only [nxW] at x1 ⊢
  rw [x1, formK_parts, e1, e2, e3, e4, e5]
  simp only [Int.toNat_natCast, List.nil_append, List.append_assoc]
theorem right_ok {c : Cfg} (h : (checkF c).1 = 0) : okW c.syms.length ∧ okW c.rows.length ∧ (∀ v ∈ c.syms.flatMap fieldsL, okW v) ∧ (∀ v ∈ c.rows.flatMap rowL2, okW v) ∧ ∀ v ∈ tailI c, okW v := by
  have hR := checkF_right h
  have hn := hR.n1
  have hm := hR.n2
  refine ⟨⟨by omega, by omega⟩, ⟨by omega, by omega⟩, fun v hv => ?_, fun v hv => ?_, fun v hv => ?_⟩
  · obtain ⟨s, hs, hv⟩ := List.mem_flatMap.1 hv
    have g := hR.syms s hs
    have g_grid := g.grid
    have g_refp := g.refp
    have g_stat := g.stat
    have g_dyn := g.dyn
    have g_win := g.win
    have g_move := g.move
    have g_lim := g.lim
    have g_pau := g.pau
    have g_ext := g.ext
    have g_mext := g.mext
    have g_col := g.col
    have g_wid := g.wid
    have g_self := g.self
    have g_slots := g.slots
    have g_levels := g.levels
    have g_short := g.short
    simp only [fieldsL, List.mem_cons, List.not_mem_nil, or_false] at hv
    exact ⟨by omega, by omega⟩
  · obtain ⟨r, hr, hv⟩ := List.mem_flatMap.1 hv
    have g := hR.rows r hr
    simp only [rowL2, List.mem_cons, List.not_mem_nil, or_false] at hv
    exact ⟨by omega, by omega⟩
  · have g1 := hR.index
    have g2 := hR.f0
    have g3 := hR.f1
    have g4 := hR.f2
    have g5 := hR.h0
    have g6 := hR.h1
    simp only [tailI, List.mem_cons, List.not_mem_nil, or_false] at hv
    exact ⟨by omega, by omega⟩
theorem IW.wr {g tb : Nat} {s : List Nat × Nat} {S : Nat → Prop} {w : World} (h : IW g tb s S w) : (∃ k, Wr w g k s.1) ∧ s.1.length ≤ 10000 ∧ w.cell? ⟨tb, 0, none⟩ = some (.pointer (some ⟨g, 0, none⟩)) := by
  obtain ⟨hl, ao, cap, k, hb, ho, ht, hgt, hk, rfl⟩ := h
  refine ⟨?_, by omega, ht.cell_eq 0 _ rfl⟩
  cases ao with
  | none =>
    have hz : s.1 = [] ∧ cap = 0 := by
      rcases ho.at' with ⟨-, hc⟩ | ⟨h, -⟩
      · have := ho.len; exact ⟨List.eq_nil_of_length_eq_zero (by omega), hc⟩
      · cases h
    obtain ⟨h1, rfl⟩ := hz
    rw [h1] at hb ⊢
    exact ⟨w.heap.size, none, 0, hb, Ow.nil _ _, fun e => by have := hb.lt; omega⟩
  | some a => exact ⟨k, some a, cap, hb, ho, (hk (by simp)).1⟩
set_option maxRecDepth 8000 in
set_option maxHeartbeats 2000000 in
theorem cencode_any (sa : Option Addr) (sc : Nat) (ra : Option Addr) (rc : Nat) (c : Cfg) (hF : c.Fit) (W : World) (hH : Holds W sa sc ra rc c) :
    Calls Try.prog 15 #[vCfg sa sc ra rc c] W fun e w' => ∃ ao cap k, e = .returned (.tuple #[.slice ao (encK c).1.length cap, .int .i64 ((encK c).2 : Int)]) ∧ Bt w' k ao cap (encK c).1 ∧ Below W.heap.size W w' := by
  have hBox := Blk.new W 27 (cCfg sa sc ra rc c)
  have hb0 := fun o => Below.alK (Below.refl W.heap.size W) o
  have cK := fun o => check_any sa sc ra rc c hF (W.alloc o) (hH.below (hb0 o))
  unfold Checked at cK
  unfold encK
  by_cases h : (checkF c).1 = 0
  · rw [if_neg (fun g => g h)]
    have hOk := checkF_ok h
    have hR := checkF_right h
    obtain ⟨o1, o2, o3, o4, o5⟩ := right_ok h
    obtain ⟨hwf, hws⟩ := walkW h 900
    rw [hOk] at cK
    have hn := hR.n1
    have hm := hR.n2
    have hstart : ∀ w1, Below (W.alloc (.cells (cCfg sa sc ra rc c) 27)).heap.size (W.alloc (.cells (cCfg sa sc ra rc c) 27)) w1 → Below W.heap.size W w1 ∧ Calls Try.prog 41 #[.pointer (some ⟨W.heap.size, 0, none⟩), .func (.func 42) #[] #[.pointer (some ⟨w1.heap.size + 1, 0, none⟩)]] ((w1.alloc (.cells #[.slice none 0 0] 63)).alloc (.cells #[.pointer (some ⟨w1.heap.size, 0, none⟩)] 61)) fun e w' => e = .returned (.bool true) ∧ Below W.heap.size W w' ∧ w'.cell? ⟨w1.heap.size + 1, 0, none⟩ = some (.pointer (some ⟨w1.heap.size, 0, none⟩)) ∧ ∃ k, Wr w' w1.heap.size k (formK c) ∧ (formK c).length ≤ 10000 := by
      intro w1 hb1
      have hB1 : Below W.heap.size W w1 := (hb0 _).trans (hb1.mono (by simp))
      refine ⟨hB1, ?_⟩
      have hs1 := hb1.size
      have hs2 : W.heap.size < w1.heap.size := by simp at hs1; omega
      have hk1 := (hBox.below hb1 (by simp)).alloc (.cells #[.slice none 0 0] 63)
      have hk2 := hk1.alloc (.cells #[.pointer (some ⟨w1.heap.size, 0, none⟩)] 61)
      have hg := (Blk.new w1 63 #[.slice none 0 0]).alloc (.cells #[.pointer (some ⟨w1.heap.size, 0, none⟩)] 61)
      have ht := Blk.new' (w := w1.alloc (.cells #[.slice none 0 0] 63)) (n := w1.heap.size + 1) (t := 61) (cs := #[.pointer (some ⟨w1.heap.size, 0, none⟩)]) (by simp)
      have hB2 : Below W.heap.size W ((w1.alloc (.cells #[.slice none 0 0] 63)).alloc (.cells #[.pointer (some ⟨w1.heap.size, 0, none⟩)] 61)) := (hB1.alloc hB1.size _).alloc (by simp; omega) _
      generalize (w1.alloc (.cells #[.slice none 0 0] 63)).alloc (.cells #[.pointer (some ⟨w1.heap.size, 0, none⟩)] 61) = w2 at *
      have hI : IW w1.heap.size (w1.heap.size + 1) ([], 900) (fun b => b = w1.heap.size ∨ b = w1.heap.size + 1 ∨ ((none : Option Addr) ≠ none ∧ b = 0)) w2 := ⟨by simp, none, 0, 0, hg, Ow.nil _ _, ht, by omega, fun h => absurd rfl h, rfl⟩
      have hP : PJ (IW w1.heap.size (w1.heap.size + 1)) w2 (fun b => b = w1.heap.size ∨ b = w1.heap.size + 1 ∨ ((none : Option Addr) ≠ none ∧ b = 0)) W.heap.size 27 [] ([], 900) (cCfg sa sc ra rc c) w2 := ⟨_, hI, hk2, Frm.refl _ _, fun b hb => .inl hb, by rintro (h | h | ⟨h, -⟩) <;> first | omega | exact h rfl, fun p hp => by simp at hp⟩
      refine (walk_any (nmW _ _) (fun s n h => h.1) ⟨by omega, by omega⟩ (B := W.heap.size) (Nat.le_refl _) (by rintro b (h | h | ⟨h, -⟩) <;> first | omega | exact absurd rfl h) hB2.size (by omega) (by omega) (fun w' hb => hH.below (hB2.trans hb)) o1 o2 o3 o4 o5 (by decide) hP).mono fun e w' h => ?_
      obtain ⟨he, -, h2⟩ := h
      rw [hwf] at he h2
      obtain ⟨g1, g2, hP2⟩ := h2 rfl
      have hfr := hP2.frm.below hB2.size (by rintro b ((h | h | ⟨h, -⟩) | h) <;> first | omega | exact absurd rfl h)
      obtain ⟨S, hI2, -⟩ := hP2
      obtain ⟨⟨k, hw⟩, hl, hc⟩ := hI2.wr
      rw [hws] at hw hl
      exact ⟨he, hB2.trans hfr, hc, k, hw, hl⟩
    clear o1 o2 o3 o4 o5 hwf hws hOk hR hn hm h
    generalize formK c = xs at *
    have cB := fun g k w (hx : xs.length ≤ 10000) (h : Wr w g k xs) => bytes_any g k xs (by omega) w h
    unfold Fresh at cB
    have hld : ∀ w1 : World, Below (W.alloc (.cells (cCfg sa sc ra rc c) 27)).heap.size (W.alloc (.cells (cCfg sa sc ra rc c) 27)) w1 → True := fun _ _ => trivial
    go_enter Try.func15, Try.ntmps15
    obtain ⟨x0, x1, x2, x3, x4, x5, x6, x7⟩ := Cfg.cells hBox
    go_wp2_with (first
      | (go_at_call 9; refine (cK _).mono ?_; rintro e w1 ⟨rfl, hb1⟩; obtain ⟨hB1, cW⟩ := hstart _ hb1; clear x0 x1 x2 x3 x4 x5 x6 x7)
      | (go_at_call 41; refine cW.mono ?_; rintro e w2 ⟨rfl, hB2, hc2, k, hw, hxl⟩)
      | (go_at_call 44; refine (cB _ _ _ hxl hw).mono ?_; rintro e w3 ⟨v, rfl, ao, cap, k', rfl, hbt, hb3, -⟩))
    go_ret2
    exact ⟨ao, cap, k', rfl, hbt, hB2.trans (hb3.mono hB2.size)⟩
  · rw [if_pos h]
    generalize checkF c = p at *
    obtain ⟨f, n⟩ := p
    simp only at h cK ⊢
    have q1 : ((f : Int) != 0) = true := by simp; omega
    clear h
    go_enter Try.func15, Try.ntmps15
    obtain ⟨x0, x1, x2, x3, x4, x5, x6, x7⟩ := Cfg.cells hBox
    go_wp2_with (go_at_call 9; refine (cK _).mono ?_; rintro e w1 ⟨rfl, hb1⟩)
    go_ret2
    exact ⟨none, 0, 0, rfl, Bt.nil _ _, (hb0 _).trans (hb1.mono (by simp))⟩
end Go.Proofs.Ytbkiipeoabbiiaa
