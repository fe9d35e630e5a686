/-
  The contracts of the document's New, Used, Set, Get; Drop and Take for every number and every order.
-/
import Derived.Test.YtbkdakabpmpiiaaRat
import Derived.Laws.MakeOwn
import Derived.LoopTactic
namespace Go.Proofs.Ytbkdakabpmpiiaa
open Go.RowKit
theorem made_rep (z : Array Value) (v : Value) (h0 : 0 < z.size) (hz : ∀ r, r < z.size → z[r]! = v) (n : Nat) : madeCells z n = (List.replicate n v).toArray := by
  apply Array.ext'
  unfold madeCells
  rw [Array.toList_map, Array.toList_range]
  rw [List.eq_replicate_iff]
  refine ⟨by simp, fun x hx => ?_⟩
  obtain ⟨i, hi, rfl⟩ := List.mem_map.1 hx
  exact hz _ (Nat.mod_lt _ h0)
theorem infoO : (Try.prog.info? 33).map (fun i => (i.zero, i.size, i.bytes)) = some (some (vOrd Ord.zero), 7, 56) := by kernel_rfl
theorem infoB : (Try.prog.info? 4).map (fun i => (i.zero, i.size, i.bytes)) = some (some (.bool false), 1, 1) := by kernel_rfl
theorem make_O (n : Nat) (hn : n ≤ 500) : ∀ w, (Instr.makeSlice 42 (.int .i64 (n : Int)) (.int .i64 (n : Int))).run Try.prog w = .ok (.slice (some ⟨w.heap.size, 0, none⟩) n n) (w.alloc (.cells (madeCells (cOrd Ord.zero) (n * 7)) 33)) := by
  intro w
  obtain ⟨i1, hi1, e1⟩ := Option.map_eq_some_iff.1 infoO
  simp only [Prod.mk.injEq] at e1
  obtain ⟨hz1, hs1, hb1⟩ := e1
  have := run_make (P := Try.prog) w 42 33 i1 _ Try.underlying42 hi1 hz1 .i64 .i64 (n : Int) (n : Int) (by omega) (by omega) (by rw [hb1]; omega) (by omega)
  rw [hs1] at this
  exact this
theorem make_B (n : Nat) (hn : n ≤ 500) : ∀ w, (Instr.makeSlice 43 (.int .i64 (n : Int)) (.int .i64 (n : Int))).run Try.prog w = .ok (.slice (some ⟨w.heap.size, 0, none⟩) n n) (w.alloc (.cells (madeCells #[.bool false] n) 4)) := by
  intro w
  obtain ⟨i1, hi1, e1⟩ := Option.map_eq_some_iff.1 infoB
  simp only [Prod.mk.injEq] at e1
  obtain ⟨hz1, hs1, hb1⟩ := e1
  have := run_make (P := Try.prog) w 43 4 i1 _ Try.underlying43 hi1 hz1 .i64 .i64 (n : Int) (n : Int) (by omega) (by omega) (by rw [hb1]; omega) (by omega)
  rw [hs1, Int.toNat_natCast, Nat.mul_one] at this
  exact this
theorem flt_O (n : Nat) : Flt cOrd 7 (madeCells (cOrd Ord.zero) (n * 7)) (List.replicate n Ord.zero) := by
  rw [made_rep _ (.int .i64 0) (by decide) (fun r hr => by
    match r, hr with
    | 0, _ => rfl
    | 1, _ => rfl
    | 2, _ => rfl
    | 3, _ => rfl
    | 4, _ => rfl
    | 5, _ => rfl
    | 6, _ => rfl
    | r + 7, hr => exact absurd hr (by simp))]
  refine Flt.of_rep n Ord.zero _ fun j v hj => ?_
  match j, hj with
  | 0, hj => exact ⟨by omega, by simpa [Ord.zero] using hj.symm⟩
  | 1, hj => exact ⟨by omega, by simpa [Ord.zero] using hj.symm⟩
  | 2, hj => exact ⟨by omega, by simpa [Ord.zero] using hj.symm⟩
  | 3, hj => exact ⟨by omega, by simpa [Ord.zero] using hj.symm⟩
  | 4, hj => exact ⟨by omega, by simpa [Ord.zero] using hj.symm⟩
  | 5, hj => exact ⟨by omega, by simpa [Ord.zero] using hj.symm⟩
  | 6, hj => exact ⟨by omega, by simpa [Ord.zero] using hj.symm⟩
  | j + 7, hj => simp at hj
theorem flt_B (n : Nat) : Flt cB 1 (madeCells #[.bool false] n) (List.replicate n false) := by
  rw [made_rep _ (.bool false) (by decide) (fun r hr => by
    match r, hr with
    | 0, _ => rfl
    | r + 1, hr => exact absurd hr (by simp))]
  have := Flt.of_rep (enc := cB) (sz := 1) n false (.bool false) fun j v hj => (by
    match j, hj with
    | 0, hj => exact ⟨by omega, by simpa using hj.symm⟩
    | j + 1, hj => simp at hj)
  rwa [Nat.mul_one] at this
set_option maxRecDepth 8000 in
set_option maxHeartbeats 1000000 in
theorem rnewNo_any (x : Int) (h : x < 1 ∨ 500 < x) (W : World) :
    Calls Try.prog 9 #[.int .i64 x] W fun e w' => e = .returned (.tuple #[.pointer none, .int .i64 9]) ∧ w' = W := by
  by_cases h1 : x < 1
  · go_enter Try.func9, Try.ntmps9
    go_wp2_with fail
    all_goals go_ret2
    all_goals trivial
  · have h2 : 500 < x := by omega
    clear h
    go_enter Try.func9, Try.ntmps9
    go_wp2_with fail
    all_goals go_ret2
    all_goals trivial
theorem RA.new {W : World} {n : Nat} (hn : n ≤ 500) {zo zt : Array Value} (fo : Flt cOrd 7 zo (List.replicate n Ord.zero)) (ft : Flt cB 1 zt (List.replicate n false)) {w' : World} {bo bt : Nat}
    (ho : Blk w' bo 33 zo) (ht : Blk w' bt 4 zt) (hr : Blk w' (W.heap.size + 1 + 1) 46 #[.slice (some ⟨bo, 0, none⟩) n n, .slice (some ⟨bt, 0, none⟩) n n, .slice none 0 0, .int .i64 0])
    (h1 : bo = W.heap.size ∨ bo = W.heap.size + 1) (h2 : bt = W.heap.size ∨ bt = W.heap.size + 1) (hne : bo ≠ bt) (hs : w'.heap.size = W.heap.size + 1 + 1 + 1) :
    RA w' (W.heap.size + 1 + 1) (fun b => W.heap.size ≤ b ∧ b < W.heap.size + 3) (Ar.new n) :=
  ⟨bo, bt, zo, zt, none, 0, Ar.new_wf n, hn, hr, ho, fo, ht, ft, It.nil _ _, by omega, by omega, by omega, fun b off e => (by cases e), ⟨by omega, by omega, hne⟩, fun b hb => by omega⟩
set_option maxRecDepth 8000 in
set_option maxHeartbeats 1000000 in
theorem rnew_any (n : Nat) (h1 : 1 ≤ n) (h2 : n ≤ 500) (W : World) :
    Calls Try.prog 9 #[.int .i64 (n : Int)] W fun e w' => e = .returned (.tuple #[.pointer (some ⟨W.heap.size + 1 + 1, 0, none⟩), .int .i64 0]) ∧ Below W.heap.size W w' ∧ RA w' (W.heap.size + 1 + 1) (fun b => W.heap.size ≤ b ∧ b < W.heap.size + 3) (Ar.new n) := by
  have mO := make_O n h2
  have mB := make_B n h2
  have fO := flt_O n
  have fB := flt_B n
  generalize madeCells (cOrd Ord.zero) (n * 7) = zo at *
  generalize madeCells #[.bool false] n = zt at *
  have e1 := fun w bo bt ho ht hr h1' h2' hne hs => RA.new (W := W) (w' := w) (bo := bo) (bt := bt) h2 fO fB ho ht hr h1' h2' hne hs
  have E := Lib.hid e1
  clear e1 fO fB
  go_enter Try.func9, Try.ntmps9
  have hd1 : decide ((n : Int) < 1) = false := by simp; omega
  have hd2 : decide ((500 : Int) < (n : Int)) = false := by simp; omega
  go_wp2_with fail
  go_region
  all_goals (go_wp2_with fail)
  all_goals go_ret2
  · exact ⟨rfl, ((((Below.refl _ W).alloc (Nat.le_refl _) _).alloc (by simp) _).alloc (by simp; omega) _).drew, E.out _ _ _ (((Blk.new _ _ _).alloc _).alloc _).drew ((Blk.new' (by simp)).alloc _).drew (Blk.new' (by simp)).drew (.inl rfl) (.inr rfl) (by omega) (by simp [World.drew])⟩
  · exact ⟨rfl, ((((Below.refl _ W).alloc (Nat.le_refl _) _).alloc (by simp) _).alloc (by simp; omega) _).drew, E.out _ _ _ ((Blk.new' (by simp)).alloc _).drew (((Blk.new _ _ _).alloc _).alloc _).drew (Blk.new' (by simp)).drew (.inr rfl) (.inl rfl) (by omega) (by simp [World.drew])⟩
theorem count_take {l : List Bool} {k : Nat} (b : Bool) (h : l[k]? = some b) : (l.take (k + 1)).count true = (l.take k).count true + (if b = true then 1 else 0) := by
  obtain ⟨h1, h2⟩ := List.getElem?_eq_some_iff.1 h
  rw [List.take_succ_eq_append_getElem h1, List.count_append, h2]
  cases b <;> rfl
set_option maxRecDepth 8000 in
set_option maxHeartbeats 1000000 in
theorem rused_any (r : Nat) (S : Nat → Prop) (s : Ar) (W : World) (hA : RA W r S s) :
    Calls Try.prog 12 #[.pointer (some ⟨r, 0, none⟩)] W fun e w' => e = .returned (.int .i64 (s.used : Int)) ∧ w' = W := by
  obtain ⟨bo, bt, cO, cT, ad, cd, h⟩ := hA
  have c1 := h.hr.cell_eq 1 _ rfl
  have hn := h.small
  have hlT := h.wf.lenT
  have hk : ∀ k, k < s.n → ∃ b, s.T[k]? = some b ∧ W.cell? ⟨bt, k, none⟩ = some (.bool b) := fun k hk => ⟨_, List.getElem?_eq_getElem (by rw [hlT]; exact hk), by
    have := h.ht.cell_eq _ _ (h.ft.at' k _ (List.getElem?_eq_getElem (by rw [hlT]; exact hk)) 0 _ rfl)
    rwa [Nat.mul_one, Nat.add_zero] at this⟩
  have hle : ∀ k, (s.T.take k).count true ≤ k := fun k => Nat.le_trans (List.count_le_length) (List.length_take_le _ _)
  have hu : s.used = (s.T.take s.n).count true := by rw [← hlT, List.take_length]; rfl
  rw [hu]
  have HK := Lib.hid hk
  have HL := Lib.hid hle
  generalize s.T = T at *
  generalize s.n = n at *
  clear h hlT hk hle hu
  go_enter Try.func12, Try.ntmps12
  go_wp2_with fail
  go_loop [3, 4] (fun p3 p4 => ∃ k : Nat, k ≤ n ∧ p4 = .int .i64 (k : Int) ∧ p3 = .int .i64 ((T.take k).count true : Int)) (fun _ p => n - (intOf p).toNat)
  case atStart => exact ⟨0, Nat.zero_le _, rfl, rfl⟩
  case round =>
    obtain ⟨k, hkn, rfl, rfl⟩ := hrel
    have hc := HL.out k
    by_cases hlt : k < n
    · obtain ⟨b, hb, hcell⟩ := HK.out k hlt
      have hct := Lib.hid (count_take b hb)
      generalize (T.take k).count true = c at *
      clear hb
      cases b
      all_goals
        go_wp2
        go_round
        case rel => exact ⟨k + 1, by omega, by go_num, by rw [hct.out]; go_num⟩
        case measure => simp [intOf]; omega
    · obtain rfl : k = n := by omega
      clear hc
      go_wp2
      go_ret
      exact ⟨rfl, rfl⟩
theorem hasI_pos {s : Ar} {x : Int} (hx : s.hasI x = true) : ∃ i : Nat, x = (i : Int) ∧ s.has i = true := by
  have h0 : 0 ≤ x := by
    rcases Int.lt_or_le x 0 with h | h
    · rw [s.hasI_neg h] at hx; cases hx
    · exact h
  obtain ⟨i, rfl⟩ : ∃ i : Nat, x = (i : Int) := ⟨x.toNat, by omega⟩
  exact ⟨i, rfl, by rwa [s.hasI_nat] at hx⟩
set_option maxRecDepth 8000 in
set_option maxHeartbeats 1000000 in
theorem rdrop_any (r : Nat) (S : Nat → Prop) (s : Ar) (x : Int) (W : World) (hA : RA W r S s) :
    Calls Try.prog 21 #[.pointer (some ⟨r, 0, none⟩), .int .i64 x] W fun e w' => e = .returned (.bool (s.hasI x)) ∧ ∃ S', RA w' r S' (if s.hasI x = true then s.drop x.toNat else s) ∧ Frm S W w' ∧ ∀ b, S' b → S b ∨ W.heap.size ≤ b := by
  by_cases hx : s.hasI x = true
  · rw [if_pos hx, hx]
    obtain ⟨i, rfl, hi⟩ := hasI_pos hx
    exact rdropYes_any r S s i W hA hi
  · rw [if_neg hx]
    obtain hx : s.hasI x = false := by simpa using hx
    have cH := rhas_any r S s x W hA
    rw [hx] at cH ⊢
    clear hx
    go_enter Try.func21, Try.ntmps21
    go_wp2_with (go_at_call 15; (with_reducible refine cH.mono ?_); rintro e w1 ⟨rfl, rfl⟩)
    go_ret
    exact ⟨rfl, S, hA, Frm.refl _ _, fun b hb => .inl hb⟩
set_option maxRecDepth 8000 in
set_option maxHeartbeats 1000000 in
theorem rset_any (r : Nat) (S : Nat → Prop) (s : Ar) (x : Int) (o : Ord) (W : World) (hA : RA W r S s) :
    Calls Try.prog 22 #[.pointer (some ⟨r, 0, none⟩), .int .i64 x, vOrd o] W fun e w' => e = .returned (.bool (s.hasI x)) ∧ RA w' r S (if s.hasI x = true then s.set x.toNat o else s) ∧ Frm S W w' := by
  obtain ⟨W1, hW1⟩ : ∃ W1, W1 = W.alloc (.cells (cOrd o) 33) := ⟨_, rfl⟩
  have hbel : Below W.heap.size W W1 := by rw [hW1]; exact (Below.refl _ _).alloc (Nat.le_refl _) _
  have hA1 := hA.below hbel
  have hBx : Blk W1 W.heap.size 33 (cOrd o) := by rw [hW1]; exact Blk.new _ _ _
  have hF1 : Frm S W W1 := Frm.of_below hbel
  have cH := rhas_any r S s x W1 hA1
  by_cases hx : s.hasI x = true
  · rw [if_pos hx]
    rw [hx] at cH ⊢
    obtain ⟨i, rfl, hi⟩ := hasI_pos hx
    rw [Int.toNat_natCast]
    clear hx
    obtain ⟨bo, bt, cO, cT, ad, cd, h⟩ := hA1
    have hlt := Ar.has_lt h.wf hi
    have hsm := h.small
    have hso := h.so
    obtain ⟨l, hl⟩ : ∃ l, l = laidO (i * 7) o := ⟨_, rfl⟩
    have hput : ∀ W', Frm (fun b => b = bo) W1 W' → Blk W' bo 33 (setN cO l) → RA W' r S (s.set i o) := by
      intro W' hf h1
      refine h.setW o hf h1 ?_
      rw [hl]
      exact laid_O o h.fo (by rw [h.wf.lenO]; exact hlt)
    have hexO : ∀ j, j < 7 → ∃ v, W1.cell? ⟨bo, i * 7 + j, none⟩ = some v := fun j hj => h.fo.cell h.ho (by rw [h.wf.lenO]; exact hlt) hj
    have g2 := h.ho
    have c0 := h.hr.cell_eq 0 _ rfl
    have H := Lib.hid hl
    have HW := Lib.hid hW1
    clear hl h hi hW1
    generalize s.set i o = s' at *
    obtain ⟨a1, a2, a3, a4, a5, a6, a7⟩ := o
    simp only [cOrd, vOrd] at *
    go_enter Try.func22, Try.ntmps22
    go_wp2_with (go_at_call 15; rw [← HW.out]; (with_reducible refine cH.mono ?_); rintro e W1 ⟨rfl, rfl⟩)
    clear HW
    have hfr := g2.free
    obtain ⟨v0, e0⟩ := hexO 0 (by omega)
    obtain ⟨v1, e1⟩ := hexO 1 (by omega)
    obtain ⟨v2, e2⟩ := hexO 2 (by omega)
    obtain ⟨v3, e3⟩ := hexO 3 (by omega)
    obtain ⟨v4, e4⟩ := hexO 4 (by omega)
    obtain ⟨v5, e5⟩ := hexO 5 (by omega)
    obtain ⟨v6, e6⟩ := hexO 6 (by omega)
    replace e0 : W1.cell? ⟨bo, i * 7, none⟩ = some v0 := e0
    clear hexO cH
    have b0 : W1.cell? ⟨W.heap.size, 0, none⟩ = some (.int .i64 a1) := hBx.cell_eq 0 _ rfl
    have b1 : W1.cell? ⟨W.heap.size, 1, none⟩ = some (.int .i64 a2) := hBx.cell_eq 1 _ rfl
    have b2 : W1.cell? ⟨W.heap.size, 2, none⟩ = some (.int .i64 a3) := hBx.cell_eq 2 _ rfl
    have b3 : W1.cell? ⟨W.heap.size, 3, none⟩ = some (.int .i64 a4) := hBx.cell_eq 3 _ rfl
    have b4 : W1.cell? ⟨W.heap.size, 4, none⟩ = some (.int .i64 a5) := hBx.cell_eq 4 _ rfl
    have b5 : W1.cell? ⟨W.heap.size, 5, none⟩ = some (.int .i64 a6) := hBx.cell_eq 5 _ rfl
    have b6 : W1.cell? ⟨W.heap.size, 6, none⟩ = some (.int .i64 a7) := hBx.cell_eq 6 _ rfl
    generalize W.heap.size = gx at *
    have hI : (i : Int) < (s.n : Int) := by omega
    generalize s.n = n at *
    go_still_tail 7, (by kernel_rfl)
    change wpList _ _ _ _ _ (World.drew _)
    replace g2 := drew_blk g2
    have hF2 := (Frm.refl (fun b => b = bo) W1).drew
    replace hfr : ∀ i, W1.drew.frozen? ⟨bo, i, none⟩ = false := hfr
    replace e0 : W1.drew.cell? ⟨bo, i * 7, none⟩ = some v0 := e0
    replace e1 : W1.drew.cell? ⟨bo, i * 7 + 1, none⟩ = some v1 := e1
    replace e2 : W1.drew.cell? ⟨bo, i * 7 + 2, none⟩ = some v2 := e2
    replace e3 : W1.drew.cell? ⟨bo, i * 7 + 3, none⟩ = some v3 := e3
    replace e4 : W1.drew.cell? ⟨bo, i * 7 + 4, none⟩ = some v4 := e4
    replace e5 : W1.drew.cell? ⟨bo, i * 7 + 5, none⟩ = some v5 := e5
    replace e6 : W1.drew.cell? ⟨bo, i * 7 + 6, none⟩ = some v6 := e6
    clear b0 b1 b2 b3 b4 b5 b6 hBx c0
    generalize W1.drew = V3 at *
    go_wp2_with fail
    go_ret
    have hl := H.out
    have k2 := g2.setN l
    have kF := hF2.setW (g := bo) l (.inl rfl)
    have kR := hput _ kF k2
    conv at kR => arg 1; rw [hl]
    rw [hl] at kF
    simp only [setW] at kR kF
    exact ⟨rfl, kR, hF1.trans kF (fun b e => .inl (by rw [e]; exact hso))⟩
  · rw [if_neg hx]
    obtain hx : s.hasI x = false := by simpa using hx
    rw [hx] at cH ⊢
    clear hx
    go_enter Try.func22, Try.ntmps22
    go_wp2_with (go_at_call 15; rw [← hW1]; (with_reducible refine cH.mono ?_); rintro e W1 ⟨rfl, rfl⟩; clear hW1)
    go_ret
    exact ⟨rfl, hA1, hF1⟩
set_option maxRecDepth 8000 in
set_option maxHeartbeats 1000000 in
theorem rget_yes (r : Nat) (S : Nat → Prop) (s : Ar) (i : Nat) (o : Ord) (W : World) (hA : RA W r S s) (hx : s.has i = true) (ho : s.O[i]? = some o) :
    Calls Try.prog 23 #[.pointer (some ⟨r, 0, none⟩), .int .i64 (i : Int)] W fun e w' => e = .returned (.tuple #[vOrd o, .bool true]) ∧ Below W.heap.size W w' := by
  obtain ⟨W1, hW1⟩ : ∃ W1, W1 = W.alloc (.cells (cOrd Ord.zero) 33) := ⟨_, rfl⟩
  have hBx : Blk W1 W.heap.size 33 (cOrd Ord.zero) := by rw [hW1]; exact Blk.new _ _ _
  have hF1 : Below W.heap.size W W1 := by rw [hW1]; exact (Below.refl _ _).alloc (Nat.le_refl _) _
  have hA1 := hA.below hF1
  have cH := rhas_any r S s i W1 hA1
  rw [s.hasI_nat, hx] at cH
  obtain ⟨bo, bt, cO, cT, ad, cd, h⟩ := hA1
  have hlt := Ar.has_lt h.wf hx
  have hsm := h.small
  have c0 := h.hr.cell_eq 0 _ rfl
  have hord : ∀ (j : Nat) (v : Value), (cOrd o)[j]? = some v → W1.cell? ⟨bo, i * 7 + j, none⟩ = some v := fun j v hj => h.ho.cell_eq _ _ (h.fo.at' i o ho j v hj)
  obtain ⟨a1, a2, a3, a4, a5, a6, a7⟩ := o
  have e0 : W1.cell? ⟨bo, i * 7, none⟩ = some (.int .i64 a1) := hord 0 _ rfl
  have e1 : W1.cell? ⟨bo, i * 7 + 1, none⟩ = some (.int .i64 a2) := hord 1 _ rfl
  have e2 : W1.cell? ⟨bo, i * 7 + 2, none⟩ = some (.int .i64 a3) := hord 2 _ rfl
  have e3 : W1.cell? ⟨bo, i * 7 + 3, none⟩ = some (.int .i64 a4) := hord 3 _ rfl
  have e4 : W1.cell? ⟨bo, i * 7 + 4, none⟩ = some (.int .i64 a5) := hord 4 _ rfl
  have e5 : W1.cell? ⟨bo, i * 7 + 5, none⟩ = some (.int .i64 a6) := hord 5 _ rfl
  have e6 : W1.cell? ⟨bo, i * 7 + 6, none⟩ = some (.int .i64 a7) := hord 6 _ rfl
  have b0 : W1.cell? ⟨W.heap.size, 0, none⟩ = some (.int .i64 0) := hBx.cell_eq 0 _ rfl
  have b1 : W1.cell? ⟨W.heap.size, 1, none⟩ = some (.int .i64 0) := hBx.cell_eq 1 _ rfl
  have b2 : W1.cell? ⟨W.heap.size, 2, none⟩ = some (.int .i64 0) := hBx.cell_eq 2 _ rfl
  have b3 : W1.cell? ⟨W.heap.size, 3, none⟩ = some (.int .i64 0) := hBx.cell_eq 3 _ rfl
  have b4 : W1.cell? ⟨W.heap.size, 4, none⟩ = some (.int .i64 0) := hBx.cell_eq 4 _ rfl
  have b5 : W1.cell? ⟨W.heap.size, 5, none⟩ = some (.int .i64 0) := hBx.cell_eq 5 _ rfl
  have b6 : W1.cell? ⟨W.heap.size, 6, none⟩ = some (.int .i64 0) := hBx.cell_eq 6 _ rfl
  have hfr := hBx.free
  have hlay := Ord.lay hBx a1 a2 a3 a4 a5 a6 a7
  obtain ⟨q0, q1, q2, q3, q4, q5, q6⟩ := Ord.cells hlay
  have hbel := Ord.below hF1 (Nat.le_refl _) (.int .i64 a1) (.int .i64 a2) (.int .i64 a3) (.int .i64 a4) (.int .i64 a5) (.int .i64 a6) (.int .i64 a7)
  simp only [Ord.zero, cOrd] at hW1
  have hI : (i : Int) < (s.n : Int) := by omega
  clear hord hsm ho hx hlay hBx h hA
  generalize s.n = n at *
  simp only at q0 q1 q2 q3 q4 q5 q6
  go_enter Try.func23, Try.ntmps23
  go_wp2_with (go_at_call 15; rw [← hW1]; (with_reducible refine cH.mono ?_); rintro e W1 ⟨rfl, rfl⟩; clear hW1)
  refine bodyPost_ret (v := .tuple #[.agg #[.int .i64 a1, .int .i64 a2, .int .i64 a3, .int .i64 a4, .int .i64 a5, .int .i64 a6, .int .i64 a7], .bool true]) ?_ rfl ⟨rfl, hbel⟩
  simp [results, Try.results23, go_sem, q0, q1, q2, q3, q4, q5, q6]
set_option maxRecDepth 8000 in
set_option maxHeartbeats 1000000 in
theorem rget_no (r : Nat) (S : Nat → Prop) (s : Ar) (x : Int) (W : World) (hA : RA W r S s) (hx : s.hasI x = false) :
    Calls Try.prog 23 #[.pointer (some ⟨r, 0, none⟩), .int .i64 x] W fun e w' => e = .returned (.tuple #[vOrd Ord.zero, .bool false]) ∧ Below W.heap.size W w' := by
  obtain ⟨W1, hW1⟩ : ∃ W1, W1 = W.alloc (.cells (cOrd Ord.zero) 33) := ⟨_, rfl⟩
  have hBx : Blk W1 W.heap.size 33 (cOrd Ord.zero) := by rw [hW1]; exact Blk.new _ _ _
  have hF1 : Below W.heap.size W W1 := by rw [hW1]; exact (Below.refl _ _).alloc (Nat.le_refl _) _
  have cH := rhas_any r S s x W1 (hA.below hF1)
  rw [hx] at cH
  have b0 : W1.cell? ⟨W.heap.size, 0, none⟩ = some (.int .i64 0) := hBx.cell_eq 0 _ rfl
  have b1 : W1.cell? ⟨W.heap.size, 1, none⟩ = some (.int .i64 0) := hBx.cell_eq 1 _ rfl
  have b2 : W1.cell? ⟨W.heap.size, 2, none⟩ = some (.int .i64 0) := hBx.cell_eq 2 _ rfl
  have b3 : W1.cell? ⟨W.heap.size, 3, none⟩ = some (.int .i64 0) := hBx.cell_eq 3 _ rfl
  have b4 : W1.cell? ⟨W.heap.size, 4, none⟩ = some (.int .i64 0) := hBx.cell_eq 4 _ rfl
  have b5 : W1.cell? ⟨W.heap.size, 5, none⟩ = some (.int .i64 0) := hBx.cell_eq 5 _ rfl
  have b6 : W1.cell? ⟨W.heap.size, 6, none⟩ = some (.int .i64 0) := hBx.cell_eq 6 _ rfl
  have hfr := hBx.free
  have hlay := Ord.lay hBx 0 0 0 0 0 0 0
  obtain ⟨q0, q1, q2, q3, q4, q5, q6⟩ := Ord.cells hlay
  have hbel := Ord.below hF1 (Nat.le_refl _) (.int .i64 0) (.int .i64 0) (.int .i64 0) (.int .i64 0) (.int .i64 0) (.int .i64 0) (.int .i64 0)
  simp only [Ord.zero, cOrd] at hW1
  clear hlay hBx hx hA
  simp only at q0 q1 q2 q3 q4 q5 q6
  go_enter Try.func23, Try.ntmps23
  go_wp2_with (go_at_call 15; rw [← hW1]; (with_reducible refine cH.mono ?_); rintro e W1 ⟨rfl, rfl⟩; clear hW1)
  refine bodyPost_ret (v := .tuple #[.agg #[.int .i64 0, .int .i64 0, .int .i64 0, .int .i64 0, .int .i64 0, .int .i64 0, .int .i64 0], .bool false]) ?_ rfl ⟨rfl, hbel⟩
  simp [results, Try.results23, go_sem, q0, q1, q2, q3, q4, q5, q6]
end Go.Proofs.Ytbkdakabpmpiiaa
