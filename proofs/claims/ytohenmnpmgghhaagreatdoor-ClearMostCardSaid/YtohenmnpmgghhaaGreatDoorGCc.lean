/-
  The program's curve in memory (CvP): its list, its points as they are yielded; how prices are compared.
  At and Prices of the program's curve: the library's binary search over its points.
  At of the program's curve. (Written by gen/p_cvt.py.)
-/
import Derived.Test.YtohenmnpmgghhaaGreatDoorGCb
import Derived.Test.YtohenmnpmgghhaaGreatDoorGZ
import Derived.Test.YtohenmnpmgghhaaGreatDoorGM
import Derived.Test.YtohenmnpmgghhaaGreatDoorGB
import Derived.Test.YtohenmnpmgghhaaGreatDoorGCa
import Derived.BigQuiet
import Derived.Deep.QuietTactic
namespace Go.Proofs.YtohenmnpmgghhaaGreatDoor
open Go.RowKit
set_option linter.unusedSimpArgs false
attribute [local go_sem] Oper.semAt_some
attribute [local go_sem] wide_fn
def encP (x : Pnt) : Array Value := #[vPnt x]
def goodP (P : List Pnt) (pre : List Pnt) (x : Pnt) (_ : World) : Prop := P[pre.length]? = some x
def cvQ (L : List Ord) : List Pnt := (cprA L).map (catL L)
/-- A curve of the program's, of these orders; its own blocks lie from B on. -/
def CvP (B : Nat) (w : World) (p : Option Addr) (L : List Ord) : Prop := LOk L ∧ B ≤ w.heap.size ∧
  ((p = none ∧ L = []) ∨ ∃ g ao cap, p = some ⟨g, 0, none⟩ ∧ B ≤ g ∧ Blk w g 108 #[.slice ao (cvQ L).length cap] ∧ Pnts w ao cap (cvQ L) ∧ ∀ c off s, ao = some ⟨c, off, s⟩ → B ≤ c ∧ c < w.heap.size)
section
variable {w w' W : World} {B : Nat} {p : Option Addr} {L : List Ord}
theorem CvP.below (h : CvP B w p L) (hb : Below w.heap.size w w') : CvP B w' p L := by
  refine ⟨h.1, Nat.le_trans h.2.1 hb.size, ?_⟩
  rcases h.2.2 with h0 | ⟨g, ao, cap, h1, h2, h3, h4, h5⟩
  · exact .inl h0
  · exact .inr ⟨g, ao, cap, h1, h2, h3.below hb h3.lt, h4.below hb, fun c off s e => ⟨(h5 c off s e).1, Nat.lt_of_lt_of_le (h5 c off s e).2 hb.size⟩⟩
theorem cvQ_len (h : LOk L) : (cvQ L).length ≤ 500 := by
  unfold cvQ
  rw [List.length_map]
  exact Nat.le_trans (cpr_len _ _ _) h.len
theorem Pnts.frmP {S : Nat → Prop} {ao : Option Addr} {cap : Nat} {l : List Pnt} (h : Pnts w ao cap l) (hf : Frm S w w') (hk : ∀ b off s, ao = some ⟨b, off, s⟩ → ¬ S b) : Pnts w' ao cap l := by
  refine ⟨h.len, h.top, ?_⟩
  rcases h.at' with h0 | ⟨b, off, ha, hl⟩
  · exact .inl h0
  · refine .inr ⟨b, off, ha, fun i m hi j v hj => ?_⟩
    have hc := hl i m hi j v hj
    have hlt : b < w.heap.size := World.block_lt_of_cell? w ⟨b, off + i * 3 + j, none⟩ hc
    exact (World.cell?_of_block (a := ⟨b, off + i * 3 + j, none⟩) (hf.block b hlt (hk b off none ha))).trans hc
theorem clist_any (h : CvP B w p L) (hW : Below w.heap.size w W) : Calls Tryz.prog 58 #[.pointer p] W fun e w' => ∃ ao cap, e = .returned (.slice ao (cvQ L).length cap) ∧ Pnts W ao cap (cvQ L) ∧ (∀ c off s, ao = some ⟨c, off, s⟩ → B ≤ c ∧ c < w.heap.size) ∧ Below W.heap.size W w' := by
  have hbl := Below.refl W.heap.size W
  rcases h.2.2 with ⟨rfl, rfl⟩ | ⟨g, ao, cap, rfl, h2, h3, h4, h5⟩
  · clear h hW
    go_enter Tryz.func58, Tryz.ntmps58
    go_wp2
    go_ret
    exact ⟨none, 0, rfl, Pnts.nil _, fun _ _ _ e => (by cases e), hbl⟩
  · have c0 := (h3.below hW h3.lt).cell_eq 0 _ rfl
    replace h4 := h4.below hW
    clear h h3 hW
    replace h4 := Lib.hid h4
    replace h5 := Lib.hid h5
    generalize (cvQ L).length = n at *
    go_enter Tryz.func58, Tryz.ntmps58
    go_wp2
    go_ret
    exact ⟨ao, cap, rfl, h4.out, h5.out, hbl⟩
/-- Which of two numbers is less: -1, 0, 1. -/
def cmpI (x y : Int) : Int := if x < y then -1 else if y < x then 1 else 0
theorem isnan_any (x : Int) (W : World) : Calls Tryz.prog 86 #[.int .i64 x] W fun e w' => e = .returned (.bool false) ∧ w' = W := by
  go_enter Tryz.func86, Tryz.ntmps86
  go_wp2
  go_ret
  exact ⟨by simp, rfl⟩
theorem ccmp_any (x y : Int) (W : World) : Calls Tryz.prog 61 #[.int .i64 x, .int .i64 y] W fun e w' => e = .returned (.int .i64 (cmpI x y)) ∧ w' = W := by
  have cN := fun x w => isnan_any x w
  unfold cmpI
  by_cases h1 : x < y
  · rw [if_pos h1]
    go_enter Tryz.func61, Tryz.ntmps61
    go_wp2_with (go_at_call 86; refine (cN _ _).mono ?_; rintro e w2 ⟨rfl, rfl⟩)
    go_ret
    exact ⟨rfl, rfl⟩
  · rw [if_neg h1]
    by_cases h2 : y < x
    · rw [if_pos h2]
      go_enter Tryz.func61, Tryz.ntmps61
      go_wp2_with (go_at_call 86; refine (cN _ _).mono ?_; rintro e w2 ⟨rfl, rfl⟩)
      go_ret
      exact ⟨rfl, rfl⟩
    · rw [if_neg h2]
      go_enter Tryz.func61, Tryz.ntmps61
      go_wp2_with (go_at_call 86; refine (cN _ _).mono ?_; rintro e w2 ⟨rfl, rfl⟩)
      go_ret
      exact ⟨rfl, rfl⟩
/-- The closure by which At looks for a price. -/
theorem cat1_any (x : Pnt) (p : Int) (W : World) : Calls Tryz.prog 60 #[vPnt x, .int .i64 p] W fun e w' => e = .returned (.int .i64 (cmpI x.price p)) ∧ Below W.heap.size W w' := by
  have cC := fun x y w => ccmp_any x y w
  have hb : Below W.heap.size W (W.alloc (.cells (cPnt x) 106)) := (Below.refl _ _).alloc (Nat.le_refl _) _
  obtain ⟨x0, x1, x2⟩ := x
  simp only [vPnt, cPnt] at hb ⊢
  generalize hr : cmpI x0 p = r
  have cR := fun w => (ccmp_any x0 p w)
  rw [hr] at cR
  clear cC hr
  go_enter Tryz.func60, Tryz.ntmps60
  go_wp2_with (go_at_call 61; refine (cR _).mono ?_; rintro e w2 ⟨rfl, rfl⟩)
  go_ret
  exact ⟨rfl, hb⟩
/-- Points hands back a function. -/
theorem cpoints_fn (p : Option Addr) (W : World) : Calls Tryz.prog 81 #[.pointer p] W fun e w' => e = .returned (.func (.func 100) #[] #[.pointer (some ⟨W.heap.size, 0, none⟩)]) ∧ Below W.heap.size W w' ∧ ∃ T1, Blk w' W.heap.size T1 #[.pointer p] := by
  have hA : Blk (W.alloc (.cells #[.pointer p] 59)) W.heap.size 59 #[.pointer p] := Blk.new _ _ _
  have hbel : Below W.heap.size W (W.alloc (.cells #[.pointer p] 59)) := (Below.refl _ _).alloc (Nat.le_refl _) _
  go_enter Tryz.func81, Tryz.ntmps81
  go_wp2_with fail
  go_ret
  exact ⟨rfl, hbel, _, hA⟩
end
end Go.Proofs.YtohenmnpmgghhaaGreatDoor
namespace Go.Proofs.YtohenmnpmgghhaaGreatDoor
open Go.RowKit
set_option linter.unusedSimpArgs false
theorem cmpI_neg {x y : Int} (h : x < y) : cmpI x y < 0 := by unfold cmpI; rw [if_pos h]; omega
theorem cmpI_pos {x y : Int} (h : ¬ x < y) : 0 ≤ cmpI x y := by unfold cmpI; rw [if_neg h]; split <;> omega
theorem cmpI_zero {x y : Int} : cmpI x y = 0 ↔ x = y := by unfold cmpI; split; omega; split <;> omega
set_option maxRecDepth 8000 in
set_option maxHeartbeats 2000000 in
theorem bsf_any {ao : Option Addr} {cap : Nat} {l : List Pnt} (x : Int) (n : Nat) (q : Bool) (W : World) (hl : Pnts W ao cap l) (h5 : l.length ≤ 500) (hn : n ≤ l.length)
    (hlo : ∀ (k : Nat) y, l[k]? = some y → k < n → y.price < x) (hhi : ∀ (k : Nat) y, l[k]? = some y → n ≤ k → x ≤ y.price)
    (hq : (∃ y, l[n]? = some y ∧ q = decide (y.price = x)) ∨ (l.length ≤ n ∧ q = false)) :
    Calls Tryz.prog 59 #[.slice ao l.length cap, .int .i64 x, .func (.func 60) #[] #[]] W fun e w' => e = .returned (.tuple #[.int .i64 (n : Int), .bool q]) ∧ Below W.heap.size W w' := by
  have hC := fun y w => cat1_any y x w
  have hG : Goes 60 := goes_of Tryz.func60 (by kernel_rfl) (by kernel_rfl)
  go_enter Tryz.func59, Tryz.ntmps59
  go_wp2_with fail
  go_loopg [9, 10] l.length (fun j p9 p10 wr => Below W.heap.size W wr ∧ ∃ a b : Nat, a ≤ n ∧ n ≤ b ∧ b ≤ l.length ∧ b ≤ a + j ∧ p9 = .int .i64 (a : Int) ∧ p10 = .int .i64 (b : Int))
  case atStart => exact ⟨Below.refl _ _, 0, l.length, by omega, hn, Nat.le_refl _, by omega, rfl, rfl⟩
  case round =>
    obtain ⟨hB, a, b, ha, hb, hbn, hab, rfl, rfl⟩ := hrel
    by_cases hlt : a < b
    · obtain ⟨m, hm⟩ : ∃ m, m = (a + b) / 2 := ⟨_, rfl⟩
      have hm1 : a ≤ m := by omega
      have hm2 : m < b := by omega
      have em : (m : Int) = ((a : Int) + (b : Int)) / 2 := by omega
      obtain ⟨y, hy⟩ : ∃ y, l[m]? = some y := ⟨_, List.getElem?_eq_getElem (by omega)⟩
      obtain ⟨bb, off, rfl, u0, u1, u2⟩ := (hl.below hB).get hy
      replace u0 : wr.cell? ⟨bb, off + m * 3, none⟩ = some (.int .i64 y.price) := u0
      have cR := hC y
      have hlo' := hlo m y hy
      have hhi' := hhi m y hy
      have hG1 := hG #[vPnt y, .int .i64 x]
      clear hC hlo hhi hy hl
      have hmn : m < n ↔ y.price < x := ⟨hlo', fun h => Classical.byContradiction fun g => by have := hhi' (by omega); omega⟩
      clear hlo' hhi'
      have hc1 : m < n → cmpI y.price x < 0 := fun h => cmpI_neg (hmn.1 h)
      have hc2 : ¬ m < n → 0 ≤ cmpI y.price x := fun h => cmpI_pos (fun g => h (hmn.2 g))
      clear hmn
      generalize cmpI y.price x = r at *
      obtain ⟨y0, y1, y2⟩ := y
      simp only at u0 u1 u2
      simp only [vPnt, cPnt] at cR hG1
      rw [hm] at u0 u1 u2
      by_cases hpm : m < n
      · have hr := hc1 hpm
        clear hc1 hc2
        go_wp2_with (first | ((with_reducible refine (cR _).mono ?_); rintro e w1 ⟨rfl, hb1⟩; have hB1 := hB.trans (hb1.mono hB.size)) | fail)
        go_roundg (b - (m + 1))
        case measure => omega
        case rel => exact ⟨hB1, m + 1, b, by omega, hb, hbn, by omega, by rw [Int.natCast_add, em]; go_num, rfl⟩
      · have hr := hc2 hpm
        clear hc1 hc2
        go_wp2_with (first | ((with_reducible refine (cR _).mono ?_); rintro e w1 ⟨rfl, hb1⟩; have hB1 := hB.trans (hb1.mono hB.size)) | fail)
        go_roundg (m - a)
        case measure => omega
        case rel => exact ⟨hB1, a, m, ha, by omega, by omega, by omega, rfl, by rw [em]⟩
    · obtain rfl : a = b := by omega
      obtain rfl : a = n := by omega
      clear hlo hhi
      rcases hq with ⟨y, hy, rfl⟩ | ⟨h9, rfl⟩
      · have hal : a < l.length := (List.getElem?_eq_some_iff.1 hy).1
        obtain ⟨bb, off, rfl, u0, u1, u2⟩ := (hl.below hB).get hy
        replace u0 : wr.cell? ⟨bb, off + a * 3, none⟩ = some (.int .i64 y.price) := u0
        have cR := hC y
        have hG1 := hG #[vPnt y, .int .i64 x]
        have hz : decide (cmpI y.price x = 0) = decide (y.price = x) := decide_eq_decide.2 cmpI_zero
        clear hC hy hl
        obtain ⟨y0, y1, y2⟩ := y
        simp only at u0 u1 u2 hz
        simp only [vPnt, cPnt] at cR hG1
        obtain ⟨qq, hqq⟩ : ∃ qq, qq = decide (y0 = x) := ⟨_, rfl⟩
        rw [← hqq] at hz
        replace hqq := Lib.hid hqq
        generalize cmpI y0 x = r at *
        have hbq : (r == 0) = qq := by rw [← hz]; rfl
        have hai : (a : Int) < (l.length : Int) := by omega
        clear hz
        go_wp2_with (first | ((with_reducible refine (cR _).mono ?_); rintro e w1 ⟨rfl, hb1⟩; have hB1 := hB.trans (hb1.mono hB.size)) | fail)
        all_goals go_ret2
        all_goals exact ⟨by rw [← hqq.out]; rfl, hB1⟩
      · clear hC
        have hai : ¬ (a : Int) < (l.length : Int) := by omega
        go_wp2_with fail
        all_goals go_ret2
        all_goals exact ⟨rfl, hB⟩
section
variable {w w' W : World} {B : Nat} {p : Option Addr} {L : List Ord}
theorem cvQ_get {n : Nat} {y : Pnt} (h : (cvQ L)[n]? = some y) : ∃ q, (cprA L)[n]? = some q ∧ y = catL L q := by
  unfold cvQ at h
  rw [List.getElem?_map] at h
  obtain ⟨q, h1, h2⟩ := Option.map_eq_some_iff.1 h
  exact ⟨q, h1, h2.symm⟩
/-- Where a price stands among the points. -/
theorem cat_place (hL : LOk L) (x : Int) : ∃ n, n ≤ (cvQ L).length ∧ (∀ (k : Nat) y, (cvQ L)[k]? = some y → k < n → y.price < x) ∧ (∀ (k : Nat) y, (cvQ L)[k]? = some y → n ≤ k → x ≤ y.price) := by
  refine ⟨cAt (cprA L) x, ?_, fun k y hy hk => ?_, fun k y hy hk => ?_⟩
  · unfold cvQ
    rw [List.length_map]
    exact cAt_le _ _
  · obtain ⟨q, h1, rfl⟩ := cvQ_get hy
    exact cAt_lt h1 hk
  · obtain ⟨q, h1, rfl⟩ := cvQ_get hy
    have hlt := (List.getElem?_eq_some_iff.1 h1).1
    obtain ⟨z, hz⟩ : ∃ z, (cprA L)[cAt (cprA L) x]? = some z := ⟨_, List.getElem?_eq_getElem (by omega)⟩
    have hx := cAt_at hz
    show x ≤ q
    by_cases e : cAt (cprA L) x = k
    · rw [e, h1] at hz; cases hz; exact hx
    · have := rise_lt (prs_all hL).rise hz h1 (by omega); omega
/-- The point of a price: that which stands there, or the demand of the next one above and the supply of the next one below. -/
theorem cat_cases (hL : LOk L) (x : Int) (n : Nat) (h1 : n ≤ (cvQ L).length) (hlo : ∀ (k : Nat) y, (cvQ L)[k]? = some y → k < n → y.price < x) (hhi : ∀ (k : Nat) y, (cvQ L)[k]? = some y → n ≤ k → x ≤ y.price) :
    (∃ y, (cvQ L)[n]? = some y ∧ y.price = x ∧ catL L x = y) ∨
    (((∃ y, (cvQ L)[n]? = some y ∧ y.price ≠ x ∧ (catL L x).demand = y.demand) ∨ ((cvQ L).length ≤ n ∧ (catL L x).demand = 0)) ∧
     ((0 < n ∧ ∃ y, (cvQ L)[n - 1]? = some y ∧ (catL L x).supply = y.supply) ∨ (n = 0 ∧ (catL L x).supply = 0))) := by
  have hP := prs_all hL
  have hget : ∀ (k : Nat) q, (cprA L)[k]? = some q → (cvQ L)[k]? = some (catL L q) := fun k q h => by unfold cvQ; rw [List.getElem?_map, h]; rfl
  have hmem : ∀ q ∈ cprA L, ∃ k : Nat, (cprA L)[k]? = some q := fun q h => List.mem_iff_getElem?.1 h
  have hlen : (cvQ L).length = (cprA L).length := by unfold cvQ; rw [List.length_map]
  by_cases he : ∃ y, (cvQ L)[n]? = some y ∧ y.price = x
  · obtain ⟨y, h2, h3⟩ := he
    obtain ⟨q, h4, rfl⟩ := cvQ_get h2
    exact .inl ⟨_, h2, h3, by rw [← h3]; rfl⟩
  · refine .inr ⟨?_, ?_⟩
    · by_cases hn : n < (cvQ L).length
      · obtain ⟨y, hy⟩ : ∃ y, (cvQ L)[n]? = some y := ⟨_, List.getElem?_eq_getElem hn⟩
        obtain ⟨q, h4, rfl⟩ := cvQ_get hy
        refine .inl ⟨_, hy, fun e => he ⟨_, hy, e⟩, ?_⟩
        exact dem_at hP h4 (hhi n _ hy (Nat.le_refl _)) fun k z hz hk => hlo k _ (hget k z hz) hk
      · refine .inr ⟨by omega, dem_none hP fun z hz => ?_⟩
        obtain ⟨k, hk⟩ := hmem z hz
        have := (List.getElem?_eq_some_iff.1 hk).1
        exact hlo k _ (hget k z hk) (by omega)
    · have hup : ∀ (k : Nat) z, (cprA L)[k]? = some z → n ≤ k → x < z := fun k z hz hk => by
        have h5 : x ≤ z := hhi k _ (hget k z hz) hk
        have hlt := (List.getElem?_eq_some_iff.1 hz).1
        obtain ⟨y, hy⟩ : ∃ y, (cprA L)[n]? = some y := ⟨_, List.getElem?_eq_getElem (by omega)⟩
        have h6 : x ≤ y := hhi n _ (hget n y hy) (Nat.le_refl _)
        have h7 : y ≠ x := fun e => he ⟨_, hget n y hy, e⟩
        by_cases e : n = k
        · subst e; rw [hz] at hy; cases hy; omega
        · have := rise_lt hP.rise hy hz (by omega); omega
      by_cases h0 : 0 < n
      · obtain ⟨y, hy⟩ : ∃ y, (cprA L)[n - 1]? = some y := ⟨_, List.getElem?_eq_getElem (by omega)⟩
        refine .inl ⟨h0, _, hget _ y hy, ?_⟩
        exact sup_at hP hy (hlo _ _ (hget _ y hy) (by omega)) fun k z hz hk => hup k z hz (by omega)
      · refine .inr ⟨by omega, sup_none hP fun z hz => ?_⟩
        obtain ⟨k, hk⟩ := hmem z hz
        exact hup k z hk (by omega)
end
end Go.Proofs.YtohenmnpmgghhaaGreatDoor
namespace Go.Proofs.YtohenmnpmgghhaaGreatDoor
open Go.RowKit
set_option linter.unusedSimpArgs false
section
variable {w w' W : World} {B : Nat} {p : Option Addr} {L : List Ord}
theorem pnc_cells {w : World} {b : Nat} {T : TypeId} {x d s : Int} (h : Blk w b T #[.int .i64 x, .int .i64 d, .int .i64 s]) : w.cell? ⟨b, 0, none⟩ = some (.int .i64 x) ∧ w.cell? ⟨b, 1, none⟩ = some (.int .i64 d) ∧ w.cell? ⟨b, 2, none⟩ = some (.int .i64 s) := ⟨h.cell_eq 0 _ rfl, h.cell_eq 1 _ rfl, h.cell_eq 2 _ rfl⟩
set_option maxRecDepth 8000 in
set_option maxHeartbeats 4000000 in
theorem cv_at (x : Int) (h : CvP B W p L) : Calls Tryz.prog 29 #[.pointer p, .int .i64 x] W fun e w' => e = .returned (vPnt (catL L x)) ∧ Below W.heap.size W w' := by
  obtain ⟨W1, hW1⟩ : ∃ W1, W1 = W.alloc (.cells #[.int .i64 0, .int .i64 0, .int .i64 0] 106) := ⟨_, rfl⟩
  have hb1 : Below W.heap.size W W1 := by rw [hW1]; exact (Below.refl _ _).alloc (Nat.le_refl _) _
  have hR : Blk W1 W.heap.size 106 #[.int .i64 0, .int .i64 0, .int .i64 0] := by rw [hW1]; exact Blk.new _ _ _
  have cL := clist_any (h.below hb1) (Below.refl _ _)
  have hL := h.1
  have h5 := cvQ_len hL
  obtain ⟨n, hn, hlo, hhi⟩ := cat_place hL x
  have hcase := cat_cases hL x n hn hlo hhi
  have cB : ∀ (ao : Option Addr) (cap : Nat) (q : Bool) (w2 : World), Pnts w2 ao cap (cvQ L) → ((∃ y, (cvQ L)[n]? = some y ∧ q = decide (y.price = x)) ∨ ((cvQ L).length ≤ n ∧ q = false)) → Calls Tryz.prog 59 #[.slice ao (cvQ L).length cap, .int .i64 x, .func (.func 60) #[] #[]] w2 fun e w' => e = .returned (.tuple #[.int .i64 (n : Int), .bool q]) ∧ Below w2.heap.size w2 w' := fun ao cap q w2 hl hq => bsf_any x n q w2 hl h5 hn hlo hhi hq
  have hx0 : (catL L x).price = x := rfl
  clear h hlo hhi
  generalize catL L x = M at *
  generalize cvQ L = P at *
  obtain ⟨M0, M1, M2⟩ := M
  simp only at hcase hx0
  subst hx0
  -- the result's block, written
  have hset : ∀ w3 a b c, Blk w3 W.heap.size 106 #[.int .i64 0, .int .i64 0, .int .i64 0] → Below W.heap.size W w3 → ∃ V, V = ((w3.setCell ⟨W.heap.size, 0, none⟩ (.int .i64 a)).setCell ⟨W.heap.size, 1, none⟩ (.int .i64 b)).setCell ⟨W.heap.size, 2, none⟩ (.int .i64 c) ∧ (∀ n, w3.frozen? ⟨W.heap.size, n, none⟩ = false) ∧ (V.cell? ⟨W.heap.size, 0, none⟩ = some (.int .i64 a) ∧ V.cell? ⟨W.heap.size, 1, none⟩ = some (.int .i64 b) ∧ V.cell? ⟨W.heap.size, 2, none⟩ = some (.int .i64 c)) ∧ Below W.heap.size W V := fun w3 a b c h hb =>
    ⟨_, rfl, fun n => h.free n, pnc_cells (Pnt.lay (m := ⟨0, 0, 0⟩) h a b c), Pnt.below hb (Nat.le_refl _) _ _ _⟩
  replace hset := Lib.hid hset
  have zR := pnc_cells hR
  obtain ⟨z0, z1, z2⟩ := zR
  clear hL
  rcases hcase with ⟨y, hy, hpx, hM⟩ | ⟨hd, hs⟩
  · have hnl := (List.getElem?_eq_some_iff.1 hy).1
    have hnl' : (n : Int) < (P.length : Int) := by omega
    obtain rfl : y = ⟨M0, M1, M2⟩ := hM.symm
    clear hM hn h5
    go_enter Tryz.func29, Tryz.ntmps29
    go_wp2_with (first
    | (rw [← hW1]; clear hW1)
    | (go_at_call 58; refine cL.mono ?_; rintro e w2 ⟨ao, cap, rfl, hI, -, hb2⟩; clear cL z0 z1 z2; replace hI := hI.below hb2; have cB2 := cB ao cap true w2 hI (.inl ⟨_, hy, by simp⟩); clear cB)
    | (go_at_call 59; refine cB2.mono ?_; rintro e w3 ⟨rfl, hb3⟩; clear cB2; replace hI := hI.below hb3; have hb13 := hb2.trans (hb3.mono hb2.size); have hR3 := hR.below hb13 hR.lt; replace hb1 := hb1.trans (hb13.mono hb1.size); clear hb2 hb3 hb13 hR; obtain ⟨bb, off, rfl, u0, u1, u2⟩ := hI.get hy; obtain ⟨V, hV, hfz, ⟨q0, q1, q2⟩, hF⟩ := hset.out w3 M0 M1 M2 hR3 hb1; replace u0 : w3.cell? ⟨bb, off + n * 3, none⟩ = some (.int .i64 M0) := u0; simp only at u1 u2; have zz := pnc_cells hR3; obtain ⟨z0, z1, z2⟩ := zz; have f0 := hfz 0; have f1 := hfz 1; have f2 := hfz 2; clear hset hfz hR3 hI)
    | (rw [← hV]; clear hV)
    | fail)
    refine bodyPost_ret (v := .agg #[.int .i64 M0, .int .i64 M1, .int .i64 M2]) ?_ rfl ⟨rfl, hF⟩
    simp [results, Tryz.results29, go_sem, q0, q1, q2]
  · rcases hd with hd | hd <;> rcases hs with hs | hs
    · obtain ⟨⟨y0, y1, y2⟩, hy, hne, e1⟩ := hd
      obtain ⟨h0, ⟨s0, s1, s2⟩, hz, e2⟩ := hs
      try simp only at e1 e2 hne
      subst e1 e2
      have hq : ((∃ y, P[n]? = some y ∧ false = decide (y.price = M0)) ∨ (P.length ≤ n ∧ false = false)) := .inl ⟨_, hy, by simp [hne]⟩
      have hnl' : (n : Int) < (P.length : Int) := by have := (List.getElem?_eq_some_iff.1 hy).1; omega
      obtain ⟨m, hm⟩ : ∃ m, m = n - 1 := ⟨_, rfl⟩
      rw [← hm] at hz
      obtain rfl : n = m + 1 := by omega
      have hm2 : (m : Int) < (P.length : Int) := by have := (List.getElem?_eq_some_iff.1 hz).1; omega
      have hm3 : m < 500 := by omega
      clear hm h0 hn h5
      have hnx : ∀ w3, Blk w3 W.heap.size 106 #[.int .i64 0, .int .i64 0, .int .i64 0] → ∃ V4 V5 V6, V4 = w3.alloc (.cells #[.int .i64 M0, .int .i64 0, .int .i64 0] 106) ∧ V5 = V4.setCell ⟨w3.heap.size, 1, none⟩ (.int .i64 M1) ∧ V6 = V5.setCell ⟨w3.heap.size, 2, none⟩ (.int .i64 M2) ∧ (V4.frozen? ⟨w3.heap.size, 1, none⟩ = false ∧ V4.frozen? ⟨w3.heap.size, 2, none⟩ = false ∧ V4.cell? ⟨w3.heap.size, 1, none⟩ = some (.int .i64 0) ∧ V4.cell? ⟨w3.heap.size, 2, none⟩ = some (.int .i64 0)) ∧ (V5.frozen? ⟨w3.heap.size, 2, none⟩ = false ∧ V5.cell? ⟨w3.heap.size, 2, none⟩ = some (.int .i64 0)) ∧ (Blk V6 w3.heap.size 106 #[.int .i64 M0, .int .i64 M1, .int .i64 M2]) ∧ (Blk V6 W.heap.size 106 #[.int .i64 0, .int .i64 0, .int .i64 0]) ∧ (Below w3.heap.size w3 V6) ∧ (Below w3.heap.size w3 V4) ∧ (Below w3.heap.size w3 V5) := by
        intro w3 hR3
        have k4 : Blk (w3.alloc (.cells #[.int .i64 M0, .int .i64 0, .int .i64 0] 106)) w3.heap.size 106 #[.int .i64 M0, .int .i64 0, .int .i64 0] := Blk.new _ _ _
        have r4 := hR3.alloc (.cells #[.int .i64 M0, .int .i64 0, .int .i64 0] 106)
        have b4 : Below w3.heap.size w3 (w3.alloc (.cells #[.int .i64 M0, .int .i64 0, .int .i64 0] 106)) := (Below.refl _ _).alloc (Nat.le_refl _) _
        have hRl := hR3.lt
        have k5 : Blk _ w3.heap.size 106 #[.int .i64 M0, .int .i64 M1, .int .i64 0] := k4.set 1 (.int .i64 M1)
        have r5 := r4.other (a := ⟨w3.heap.size, 1, none⟩) (by show w3.heap.size ≠ W.heap.size; omega) (.int .i64 M1)
        have b5 := b4.setCell (p := ⟨w3.heap.size, 1, none⟩) (Nat.le_refl _) (.int .i64 M1)
        have k6 : Blk _ w3.heap.size 106 #[.int .i64 M0, .int .i64 M1, .int .i64 M2] := k5.set 2 (.int .i64 M2)
        have r6 := r5.other (a := ⟨w3.heap.size, 2, none⟩) (by show w3.heap.size ≠ W.heap.size; omega) (.int .i64 M2)
        have b6 := b5.setCell (p := ⟨w3.heap.size, 2, none⟩) (Nat.le_refl _) (.int .i64 M2)
        exact ⟨_, _, _, rfl, rfl, rfl, ⟨k4.free 1, k4.free 2, k4.cell_eq 1 _ rfl, k4.cell_eq 2 _ rfl⟩, ⟨k5.free 2, k5.cell_eq 2 _ rfl⟩, k6, r6, b6, b4, b5⟩
      replace hnx := Lib.hid hnx
      go_enter Tryz.func29, Tryz.ntmps29
      go_wp2_with (first
      | (rw [← hW1]; clear hW1)
      | (go_at_call 58; refine cL.mono ?_; rintro e w2 ⟨ao, cap, rfl, hI, -, hb2⟩; clear cL z0 z1 z2; replace hI := hI.below hb2; have cB2 := cB ao cap false w2 hI hq; clear cB)
      | (go_at_call 59; refine cB2.mono ?_; rintro e w3 ⟨rfl, hb3⟩; clear cB2; replace hI := hI.below hb3; have hb13 := hb2.trans (hb3.mono hb2.size); have hR3 := hR.below hb13 hR.lt; replace hb1 := hb1.trans (hb13.mono hb1.size); clear hb2 hb3 hb13 hR; obtain ⟨V4, V5, V6, hV4, hV5, hV6, ⟨fa, fb, ca, cb⟩, ⟨fc, cc⟩, kL, rL, bL, bV4, bV5⟩ := hnx.out w3 hR3; clear hnx; obtain ⟨bb, off, hao, -, u1, -⟩ := (hI.below bV4).get hy; subst hao; simp only at u1; obtain ⟨bb2, off2, hao2, -, -, u2⟩ := (hI.below bV5).get hz; cases hao2; simp only at u2; obtain ⟨V, hV, hfz, ⟨q0, q1, q2⟩, hF⟩ := hset.out V6 M0 M1 M2 rL (hb1.trans (bL.mono hb1.size)); have zz := pnc_cells rL; obtain ⟨z0, z1, z2⟩ := zz; have yy := pnc_cells kL; obtain ⟨y0, y1, y2⟩ := yy; have f0 := hfz 0; have f1 := hfz 1; have f2 := hfz 2; clear hset hfz hR3 hI rL kL bL bV4 bV5)
      | (rw [← hV4]; clear hV4)
      | (rw [← hV5]; clear hV5)
      | (rw [← hV6]; clear hV6)
      | (rw [← hV]; clear hV)
      | fail)
      refine bodyPost_ret (v := .agg #[.int .i64 M0, .int .i64 M1, .int .i64 M2]) ?_ rfl ⟨rfl, hF⟩
      simp [results, Tryz.results29, go_sem, q0, q1, q2]
    · obtain ⟨⟨y0, y1, y2⟩, hy, hne, e1⟩ := hd
      obtain ⟨h0, e2⟩ := hs
      try simp only at e1 e2 hne
      subst e1 e2
      have hq : ((∃ y, P[n]? = some y ∧ false = decide (y.price = M0)) ∨ (P.length ≤ n ∧ false = false)) := .inl ⟨_, hy, by simp [hne]⟩
      have hnl' : (n : Int) < (P.length : Int) := by have := (List.getElem?_eq_some_iff.1 hy).1; omega
      subst h0
      clear hn h5
      have hnx : ∀ w3, Blk w3 W.heap.size 106 #[.int .i64 0, .int .i64 0, .int .i64 0] → ∃ V4 V5, V4 = w3.alloc (.cells #[.int .i64 M0, .int .i64 0, .int .i64 0] 106) ∧ V5 = V4.setCell ⟨w3.heap.size, 1, none⟩ (.int .i64 M1) ∧ (V4.frozen? ⟨w3.heap.size, 1, none⟩ = false ∧ V4.frozen? ⟨w3.heap.size, 2, none⟩ = false ∧ V4.cell? ⟨w3.heap.size, 1, none⟩ = some (.int .i64 0) ∧ V4.cell? ⟨w3.heap.size, 2, none⟩ = some (.int .i64 0)) ∧ (Blk V5 w3.heap.size 106 #[.int .i64 M0, .int .i64 M1, .int .i64 0]) ∧ (Blk V5 W.heap.size 106 #[.int .i64 0, .int .i64 0, .int .i64 0]) ∧ (Below w3.heap.size w3 V5) ∧ (Below w3.heap.size w3 V4) := by
        intro w3 hR3
        have k4 : Blk (w3.alloc (.cells #[.int .i64 M0, .int .i64 0, .int .i64 0] 106)) w3.heap.size 106 #[.int .i64 M0, .int .i64 0, .int .i64 0] := Blk.new _ _ _
        have r4 := hR3.alloc (.cells #[.int .i64 M0, .int .i64 0, .int .i64 0] 106)
        have b4 : Below w3.heap.size w3 (w3.alloc (.cells #[.int .i64 M0, .int .i64 0, .int .i64 0] 106)) := (Below.refl _ _).alloc (Nat.le_refl _) _
        have hRl := hR3.lt
        have k5 : Blk _ w3.heap.size 106 #[.int .i64 M0, .int .i64 M1, .int .i64 0] := k4.set 1 (.int .i64 M1)
        have r5 := r4.other (a := ⟨w3.heap.size, 1, none⟩) (by show w3.heap.size ≠ W.heap.size; omega) (.int .i64 M1)
        have b5 := b4.setCell (p := ⟨w3.heap.size, 1, none⟩) (Nat.le_refl _) (.int .i64 M1)
        exact ⟨_, _, rfl, rfl, ⟨k4.free 1, k4.free 2, k4.cell_eq 1 _ rfl, k4.cell_eq 2 _ rfl⟩, k5, r5, b5, b4⟩
      replace hnx := Lib.hid hnx
      go_enter Tryz.func29, Tryz.ntmps29
      go_wp2_with (first
      | (rw [← hW1]; clear hW1)
      | (go_at_call 58; refine cL.mono ?_; rintro e w2 ⟨ao, cap, rfl, hI, -, hb2⟩; clear cL z0 z1 z2; replace hI := hI.below hb2; have cB2 := cB ao cap false w2 hI hq; clear cB)
      | (go_at_call 59; refine cB2.mono ?_; rintro e w3 ⟨rfl, hb3⟩; clear cB2; replace hI := hI.below hb3; have hb13 := hb2.trans (hb3.mono hb2.size); have hR3 := hR.below hb13 hR.lt; replace hb1 := hb1.trans (hb13.mono hb1.size); clear hb2 hb3 hb13 hR; obtain ⟨V4, V5, hV4, hV5, ⟨fa, fb, ca, cb⟩, kL, rL, bL, bV4⟩ := hnx.out w3 hR3; clear hnx; obtain ⟨bb, off, hao, -, u1, -⟩ := (hI.below bV4).get hy; subst hao; simp only at u1; obtain ⟨V, hV, hfz, ⟨q0, q1, q2⟩, hF⟩ := hset.out V5 M0 M1 0 rL (hb1.trans (bL.mono hb1.size)); have zz := pnc_cells rL; obtain ⟨z0, z1, z2⟩ := zz; have yy := pnc_cells kL; obtain ⟨y0, y1, y2⟩ := yy; have f0 := hfz 0; have f1 := hfz 1; have f2 := hfz 2; clear hset hfz hR3 hI rL kL bL bV4)
      | (rw [← hV4]; clear hV4)
      | (rw [← hV5]; clear hV5)
      | (rw [← hV]; clear hV)
      | fail)
      refine bodyPost_ret (v := .agg #[.int .i64 M0, .int .i64 M1, .int .i64 0]) ?_ rfl ⟨rfl, hF⟩
      simp [results, Tryz.results29, go_sem, q0, q1, q2]
    · obtain ⟨hnl, e1⟩ := hd
      obtain ⟨h0, ⟨s0, s1, s2⟩, hz, e2⟩ := hs
      try simp only at e1 e2
      subst e1 e2
      have hq : ((∃ y, P[n]? = some y ∧ false = decide (y.price = M0)) ∨ (P.length ≤ n ∧ false = false)) := .inr ⟨hnl, rfl⟩
      have hnl' : ¬ (n : Int) < (P.length : Int) := by omega
      obtain ⟨m, hm⟩ : ∃ m, m = n - 1 := ⟨_, rfl⟩
      rw [← hm] at hz
      obtain rfl : n = m + 1 := by omega
      have hm2 : (m : Int) < (P.length : Int) := by have := (List.getElem?_eq_some_iff.1 hz).1; omega
      have hm3 : m < 500 := by omega
      clear hm h0 hn h5
      have hnx : ∀ w3, Blk w3 W.heap.size 106 #[.int .i64 0, .int .i64 0, .int .i64 0] → ∃ V4 V6, V4 = w3.alloc (.cells #[.int .i64 M0, .int .i64 0, .int .i64 0] 106) ∧ V6 = V4.setCell ⟨w3.heap.size, 2, none⟩ (.int .i64 M2) ∧ (V4.frozen? ⟨w3.heap.size, 1, none⟩ = false ∧ V4.frozen? ⟨w3.heap.size, 2, none⟩ = false ∧ V4.cell? ⟨w3.heap.size, 1, none⟩ = some (.int .i64 0) ∧ V4.cell? ⟨w3.heap.size, 2, none⟩ = some (.int .i64 0)) ∧ (Blk V6 w3.heap.size 106 #[.int .i64 M0, .int .i64 0, .int .i64 M2]) ∧ (Blk V6 W.heap.size 106 #[.int .i64 0, .int .i64 0, .int .i64 0]) ∧ (Below w3.heap.size w3 V6) ∧ (Below w3.heap.size w3 V4) := by
        intro w3 hR3
        have k4 : Blk (w3.alloc (.cells #[.int .i64 M0, .int .i64 0, .int .i64 0] 106)) w3.heap.size 106 #[.int .i64 M0, .int .i64 0, .int .i64 0] := Blk.new _ _ _
        have r4 := hR3.alloc (.cells #[.int .i64 M0, .int .i64 0, .int .i64 0] 106)
        have b4 : Below w3.heap.size w3 (w3.alloc (.cells #[.int .i64 M0, .int .i64 0, .int .i64 0] 106)) := (Below.refl _ _).alloc (Nat.le_refl _) _
        have hRl := hR3.lt
        have k6 : Blk _ w3.heap.size 106 #[.int .i64 M0, .int .i64 0, .int .i64 M2] := k4.set 2 (.int .i64 M2)
        have r6 := r4.other (a := ⟨w3.heap.size, 2, none⟩) (by show w3.heap.size ≠ W.heap.size; omega) (.int .i64 M2)
        have b6 := b4.setCell (p := ⟨w3.heap.size, 2, none⟩) (Nat.le_refl _) (.int .i64 M2)
        exact ⟨_, _, rfl, rfl, ⟨k4.free 1, k4.free 2, k4.cell_eq 1 _ rfl, k4.cell_eq 2 _ rfl⟩, k6, r6, b6, b4⟩
      replace hnx := Lib.hid hnx
      go_enter Tryz.func29, Tryz.ntmps29
      go_wp2_with (first
      | (rw [← hW1]; clear hW1)
      | (go_at_call 58; refine cL.mono ?_; rintro e w2 ⟨ao, cap, rfl, hI, -, hb2⟩; clear cL z0 z1 z2; replace hI := hI.below hb2; have cB2 := cB ao cap false w2 hI hq; clear cB)
      | (go_at_call 59; refine cB2.mono ?_; rintro e w3 ⟨rfl, hb3⟩; clear cB2; replace hI := hI.below hb3; have hb13 := hb2.trans (hb3.mono hb2.size); have hR3 := hR.below hb13 hR.lt; replace hb1 := hb1.trans (hb13.mono hb1.size); clear hb2 hb3 hb13 hR; obtain ⟨V4, V6, hV4, hV6, ⟨fa, fb, ca, cb⟩, kL, rL, bL, bV4⟩ := hnx.out w3 hR3; clear hnx; obtain ⟨bb2, off2, hao2, -, -, u2⟩ := (hI.below bV4).get hz; subst hao2; simp only at u2; obtain ⟨V, hV, hfz, ⟨q0, q1, q2⟩, hF⟩ := hset.out V6 M0 0 M2 rL (hb1.trans (bL.mono hb1.size)); have zz := pnc_cells rL; obtain ⟨z0, z1, z2⟩ := zz; have yy := pnc_cells kL; obtain ⟨y0, y1, y2⟩ := yy; have f0 := hfz 0; have f1 := hfz 1; have f2 := hfz 2; clear hset hfz hR3 hI rL kL bL bV4)
      | (rw [← hV4]; clear hV4)
      | (rw [← hV6]; clear hV6)
      | (rw [← hV]; clear hV)
      | fail)
      refine bodyPost_ret (v := .agg #[.int .i64 M0, .int .i64 0, .int .i64 M2]) ?_ rfl ⟨rfl, hF⟩
      simp [results, Tryz.results29, go_sem, q0, q1, q2]
    · obtain ⟨hnl, e1⟩ := hd
      obtain ⟨h0, e2⟩ := hs
      try simp only at e1 e2
      subst e1 e2
      have hq : ((∃ y, P[n]? = some y ∧ false = decide (y.price = M0)) ∨ (P.length ≤ n ∧ false = false)) := .inr ⟨hnl, rfl⟩
      have hnl' : ¬ (n : Int) < (P.length : Int) := by omega
      subst h0
      clear hn h5
      have hnx : ∀ w3, Blk w3 W.heap.size 106 #[.int .i64 0, .int .i64 0, .int .i64 0] → ∃ V4, V4 = w3.alloc (.cells #[.int .i64 M0, .int .i64 0, .int .i64 0] 106) ∧ (V4.frozen? ⟨w3.heap.size, 1, none⟩ = false ∧ V4.frozen? ⟨w3.heap.size, 2, none⟩ = false ∧ V4.cell? ⟨w3.heap.size, 1, none⟩ = some (.int .i64 0) ∧ V4.cell? ⟨w3.heap.size, 2, none⟩ = some (.int .i64 0)) ∧ (Blk V4 w3.heap.size 106 #[.int .i64 M0, .int .i64 0, .int .i64 0]) ∧ (Blk V4 W.heap.size 106 #[.int .i64 0, .int .i64 0, .int .i64 0]) ∧ (Below w3.heap.size w3 V4) := by
        intro w3 hR3
        have k4 : Blk (w3.alloc (.cells #[.int .i64 M0, .int .i64 0, .int .i64 0] 106)) w3.heap.size 106 #[.int .i64 M0, .int .i64 0, .int .i64 0] := Blk.new _ _ _
        have r4 := hR3.alloc (.cells #[.int .i64 M0, .int .i64 0, .int .i64 0] 106)
        have b4 : Below w3.heap.size w3 (w3.alloc (.cells #[.int .i64 M0, .int .i64 0, .int .i64 0] 106)) := (Below.refl _ _).alloc (Nat.le_refl _) _
        have hRl := hR3.lt
        exact ⟨_, rfl, ⟨k4.free 1, k4.free 2, k4.cell_eq 1 _ rfl, k4.cell_eq 2 _ rfl⟩, k4, r4, b4⟩
      replace hnx := Lib.hid hnx
      go_enter Tryz.func29, Tryz.ntmps29
      go_wp2_with (first
      | (rw [← hW1]; clear hW1)
      | (go_at_call 58; refine cL.mono ?_; rintro e w2 ⟨ao, cap, rfl, hI, -, hb2⟩; clear cL z0 z1 z2; replace hI := hI.below hb2; have cB2 := cB ao cap false w2 hI hq; clear cB)
      | (go_at_call 59; refine cB2.mono ?_; rintro e w3 ⟨rfl, hb3⟩; clear cB2; replace hI := hI.below hb3; have hb13 := hb2.trans (hb3.mono hb2.size); have hR3 := hR.below hb13 hR.lt; replace hb1 := hb1.trans (hb13.mono hb1.size); clear hb2 hb3 hb13 hR; obtain ⟨V4, hV4, ⟨fa, fb, ca, cb⟩, kL, rL, bL⟩ := hnx.out w3 hR3; clear hnx; obtain ⟨V, hV, hfz, ⟨q0, q1, q2⟩, hF⟩ := hset.out V4 M0 0 0 rL (hb1.trans (bL.mono hb1.size)); have zz := pnc_cells rL; obtain ⟨z0, z1, z2⟩ := zz; have yy := pnc_cells kL; obtain ⟨y0, y1, y2⟩ := yy; have f0 := hfz 0; have f1 := hfz 1; have f2 := hfz 2; clear hset hfz hR3 hI rL kL bL)
      | (rw [← hV4]; clear hV4)
      | (rw [← hV]; clear hV)
      | fail)
      refine bodyPost_ret (v := .agg #[.int .i64 M0, .int .i64 0, .int .i64 0]) ?_ rfl ⟨rfl, hF⟩
      simp [results, Tryz.results29, go_sem, q0, q1, q2]
end
end Go.Proofs.YtohenmnpmgghhaaGreatDoor
