/-
  The walk of WindowBetween.
-/
import Derived.Test.YteljjjdejjkgfaaWntq
namespace Go.Proofs.Yteljjjdejjkgfaa
open Go.RowKit
set_option linter.unusedSimpArgs false
/-- The least and the greatest of those that have been. -/
def Bet (l : List Int) (p0 : Int) (i : Nat) (lo hi : Int) : Prop := (i = 0 ∧ lo = p0 ∧ hi = p0) ∨ (1 ≤ i ∧ 1 ≤ lo ∧ hi ≤ 1099511627776 ∧ ∀ p ∈ l.take i, lo ≤ p ∧ p ≤ hi)
theorem Bet.step {l : List Int} {p0 p lo hi : Int} {i : Nat} (h : Bet l p0 i lo hi) (h0 : l[0]? = some p0) (hp : l[i]? = some p) (hr : 1 ≤ p ∧ p ≤ 1099511627776) : Bet l p0 (i + 1) (if p < lo then p else lo) (if hi < p then p else hi) := by
  rcases h with ⟨rfl, rfl, rfl⟩ | ⟨h1, h2, h3, h4⟩
  · rw [h0] at hp
    cases hp
    refine .inr ⟨by omega, by split <;> omega, by split <;> omega, fun z hz => ?_⟩
    rw [List.take_add_one, h0, List.take_zero] at hz
    simp at hz
    subst hz
    simp
  · refine .inr ⟨by omega, by split <;> omega, by split <;> omega, fun z hz => ?_⟩
    rw [List.take_add_one, hp, List.mem_append] at hz
    rcases hz with hz | hz
    · have := h4 z hz
      constructor <;> split <;> omega
    · simp at hz
      subst hz
      constructor <;> split <;> omega
set_option maxRecDepth 8000 in
set_option maxHeartbeats 8000000 in
theorem wbetween_any (span grid q gap : Int) (ao : Option Addr) (cap : Nat) (l : List Int) (W : World) (hI : It .i64 W ao cap l) :
    Calls Try.prog 5 #[.int .i64 span, .int .i64 grid, .slice ao l.length cap, .int .i64 q, .int .i64 gap] W fun e w' => e = .returned (.bool true) ∧ Below W.heap.size W w' := by
  have hl1 := hI.len
  have hl2 := hI.top
  unfold maxLen at hl2
  have hl3 : l.length ≤ 9223372036854775807 := by omega
  clear hl1 hl2
  have cA := fun w => alive19_any w
  have key : (((l.length : Int) == 0) = true ∨ (((l.length : Int) == 0) = false ∧ (decide ((30 : Int) < (l.length : Int)) = true ∨ (decide ((30 : Int) < (l.length : Int)) = false ∧ (decide (span < 1) = true ∨ (decide (span < 1) = false ∧ (decide (1099511627776 < span) = true ∨ (decide (1099511627776 < span) = false ∧ (decide (grid < 1) = true ∨ (decide (grid < 1) = false ∧ (decide (1099511627776 < grid) = true ∨ (decide (1099511627776 < grid) = false ∧ (decide (q < 1) = true ∨ (decide (q < 1) = false ∧ (decide (4294967296 < q) = true ∨ (decide (4294967296 < q) = false ∧ (decide (gap < 0) = true ∨ (decide (gap < 0) = false ∧ decide (1099511627776 < gap) = true)))))))))))))))))) ∨
      (((l.length : Int) == 0) = false ∧ decide ((30 : Int) < (l.length : Int)) = false ∧ decide (span < 1) = false ∧ decide (1099511627776 < span) = false ∧ decide (grid < 1) = false ∧ decide (1099511627776 < grid) = false ∧ decide (q < 1) = false ∧ decide (4294967296 < q) = false ∧ decide (gap < 0) = false ∧ decide (1099511627776 < gap) = false ∧ 1 ≤ l.length ∧ l.length ≤ 30 ∧ 1 ≤ span ∧ span ≤ 1099511627776 ∧ 1 ≤ grid ∧ grid ≤ 1099511627776 ∧ 1 ≤ q ∧ q ≤ 4294967296 ∧ 0 ≤ gap ∧ gap ≤ 1099511627776) := by
    simp only [decide_eq_true_eq, decide_eq_false_iff_not, beq_iff_eq, beq_eq_false_iff_ne]
    omega
  rcases key with key | ⟨e1, e2, e3, e4, e5, e6, e7, e8, e9, e10, n1, n2, s1, s2, g1, g2, q1, q2, p1, p2⟩
  · clear hI
    rcases key with e1 | ⟨e1, e2 | ⟨e2, e3 | ⟨e3, e4 | ⟨e4, e5 | ⟨e5, e6 | ⟨e6, e7 | ⟨e7, e8 | ⟨e8, e9 | ⟨e9, e10⟩⟩⟩⟩⟩⟩⟩⟩⟩
    all_goals
      go_enter Try.func5, Try.ntmps5
      go_wp2_with (first
        | (go_at_call 7; refine (cA _).mono ?_; rintro e w3 ⟨rfl, hb3⟩; clear cA)
        | fail)
      go_ret
      exact ⟨rfl, hb3⟩
  obtain ⟨t, ht⟩ : ∃ t, t = gap + span := ⟨_, rfl⟩
  obtain ⟨B, hB⟩ : ∃ B, B = W.heap.size := ⟨_, rfl⟩
  obtain ⟨old, ho⟩ : ∃ old : List Trd, old = [⟨0, 7, q⟩, ⟨gap, 9, q⟩] := ⟨_, rfl⟩
  have ht2 : 0 ≤ t ∧ t ≤ 1152921504606846976 := by omega
  have hold : ∀ x ∈ old, x.tick ≤ gap := by
    intro x hx
    rw [ho] at hx
    simp at hx
    rcases hx with rfl | rfl <;> simp only <;> omega
  have holdl : old.length = 2 := by rw [ho]; rfl
  have hnew : wnNew span grid grid = some (bwn span grid 0 [] t q []) := by
    unfold wnNew
    rw [if_pos ⟨s1, s2, g1, g2, g1, g2, Int.emod_self⟩]
    rfl
  have is : In64 span := i64_of _ (by omega)
  have ig : In64 grid := i64_of _ (by omega)
  have iq : In64 q := i64_of _ (by omega)
  have it : In64 t := i64_of _ (by omega)
  have cN1 : Calls Try.prog 8 #[.int .i64 span, .int .i64 grid, .int .i64 grid] W fun e w' => ∃ g, e = .returned (.tuple #[.pointer (some ⟨g, 0, none⟩), .int .i64 0]) ∧ Wq B W w' g (bwn span grid 0 [] t q []) := by
    refine (wp_new span grid grid is ig ig W).mono ?_
    rintro e w' (⟨h, -⟩ | ⟨r, m, S, h, he, h1, h2, h3⟩)
    · rw [hnew] at h; cases h
    · rw [hnew] at h; cases h
      subst hB
      exact ⟨r, he, S, h1, h2, h3, h2.size⟩
  have cN2 : ∀ g w, Wq B W w g (bwn span grid 0 [] t q []) → Calls Try.prog 8 #[.int .i64 span, .int .i64 grid, .int .i64 grid] w fun e w' => ∃ h, e = .returned (.tuple #[.pointer (some ⟨h, 0, none⟩), .int .i64 0]) ∧ Wd B W w' g h (bwn span grid 0 [] t q []) (bwn span grid 0 [] t q []) := by
    rintro g w ⟨S1, k1, k2, k3, k4⟩
    refine (wp_new span grid grid is ig ig w).mono ?_
    rintro e w' (⟨h, -⟩ | ⟨r, m, S, h, he, h1, h2, h3⟩)
    · rw [hnew] at h; cases h
    · rw [hnew] at h; cases h
      exact ⟨r, he, S1, S, k1.below h2, h1, k2.trans (h2.mono k4), Nat.le_trans k4 h2.size, k3, fun c e => Nat.le_trans k4 (h3 c e), fun c e e' => by have := k1.lt c e; have := h3 c e'; omega⟩
  have cO1 : ∀ g h w, Wd B W w g h (bwn span grid 0 [] t q []) (bwn span grid 0 [] t q []) → Calls Try.prog 15 #[.pointer (some ⟨g, 0, none⟩), .int .i64 0, .int .i64 7, .int .i64 q] w fun e w' => e = .returned (.int .i64 0) ∧ Wd B W w' g h ⟨span, grid, grid, 0, [⟨0, 7, q⟩]⟩ (bwn span grid 0 [] t q []) := fun g h w k => by
    have e : (bwn span grid 0 [] t q []).add 0 7 q = (0, ⟨span, grid, grid, 0, [⟨0, 7, q⟩]⟩) := by
      unfold Wn.add
      rw [if_pos ⟨⟨by omega, by omega, by simp [bwn]⟩, by omega, by omega, q1, q2⟩]
      rfl
    have := k.add 0 7 q (i64_of _ (by omega)) (i64_of _ (by omega)) iq (by simp [bwn, newsT])
    rw [e] at this
    exact this
  have cO2 : ∀ g h w, Wd B W w g h ⟨span, grid, grid, 0, [⟨0, 7, q⟩]⟩ (bwn span grid 0 [] t q []) → Calls Try.prog 15 #[.pointer (some ⟨g, 0, none⟩), .int .i64 gap, .int .i64 9, .int .i64 q] w fun e w' => e = .returned (.int .i64 0) ∧ Wd B W w' g h (bwn span grid gap old t q []) (bwn span grid 0 [] t q []) := fun g h w k => by
    have e : (Wn.mk span grid grid 0 [⟨0, 7, q⟩]).add gap 9 q = (0, bwn span grid gap old t q []) := by
      unfold Wn.add
      rw [if_pos ⟨⟨by omega, by omega, by simp only; omega⟩, by omega, by omega, q1, q2⟩, ho]
      rfl
    have := k.add gap 9 q (i64_of _ (by omega)) (i64_of _ (by omega)) iq (by simp)
    rw [e] at this
    exact this
  have cX : ∀ (la lb : Int) (P : List Int) (p : Int) g h w, la ≤ t → P.length ≤ 30 → 1 ≤ p ∧ p ≤ 1099511627776 → Wd B W w g h (bwn span grid la old t q P) (bwn span grid lb [] t q P) → Calls Try.prog 15 #[.pointer (some ⟨g, 0, none⟩), .int .i64 t, .int .i64 p, .int .i64 q] w fun e w' => e = .returned (.int .i64 0) ∧ Wd B W w' g h (bwn span grid t old t q (P ++ [p])) (bwn span grid lb [] t q P) := fun la lb P p g h w hla hP hp k => by
    have := k.add t p q it (i64_of _ (by omega)) iq (by simp [bwn, newsT]; omega)
    rw [bwn_add hla ht2 hp ⟨q1, q2⟩] at this
    exact this
  have cY : ∀ (lb : Int) (P : List Int) (p : Int) g h w, lb ≤ t → P.length ≤ 30 → 1 ≤ p ∧ p ≤ 1099511627776 → Wd B W w g h (bwn span grid t old t q (P ++ [p])) (bwn span grid lb [] t q P) → Calls Try.prog 15 #[.pointer (some ⟨h, 0, none⟩), .int .i64 t, .int .i64 p, .int .i64 q] w fun e w' => e = .returned (.int .i64 0) ∧ Wd B W w' g h (bwn span grid t old t q (P ++ [p])) (bwn span grid t [] t q (P ++ [p])) := fun lb P p g h w hlb hP hp k => by
    have := k.swap.add t p q it (i64_of _ (by omega)) iq (by simp [bwn, newsT]; omega)
    rw [bwn_add hlb ht2 hp ⟨q1, q2⟩] at this
    exact this.mono fun e w' z => ⟨z.1, z.2.swap⟩
  have cM1 : ∀ (la lb : Int) g h w, la ≤ t → Wd B W w g h (bwn span grid la old t q l) (bwn span grid lb [] t q l) → Calls Try.prog 16 #[.pointer (some ⟨g, 0, none⟩), .int .i64 t] w fun e w' => e = .returned (.tuple #[.int .i64 (gridM (pqs (newsT t q l) / qqs (newsT t q l)) grid), .bool true]) ∧ ∃ m', Wd B W w' g h m' (bwn span grid lb [] t q l) := fun la lb g h w hla k => by
    have := k.mean t it (by simp [bwn, newsT]; omega)
    rw [bwn_mean s1 hold ht hla ht2 (by intro e; rw [e] at n1; simp at n1)] at this
    exact this.mono fun e w' z => ⟨z.1, _, z.2⟩
  have cM2 : ∀ (lb : Int) m' g h w, lb ≤ t → Wd B W w g h m' (bwn span grid lb [] t q l) → Calls Try.prog 16 #[.pointer (some ⟨h, 0, none⟩), .int .i64 t] w fun e w' => e = .returned (.tuple #[.int .i64 (gridM (pqs (newsT t q l) / qqs (newsT t q l)) grid), .bool true]) ∧ Below B W w' := fun lb m' g h w hlb k => by
    have := k.swap.mean t it (by simp [bwn, newsT]; omega)
    rw [bwn_mean s1 (fun x hx => by cases hx) ht hlb ht2 (by intro e; rw [e] at n1; simp at n1)] at this
    exact this.mono fun e w' z => ⟨z.1, z.2.below⟩
  have hfac := fun lo hi h1 h2 h3 => bwn_facts (grid := grid) (t := t) (q := q) (P := l) (lo := lo) (hi := hi) g1 ht2 ⟨q1, q2⟩ (by intro e; rw [e] at n1; simp at n1) h1 h2 h3
  obtain ⟨p0, hp0⟩ : ∃ p, l[0]? = some p := ⟨_, List.getElem?_eq_getElem (by omega)⟩
  obtain ⟨bx, ox, rfl, hc0⟩ := hI.get hp0
  rw [← hB, Nat.add_zero] at hc0
  have hget : ∀ i p, l[i]? = some p → ∀ w, Below B W w → w.cell? ⟨bx, ox + i, none⟩ = some (.int .i64 p) := fun i p hp w hw => by
    obtain ⟨b', o', e, hc⟩ := hI.get hp
    cases e
    rw [← hB] at hc
    exact hc w hw
  have hstep := fun i p lo hi h hp hr => Bet.step (l := l) (p0 := p0) (p := p) (lo := lo) (hi := hi) (i := i) h hp0 hp hr
  replace hold := Lib.hid hold
  generalize gridM (pqs (newsT t q l) / qqs (newsT t q l)) grid = N at *
  obtain ⟨n, hn⟩ : ∃ n, n = l.length := ⟨_, rfl⟩
  have hall : Hid (l.take n = l) := Lib.hid (by rw [hn, List.take_length])
  rw [← hn] at e1 e2 n1 n2 hl3 ⊢
  replace hn := Lib.hid hn
  replace hget := Lib.hid hget
  replace hstep := Lib.hid hstep
  replace hfac := Lib.hid hfac
  clear hI hnew is ig iq it
  have hin0 : (0 : Int) < (n : Int) := by omega
  have hin1 : 0 < n := by omega
  rw [← hB]
  go_enter Try.func5, Try.ntmps5
  go_wp2_with (first
    | (go_at_call 8; refine cN1.mono ?_; rintro e w1 ⟨g, rfl, k1⟩; clear cN1)
    | (go_at_call 8; refine (cN2 _ _ k1).mono ?_; rintro e w2 ⟨h, rfl, k2⟩; clear cN2 k1; have c0 := hc0 _ k2.below; have c0d := hc0 _ k2.below.drew)
    | fail)
  go_quiet (fail)
  clear c0 c0d hc0
  go_wp2_with (first
    | (go_at_call 15; first | (refine (cO1 _ _ _ k2).mono ?_) | (refine (cO1 _ _ _ (k2.keep (Below.refl _ _).drew)).mono ?_) | (refine (cO1 _ _ _ (k2.keep (belowW (Below.refl _ _) _))).mono ?_); rintro e w3 ⟨rfl, k3⟩; clear cO1 k2)
    | (go_at_call 15; refine (cO2 _ _ _ k3).mono ?_; rintro e V ⟨rfl, k4⟩; clear cO2 k3)
    | fail)
  rw [← ht]
  have hgt : gap ≤ t := by omega
  have h0t : 0 ≤ t := ht2.1
  clear ht ho
  go_loopg [15, 16, 18] n (fun j p15 p16 p18 wr => ∃ (i : Nat) (lo hi la lb : Int), i + j = n ∧ p18 = .int .i64 (i : Int) ∧ p15 = .int .i64 lo ∧ p16 = .int .i64 hi ∧ Hid (Bet l p0 i lo hi) ∧ la ≤ t ∧ lb ≤ t ∧ Wd B W wr g h (bwn span grid la old t q (l.take i)) (bwn span grid lb [] t q (l.take i)))
  case atStart => exact ⟨0, p0, p0, gap, 0, by omega, rfl, rfl, rfl, Lib.hid (.inl ⟨rfl, rfl, rfl⟩), by omega, by omega, k4⟩
  case round =>
    obtain ⟨i, lo, hi, la, lb, hij, rfl, rfl, rfl, hbet, hla, hlb, k⟩ := hrel
    clear k4
    by_cases hin : i < n
    · obtain ⟨p, hp⟩ : ∃ p, l[i]? = some p := ⟨_, List.getElem?_eq_getElem (by rw [← hn.out]; exact hin)⟩
      have hil : (i : Int) < (n : Int) := by omega
      have hcell := hget.out i p hp
      have y0 := hcell _ k.below
      by_cases r1 : p < 1
      · have d1 : decide (p < 1) = true := decide_eq_true r1
        have hkb := k.below
        clear hbet k cX cY cM1 cM2 hfac hstep hget hp
        go_wp2_with (first
          | (go_at_call 7; refine (cA _).mono ?_; rintro e w3 ⟨rfl, hb3⟩; clear cA)
          | fail)
        go_ret
        exact ⟨rfl, hkb.trans (hb3.mono (by rw [hB]; exact hkb.size))⟩
      have d1 : decide (p < 1) = false := decide_eq_false r1
      by_cases r2 : 1099511627776 < p
      · have d2 : decide (1099511627776 < p) = true := decide_eq_true r2
        have hkb := k.below
        clear hbet k cX cY cM1 cM2 hfac hstep hget hp
        go_wp2_with (first
          | (go_at_call 7; refine (cA _).mono ?_; rintro e w3 ⟨rfl, hb3⟩; clear cA)
          | fail)
        go_ret
        exact ⟨rfl, hkb.trans (hb3.mono (by rw [hB]; exact hkb.size))⟩
      have d2 : decide (1099511627776 < p) = false := decide_eq_false r2
      have hbet' := Lib.hid (hstep.out i p lo hi hbet.out hp ⟨by omega, by omega⟩)
      have htk : Hid (l.take i ++ [p] = l.take (i + 1)) := Lib.hid (by rw [List.take_add_one, hp]; rfl)
      obtain ⟨lo', hlo'⟩ : ∃ z, z = if p < lo then p else lo := ⟨_, rfl⟩
      obtain ⟨hi', hhi'⟩ : ∃ z, z = if hi < p then p else hi := ⟨_, rfl⟩
      rw [← hlo', ← hhi'] at hbet'
      have x1 := wmin_fact lo p lo' hlo'
      have x2 := wmax_fact hi p hi' hhi'
      have cXx := fun w k => cX la lb (l.take i) p g h w hla (by rw [List.length_take]; omega) ⟨by omega, by omega⟩ k
      have cYy := fun w k => cY lb (l.take i) p g h w hlb (by rw [List.length_take]; omega) ⟨by omega, by omega⟩ k
      clear hbet cX cY cM1 cM2 hfac hstep hget hp hlo' hhi'
      go_wp2_with (first
        | (go_at_call 15; refine (cXx _ k).mono ?_; rintro e w5 ⟨rfl, k5⟩; clear cXx y0; have y0 := hcell _ k5.below)
        | (go_at_call 15; refine (cYy _ k5).mono ?_; rintro e w6 ⟨rfl, k6⟩; clear cYy)
        | fail)
      rw [htk.out] at k6
      go_roundg (n - (i + 1))
      case measure => omega
      case rel => exact ⟨i + 1, lo', hi', t, t, by omega, by go_num, rfl, rfl, hbet', Int.le_refl _, Int.le_refl _, k6⟩
    · have e : i = n := by omega
      subst e
      have hil : ¬ (i : Int) < (i : Int) := by omega
      rw [hall.out] at k
      have hb2 : 1 ≤ lo ∧ hi ≤ 1099511627776 ∧ ∀ p ∈ l, lo ≤ p ∧ p ≤ hi := by
        rcases hbet.out with ⟨h0, -⟩ | ⟨-, h1, h2, h3⟩
        · omega
        · rw [hall.out] at h3
          exact ⟨h1, h2, h3⟩
      obtain ⟨f1, f2, f3, f4⟩ := hfac.out lo hi hb2.1 hb2.2.1 hb2.2.2
      have hhi2 := hb2.2.1
      have hlo2 := hb2.1
      have hle : lo ≤ hi := by
        have := hb2.2.2 p0 (List.mem_of_getElem? hp0)
        omega
      have cMa := fun w k => cM1 la lb g h w hla k
      have cMb := fun m' w k => cM2 lb m' g h w hlb k
      obtain ⟨mx, hmx⟩ : ∃ z, z = if hi < grid then grid else hi := ⟨_, rfl⟩
      have x2 := wmax_fact hi grid mx hmx
      have hmx2 : N ≤ mx := by rw [hmx]; split <;> omega
      have hmx3 : mx ≤ 1099511627776 := by rw [hmx]; split <;> omega
      have d1 : (N % grid == 0) = true := by rw [f1]; rfl
      have d2 : decide (N ≤ mx) = true := decide_eq_true hmx2
      have d3 : decide (lo < N + grid) = true := decide_eq_true f3
      have d4 : decide (grid ≤ N) = true := decide_eq_true f4
      have d0 : (N == N) = true := by simp
      have dg : (grid == 0) = false := by simp; omega
      have hN0 : 0 ≤ N := by omega
      have hkb : ∀ w, Below B W w → B ≤ w.heap.size := fun w hb => by rw [hB]; exact hb.size
      clear hbet hb2 hfac cX cY cM1 cM2 hget hstep hmx f2 hp0
      go_wp2_with (first
        | (go_at_call 16; refine (cMa _ k).mono ?_; rintro e w5 ⟨rfl, m5, k5⟩; clear cMa)
        | (go_at_call 16; refine (cMb _ _ k5).mono ?_; rintro e w6 ⟨rfl, hb6⟩; clear cMb)
        | (go_at_call 7; refine (cA _).mono ?_; rintro e w7 ⟨rfl, hb7⟩; clear cA)
        | fail)
      go_ret
      exact ⟨rfl, hb6.trans (hb7.mono (hkb _ hb6))⟩
end Go.Proofs.Yteljjjdejjkgfaa
