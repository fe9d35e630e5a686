/-
  The contracts of the document's Changes, Lasts and Rest, and of the statements' light.
-/
import Derived.Test.YtjcopnhienijjaaSesA
import Derived.Test.YtjcopnhienijjaaApp
namespace Go.Proofs.Ytjcopnhienijjaa
open Go.RowKit
/-- For how long a phase stays. -/
def Rs (l : List Rowp) (c : Nat) (t v : Int) : Prop := (c < l.length ∧ v = tk l c - t) ∨ (c = l.length ∧ v = -1)
theorem Rs.exists {l : List Rowp} {c : Nat} (h : c ≤ l.length) (t : Int) : ∃ v, Rs l c t v := by
  by_cases e : c < l.length
  · exact ⟨_, .inl ⟨e, rfl⟩⟩
  · exact ⟨_, .inr ⟨by omega, rfl⟩⟩
/-- Whether it is the third phase all along. -/
def Ls (l : List Rowp) (p c : Nat) (f t : Int) : Bool := decide (f ≤ t) && (decide (phN l p = 2) && (decide (c = l.length) || decide (t < tk l c)))
theorem fit_tk {l : List Rowp} (hF : ∀ m ∈ l, m.Fit) {i : Nat} {r : Rowp} (h : l[i]? = some r) : In64 r.tick := (hF r (List.mem_of_getElem? h)).tick
set_option maxRecDepth 8000 in
set_option maxHeartbeats 1000000 in
theorem refRest_any (ao : Option Addr) (cap : Nat) (l : List Rowp) (hF : ∀ m ∈ l, m.Fit) (t : Int) (ht : 0 ≤ t) (p c : Nat) (hp : Pas l t p) (hc : Chg l p c) (v : Int) (hv : Rs l c t v) (W : World) (hL : Rowps W ao cap l) :
    Calls Try.prog 18 #[.slice ao l.length cap, .int .i64 t] W fun e w' => e = .returned (.int .i64 v) ∧ w' = W := by
  have cA := refAt_any ao cap l t p hp W hL
  have hm := hL.len
  have hm2 := hL.top
  have hce := hc.le
  unfold maxLen at hm2
  obtain ⟨z, hz⟩ : ∃ z, phN l p = z := ⟨_, rfl⟩
  have hsame := hc.same
  have hoth := hc.other
  have hpc := hc.ge
  rw [hz] at cA hsame hoth
  clear hc hz
  go_enter Try.func18, Try.ntmps18
  go_wp2_with (go_at_call 12; (with_reducible refine cA.mono ?_); rintro e w1 ⟨rfl, rfl⟩)
  go_loopg [6] l.length (fun j p6 wr => ∃ q : Nat, q + j = l.length ∧ p6 = .int .i64 (q : Int) ∧ q ≤ c ∧ w1 = wr)
  case atStart => exact ⟨0, by omega, rfl, by omega, rfl⟩
  case round =>
    obtain ⟨q, hq, rfl, hqc, rfl⟩ := hrel
    by_cases hj : q < l.length
    · obtain ⟨r, hr⟩ : ∃ x, l[q]? = some x := ⟨l[q], List.getElem?_eq_getElem hj⟩
      obtain ⟨b, off, rfl, x0, x1⟩ := hL.get hr
      replace x0 : w1.cell? ⟨b, off + q * 2, none⟩ = some (.int .i64 r.tick) := x0
      have hk0 := tk_get hr
      have hk1 := ph_get hr
      by_cases hlt : q < p
      · have hle2 : r.tick ≤ t := by rw [← hk0]; exact hp.lo q hlt
        have hp2 : q < c := by omega
        clear hr hL hk0 hk1 hp hsame hoth hpc hv hF hce cA
        obtain ⟨t', p'⟩ := r
        simp only at *
        go_wp2_with fail
        go_roundg (l.length - (q + 1))
        case measure => omega
        case rel => exact ⟨q + 1, by omega, by go_num, by omega, rfl⟩
      · have hgt : t < r.tick := by rw [← hk0]; exact hp.hi q (by omega) hj
        by_cases hqc2 : q < c
        · have he : r.phase = z := by rw [← hk1]; exact hsame q (by omega) hqc2
          clear hr hL hk0 hk1 hp hsame hoth hpc hv hF hce cA
          obtain ⟨t', p'⟩ := r
          simp only at *
          subst he
          go_wp2_with fail
          go_roundg (l.length - (q + 1))
          case measure => omega
          case rel => exact ⟨q + 1, by omega, by go_num, by omega, rfl⟩
        · obtain rfl : q = c := by omega
          have hne : r.phase ≠ z := by rw [← hk1]; exact hoth hj
          obtain ⟨-, hv⟩ | ⟨h0, -⟩ := hv
          rotate_left
          · omega
          obtain rfl : v = r.tick - t := by rw [hv, hk0]
          have hi := fit_tk hF hr
          have hi2 := hi.2
          clear hr hL hk0 hk1 hp hsame hoth hpc hF hce cA hi
          obtain ⟨t', p'⟩ := r
          simp only at *
          go_wp2_with fail
          go_ret
          exact ⟨rfl, rfl⟩
    · obtain ⟨h0, -⟩ | ⟨-, rfl⟩ := hv
      · omega
      clear cA
      go_wp2_with fail
      go_ret
      exact ⟨rfl, rfl⟩
set_option maxRecDepth 8000 in
set_option maxHeartbeats 1000000 in
theorem refLasts_any (ao : Option Addr) (cap : Nat) (l : List Rowp) (hR : Ris l) (f t : Int) (p c : Nat) (hp : Pas l f p) (hc : Chg l p c) (W : World) (hL : Rowps W ao cap l) :
    Calls Try.prog 16 #[.slice ao l.length cap, .int .i64 f, .int .i64 t] W fun e w' => e = .returned (.bool (Ls l p c f t)) ∧ w' = W := by
  have cA := refAt_any ao cap l f p hp W hL
  have hm := hL.len
  have hm2 := hL.top
  have hce := hc.le
  unfold maxLen at hm2
  by_cases hft : f ≤ t
  rotate_left
  · have hb : Ls l p c f t = false := by unfold Ls; simp [hft]
    rw [hb]
    have hft2 : t < f := by omega
    go_enter Try.func16, Try.ntmps16
    go_wp2_with fail
    go_ret
    exact ⟨rfl, rfl⟩
  by_cases hph : phN l p = 2
  rotate_left
  · have hb : Ls l p c f t = false := by unfold Ls; simp [hph]
    rw [hb]
    generalize phN l p = z at cA hph
    have hd : ((z : Int) != 2) = true := by simpa using hph
    go_enter Try.func16, Try.ntmps16
    go_wp2_with (go_at_call 12; (with_reducible refine cA.mono ?_); rintro e w1 ⟨rfl, rfl⟩)
    go_ret
    exact ⟨rfl, rfl⟩
  rw [hph] at cA
  have hb : Hid (Ls l p c f t = decide (c < l.length → t < tk l c)) := by
    show _ = _
    unfold Ls
    by_cases h1 : c = l.length
    · simp [hft, hph, h1]
    · by_cases h2 : t < tk l c
      · simp [hft, hph, h1, h2]
      · have : c < l.length := by omega
        simp [hft, hph, h1, h2, this]
  generalize Ls l p c f t = b' at hb ⊢
  go_enter Try.func16, Try.ntmps16
  go_wp2_with (go_at_call 12; (with_reducible refine cA.mono ?_); rintro e w1 ⟨rfl, rfl⟩)
  go_loopg [7] l.length (fun j p7 wr => ∃ q : Nat, q + j = l.length ∧ p7 = .int .i64 (q : Int) ∧ (c < q → t < tk l c) ∧ w1 = wr)
  case atStart => exact ⟨0, by omega, rfl, fun h => by omega, rfl⟩
  case round =>
    obtain ⟨q, hq, rfl, hqc, rfl⟩ := hrel
    replace hqc := Lib.hid hqc
    by_cases hj : q < l.length
    · obtain ⟨r, hr⟩ : ∃ x, l[q]? = some x := ⟨l[q], List.getElem?_eq_getElem hj⟩
      obtain ⟨b, off, rfl, x0, x1⟩ := hL.get hr
      replace x0 : w1.cell? ⟨b, off + q * 2, none⟩ = some (.int .i64 r.tick) := x0
      have hk0 := tk_get hr
      have hk1 := ph_get hr
      by_cases hlt : q < p
      · have hle2 : r.tick ≤ f := by rw [← hk0]; exact hp.lo q hlt
        have hn : Hid (c < q + 1 → t < tk l c) := Lib.hid fun h => hqc.out (by have := hc.ge; omega)
        clear hr hL hk0 hk1 hp hc hR hce cA hqc hb hph
        obtain ⟨t', p'⟩ := r
        simp only at *
        go_wp2_with fail
        go_roundg (l.length - (q + 1))
        case measure => omega
        case rel => exact ⟨q + 1, by omega, by go_num, hn.out, rfl⟩
      · have hgt : f < r.tick := by rw [← hk0]; exact hp.hi q (by omega) hj
        by_cases hqc2 : q < c
        · have he : r.phase = 2 := by rw [← hk1, ← hph]; exact hc.same q (by omega) hqc2
          have hn : Hid (c < q + 1 → t < tk l c) := Lib.hid fun h => by omega
          clear hr hL hk0 hk1 hp hc hR hce cA hqc hb hph
          obtain ⟨t', p'⟩ := r
          simp only at *
          subst he
          go_wp2_with fail
          all_goals (go_roundg (l.length - (q + 1)))
          all_goals first
            | omega
            | exact ⟨q + 1, by omega, by go_num, hn.out, rfl⟩
        · by_cases hqe : q = c
          · subst hqe
            have hne : r.phase ≠ 2 := by rw [← hk1, ← hph]; exact hc.other hj
            have hb2 : b' = decide (t < r.tick) := by rw [hb.out, hk0]; simp [hj]
            have hn : t < r.tick → Hid (q < q + 1 → t < tk l q) := fun h => Lib.hid fun _ => by rw [hk0]; exact h
            clear hr hL hk0 hk1 hp hc hR hce cA hqc hb hph
            obtain ⟨t', p'⟩ := r
            simp only at *
            by_cases htt : t < t'
            · have hn2 := hn htt
              clear hb2 hn
              go_wp2_with fail
              go_roundg (l.length - (q + 1))
              case measure => omega
              case rel => exact ⟨q + 1, by omega, by go_num, hn2.out, rfl⟩
            · rw [decide_eq_false htt] at hb2
              have htt2 : t' ≤ t := by omega
              clear hn
              subst hb2
              go_wp2_with fail
              go_ret
              exact ⟨rfl, rfl⟩
          · have htt : t < r.tick := by
              have h1 := hqc.out (by omega)
              have h2 := hR.up c q (by omega) hj
              omega
            have hn : Hid (c < q + 1 → t < tk l c) := Lib.hid fun _ => hqc.out (by omega)
            clear hr hL hk0 hk1 hp hc hR hce cA hqc hb hph
            obtain ⟨t', p'⟩ := r
            simp only at *
            go_wp2_with fail
            go_roundg (l.length - (q + 1))
            case measure => omega
            case rel => exact ⟨q + 1, by omega, by go_num, hn.out, rfl⟩
    · have hb2 : b' = true := by
        rw [hb.out]
        exact decide_eq_true fun h => hqc.out (by omega)
      clear cA hb
      subst hb2
      go_wp2_with fail
      go_ret
      exact ⟨rfl, rfl⟩
theorem light_any (ao : Option Addr) (cap : Nat) (l : List Rowp) (t : Int) (W : World) (hL : Rowps W ao cap l) :
    Calls Try.prog 7 #[.slice ao l.length cap, .int .i64 t] W fun e w' => ∃ k, e = .returned (.bool k) ∧ (k = true → Ris l ∧ l.length ≤ 60 ∧ 0 ≤ t) ∧ Below W.heap.size W w' := by
  have cR := rising_any ao cap l W hL
  have hm := hL.len
  have hm2 := hL.top
  unfold maxLen at hm2
  by_cases h1 : l.length ≤ 60
  · go_enter Try.func7, Try.ntmps7
    go_wp2_with (go_at_call 19; (with_reducible refine cR.mono ?_); rintro e w1 ⟨k, rfl, hk, hb1⟩; cases k)
    all_goals (try simp only [Bool.false_eq_true, false_implies, true_implies] at hk)
    all_goals first
      | (go_ret; exact ⟨_, rfl, (fun h => by cases h), hb1⟩)
      | (go_ret; exact hb1)
      | (by_cases ht : 0 ≤ t
         · go_ret
           exact ⟨_, rfl, (fun h => ⟨hk, h1, ht⟩), hb1⟩
         · go_ret
           refine ⟨_, rfl, (fun h => ?_), hb1⟩
           simp at h
           omega)
  · go_enter Try.func7, Try.ntmps7
    go_wp2_with fail
    go_ret
    exact ⟨rfl, Below.refl _ _⟩
end Go.Proofs.Ytjcopnhienijjaa
