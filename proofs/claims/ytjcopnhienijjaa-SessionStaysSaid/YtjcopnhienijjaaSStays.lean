/-
  The walk of SessionStays.
-/
import Derived.Test.YtjcopnhienijjaaSesE
namespace Go.Proofs.Ytjcopnhienijjaa
open Go.RowKit
set_option maxRecDepth 8000 in
set_option maxHeartbeats 1000000 in
theorem stays_any (ao : Option Addr) (cap : Nat) (l : List Rowp) (hF : ∀ m ∈ l, m.Fit) (t n : Int) (W : World) (hL : Rowps W ao cap l) :
    Calls Try.prog 6 #[.slice ao l.length cap, .int .i64 t, .int .i64 n] W fun e w' => e = .returned (.bool true) ∧ Below W.heap.size W w' := by
  have cL := light_any ao cap l t W hL
  have cV := fun w => alive8_any w
  by_cases hg : Ris l ∧ l.length ≤ 60 ∧ 0 ≤ t
  · by_cases hb : 0 ≤ n ∧ n ≤ 1152921504606846976 ∧ t ≤ 1152921504606846976
    · obtain ⟨hn0, hn1, ht1⟩ := hb
      obtain ⟨hR, h60, ht⟩ := hg
      obtain ⟨p, hp⟩ := Pas.exists hR t
      obtain ⟨c, hc⟩ := Chg.exists l p hp.le
      obtain ⟨v, hx⟩ := Rs.exists hc.le t
      obtain ⟨p', hp'⟩ := Pas.exists hR (t + n)
      have cR := fun w hw => rest_any ao cap l (by omega) hF t ht p c hp hc v hx w hw
      have cA := fun w hw => at_any ao cap l (by omega) t p hp w hw
      have cB := fun w hw => at_any ao cap l (by omega) (t + n) p' hp' w hw
      by_cases hlt : c < l.length
      · obtain ⟨-, hv⟩ | ⟨h0, -⟩ := hx
        rotate_left
        · omega
        obtain ⟨p2, hp2⟩ := Pas.exists hR (tk l c)
        have cD := fun w hw => at_any ao cap l (by omega) (tk l c) p2 hp2 w hw
        have ev : t + v = tk l c := by omega
        rw [← ev] at cD
        have hpos : 0 < v := by
          have := hp.hi c hc.ge hlt
          omega
        have hne : phN l p2 ≠ phN l p := phase_turns hR hc hlt hp2
        have hsame : n < v → phN l p' = phN l p := fun h => phase_stays hp hp' hc (by omega) (fun _ => by omega)
        have hvs : v < 9223372036854775808 - t := by
          obtain ⟨r, hr⟩ : ∃ x, l[c]? = some x := ⟨l[c], List.getElem?_eq_getElem hlt⟩
          have := (fit_tk hF hr).2
          rw [← tk_get hr] at this
          omega
        have hw1 : IntKind.i64.wrap (t + n) = t + n := IntWalk.i64_in _ (by omega)
        have hw2 : IntKind.i64.wrap (t + v) = t + v := IntWalk.i64_in _ (by omega)
        generalize phN l p = z at cA hne hsame
        generalize phN l p' = y at cB hsame
        generalize phN l p2 = x at cD hne
        have hnd : ((x : Int) != z) = true := by simpa using hne
        have d1 : decide (n < 0) = false := by simp; omega
        have d2 : decide (1152921504606846976 < n) = false := by simp; omega
        have d3 : decide (1152921504606846976 < t) = false := by simp; omega
        have d4 : decide (v < 0) = false := by simp; omega
        have d5 : decide (0 < v) = true := by simp; omega
        clear hp hc hp' hp2 hv ev hR hne
        by_cases hnv : n < v
        · obtain rfl := hsame hnv
          have d6 : decide (n < v) = true := by simp; omega
          clear hsame hvs
          go_enter Try.func6, Try.ntmps6
          go_wp2_with (first
            | (go_at_call 7; (with_reducible refine cL.mono ?_); rintro e w1 ⟨kk, rfl, -, hb1⟩; have hL1 := hL.below hb1; cases kk)
            | (go_at_call 17; (with_reducible refine (cR _ hL1).mono ?_); rintro e w2 ⟨rfl, hb2⟩; have hB2 := hb1.trans (hb2.mono hb1.size); have hL2 := hL.below hB2)
            | (go_at_call 11; (with_reducible refine (cB _ hL2).mono ?_); rintro e w3 ⟨rfl, hb3⟩; have hB3 := hB2.trans (hb3.mono hB2.size); have hL3 := hL.below hB3)
            | (go_at_call 11; (with_reducible refine (cA _ hL3).mono ?_); rintro e w4 ⟨rfl, hb4⟩; have hB4 := hB3.trans (hb4.mono hB3.size); have hL4 := hL.below hB4)
            | (go_at_call 11; (with_reducible refine (cD _ hL4).mono ?_); rintro e w5 ⟨rfl, hb5⟩; have hB5 := hB4.trans (hb5.mono hB4.size); have hL5 := hL.below hB5)
            | (go_at_call 11; (with_reducible refine (cA _ hL5).mono ?_); rintro e w6 ⟨rfl, hb6⟩; have hB6 := hB5.trans (hb6.mono hB5.size))
            | (go_at_call 8; (with_reducible refine (cV _).mono ?_); rintro e w7 ⟨rfl, hb7⟩))
          all_goals go_ret
          all_goals first
            | exact ⟨rfl, hb1.trans (hb7.mono hb1.size)⟩
            | exact ⟨rfl, hB6.trans (hb7.mono hB6.size)⟩
        · have d6 : decide (n < v) = false := by simp; omega
          clear hsame hvs
          go_enter Try.func6, Try.ntmps6
          go_wp2_with (first
            | (go_at_call 7; (with_reducible refine cL.mono ?_); rintro e w1 ⟨kk, rfl, -, hb1⟩; have hL1 := hL.below hb1; cases kk)
            | (go_at_call 17; (with_reducible refine (cR _ hL1).mono ?_); rintro e w2 ⟨rfl, hb2⟩; have hB2 := hb1.trans (hb2.mono hb1.size); have hL4 := hL.below hB2)
            | (go_at_call 11; (with_reducible refine (cD _ hL4).mono ?_); rintro e w5 ⟨rfl, hb5⟩; have hB5 := hB2.trans (hb5.mono hB2.size); have hL5 := hL.below hB5)
            | (go_at_call 11; (with_reducible refine (cA _ hL5).mono ?_); rintro e w6 ⟨rfl, hb6⟩; have hB6 := hB5.trans (hb6.mono hB5.size))
            | (go_at_call 8; (with_reducible refine (cV _).mono ?_); rintro e w7 ⟨rfl, hb7⟩))
          all_goals go_ret
          all_goals first
            | exact ⟨rfl, hb1.trans (hb7.mono hb1.size)⟩
            | exact ⟨rfl, hB6.trans (hb7.mono hB6.size)⟩
      · obtain ⟨h0, -⟩ | ⟨h0, rfl⟩ := hx
        · omega
        have hsame : phN l p' = phN l p := phase_stays hp hp' hc (by omega) (fun h => absurd h hlt)
        rw [hsame] at cB
        have hw1 : IntKind.i64.wrap (t + n) = t + n := IntWalk.i64_in _ (by omega)
        generalize phN l p = z at cA cB
        have d1 : decide (n < 0) = false := by simp; omega
        have d2 : decide (1152921504606846976 < n) = false := by simp; omega
        have d3 : decide (1152921504606846976 < t) = false := by simp; omega
        clear hp hc hp' hR hsame
        go_enter Try.func6, Try.ntmps6
        go_wp2_with (first
          | (go_at_call 7; (with_reducible refine cL.mono ?_); rintro e w1 ⟨kk, rfl, -, hb1⟩; have hL1 := hL.below hb1; cases kk)
          | (go_at_call 17; (with_reducible refine (cR _ hL1).mono ?_); rintro e w2 ⟨rfl, hb2⟩; have hB2 := hb1.trans (hb2.mono hb1.size); have hL4 := hL.below hB2)
          | (go_at_call 11; (with_reducible refine (cB _ hL4).mono ?_); rintro e w5 ⟨rfl, hb5⟩; have hB5 := hB2.trans (hb5.mono hB2.size); have hL5 := hL.below hB5)
          | (go_at_call 11; (with_reducible refine (cA _ hL5).mono ?_); rintro e w6 ⟨rfl, hb6⟩; have hB6 := hB5.trans (hb6.mono hB5.size))
          | (go_at_call 8; (with_reducible refine (cV _).mono ?_); rintro e w7 ⟨rfl, hb7⟩))
        all_goals go_ret
        all_goals first
          | exact ⟨rfl, hb1.trans (hb7.mono hb1.size)⟩
          | exact ⟨rfl, hB6.trans (hb7.mono hB6.size)⟩
    · clear hg
      go_enter Try.func6, Try.ntmps6
      go_wp2_with (first
        | (go_at_call 7; (with_reducible refine cL.mono ?_); rintro e w1 ⟨kk, rfl, -, hb1⟩; cases kk)
        | (go_at_call 8; (with_reducible refine (cV _).mono ?_); rintro e w7 ⟨rfl, hb7⟩))
      all_goals first
        | (exfalso; omega)
        | (go_ret; exact ⟨rfl, hb1.trans (hb7.mono hb1.size)⟩)
  · go_enter Try.func6, Try.ntmps6
    go_wp2_with (first
      | (go_at_call 7; (with_reducible refine cL.mono ?_); rintro e w1 ⟨kk, rfl, hk, hb1⟩; obtain rfl := no_of hk hg)
      | (go_at_call 8; (with_reducible refine (cV _).mono ?_); rintro e w6 ⟨rfl, hb6⟩))
    go_ret
    exact ⟨rfl, hb1.trans (hb6.mono hb1.size)⟩
end Go.Proofs.Ytjcopnhienijjaa
