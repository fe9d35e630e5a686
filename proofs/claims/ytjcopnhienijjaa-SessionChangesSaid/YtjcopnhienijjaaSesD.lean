/-
  The contracts of slices.IndexFunc and of package session's change, At, Next, Lasts, Rest.
-/
import Derived.Test.YtjcopnhienijjaaSesC
namespace Go.Proofs.Ytjcopnhienijjaa
open Go.RowKit
theorem Rowps.drop {w : World} {ao : Option Addr} {cap : Nat} {l : List Rowp} (h : Rowps w ao cap l) (m : Nat) (hm : m ≤ l.length) : Rowps w (ao.map fun x => x.add (m * 2)) (cap - m) (l.drop m) := by
  have h1 := h.len
  have h2 := h.top
  refine ⟨by rw [List.length_drop]; omega, Nat.le_trans (Nat.sub_le _ _) h2, ?_⟩
  rcases h.at' with h0 | ⟨b, off, ha, hl⟩
  · subst h0; exact .inl (by simp)
  · subst ha
    refine .inr ⟨b, off + m * 2, by rw [Option.map_some, Addr.add_mid], fun i r hi j v hj => ?_⟩
    rw [List.getElem?_drop] at hi
    have h3 := hl (m + i) r hi j v hj
    rw [show off + m * 2 + i * 2 + j = off + (m + i) * 2 + j by omega]
    exact h3
theorem slice_rows (ao : Option Addr) (cap : Nat) (l : List Rowp) (m : Nat) (hm : m ≤ l.length) (w : World) (hL : Rowps w ao cap l) :
    ∃ ao2 cap2, (∀ w, (Instr.slice 22 (.slice ao l.length cap) (some (.int .i64 (m : Int))) none none).run Try.prog w = .ok (.slice ao2 (l.length - m) cap2) w) ∧ ∀ w', Rowps w' ao cap l → Rowps w' ao2 cap2 (l.drop m) := by
  have hl := hL.len
  have ht := hL.top
  unfold maxLen at ht
  have hu := Try.underlying22
  have hc := cells_Rowp
  by_cases h : cap = m
  · subst h
    refine ⟨ao, 0, fun w => ?_, fun w' h' => ⟨by rw [List.length_drop]; omega, Nat.zero_le _, .inl (by rw [List.drop_eq_nil_iff]; exact hl)⟩⟩
    simp [go_sem, Instr.slice]
    intro h; omega
  · refine ⟨Option.map (fun x => x.add (m * 2)) ao, cap - m, fun w => ?_, fun w' h' => h'.drop m hm⟩
    simp [go_sem, Instr.slice]
    rw [if_pos hm, if_neg h]
set_option maxRecDepth 8000 in
set_option maxHeartbeats 1000000 in
/-- The library's search for a row: the first one of which a predicate holds. -/
theorem indexF_any (gn : Nat) (gc : Array Value) (hG : Goes gn) (ao : Option Addr) (cap : Nat) (s : List Rowp) (f : Rowp → Bool) (k n : Nat) (hnl : n = s.length) (hk : k ≤ n) (h1 : ∀ i m, i < k → s[i]? = some m → f m = false) (h2 : ∀ m, s[k]? = some m → f m = true) (v : Int) (hv : (k < n ∧ v = (k : Int)) ∨ (k = n ∧ v = -1))
    (W : World) (hL : Rowps W ao cap s) (hC : ∀ w, Below W.heap.size W w → ∀ m, m ∈ s → Calls Try.prog gn (#[vRowp m] ++ gc) w fun e w' => e = .returned (.bool (f m)) ∧ Below w.heap.size w w') :
    Calls Try.prog 27 #[.slice ao n cap, .func (.func gn) #[] gc] W fun e w' => e = .returned (.int .i64 v) ∧ Below W.heap.size W w' := by
  subst hnl
  have hm := hL.len
  have hm2 := hL.top
  unfold maxLen at hm2
  go_enter Try.func27, Try.ntmps27
  go_wp2_with fail
  go_loopg [8] s.length (fun j p8 wr => Below W.heap.size W wr ∧ ∃ q : Nat, q + j = s.length ∧ p8 = .int .i64 (q : Int) ∧ q ≤ k)
  case atStart => exact ⟨Below.refl _ _, 0, by omega, rfl, by omega⟩
  case round =>
    obtain ⟨hB, q, hq, rfl, hqk⟩ := hrel
    by_cases hj : q < s.length
    · obtain ⟨r, hr⟩ : ∃ x, s[q]? = some x := ⟨s[q], List.getElem?_eq_getElem hj⟩
      obtain ⟨b, off, rfl, x0, x1⟩ := (hL.below hB).get hr
      replace x0 : wr.cell? ⟨b, off + q * 2, none⟩ = some (.int .i64 r.tick) := x0
      have hCr := fun w hw => hC w hw r (List.mem_of_getElem? hr)
      have hG1 := hG (#[vRowp r] ++ gc)
      by_cases hqk2 : q < k
      · rw [h1 q r hqk2 hr] at hCr
        clear hr hL hC h1 h2 hv
        obtain ⟨t', p'⟩ := r
        simp only [vRowp, cRowp] at *
        go_wp2_with ((with_reducible refine (hCr _ hB).mono ?_); rintro e w1 ⟨rfl, hb1⟩; have hB1 := hB.trans (hb1.mono hB.size))
        go_roundg (s.length - (q + 1))
        case measure => omega
        case rel => exact ⟨hB1, q + 1, by omega, by go_num, by omega⟩
      · obtain rfl : q = k := by omega
        rw [h2 r hr] at hCr
        obtain ⟨-, rfl⟩ | ⟨h0, -⟩ := hv
        rotate_left
        · omega
        clear hr hL hC h1 h2
        obtain ⟨t', p'⟩ := r
        simp only [vRowp, cRowp] at *
        go_wp2_with ((with_reducible refine (hCr _ hB).mono ?_); rintro e w1 ⟨rfl, hb1⟩; have hB1 := hB.trans (hb1.mono hB.size))
        go_ret
        exact ⟨rfl, hB1⟩
    · obtain ⟨h0, -⟩ | ⟨-, rfl⟩ := hv
      · omega
      clear hC h1 h2
      go_wp2_with fail
      go_ret
      exact ⟨rfl, hB⟩
theorem changeC_any (r : Rowp) (b : Nat) (z : Int) (W : World) (h : W.cell? ⟨b, 0, none⟩ = some (.int .i64 z)) (hb : b < W.heap.size) :
    Calls Try.prog 28 (#[vRowp r] ++ #[.pointer (some ⟨b, 0, none⟩)]) W fun e w' => e = .returned (.bool (decide (r.phase ≠ z))) ∧ Below W.heap.size W w' := by
  obtain ⟨t, p⟩ := r
  simp only [vRowp, cRowp]
  have hb0 := fun o => (Below.refl W.heap.size W).alloc (Nat.le_refl _) o
  have hd : ((p : Int) != z) = decide (p ≠ z) := by by_cases h : p = z <;> simp [h]
  generalize decide (p ≠ z) = k at hd ⊢
  go_enter Try.func28, Try.ntmps28
  have hBox : Blk (W.alloc (.cells #[.int .i64 t, .int .i64 p] 33)) W.heap.size 33 #[.int .i64 t, .int .i64 p] := Blk.new _ _ _
  have x1 := hBox.cell_eq 1 _ rfl
  go_wp2_with fail
  all_goals go_ret
  all_goals exact ⟨by simp_all, hb0 _⟩
set_option maxRecDepth 8000 in
set_option maxHeartbeats 1000000 in
theorem change_any (ao : Option Addr) (cap : Nat) (l : List Rowp) (h60 : l.length ≤ 1000000) (t : Int) (p c : Nat) (hp : Pas l t p) (hc : Chg l p c) (v : Int) (k : Bool) (hv : Nx l c v k) (W : World) (hL : Rowps W ao cap l) :
    Calls Try.prog 24 #[.slice ao l.length cap, .int .i64 t] W fun e w' => e = .returned (.tuple #[.int .i64 v, .bool k]) ∧ Below W.heap.size W w' := by
  have cP := passed_any ao cap l h60 t p hp W hL
  have cH := fun w (hw : Rowps w ao cap l) => phase_any ao cap l p hp.le w hw
  obtain ⟨ao2, cap2, hS, hD⟩ := slice_rows ao cap l p hp.le W hL
  have hm := hL.len
  have hm2 := hL.top
  have hple := hp.le
  have hce := hc.le
  have hpc := hc.ge
  unfold maxLen at hm2
  obtain ⟨z, hz⟩ : ∃ z, phN l p = z := ⟨_, rfl⟩
  have hsame := hc.same
  have hoth := hc.other
  rw [hz] at cH hsame hoth
  have cI : ∀ w b v', Rowps w ao2 cap2 (l.drop p) → w.cell? ⟨b, 0, none⟩ = some (.int .i64 z) → b < w.heap.size → ((c < l.length ∧ v' = ((c - p : Nat) : Int)) ∨ (c = l.length ∧ v' = -1)) → Calls Try.prog 27 #[.slice ao2 (l.length - p) cap2, .func (.func 28) #[] #[.pointer (some ⟨b, 0, none⟩)]] w fun e w' => e = .returned (.int .i64 v') ∧ Below w.heap.size w w' := fun w b v' h1 h2 h3 h4 =>
    indexF_any _ _ (goes_of Try.func28 (by kernel_rfl) (by kernel_rfl)) ao2 cap2 (l.drop p) (fun r => decide (r.phase ≠ z)) (c - p) (l.length - p) (by rw [List.length_drop]) (by omega)
      (fun i m hi hm => by
        rw [List.getElem?_drop] at hm
        have := hsame (p + i) (by omega) (by omega)
        rw [ph_get hm] at this
        simp [this])
      (fun m hm => by
        rw [List.getElem?_drop] at hm
        have hlt := (List.getElem?_eq_some_iff.1 hm).1
        have := hoth (by omega)
        rw [show p + (c - p) = c by omega] at hm
        rw [ph_get hm] at this
        simp [this])
      v' (by omega) w h1
      (fun w' hw' m _ => changeC_any m b z w' ((hw'.cell (p := ⟨b, 0, none⟩) h3).trans h2) (Nat.lt_of_lt_of_le h3 hw'.size))
  clear hsame hoth hc hz hp
  have hb0 := fun (w : World) o => (Below.refl w.heap.size w).alloc (Nat.le_refl _) o
  by_cases hlt : c < l.length
  · obtain ⟨r, hr⟩ : ∃ x, l[c]? = some x := ⟨l[c], List.getElem?_eq_getElem hlt⟩
    obtain ⟨-, hv, rfl⟩ | ⟨h0, -⟩ := hv
    rotate_left
    · omega
    obtain rfl : v = r.tick := hv.trans (tk_get hr)
    obtain ⟨d, hd⟩ : ∃ d, d = c - p := ⟨_, rfl⟩
    have hr2 : (l.drop p)[d]? = some r := by rw [List.getElem?_drop, hd, show p + (c - p) = c by omega]; exact hr
    have hdl : d < l.length - p := by omega
    have cJ := fun w b h1 h2 h3 => cI w b _ h1 h2 h3 (.inl ⟨hlt, rfl⟩)
    rw [← hd] at cJ
    have hX : ∀ w, Rowps w ao cap l → ∃ b off, ao2 = some ⟨b, off, none⟩ ∧ w.cell? ⟨b, off + d * 2, none⟩ = some (.int .i64 r.tick) := fun w hw => by
      obtain ⟨b, off, h1, h2, -⟩ := (hD w hw).get hr2
      exact ⟨b, off, h1, h2⟩
    obtain ⟨b2, off2, rfl, -⟩ := hX W hL
    have hY : ∀ w, Rowps w ao cap l → w.cell? ⟨b2, off2 + d * 2, none⟩ = some (.int .i64 r.tick) := fun w hw => by
      obtain ⟨b, off, h1, h2⟩ := hX w hw
      cases h1
      exact h2
    clear hX hr hr2 hd cI hv
    obtain ⟨t', p'⟩ := r
    simp only at *
    go_enter Try.func24, Try.ntmps24
    go_wp2_with (first
      | (go_at_call 20; (with_reducible refine cP.mono ?_); rintro e w1 ⟨rfl, hb1⟩; have hL1 := hL.below hb1)
      | (go_at_call 21; (with_reducible refine (cH _ hL1).mono ?_); rintro e w2 ⟨rfl, rfl⟩)
      | (go_at_call 27; (with_reducible refine (cJ _ _ (hD _ (hL1.below (hb0 _ _))) ((Blk.new _ _ _).cell_eq 0 _ rfl) (by simp)).mono ?_); rintro e w3 ⟨rfl, hb3⟩; have y0 := hY _ ((hL1.below (hb0 _ _)).below hb3)))
    go_ret2
    exact ⟨rfl, hb1.trans (((hb0 _ _).trans (hb3.mono (by simp))).mono hb1.size)⟩
  · obtain ⟨h0, -⟩ | ⟨-, rfl, rfl⟩ := hv
    · omega
    have cJ := fun w b h1 h2 h3 => cI w b (-1) h1 h2 h3 (.inr ⟨by omega, rfl⟩)
    clear cI
    go_enter Try.func24, Try.ntmps24
    go_wp2_with (first
      | (go_at_call 20; (with_reducible refine cP.mono ?_); rintro e w1 ⟨rfl, hb1⟩; have hL1 := hL.below hb1)
      | (go_at_call 21; (with_reducible refine (cH _ hL1).mono ?_); rintro e w2 ⟨rfl, rfl⟩)
      | (go_at_call 27; (with_reducible refine (cJ _ _ (hD _ (hL1.below (hb0 _ _))) ((Blk.new _ _ _).cell_eq 0 _ rfl) (by simp)).mono ?_); rintro e w3 ⟨rfl, hb3⟩))
    go_ret2
    exact ⟨rfl, hb1.trans (((hb0 _ _).trans (hb3.mono (by simp))).mono hb1.size)⟩
theorem at_any (ao : Option Addr) (cap : Nat) (l : List Rowp) (h60 : l.length ≤ 1000000) (t : Int) (p : Nat) (hp : Pas l t p) (W : World) (hL : Rowps W ao cap l) :
    Calls Try.prog 11 #[.slice ao l.length cap, .int .i64 t] W fun e w' => e = .returned (.int .i64 (phN l p)) ∧ Below W.heap.size W w' := by
  have cP := passed_any ao cap l h60 t p hp W hL
  have cH := fun w (hw : Rowps w ao cap l) => phase_any ao cap l p hp.le w hw
  go_enter Try.func11, Try.ntmps11
  go_wp2_with (first
    | (go_at_call 20; (with_reducible refine cP.mono ?_); rintro e w1 ⟨rfl, hb1⟩; have hL1 := hL.below hb1)
    | (go_at_call 21; (with_reducible refine (cH _ hL1).mono ?_); rintro e w2 ⟨rfl, rfl⟩))
  go_ret
  exact ⟨rfl, hb1⟩
set_option maxHeartbeats 1000000 in
theorem next_any (ao : Option Addr) (cap : Nat) (l : List Rowp) (h60 : l.length ≤ 1000000) (t : Int) (p : Nat) (hp : Pas l t p) (v : Int) (k : Bool) (hv : Nx l p v k) (W : World) (hL : Rowps W ao cap l) :
    Calls Try.prog 9 #[.slice ao l.length cap, .int .i64 t] W fun e w' => e = .returned (.tuple #[.int .i64 v, .bool k]) ∧ Below W.heap.size W w' := by
  have cP := passed_any ao cap l h60 t p hp W hL
  have hm := hL.len
  have hm2 := hL.top
  have hple := hp.le
  unfold maxLen at hm2
  by_cases hlt : p < l.length
  · obtain ⟨r, hr⟩ : ∃ x, l[p]? = some x := ⟨l[p], List.getElem?_eq_getElem hlt⟩
    obtain ⟨-, hv, rfl⟩ | ⟨h0, -⟩ := hv
    rotate_left
    · omega
    obtain rfl : v = r.tick := hv.trans (tk_get hr)
    obtain ⟨b, off, rfl, -⟩ := hL.get hr
    have hY : ∀ w, Rowps w (some ⟨b, off, none⟩) cap l → w.cell? ⟨b, off + p * 2, none⟩ = some (.int .i64 r.tick) := fun w hw => by
      obtain ⟨b', off', h1, h2, -⟩ := hw.get hr
      cases h1
      exact h2
    have hd : ((p : Int) == (l.length : Int)) = false := by simp; omega
    clear hr hv hp
    obtain ⟨t', p'⟩ := r
    simp only at *
    go_enter Try.func9, Try.ntmps9
    go_wp2_with (go_at_call 20; (with_reducible refine cP.mono ?_); rintro e w1 ⟨rfl, hb1⟩; have y0 := hY _ (hL.below hb1))
    go_ret2
    exact ⟨rfl, hb1⟩
  · obtain ⟨h0, -⟩ | ⟨h0, rfl, rfl⟩ := hv
    · omega
    subst h0
    clear hp
    go_enter Try.func9, Try.ntmps9
    go_wp2_with (go_at_call 20; (with_reducible refine cP.mono ?_); rintro e w1 ⟨rfl, hb1⟩)
    go_ret2
    exact ⟨rfl, hb1⟩
set_option maxHeartbeats 1000000 in
theorem rest_any (ao : Option Addr) (cap : Nat) (l : List Rowp) (h60 : l.length ≤ 1000000) (hF : ∀ m ∈ l, m.Fit) (t : Int) (ht : 0 ≤ t) (p c : Nat) (hp : Pas l t p) (hc : Chg l p c) (v : Int) (hv : Rs l c t v) (W : World) (hL : Rowps W ao cap l) :
    Calls Try.prog 17 #[.slice ao l.length cap, .int .i64 t] W fun e w' => e = .returned (.int .i64 v) ∧ Below W.heap.size W w' := by
  obtain ⟨v0, k0, hx⟩ := Nx.exists hc.le
  have cC := change_any ao cap l h60 t p c hp hc v0 k0 hx W hL
  have hpc := hc.ge
  by_cases hlt : c < l.length
  · obtain ⟨r, hr⟩ : ∃ x, l[c]? = some x := ⟨l[c], List.getElem?_eq_getElem hlt⟩
    have hgt := hp.hi c hpc hlt
    have hi := fit_tk hF hr
    have hi2 := hi.2
    obtain ⟨-, hx, rfl⟩ | ⟨h0, -⟩ := hx
    rotate_left
    · omega
    obtain ⟨-, hv⟩ | ⟨h0, -⟩ := hv
    rotate_left
    · omega
    rw [← hx] at hv hgt
    subst hv
    rw [tk_get hr] at hx
    rw [← hx] at hi2
    clear hr hi hx hp hc hF hL
    have hw : IntKind.i64.wrap (v0 - t) = v0 - t := IntWalk.i64_in _ (by omega)
    have hd : decide (t < 0) = false := by simp; omega
    have hd3 : ¬ t < 0 := by omega
    go_enter Try.func17, Try.ntmps17
    go_wp2_with (go_at_call 24; (with_reducible refine cC.mono ?_); rintro e w1 ⟨rfl, hb1⟩)
    go_ret
    exact ⟨rfl, hb1⟩
  · obtain ⟨h0, -⟩ | ⟨-, rfl, rfl⟩ := hx
    · omega
    obtain ⟨h0, -⟩ | ⟨-, rfl⟩ := hv
    · omega
    go_enter Try.func17, Try.ntmps17
    go_wp2_with (go_at_call 24; (with_reducible refine cC.mono ?_); rintro e w1 ⟨rfl, hb1⟩)
    go_ret
    exact ⟨rfl, hb1⟩
end Go.Proofs.Ytjcopnhienijjaa
