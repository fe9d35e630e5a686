/-
  The program's window in memory: WP; accepts, isPrice, Moved, Ref, Len, New, and what a nil one answers.
  The program's window: what a trade adds to the sums, and a sum after a change by it.
-/
import Derived.Test.YteljjjdejjkgfaaGF
import Derived.Test.YteljjjdejjkgfaaOwdq
import Derived.Test.YteljjjdejjkgfaaTwoq
import Derived.Test.YteljjjdejjkgfaaWideSubq
import Derived.Test.YteljjjdejjkgfaaEntq
import Derived.Test.YteljjjdejjkgfaaMemq
namespace Go.Proofs.Yteljjjdejjkgfaa
open Go.RowKit
set_option linter.unusedSimpArgs false
theorem blk_frmW {S : Nat → Prop} {w w' : World} {g : Nat} {t : TypeId} {cs : Array Value} (h : Blk w g t cs) (hf : Frm S w w') (hg : ¬ S g) : Blk w' g t cs := (hf.block g h.lt hg).trans h
/-- The cells of a window: its slice has n trades, its sums are P and Q. -/
abbrev cWin (span grid ref last : Int) (ao : Option Addr) (n cap : Nat) (P Q : Int) : Array Value := #[.int .i64 span, .int .i64 grid, .int .i64 ref, .int .i64 last, .slice ao n cap, .int .u64 (hi P), .int .u64 (lo P), .int .u64 (hi Q), .int .u64 (lo Q)]
structure WpB (w : World) (g : Nat) (S : Nat → Prop) (ko : Option Nat) (ao : Option Addr) (cap : Nat) (m : Wn) : Prop where
  hg : Blk w g 55 (cWin m.span m.grid m.ref m.last ao m.L.length cap (pqs m.L) (qqs m.L))
  how : OwD 59 3 w ko ao cap m.L.length (tcs m.L)
  sg : S g
  sk : ∀ k, ko = some k → S k ∧ k ≠ g
  lt : ∀ c, S c → c < w.heap.size
  ok : m.Ok
/-- The program's window at g; it has the blocks S. -/
def WP (w : World) (g : Nat) (S : Nat → Prop) (m : Wn) : Prop := ∃ ko ao cap, WpB w g S ko ao cap m
section
variable {w w' W : World} {g : Nat} {S T : Nat → Prop} {m : Wn} {ko : Option Nat} {ao : Option Addr} {cap : Nat}
theorem WpB.frm (h : WpB w g S ko ao cap m) (hf : Frm T w w') (hT : ∀ c, T c → ¬ S c) : WpB w' g S ko ao cap m := by
  have k : ∀ c, S c → w'.heap[c]? = w.heap[c]? := fun c hc => hf.block c (h.lt c hc) (fun ht => hT c ht hc)
  exact ⟨(k _ h.sg).trans h.hg, h.how.keep (fun c e => k c (h.sk c e).1), h.sg, h.sk, fun c hc => Nat.lt_of_lt_of_le (h.lt c hc) hf.size, h.ok⟩
theorem WpB.below (h : WpB w g S ko ao cap m) (hb : Below w.heap.size w w') : WpB w' g S ko ao cap m := h.frm (Frm.of_below (S := fun _ => False) hb) (fun _ f => f.elim)
theorem WP.frm (h : WP w g S m) (hf : Frm T w w') (hT : ∀ c, T c → ¬ S c) : WP w' g S m := by
  obtain ⟨ko, ao, cap, h⟩ := h
  exact ⟨ko, ao, cap, h.frm hf hT⟩
theorem WP.below (h : WP w g S m) (hb : Below w.heap.size w w') : WP w' g S m := h.frm (Frm.of_below (S := fun _ => False) hb) (fun _ f => f.elim)
theorem WP.lt (h : WP w g S m) : ∀ c, S c → c < w.heap.size := by
  obtain ⟨ko, ao, cap, h⟩ := h
  exact h.lt
theorem WP.ok (h : WP w g S m) : m.Ok := by
  obtain ⟨ko, ao, cap, h⟩ := h
  exact h.ok
/-- It has turned, and nothing else. -/
def Tp (W : World) (g : Nat) (S : Nat → Prop) (m : Wn) (w' : World) : Prop := ∃ S', WP w' g S' m ∧ Frm S W w' ∧ ∀ c, S' c → S c ∨ W.heap.size ≤ c
theorem Tp.below (h : WP W g S m) (hb : Below W.heap.size W w') : Tp W g S m w' := ⟨S, h.below hb, Frm.of_below hb, fun _ h => .inl h⟩
theorem Tp.more (h : Tp W g S m w) (hb : Below w.heap.size w w') : Tp W g S m w' := by
  obtain ⟨S', h1, h2, h3⟩ := h
  exact ⟨S', h1.below hb, h2.trans (Frm.of_below (S := fun _ => False) hb) (fun _ f => f.elim), h3⟩
theorem priceV_ok (p g : Int) (hg : 1 ≤ g) : (priceV p g == 0) = decide (refOk p g) := by
  unfold priceV refOk
  rw [if_neg (by omega)]
  by_cases h : p < 1 ∨ 1099511627776 < p
  · rw [if_pos h, decide_eq_false (by omega)]; rfl
  · rw [if_neg h]
    by_cases h2 : p % g = 0
    · rw [if_pos h2, decide_eq_true ⟨by omega, by omega, h2⟩]; rfl
    · rw [if_neg h2, decide_eq_false (by omega)]; rfl
set_option maxRecDepth 8000 in
theorem paccepts_any (t : Int) (h : WpB W g S ko ao cap m) : Calls Try.prog 26 #[.pointer (some ⟨g, 0, none⟩), .int .i64 t] W fun e w' => e = .returned (.bool (decide (tickOk m.last t))) ∧ Below W.heap.size W w' := by
  have c3 := h.hg.cell_eq 3 _ rfl
  have hl := h.ok.l
  clear h
  have key : (decide (tickOk m.last t) = false ∧ (decide (m.last ≤ t) = false ∨ (decide (m.last ≤ t) = true ∧ decide (t ≤ 1152921504606846976) = false))) ∨ (decide (tickOk m.last t) = true ∧ decide (m.last ≤ t) = true ∧ decide (t ≤ 1152921504606846976) = true) := by
    unfold tickOk
    simp only [decide_eq_true_eq, decide_eq_false_iff_not]
    omega
  clear hl
  generalize decide (tickOk m.last t) = v at *
  generalize m.last = a at *
  rcases key with ⟨rfl, k1 | ⟨k1, k2⟩⟩ | ⟨rfl, k1, k2⟩
  all_goals
    go_enter Try.func26, Try.ntmps26
    go_wp2_with fail
    go_ret
    exact ⟨rfl, Below.refl _ _⟩
set_option maxRecDepth 8000 in
theorem pisprice_any (p : Int) (hp : In64 p) (W : World) : Calls Try.prog 25 #[.int .i64 p] W fun e w' => e = .returned (.bool (decide (1 ≤ p ∧ p ≤ 1099511627776))) ∧ Below W.heap.size W w' := by
  have cP := fprice_any p 1 hp (by unfold In64; omega) W
  have hv : decide (1 ≤ p ∧ p ≤ 1099511627776) = (priceV p 1 == 0) := by
    rw [priceV_ok p 1 (by omega)]
    exact decide_eq_decide.2 ⟨fun h => ⟨h.1, h.2, by omega⟩, fun h => ⟨h.1, h.2.1⟩⟩
  rw [hv]
  clear hv
  generalize priceV p 1 = x at *
  go_enter Try.func25, Try.ntmps25
  go_wp2_with (first
    | (go_at_call 19; refine cP.mono ?_; rintro e w2 ⟨rfl, hb⟩; clear cP)
    | fail)
  go_ret
  exact ⟨rfl, hb⟩
set_option maxRecDepth 8000 in
theorem wp_ref (h : WP W g S m) : Calls Try.prog 11 #[.pointer (some ⟨g, 0, none⟩)] W fun e w' => e = .returned (.int .i64 m.ref) ∧ Below W.heap.size W w' := by
  obtain ⟨ko, ao, cap, h⟩ := h
  have c2 := h.hg.cell_eq 2 _ rfl
  clear h
  go_enter Try.func11, Try.ntmps11
  go_wp2_with fail
  go_ret
  exact ⟨rfl, Below.refl _ _⟩
set_option maxRecDepth 8000 in
theorem wp_len (h : WP W g S m) : Calls Try.prog 12 #[.pointer (some ⟨g, 0, none⟩)] W fun e w' => e = .returned (.int .i64 m.L.length) ∧ Below W.heap.size W w' := by
  obtain ⟨ko, ao, cap, h⟩ := h
  have c4 := h.hg.cell_eq 4 _ rfl
  clear h
  go_enter Try.func12, Try.ntmps12
  go_wp2_with fail
  go_ret
  exact ⟨rfl, Below.refl _ _⟩
theorem wn_ref (W : World) : Calls Try.prog 11 #[.pointer none] W fun e w' => e = .returned (.int .i64 0) ∧ Below W.heap.size W w' := by
  go_enter Try.func11, Try.ntmps11
  go_wp2_with fail
  go_ret
  exact ⟨rfl, Below.refl _ _⟩
theorem wn_len (W : World) : Calls Try.prog 12 #[.pointer none] W fun e w' => e = .returned (.int .i64 0) ∧ Below W.heap.size W w' := by
  go_enter Try.func12, Try.ntmps12
  go_wp2_with fail
  go_ret
  exact ⟨rfl, Below.refl _ _⟩
theorem wn_add (t p q : Int) (W : World) : Calls Try.prog 15 #[.pointer none, .int .i64 t, .int .i64 p, .int .i64 q] W fun e w' => e = .returned (.int .i64 1) ∧ Below W.heap.size W w' := by
  go_enter Try.func15, Try.ntmps15
  go_wp2_with fail
  go_ret
  exact ⟨rfl, Below.refl _ _⟩
theorem wn_mean (t : Int) (W : World) : Calls Try.prog 16 #[.pointer none, .int .i64 t] W fun e w' => e = .returned (.tuple #[.int .i64 0, .bool false]) ∧ Below W.heap.size W w' := by
  go_enter Try.func16, Try.ntmps16
  go_wp2_with fail
  go_ret2
  exact ⟨rfl, Below.refl _ _⟩
theorem wn_roll (t bps : Int) (W : World) : Calls Try.prog 17 #[.pointer none, .int .i64 t, .int .i64 bps] W fun e w' => e = .returned (.tuple #[.int .i64 0, .bool false]) ∧ Below W.heap.size W w' := by
  have cM := wn_mean t W
  have cR := fun w => wn_ref w
  go_enter Try.func17, Try.ntmps17
  go_wp2_with (first
    | (go_at_call 16; refine cM.mono ?_; rintro e w2 ⟨rfl, hb⟩; clear cM)
    | (go_at_call 11; refine (cR _).mono ?_; rintro e w3 ⟨rfl, hb3⟩; clear cR)
    | fail)
  go_ret2
  exact ⟨rfl, hb.trans (hb3.mono hb.size)⟩
theorem wn_reset (p : Int) (W : World) : Calls Try.prog 18 #[.pointer none, .int .i64 p] W fun e w' => e = .returned (.int .i64 1) ∧ Below W.heap.size W w' := by
  go_enter Try.func18, Try.ntmps18
  go_wp2_with fail
  go_ret
  exact ⟨rfl, Below.refl _ _⟩
set_option maxRecDepth 8000 in
set_option maxHeartbeats 4000000 in
theorem wp_moved (a b bps : Int) (ha : In64 a) (hb : In64 b) (_hp : In64 bps) (W : World) : Calls Try.prog 13 #[.int .i64 a, .int .i64 b, .int .i64 bps] W fun e w' => e = .returned (.bool (movedB a b bps)) ∧ Below W.heap.size W w' := by
  have cA := fun w => pisprice_any a ha w
  have cB := fun w => pisprice_any b hb w
  have key : (movedB a b bps = false ∧ (decide (1 ≤ a ∧ a ≤ 1099511627776) = false ∨ (decide (1 ≤ a ∧ a ≤ 1099511627776) = true ∧ (decide (1 ≤ b ∧ b ≤ 1099511627776) = false ∨ (decide (1 ≤ b ∧ b ≤ 1099511627776) = true ∧ (decide (bps < 0) = true ∨ (decide (bps < 0) = false ∧ (decide (10000 ≤ bps) = true ∨ (decide (10000 ≤ bps) = false ∧ (a == b) = true)))))))))
      ∨ (decide (1 ≤ a ∧ a ≤ 1099511627776) = true ∧ decide (1 ≤ b ∧ b ≤ 1099511627776) = true ∧ decide (bps < 0) = false ∧ decide (10000 ≤ bps) = false ∧ (a == b) = false ∧ 1 ≤ a ∧ a ≤ 1099511627776 ∧ 1 ≤ b ∧ b ≤ 1099511627776 ∧ 0 ≤ bps ∧ bps ≤ 9999 ∧ a ≠ b) := by
    by_cases h : 1 ≤ a ∧ a ≤ 1099511627776 ∧ 1 ≤ b ∧ b ≤ 1099511627776 ∧ 0 ≤ bps ∧ bps ≤ 9999 ∧ a ≠ b
    · refine .inr ?_
      simp only [decide_eq_false_iff_not, decide_eq_true_eq, beq_eq_false_iff_ne]
      omega
    · refine .inl ⟨?_, ?_⟩
      · unfold movedB
        rw [decide_eq_false_iff_not]
        omega
      · simp only [decide_eq_true_eq, decide_eq_false_iff_not, beq_iff_eq]
        omega
  clear ha hb
  rcases key with ⟨e, k⟩ | ⟨k1, k2, k5, k6, k7, h1, h2, h3, h4, h5, h6, h7⟩
  · rw [e]
    clear e
    generalize decide (1 ≤ a ∧ a ≤ 1099511627776) = va at *
    generalize decide (1 ≤ b ∧ b ≤ 1099511627776) = vb at *
    rcases k with rfl | ⟨rfl, rfl | ⟨rfl, k5 | ⟨k5, k6 | ⟨k6, k7⟩⟩⟩⟩
    all_goals
      go_enter Try.func13, Try.ntmps13
      go_wp2_with (first
        | (go_at_call 25; (with_reducible refine (cA _).mono ?_); rintro e w2 ⟨rfl, b2⟩; clear cA)
        | (go_at_call 25; (with_reducible refine (cB _).mono ?_); rintro e w3 ⟨rfl, b3⟩; clear cB)
        | fail)
      go_ret
      first
      | exact ⟨rfl, b2⟩
      | exact ⟨rfl, b2.trans (b3.mono b2.size)⟩
  · have hm0 : 0 ≤ a * bps := Int.mul_nonneg (by omega) h5
    have hm1 : a * bps ≤ 1099511627776 * 9999 := Int.mul_le_mul h2 h6 h5 (by omega)
    have hM : movedB a b bps = decide (a * bps ≤ ((if a < b then b else a) - (if b < a then b else a)) * 10000) := by
      unfold movedB
      exact decide_eq_decide.2 ⟨fun h => h.2.2.2.2.2.2.2, fun h => ⟨h1, h2, h3, h4, h5, h6, h7, h⟩⟩
    rw [hM]
    rw [k1] at cA
    rw [k2] at cB
    obtain ⟨mx, hmx⟩ : ∃ m, m = if a < b then b else a := ⟨_, rfl⟩
    obtain ⟨mn, hmn⟩ : ∃ m, m = if b < a then b else a := ⟨_, rfl⟩
    have b1 : 1 ≤ mx ∧ mx ≤ 1099511627776 ∧ 1 ≤ mn ∧ mn ≤ 1099511627776 ∧ mn ≤ mx := by rw [hmx, hmn]; split <;> split <;> omega
    have x1 := wmax_fact a b mx hmx
    have x2 := wmin_fact a b mn hmn
    rw [← hmx, ← hmn]
    clear hM hmx hmn k1 k2
    obtain ⟨b1, b2, b3, b4, b5⟩ := b1
    have q1 : 0 ≤ (mx - mn) * 10000 ∧ (mx - mn) * 10000 < 9223372036854775808 := by omega
    go_enter Try.func13, Try.ntmps13
    go_wp2_with (first
      | (go_at_call 25; (with_reducible refine (cA _).mono ?_); rintro e w2 ⟨rfl, y2⟩; clear cA)
      | (go_at_call 25; (with_reducible refine (cB _).mono ?_); rintro e w3 ⟨rfl, y3⟩; clear cB)
      | fail)
    go_ret
    exact ⟨rfl, y2.trans (y3.mono y2.size)⟩
set_option maxRecDepth 8000 in
set_option maxHeartbeats 4000000 in
theorem wp_new (span grid ref : Int) (_hs : In64 span) (_hg : In64 grid) (hr : In64 ref) (W : World) : Calls Try.prog 8 #[.int .i64 span, .int .i64 grid, .int .i64 ref] W fun e w' => (wnNew span grid ref = none ∧ e = .returned (.tuple #[.pointer none, .int .i64 9]) ∧ Below W.heap.size W w') ∨ ∃ r m S, wnNew span grid ref = some m ∧ e = .returned (.tuple #[.pointer (some ⟨r, 0, none⟩), .int .i64 0]) ∧ WP w' r S m ∧ Below W.heap.size W w' ∧ ∀ c, S c → W.heap.size ≤ c := by
  have key : (wnNew span grid ref = none ∧ (decide (span < 1) = true ∨ (decide (span < 1) = false ∧ (decide (1099511627776 < span) = true ∨ (decide (1099511627776 < span) = false ∧ (decide (grid < 1) = true ∨ (decide (grid < 1) = false ∧ decide (1099511627776 < grid) = true))))))) ∨ (decide (span < 1) = false ∧ decide (1099511627776 < span) = false ∧ decide (grid < 1) = false ∧ decide (1099511627776 < grid) = false ∧ 1 ≤ grid ∧ grid ≤ 1099511627776 ∧ 1 ≤ span ∧ span ≤ 1099511627776) := by
    by_cases h : 1 ≤ span ∧ span ≤ 1099511627776 ∧ 1 ≤ grid ∧ grid ≤ 1099511627776
    · refine .inr ?_
      simp only [decide_eq_false_iff_not]
      omega
    · refine .inl ⟨?_, ?_⟩
      · unfold wnNew
        rw [if_neg (by omega)]
      · simp only [decide_eq_true_eq, decide_eq_false_iff_not]
        omega
  rcases key with ⟨e, k⟩ | ⟨k1, k2, k3, k4, h1, h2, h3, h4⟩
  · rw [e]
    rcases k with k1 | ⟨k1, k2 | ⟨k2, k3 | ⟨k3, k4⟩⟩⟩
    all_goals
      go_enter Try.func8, Try.ntmps8
      go_wp2_with fail
      refine bodyPost_ret (v := .tuple #[.pointer none, .int .i64 9]) ?_ rfl ?_
      rotate_left
      · exact .inl ⟨by trivial, rfl, Below.refl _ _⟩
      simp [results, Try.results8, go_sem]
  · have cP := fprice_any ref grid hr (by unfold In64; omega) W
    have hpv := priceV_ok ref grid h1
    by_cases hp : refOk ref grid
    · rw [decide_eq_true hp] at hpv
      have e0 : priceV ref grid = 0 := by simpa using hpv
      rw [e0] at cP
      have e : wnNew span grid ref = some ⟨span, grid, ref, 0, []⟩ := by unfold wnNew; rw [if_pos ⟨h3, h4, h1, h2, hp⟩]
      have hok := wnNew_ok e
      rw [e]
      clear hp e h1 h2 h3 h4 e0 hpv
      go_enter Try.func8, Try.ntmps8
      go_wp2_with (first
        | (go_at_call 19; refine cP.mono ?_; rintro e w2 ⟨rfl, hb⟩; clear cP)
        | fail)
      have hB : Blk (w2.alloc (.cells (cWin span grid ref 0 none 0 0 0 0) 55)) w2.heap.size 55 (cWin span grid ref 0 none 0 0 0 0) := Blk.new _ _ _
      have hb1 : Below w2.heap.size w2 (w2.alloc (.cells (cWin span grid ref 0 none 0 0 0 0) 55)) := (Below.refl _ _).alloc (Nat.le_refl _) _
      refine bodyPost_ret (v := .tuple #[.pointer (some ⟨w2.heap.size, 0, none⟩), .int .i64 0]) ?_ rfl ?_
      rotate_left
      · refine .inr ⟨w2.heap.size, _, fun c => c = w2.heap.size, rfl, rfl, ⟨none, none, 0, hB, OwD.nil _ _ _, rfl, (fun k e => by cases e), (fun c hc => by subst hc; simp), hok⟩, hb.trans (hb1.mono hb.size), ?_⟩
        intro c hc; subst hc; exact hb.size
      simp [results, Try.results8, go_sem]
    · rw [decide_eq_false hp] at hpv
      have e0 : (priceV ref grid != 0) = true := by simpa using hpv
      generalize priceV ref grid = x at *
      have e : wnNew span grid ref = none := by unfold wnNew; rw [if_neg (fun h => hp h.2.2.2.2)]
      rw [e]
      clear hp e h1 h2 h3 h4 hpv
      go_enter Try.func8, Try.ntmps8
      go_wp2_with (first
        | (go_at_call 19; refine cP.mono ?_; rintro e w2 ⟨rfl, hb⟩; clear cP)
        | fail)
      refine bodyPost_ret (v := .tuple #[.pointer none, .int .i64 9]) ?_ rfl ?_
      rotate_left
      · exact .inl ⟨by trivial, rfl, hb⟩
      simp [results, Try.results8, go_sem]
end
end Go.Proofs.Yteljjjdejjkgfaa
namespace Go.Proofs.Yteljjjdejjkgfaa
open Go.RowKit
set_option linter.unusedSimpArgs false
theorem sub_two {r s : Int} (h : Two r) (h' : Two s) (hs : s ≤ r) (w : World) :
    Calls Try.prog 44 #[.agg #[.int .u64 (hi r), .int .u64 (lo r)], .agg #[.int .u64 (hi s), .int .u64 (lo s)]] w fun e w' =>
      e = .returned (.tuple #[.agg #[.int .u64 (hi (r - s)), .int .u64 (lo (r - s))], .bool true]) ∧ Below w.heap.size w w' := by
  have e1 : (hi r - hi s - bor (lo r) (lo s)) % 18446744073709551616 = hi (r - s) := by obtain ⟨a, b⟩ := h; obtain ⟨c, d⟩ := h'; unfold hi lo bor; split <;> omega
  have e2 : (lo r - lo s) % 18446744073709551616 = lo (r - s) := by unfold lo; omega
  have e3 : (bor (hi r) (hi s + bor (lo r) (lo s)) == 0) = true := by
    obtain ⟨a, b⟩ := h; obtain ⟨c, d⟩ := h'
    have : bor (hi r) (hi s + bor (lo r) (lo s)) = 0 := by
      unfold hi lo bor
      split <;> (split <;> omega)
    simp [this]
  have := sub_any (hi r) (lo r) (hi s) (lo s) (word_hi h) (word_lo h) (word_hi h') (word_lo h') w
  rw [e1, e2, e3] at this
  exact this
theorem Trd.Ok.two {x : Trd} (h : x.Ok) : 1 ≤ x.price * x.qty ∧ x.price * x.qty ≤ 4722366482869645213696 := by
  have h1 := h.p
  have h2 := h.q
  have h3 : 1 * 1 ≤ x.price * x.qty := Int.mul_le_mul h1.1 h2.1 (by omega) (by omega)
  have h4 : x.price * x.qty ≤ 1099511627776 * 4294967296 := Int.mul_le_mul h1.2 h2.2 (by omega) (by omega)
  omega
set_option maxRecDepth 8000 in
set_option maxHeartbeats 1000000 in
theorem pworth_any (x : Trd) (hx : x.Ok) (W : World) : Calls Try.prog 30 #[vTrd x] W fun e w' => e = .returned (.agg #[.int .u64 (hi (x.price * x.qty)), .int .u64 (lo (x.price * x.qty))]) ∧ Below W.heap.size W w' := by
  have hp := hx.p
  have hq := hx.q
  have cM := fun w => mul_two x.price x.qty ⟨by omega, by omega⟩ ⟨by omega, by omega⟩ w
  have hw1 : IntKind.u64.wrap x.price = x.price := by rw [IntKind.wrap_u64]; omega
  have hw2 : IntKind.u64.wrap x.qty = x.qty := by rw [IntKind.wrap_u64]; omega
  generalize hi (x.price * x.qty) = h at *
  generalize lo (x.price * x.qty) = l at *
  obtain ⟨W1, hW1⟩ : ∃ W1, W1 = (W.alloc (.cells (cTrd x) 59)).alloc (.cells #[.int .u64 0, .int .u64 0] 53) := ⟨_, rfl⟩
  have m1 : Mem W [(W.heap.size + 1, 53, #[.int .u64 0, .int .u64 0]), (W.heap.size, 59, cTrd x)] W1 := by
    rw [hW1]
    exact ((Mem.start W).new _ _).new' _ _ (by simp)
  obtain ⟨a0, a1, a2⟩ := Trd.cells (m1.blk W.heap.size 59 (cTrd x) (by simp))
  have hB := m1.blk (W.heap.size + 1) 53 #[.int .u64 0, .int .u64 0] (by simp)
  have hb1 := m1.below
  clear m1 hx hp hq
  obtain ⟨t, p, q⟩ := x
  simp only at a0 a1 a2 cM hw1 hw2
  simp only [vTrd, cTrd] at hW1 ⊢
  go_enter Try.func30, Try.ntmps30
  go_wp2_with (first
    | (rw [← hW1]; clear hW1)
    | (go_at_call 43; refine (cM _).mono ?_; rintro e w2 ⟨rfl, hb2⟩; clear cM; have hB2 := hB.below hb2 hB.lt; clear hB; have z0 := hB2.cell_eq 0 _ rfl; have z1 := hB2.cell_eq 1 _ rfl; have fr := hB2.free; have hS : Blk ((w2.setCell ⟨W.heap.size + 1, 0, none⟩ (.int .u64 h)).setCell ⟨W.heap.size + 1, 1, none⟩ (.int .u64 l)) (W.heap.size + 1) 53 #[.int .u64 h, .int .u64 l] := (hB2.set 0 (.int .u64 h)).set 1 (.int .u64 l); have hbS : Below W.heap.size W ((w2.setCell ⟨W.heap.size + 1, 0, none⟩ (.int .u64 h)).setCell ⟨W.heap.size + 1, 1, none⟩ (.int .u64 l)) := ((hb1.trans (hb2.mono hb1.size)).setCell (p := ⟨W.heap.size + 1, 0, none⟩) (by simp) _).setCell (p := ⟨W.heap.size + 1, 1, none⟩) (by simp) _)
    | fail)
  have y0 := hS.cell_eq 0 _ rfl
  have y1 := hS.cell_eq 1 _ rfl
  refine bodyPost_ret (v := .agg #[.int .u64 h, .int .u64 l]) ?_ rfl ⟨rfl, hbS⟩
  simp [results, Try.results30, go_sem, y0, y1]
set_option maxRecDepth 8000 in
set_option maxHeartbeats 1000000 in
theorem pamount_any (x : Trd) (hx : x.Ok) (W : World) : Calls Try.prog 31 #[vTrd x] W fun e w' => e = .returned (.agg #[.int .u64 (hi (x.qty)), .int .u64 (lo (x.qty))]) ∧ Below W.heap.size W w' := by
  have hp := hx.p
  have hq := hx.q
  have hw2 : IntKind.u64.wrap x.qty = x.qty := by rw [IntKind.wrap_u64]; omega
  rw [(hi_small x.qty ⟨by omega, by omega⟩).1, (hi_small x.qty ⟨by omega, by omega⟩).2]
  obtain ⟨W1, hW1⟩ : ∃ W1, W1 = (W.alloc (.cells (cTrd x) 59)).alloc (.cells #[.int .u64 0, .int .u64 0] 53) := ⟨_, rfl⟩
  have m1 : Mem W [(W.heap.size + 1, 53, #[.int .u64 0, .int .u64 0]), (W.heap.size, 59, cTrd x)] W1 := by
    rw [hW1]
    exact ((Mem.start W).new _ _).new' _ _ (by simp)
  obtain ⟨a0, a1, a2⟩ := Trd.cells (m1.blk W.heap.size 59 (cTrd x) (by simp))
  have hB := m1.blk (W.heap.size + 1) 53 #[.int .u64 0, .int .u64 0] (by simp)
  have hb1 := m1.below
  clear m1 hx hp hq
  obtain ⟨t, p, q⟩ := x
  simp only at a0 a1 a2  hw2 ⊢
  simp only [vTrd, cTrd] at hW1 ⊢
  have z0 := hB.cell_eq 0 _ rfl
  have z1 := hB.cell_eq 1 _ rfl
  have fr := hB.free
  have hS : Blk ((W1.setCell ⟨W.heap.size + 1, 0, none⟩ (.int .u64 0)).setCell ⟨W.heap.size + 1, 1, none⟩ (.int .u64 q)) (W.heap.size + 1) 53 #[.int .u64 0, .int .u64 q] := (hB.set 0 (.int .u64 0)).set 1 (.int .u64 q)
  have hbS : Below W.heap.size W ((W1.setCell ⟨W.heap.size + 1, 0, none⟩ (.int .u64 0)).setCell ⟨W.heap.size + 1, 1, none⟩ (.int .u64 q)) := (hb1.setCell (p := ⟨W.heap.size + 1, 0, none⟩) (by simp) _).setCell (p := ⟨W.heap.size + 1, 1, none⟩) (by simp) _
  go_enter Try.func31, Try.ntmps31
  go_wp2_with (first
    | (rw [← hW1]; clear hW1)
    | fail)
  have y0 := hS.cell_eq 0 _ rfl
  have y1 := hS.cell_eq 1 _ rfl
  refine bodyPost_ret (v := .agg #[.int .u64 0, .int .u64 q]) ?_ rfl ⟨rfl, hbS⟩
  simp [results, Try.results31, go_sem, y0, y1]
set_option maxRecDepth 8000 in
set_option maxHeartbeats 1000000 in
theorem updated_any (F G : Nat) (hF : Goes F) (hG : Goes G) (rv pv : Value) (a b x y : Int) (k : Bool)
    (cG : ∀ w, Calls Try.prog G #[pv] w fun e w' => e = .returned (.agg #[.int .u64 a, .int .u64 b]) ∧ Below w.heap.size w w')
    (cF : ∀ w, Calls Try.prog F #[rv, .agg #[.int .u64 a, .int .u64 b]] w fun e w' => e = .returned (.tuple #[.agg #[.int .u64 x, .int .u64 y], .bool k]) ∧ Below w.heap.size w w') (W : World) :
    Calls Try.prog 28 #[.func (.func F) #[rv] #[], .func (.func G) #[pv] #[]] W fun e w' => e = .returned (.agg #[.int .u64 x, .int .u64 y]) ∧ Below W.heap.size W w' := by
  have gF := fun w => hF #[rv, .agg #[.int .u64 a, .int .u64 b]] w
  have gG := fun w => hG #[pv] w
  have hB0 : Blk (W.alloc (.cells #[.int .u64 0, .int .u64 0] 53)) W.heap.size 53 #[.int .u64 0, .int .u64 0] := Blk.new _ _ _
  have hb0 : Below W.heap.size W (W.alloc (.cells #[.int .u64 0, .int .u64 0] 53)) := (Below.refl _ _).alloc (Nat.le_refl _) _
  have hend : ∀ w3, Below (W.alloc (.cells #[.int .u64 0, .int .u64 0] 53)).heap.size (W.alloc (.cells #[.int .u64 0, .int .u64 0] 53)) w3 → ∀ w4, w4 = w3.alloc (.cells #[.int .u64 x, .int .u64 y] 53) → w4.cell? ⟨w3.heap.size, 0, none⟩ = some (.int .u64 x) ∧ w4.cell? ⟨w3.heap.size, 1, none⟩ = some (.int .u64 y) ∧ w4.cell? ⟨W.heap.size, 0, none⟩ = some (.int .u64 0) ∧ w4.cell? ⟨W.heap.size, 1, none⟩ = some (.int .u64 0) ∧ (∀ i, w4.frozen? ⟨W.heap.size, i, none⟩ = false) ∧ ∀ w5, w5 = (w4.setCell ⟨W.heap.size, 0, none⟩ (.int .u64 x)).setCell ⟨W.heap.size, 1, none⟩ (.int .u64 y) → w5.cell? ⟨W.heap.size, 0, none⟩ = some (.int .u64 x) ∧ w5.cell? ⟨W.heap.size, 1, none⟩ = some (.int .u64 y) ∧ Below W.heap.size W w5 := by
    rintro w3 hb3 w4 rfl
    have hN : Blk (w3.alloc (.cells #[.int .u64 x, .int .u64 y] 53)) w3.heap.size 53 #[.int .u64 x, .int .u64 y] := Blk.new _ _ _
    have hb4 := hb3.alloc hb3.size (.cells #[.int .u64 x, .int .u64 y] 53)
    have hR := hB0.below hb4 hB0.lt
    refine ⟨hN.cell_eq 0 _ rfl, hN.cell_eq 1 _ rfl, hR.cell_eq 0 _ rfl, hR.cell_eq 1 _ rfl, hR.free, ?_⟩
    rintro w5 rfl
    have hR2 := (hR.set 0 (.int .u64 x)).set 1 (.int .u64 y)
    exact ⟨hR2.cell_eq 0 _ rfl, hR2.cell_eq 1 _ rfl, ((hb0.trans (hb4.mono hb0.size)).setCell (p := ⟨W.heap.size, 0, none⟩) (Nat.le_refl _) _).setCell (p := ⟨W.heap.size, 1, none⟩) (Nat.le_refl _) _⟩
  generalize hw0 : W.alloc (.cells #[.int .u64 0, .int .u64 0] 53) = w0 at *
  clear hB0 hb0
  go_enter Try.func28, Try.ntmps28
  go_wp2_with (first
    | (rw [hw0]; clear hw0)
    | ((with_reducible refine (cG _).mono ?_); rintro e w2 ⟨rfl, hb2⟩; clear cG gG)
    | ((with_reducible refine (cF _).mono ?_); rintro e w3 ⟨rfl, hb3⟩; clear cF gF; obtain ⟨w4, hw4⟩ : ∃ w4, w4 = w3.alloc (.cells #[.int .u64 x, .int .u64 y] 53) := ⟨_, rfl⟩; obtain ⟨n0, n1, r0, r1, fr, h5⟩ := hend w3 (hb2.trans (hb3.mono hb2.size)) w4 hw4; clear hend)
    | (rw [← hw4]; clear hw4)
    | fail)
  obtain ⟨y0, y1, hb5⟩ := h5 _ rfl
  refine bodyPost_ret (v := .agg #[.int .u64 x, .int .u64 y]) ?_ rfl ⟨rfl, hb5⟩
  simp [results, Try.results28, go_sem, y0, y1]
theorem goesAdd : Goes 29 := goes_of Try.func29 (by kernel_rfl) (by kernel_rfl)
theorem goesSub : Goes 44 := goes_of Try.func44 (by kernel_rfl) (by kernel_rfl)
theorem goesWorth : Goes 30 := goes_of Try.func30 (by kernel_rfl) (by kernel_rfl)
theorem goesAmount : Goes 31 := goes_of Try.func31 (by kernel_rfl) (by kernel_rfl)
abbrev fnAdd (P : Int) : Value := .func (.func 29) #[.agg #[.int .u64 (hi P), .int .u64 (lo P)]] #[]
abbrev fnSub (P : Int) : Value := .func (.func 44) #[.agg #[.int .u64 (hi P), .int .u64 (lo P)]] #[]
abbrev fnWorth (x : Trd) : Value := .func (.func 30) #[vTrd x] #[]
abbrev fnAmount (x : Trd) : Value := .func (.func 31) #[vTrd x] #[]
abbrev UpR (P : Int) (e : Ending) (w w' : World) : Prop := e = .returned (.agg #[.int .u64 (hi P), .int .u64 (lo P)]) ∧ Below w.heap.size w w'
theorem up_addW (P : Int) (x : Trd) (hx : x.Ok) (h0 : 0 ≤ P) (h1 : P < 170141183460469231731687303715884105728) (w : World) : Calls Try.prog 28 #[fnAdd P, fnWorth x] w fun e w' => UpR (P + x.price * x.qty) e w w' := by
  have h2 := hx.two
  exact updated_any _ _ goesAdd goesWorth _ _ _ _ _ _ true (fun w => pworth_any x hx w) (fun w => add_two P (x.price * x.qty) ⟨h0, by omega⟩ ⟨by omega, by omega⟩ (by omega) w) w
theorem up_addQ (P : Int) (x : Trd) (hx : x.Ok) (h0 : 0 ≤ P) (h1 : P < 170141183460469231731687303715884105728) (w : World) : Calls Try.prog 28 #[fnAdd P, fnAmount x] w fun e w' => UpR (P + x.qty) e w w' := by
  have h2 := hx.q
  exact updated_any _ _ goesAdd goesAmount _ _ _ _ _ _ true (fun w => pamount_any x hx w) (fun w => add_two P x.qty ⟨h0, by omega⟩ ⟨by omega, by omega⟩ (by omega) w) w
theorem up_subW (P : Int) (x : Trd) (hx : x.Ok) (h0 : x.price * x.qty ≤ P) (h1 : P < 170141183460469231731687303715884105728) (w : World) : Calls Try.prog 28 #[fnSub P, fnWorth x] w fun e w' => UpR (P - x.price * x.qty) e w w' := by
  have h2 := hx.two
  exact updated_any _ _ goesSub goesWorth _ _ _ _ _ _ true (fun w => pworth_any x hx w) (fun w => sub_two ⟨by omega, by omega⟩ ⟨by omega, by omega⟩ h0 w) w
theorem up_subQ (P : Int) (x : Trd) (hx : x.Ok) (h0 : x.qty ≤ P) (h1 : P < 170141183460469231731687303715884105728) (w : World) : Calls Try.prog 28 #[fnSub P, fnAmount x] w fun e w' => UpR (P - x.qty) e w w' := by
  have h2 := hx.q
  exact updated_any _ _ goesSub goesAmount _ _ _ _ _ _ true (fun w => pamount_any x hx w) (fun w => sub_two ⟨by omega, by omega⟩ ⟨by omega, by omega⟩ h0 w) w
end Go.Proofs.Yteljjjdejjkgfaa
