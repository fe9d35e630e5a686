/-
  The contracts of the document's answers Mul and MulDiv of layer 2, for every input.
-/
import Derived.Test.YtnahocdeaopflaaFixR
namespace Go.Proofs.Ytnahocdeaopflaa
open Go.RowKit Go.Shelf
set_option maxRecDepth 100000 in
set_option maxHeartbeats 1000000 in
theorem rmul2_over (a b A B h l : Int) (S : Nat → Bool) (hh : 0 < h)
    (cA : ∀ W, Calls Try.prog 38 #[.int .i64 a] W fun e w' => e = .returned (.int .u64 A) ∧ Below W.heap.size W w')
    (cB : ∀ W, Calls Try.prog 38 #[.int .i64 b] W fun e w' => e = .returned (.int .u64 B) ∧ Below W.heap.size W w')
    (cM : ∀ W, Calls Try.prog 40 #[.int .u64 A, .int .u64 B] W fun e w' => e = .returned (.agg (arr S)) ∧ Below W.heap.size W w')
    (cH : ∀ W, Calls Try.prog 36 #[.agg (arr S)] W fun e w' => e = .returned (.tuple #[.int .u64 h, .int .u64 l]) ∧ Below W.heap.size W w') (w : World) :
    Calls Try.prog 14 #[.int .i64 a, .int .i64 b] w fun e w' => e = .returned (.tuple #[.int .i64 0, .bool false]) ∧ Below w.heap.size w w' := by
  have m0 := Mem.start w
  go_enter Try.func14, Try.ntmps14
  go_wp2_with (first
      | (go_at_call 38; (with_reducible refine (cA _).mono ?_); rintro e w1 ⟨rfl, hb1⟩; have m1 := m0.keep hb1; clear m0 hb1)
      | (go_at_call 38; (with_reducible refine (cB _).mono ?_); rintro e w2 ⟨rfl, hb1⟩; have m2 := m1.keep hb1; clear m1 hb1)
      | (go_at_call 40; (with_reducible refine (cM _).mono ?_); rintro e w3 ⟨rfl, hb1⟩; have m3 := m2.keep hb1; clear m2 hb1)
      | (go_at_call 36; (with_reducible refine (cH _).mono ?_); rintro e w4 ⟨rfl, hb1⟩; have m4 := m3.keep hb1; clear m3 hb1))
  all_goals go_ret2
  all_goals exact ⟨rfl, m4.below⟩
set_option maxRecDepth 100000 in
set_option maxHeartbeats 1000000 in
theorem rmul2_fit (a b A B l x : Int) (S : Nat → Bool) (m n q p : Bool) (hm : decide (a < 0) = m) (hn : decide (b < 0) = n) (hq : q = !(m == n))
    (cA : ∀ W, Calls Try.prog 38 #[.int .i64 a] W fun e w' => e = .returned (.int .u64 A) ∧ Below W.heap.size W w')
    (cB : ∀ W, Calls Try.prog 38 #[.int .i64 b] W fun e w' => e = .returned (.int .u64 B) ∧ Below W.heap.size W w')
    (cM : ∀ W, Calls Try.prog 40 #[.int .u64 A, .int .u64 B] W fun e w' => e = .returned (.agg (arr S)) ∧ Below W.heap.size W w')
    (cH : ∀ W, Calls Try.prog 36 #[.agg (arr S)] W fun e w' => e = .returned (.tuple #[.int .u64 0, .int .u64 l]) ∧ Below W.heap.size W w')
    (cG : ∀ W, Calls Try.prog 39 #[.int .u64 l, .bool q] W fun e w' => e = .returned (.tuple #[.int .i64 x, .bool p]) ∧ Below W.heap.size W w') (w : World) :
    Calls Try.prog 14 #[.int .i64 a, .int .i64 b] w fun e w' => e = .returned (.tuple #[.int .i64 x, .bool p]) ∧ Below w.heap.size w w' := by
  have m0 := Mem.start w
  cases m <;> cases n
  all_goals first | (obtain rfl : q = false := hq) | (obtain rfl : q = true := hq)
  all_goals
    go_enter Try.func14, Try.ntmps14
    go_wp2_with (first
      | (go_at_call 38; (with_reducible refine (cA _).mono ?_); rintro e w1 ⟨rfl, hb1⟩; have m1 := m0.keep hb1; clear m0 hb1)
      | (go_at_call 38; (with_reducible refine (cB _).mono ?_); rintro e w2 ⟨rfl, hb1⟩; have m2 := m1.keep hb1; clear m1 hb1)
      | (go_at_call 40; (with_reducible refine (cM _).mono ?_); rintro e w3 ⟨rfl, hb1⟩; have m3 := m2.keep hb1; clear m2 hb1)
      | (go_at_call 36; (with_reducible refine (cH _).mono ?_); rintro e w4 ⟨rfl, hb1⟩; have m4 := m3.keep hb1; clear m3 hb1)
      | (go_at_call 39; (with_reducible refine (cG _).mono ?_); rintro e w5 ⟨rfl, hb1⟩; have m5 := m4.keep hb1; clear m4 hb1))
    all_goals go_ret2
    all_goals exact ⟨rfl, m5.below⟩
/-- A whole array is read, in an operation with a guard. -/
theorem ld28g {ops : Array Oper} {rest : List Oper} {o : Oper} {a : Act} {w : World} {Q : Exit → Act → World → Prop} (hgd : Region.wanted o (yielded ops a.tmps) = true) (x : Operand) (ho : o.op = .load 45 x)
    (g : Nat) (hx : a.eval x = .pointer (some ⟨g, 0, none⟩)) (f : Nat → Bool) (hg : Blk w g 45 (arr f))
    (h : wpList Try.prog ops Q rest (a.put o.dst (.agg (arr f))) w) : wpList Try.prog ops Q (o :: rest) a w := by
  unfold wpList
  rw [if_pos hgd]
  exact .inl (wp_load_row _ x ho g hx _ _ _ _ hg under28 rfl (by rw [arr_size]; exact size28) h)
theorem Mem.setSnd {w0 w : World} {g h : Nat} {t : TypeId} {c1 c2 : Array Value} (m : Mem w0 [(g, t, c1), (h, t, c2)] w) (c : Array Value) (hg : h ≠ g) (hh : w0.heap.size ≤ h) :
    Mem w0 [(g, t, c1), (h, t, c)] (w.setRow h c) :=
  ⟨fun p hp => by
    simp only [List.mem_cons, List.not_mem_nil, or_false] at hp
    rcases hp with rfl | rfl
    · exact (m.blk g t c1 (by simp)).setRow_other hg _
    · exact (m.blk h t c2 (by simp)).setRow _, below_setRow m.below hh _⟩
theorem old_before {md : Region.Mode} {ops : Array Oper} {L : Array Bool} {w0 w : World} {g h : Nat} {t : TypeId} {c1 : Array Value} {O N : Nat → Bool} (hL : 0 ∈ Region.ready md ops L) (h8 : L.getD 6 false = true → L.getD 0 false = true)
    (m : Mem w0 [(g, t, c1), (h, t, arr (if L.getD 6 false = true then N else O))] w) : Blk w h t (arr O) := by
  have h0 := ready_not hL
  have e : L.getD 6 false = false := by
    cases hc : L.getD 6 false
    · rfl
    · rw [h8 hc] at h0; cases h0
  rw [e] at m
  exact m.blk h t (arr O) (by simp)
theorem toNat_mul' {a b : Int} (ha : 0 ≤ a) (hb : 0 ≤ b) : ((a.toNat * b.toNat : Nat) : Int) = a * b := by
  obtain ⟨A, rfl⟩ := Int.eq_ofNat_of_zero_le ha
  obtain ⟨B, rfl⟩ := Int.eq_ofNat_of_zero_le hb
  simp
theorem rmul2_any (a b : Int) (ha : In64 a) (hb : In64 b) (w : World) :
    Calls Try.prog 14 #[.int .i64 a, .int .i64 b] w fun e w' => e = .returned (fitT (a * b)) ∧ Below w.heap.size w w' := by
  have cA := rsize_any a ha
  have cB := rsize_any b hb
  have wa := mag_word ha
  have wb := mag_word hb
  have cM := mulN _ _ wa wb
  have hv := mag_mul a b
  have hP := two_mul _ _ wa wb
  rw [← toNat_mul' wa.1 wb.1] at hv hP
  generalize (mag a).toNat * (mag b).toNat = N at *
  have hN : N < 340282366920938463463374607431768211456 := by have := hP.2; omega
  have cH := halvesN N hN
  have hv2 : a * b = if (!(decide (a < 0) == decide (b < 0))) = true then -(N : Int) else N := by
    rw [hv]; cases (decide (a < 0) == decide (b < 0)) <;> simp
  by_cases hN2 : 18446744073709551616 ≤ N
  · have hno : ¬ In64 (a * b) := by rw [hv2]; unfold In64; split <;> omega
    rw [fit_no hno]
    exact rmul2_over a b _ _ _ _ _ (by have := Nat.div_pos hN2 (by decide); omega) cA cB cM cH w
  · have hlt : N < 18446744073709551616 := by omega
    rw [Nat.div_eq_of_lt hlt, Nat.mod_eq_of_lt hlt] at cH
    have cG := signed_any N (!(decide (a < 0) == decide (b < 0))) ⟨by omega, by omega⟩
    rw [← hv2] at cG
    obtain ⟨x, p, hx, -, -⟩ := fit_is (a * b)
    rw [hx] at cG ⊢
    exact rmul2_fit a b _ _ _ x _ _ _ _ p rfl rfl rfl cA cB cM cH cG w
set_option maxRecDepth 100000 in
set_option maxHeartbeats 2000000 in
theorem rmd_down_over (a b d h l L : Int) (S Q G : Nat → Bool) (up : Bool) (ha : 0 ≤ a ∧ a < 9223372036854775808) (hb : 0 ≤ b ∧ b < 9223372036854775808) (hd : 1 ≤ d ∧ d < 9223372036854775808)
    (cM : ∀ W, Calls Try.prog 40 #[.int .u64 a, .int .u64 b] W fun e w' => e = .returned (.agg (arr S)) ∧ Below W.heap.size W w')
    (cD : ∀ W, Calls Try.prog 43 #[.agg (arr S), .int .u64 d] W fun e w' => e = .returned (.tuple #[.agg (arr Q), .agg (arr G)]) ∧ Below W.heap.size W w')
    (cL : ∀ W, Calls Try.prog 44 #[.agg (arr G)] W fun e w' => e = .returned (.int .i64 L) ∧ Below W.heap.size W w')
    (hup : up = false ∨ up = true ∧ L = 0)
    (cH : ∀ W, Calls Try.prog 36 #[.agg (arr Q)] W fun e w' => e = .returned (.tuple #[.int .u64 h, .int .u64 l]) ∧ Below W.heap.size W w')
    (hh : 0 < h) (w : World) :
    Calls Try.prog 17 #[.int .i64 a, .int .i64 b, .int .i64 d, .bool up] w fun e w' => e = .returned (.tuple #[.int .i64 0, .bool false]) ∧ Below w.heap.size w w' := by
  obtain ⟨a0, a1⟩ := ha
  obtain ⟨b0, b1⟩ := hb
  obtain ⟨d0, d1⟩ := hd
  have zv := zero28
  have m0 := Mem.start w
  rcases hup with rfl | ⟨rfl, rfl⟩
  · skip
    go_enter Try.func17, Try.ntmps17
    go_wp2_with (first
      | (go_at_call 40; (with_reducible refine (cM _).mono ?_); rintro e w1 ⟨rfl, hb1⟩; have m1 := m0.keep hb1; clear m0 hb1)
      | (go_at_call 43; (with_reducible refine (cD _).mono ?_); rintro e w2 ⟨rfl, hb1⟩; have m2 := m1.keep hb1; clear m1 hb1)
      | (refine st28 rfl (.tmp 10) (.tmp 33) rfl w2.heap.size Q (fun _ => false) rfl rfl ((Blk.new' rfl).alloc _) ?_; refine st28 rfl (.tmp 11) (.tmp 34) rfl (w2.heap.size + 1) G (fun _ => false) rfl rfl ((Blk.new' (by simp)).setRow_other (by omega) _) ?_; have m4 := two_rows m2 45 (arr fun _ => false) (arr Q) (arr G); have hg := m2.below.size; generalize (((w2.alloc (.cells (arr fun _ => false) 45)).alloc (.cells (arr fun _ => false) 45)).setRow w2.heap.size (arr Q)).setRow (w2.heap.size + 1) (arr G) = W4 at *; generalize w2.heap.size = g1 at *; clear m2)
      | (refine ld28 rfl (.tmp 10) rfl g1 rfl Q (m4.blk g1 _ _ (by simp)) ?_)
      | (go_at_call 36; (with_reducible refine (cH _).mono ?_); rintro e w7 ⟨rfl, hb1⟩; have m7 := m4.keep hb1; clear m4 hb1))
    all_goals first | (exfalso; omega) | go_ret2
    all_goals exact ⟨rfl, m7.below⟩
  · skip
    go_enter Try.func17, Try.ntmps17
    go_wp2_with (first
      | (go_at_call 40; (with_reducible refine (cM _).mono ?_); rintro e w1 ⟨rfl, hb1⟩; have m1 := m0.keep hb1; clear m0 hb1)
      | (go_at_call 43; (with_reducible refine (cD _).mono ?_); rintro e w2 ⟨rfl, hb1⟩; have m2 := m1.keep hb1; clear m1 hb1)
      | (refine st28 rfl (.tmp 10) (.tmp 33) rfl w2.heap.size Q (fun _ => false) rfl rfl ((Blk.new' rfl).alloc _) ?_; refine st28 rfl (.tmp 11) (.tmp 34) rfl (w2.heap.size + 1) G (fun _ => false) rfl rfl ((Blk.new' (by simp)).setRow_other (by omega) _) ?_; have m4 := two_rows m2 45 (arr fun _ => false) (arr Q) (arr G); have hg := m2.below.size; generalize (((w2.alloc (.cells (arr fun _ => false) 45)).alloc (.cells (arr fun _ => false) 45)).setRow w2.heap.size (arr Q)).setRow (w2.heap.size + 1) (arr G) = W4 at *; generalize w2.heap.size = g1 at *; clear m2)
      | (refine ld28g (by rfl) (.tmp 11) rfl (g1 + 1) rfl G (m4.blk _ _ _ (by simp)) ?_)
      | (go_at_call 44; (with_reducible refine (cL _).mono ?_); rintro e w5 ⟨rfl, hb1⟩; have m5 := m4.keep hb1; clear m4 hb1)
      | (refine ld28 rfl (.tmp 10) rfl g1 rfl Q (m5.blk g1 _ _ (by simp)) ?_)
      | (go_at_call 36; (with_reducible refine (cH _).mono ?_); rintro e w7 ⟨rfl, hb1⟩; have m7 := m5.keep hb1; clear m5 hb1))
    all_goals first | (exfalso; omega) | go_ret2
    all_goals exact ⟨rfl, m7.below⟩
set_option maxRecDepth 100000 in
set_option maxHeartbeats 2000000 in
theorem rmd_down (a b d l x L : Int) (S Q G : Nat → Bool) (p up : Bool) (ha : 0 ≤ a ∧ a < 9223372036854775808) (hb : 0 ≤ b ∧ b < 9223372036854775808) (hd : 1 ≤ d ∧ d < 9223372036854775808)
    (cM : ∀ W, Calls Try.prog 40 #[.int .u64 a, .int .u64 b] W fun e w' => e = .returned (.agg (arr S)) ∧ Below W.heap.size W w')
    (cD : ∀ W, Calls Try.prog 43 #[.agg (arr S), .int .u64 d] W fun e w' => e = .returned (.tuple #[.agg (arr Q), .agg (arr G)]) ∧ Below W.heap.size W w')
    (cL : ∀ W, Calls Try.prog 44 #[.agg (arr G)] W fun e w' => e = .returned (.int .i64 L) ∧ Below W.heap.size W w')
    (hup : up = false ∨ up = true ∧ L = 0)
    (cH : ∀ W, Calls Try.prog 36 #[.agg (arr Q)] W fun e w' => e = .returned (.tuple #[.int .u64 0, .int .u64 l]) ∧ Below W.heap.size W w')
    (cG : ∀ W, Calls Try.prog 39 #[.int .u64 l, .bool false] W fun e w' => e = .returned (.tuple #[.int .i64 x, .bool p]) ∧ Below W.heap.size W w')
 (w : World) :
    Calls Try.prog 17 #[.int .i64 a, .int .i64 b, .int .i64 d, .bool up] w fun e w' => e = .returned (.tuple #[.int .i64 x, .bool p]) ∧ Below w.heap.size w w' := by
  obtain ⟨a0, a1⟩ := ha
  obtain ⟨b0, b1⟩ := hb
  obtain ⟨d0, d1⟩ := hd
  have zv := zero28
  have m0 := Mem.start w
  rcases hup with rfl | ⟨rfl, rfl⟩
  · skip
    go_enter Try.func17, Try.ntmps17
    go_wp2_with (first
      | (go_at_call 40; (with_reducible refine (cM _).mono ?_); rintro e w1 ⟨rfl, hb1⟩; have m1 := m0.keep hb1; clear m0 hb1)
      | (go_at_call 43; (with_reducible refine (cD _).mono ?_); rintro e w2 ⟨rfl, hb1⟩; have m2 := m1.keep hb1; clear m1 hb1)
      | (refine st28 rfl (.tmp 10) (.tmp 33) rfl w2.heap.size Q (fun _ => false) rfl rfl ((Blk.new' rfl).alloc _) ?_; refine st28 rfl (.tmp 11) (.tmp 34) rfl (w2.heap.size + 1) G (fun _ => false) rfl rfl ((Blk.new' (by simp)).setRow_other (by omega) _) ?_; have m4 := two_rows m2 45 (arr fun _ => false) (arr Q) (arr G); have hg := m2.below.size; generalize (((w2.alloc (.cells (arr fun _ => false) 45)).alloc (.cells (arr fun _ => false) 45)).setRow w2.heap.size (arr Q)).setRow (w2.heap.size + 1) (arr G) = W4 at *; generalize w2.heap.size = g1 at *; clear m2)
      | (refine ld28 rfl (.tmp 10) rfl g1 rfl Q (m4.blk g1 _ _ (by simp)) ?_)
      | (go_at_call 36; (with_reducible refine (cH _).mono ?_); rintro e w7 ⟨rfl, hb1⟩; have m7 := m4.keep hb1; clear m4 hb1)
      | (go_at_call 39; (with_reducible refine (cG _).mono ?_); rintro e w8 ⟨rfl, hb1⟩; have m8 := m7.keep hb1; clear m7 hb1))
    all_goals first | (exfalso; omega) | go_ret2
    all_goals exact ⟨rfl, m8.below⟩
  · skip
    go_enter Try.func17, Try.ntmps17
    go_wp2_with (first
      | (go_at_call 40; (with_reducible refine (cM _).mono ?_); rintro e w1 ⟨rfl, hb1⟩; have m1 := m0.keep hb1; clear m0 hb1)
      | (go_at_call 43; (with_reducible refine (cD _).mono ?_); rintro e w2 ⟨rfl, hb1⟩; have m2 := m1.keep hb1; clear m1 hb1)
      | (refine st28 rfl (.tmp 10) (.tmp 33) rfl w2.heap.size Q (fun _ => false) rfl rfl ((Blk.new' rfl).alloc _) ?_; refine st28 rfl (.tmp 11) (.tmp 34) rfl (w2.heap.size + 1) G (fun _ => false) rfl rfl ((Blk.new' (by simp)).setRow_other (by omega) _) ?_; have m4 := two_rows m2 45 (arr fun _ => false) (arr Q) (arr G); have hg := m2.below.size; generalize (((w2.alloc (.cells (arr fun _ => false) 45)).alloc (.cells (arr fun _ => false) 45)).setRow w2.heap.size (arr Q)).setRow (w2.heap.size + 1) (arr G) = W4 at *; generalize w2.heap.size = g1 at *; clear m2)
      | (refine ld28g (by rfl) (.tmp 11) rfl (g1 + 1) rfl G (m4.blk _ _ _ (by simp)) ?_)
      | (go_at_call 44; (with_reducible refine (cL _).mono ?_); rintro e w5 ⟨rfl, hb1⟩; have m5 := m4.keep hb1; clear m4 hb1)
      | (refine ld28 rfl (.tmp 10) rfl g1 rfl Q (m5.blk g1 _ _ (by simp)) ?_)
      | (go_at_call 36; (with_reducible refine (cH _).mono ?_); rintro e w7 ⟨rfl, hb1⟩; have m7 := m5.keep hb1; clear m5 hb1)
      | (go_at_call 39; (with_reducible refine (cG _).mono ?_); rintro e w8 ⟨rfl, hb1⟩; have m8 := m7.keep hb1; clear m7 hb1))
    all_goals first | (exfalso; omega) | go_ret2
    all_goals exact ⟨rfl, m8.below⟩
set_option maxRecDepth 100000 in
set_option maxHeartbeats 2000000 in
theorem rmd_up_over (a b d h l L : Int) (S Q G O F : Nat → Bool) (bo up : Bool) (ha : 0 ≤ a ∧ a < 9223372036854775808) (hb : 0 ≤ b ∧ b < 9223372036854775808) (hd : 1 ≤ d ∧ d < 9223372036854775808)
    (cM : ∀ W, Calls Try.prog 40 #[.int .u64 a, .int .u64 b] W fun e w' => e = .returned (.agg (arr S)) ∧ Below W.heap.size W w')
    (cD : ∀ W, Calls Try.prog 43 #[.agg (arr S), .int .u64 d] W fun e w' => e = .returned (.tuple #[.agg (arr Q), .agg (arr G)]) ∧ Below W.heap.size W w')
    (cL : ∀ W, Calls Try.prog 44 #[.agg (arr G)] W fun e w' => e = .returned (.int .i64 L) ∧ Below W.heap.size W w')
    (hL : 0 < L) (hup : up = true)
    (cO : ∀ W, Calls Try.prog 46 #[.int .u64 0, .int .u64 1] W fun e w' => e = .returned (.agg (arr O)) ∧ Below W.heap.size W w')
    (cA : ∀ W, Calls Try.prog 45 #[.agg (arr Q), .agg (arr O)] W fun e w' => e = .returned (.tuple #[.agg (arr F), .bool bo]) ∧ Below W.heap.size W w')
    (cH : ∀ W, Calls Try.prog 36 #[.agg (arr F)] W fun e w' => e = .returned (.tuple #[.int .u64 h, .int .u64 l]) ∧ Below W.heap.size W w')
    (hh : 0 < h) (w : World) :
    Calls Try.prog 17 #[.int .i64 a, .int .i64 b, .int .i64 d, .bool up] w fun e w' => e = .returned (.tuple #[.int .i64 0, .bool false]) ∧ Below w.heap.size w w' := by
  obtain ⟨a0, a1⟩ := ha
  obtain ⟨b0, b1⟩ := hb
  obtain ⟨d0, d1⟩ := hd
  have zv := zero28
  have m0 := Mem.start w
  subst hup
  · skip
    go_enter Try.func17, Try.ntmps17
    go_wp2_with (first
      | (go_at_call 40; (with_reducible refine (cM _).mono ?_); rintro e w1 ⟨rfl, hb1⟩; have m1 := m0.keep hb1; clear m0 hb1)
      | (go_at_call 43; (with_reducible refine (cD _).mono ?_); rintro e w2 ⟨rfl, hb1⟩; have m2 := m1.keep hb1; clear m1 hb1)
      | (refine st28 rfl (.tmp 10) (.tmp 33) rfl w2.heap.size Q (fun _ => false) rfl rfl ((Blk.new' rfl).alloc _) ?_; refine st28 rfl (.tmp 11) (.tmp 34) rfl (w2.heap.size + 1) G (fun _ => false) rfl rfl ((Blk.new' (by simp)).setRow_other (by omega) _) ?_; have m4 := two_rows m2 45 (arr fun _ => false) (arr Q) (arr G); have hg := m2.below.size; generalize (((w2.alloc (.cells (arr fun _ => false) 45)).alloc (.cells (arr fun _ => false) 45)).setRow w2.heap.size (arr Q)).setRow (w2.heap.size + 1) (arr G) = W4 at *; generalize w2.heap.size = g1 at *; clear m2)
      | (refine ld28g (by rfl) (.tmp 11) rfl (g1 + 1) rfl G (m4.blk _ _ _ (by simp)) ?_)
      | (go_at_call 44; (with_reducible refine (cL _).mono ?_); rintro e w5 ⟨rfl, hb1⟩; have m5 := m4.keep hb1; clear m4 hb1))
    all_goals first | (exfalso; omega) | skip
    refine wp_region_S (S := fun L w' => L.size = 7 ∧ (L.getD 6 false = true → L.getD 0 false = true) ∧ Mem w [(g1 + 1, 45, arr G), (g1, 45, arr (if L.getD 6 false = true then F else Q))] w') (by kernel_rfl) ⟨rfl, fun h8 => (by cases h8), m5.drew⟩ ?_
    refine AllS.next (v := .agg (arr Q)) rfl rfl rfl (by kernel_rfl) ?_ ?_
    · exact yieldsS_load28r (fun L wx _ h => ⟨by simpa using h.1, fun h8 => getD_set_true (h.2.1 (by rwa [getD_next (by decide)] at h8)), by rw [getD_next (by decide)]; exact h.2.2⟩) (by rfl) rfl rfl fun L wx hL hS => old_before hL hS.2.1 hS.2.2
    simp only [Act.put, List.setIfInBounds_toArray, List.set_cons_zero, List.set_cons_succ, List.getElem_toArray, List.getElem_cons_zero]
    refine AllS.next (v := .agg (arr O)) rfl rfl rfl (by kernel_rfl) ?_ ?_
    · refine yieldsS_call (f := 46) (args := #[.int .u64 0, .int .u64 1]) (by rfl) ?_ ?_
      · intro wx
        go_simp
        try with_reducible rfl
      · intro L wx hS
        exact (cO wx).mono fun e w' h => ⟨h.1, by simpa using hS.1, fun h8 => getD_set_true (hS.2.1 (by rwa [getD_next (by decide)] at h8)), by rw [getD_next (by decide)]; exact hS.2.2.keep h.2⟩
    simp only [Act.put, List.setIfInBounds_toArray, List.set_cons_zero, List.set_cons_succ, List.getElem_toArray, List.getElem_cons_zero, List.getElem_cons_succ]
    refine AllS.next (v := .tuple #[.agg (arr F), .bool bo]) rfl rfl rfl (by kernel_rfl) ?_ ?_
    · refine yieldsS_call (f := 45) (args := #[.agg (arr Q), .agg (arr O)]) (by rfl) ?_ ?_
      · intro wx
        go_simp
        try with_reducible rfl
      · intro L wx hS
        exact (cA wx).mono fun e w' h => ⟨h.1, by simpa using hS.1, fun h8 => getD_set_true (hS.2.1 (by rwa [getD_next (by decide)] at h8)), by rw [getD_next (by decide)]; exact hS.2.2.keep h.2⟩
    simp only [Act.put, List.setIfInBounds_toArray, List.set_cons_zero, List.set_cons_succ, List.getElem_toArray, List.getElem_cons_zero, List.getElem_cons_succ]
    refine AllS.next (v := ?_) rfl rfl rfl (by kernel_rfl) ?_ ?_
    rotate_left
    · refine yieldsS_run (fun L wx h => ⟨by simpa using h.1, fun h8 => getD_set_true (h.2.1 (by rwa [getD_next (by decide)] at h8)), by rw [getD_next (by decide)]; exact h.2.2⟩) (by rfl) ?_
      intro L wx hS
      go_simp
      try with_reducible rfl
    simp only [Act.put, List.setIfInBounds_toArray, List.set_cons_zero, List.set_cons_succ, List.getElem_toArray, List.getElem_cons_zero, List.getElem_cons_succ]
    refine AllS.next (v := ?_) rfl rfl rfl (by kernel_rfl) ?_ ?_
    rotate_left
    · refine yieldsS_run (fun L wx h => ⟨by simpa using h.1, fun h8 => getD_set_true (h.2.1 (by rwa [getD_next (by decide)] at h8)), by rw [getD_next (by decide)]; exact h.2.2⟩) (by rfl) ?_
      intro L wx hS
      go_simp
      try with_reducible rfl
    simp only [Act.put, List.setIfInBounds_toArray, List.set_cons_zero, List.set_cons_succ, List.getElem_toArray, List.getElem_cons_zero, List.getElem_cons_succ]
    refine AllS.next (v := ?_) rfl rfl rfl (by kernel_rfl) ?_ ?_
    rotate_left
    · refine yieldsS_run (fun L wx h => ⟨by simpa using h.1, fun h8 => getD_set_true (h.2.1 (by rwa [getD_next (by decide)] at h8)), by rw [getD_next (by decide)]; exact h.2.2⟩) (by rfl) ?_
      intro L wx hS
      go_simp
      try with_reducible rfl
    simp only [Act.put, List.setIfInBounds_toArray, List.set_cons_zero, List.set_cons_succ, List.getElem_toArray, List.getElem_cons_zero, List.getElem_cons_succ]
    refine AllS.next (v := undef) rfl rfl rfl (by kernel_rfl) ?_ ?_
    · exact yieldsS_store28 (by rfl) rfl rfl rfl fun L wx hL hS => ⟨⟨_, hS.2.2.blk g1 45 (arr (if L.getD 6 false = true then F else Q)) (by simp)⟩, by simpa using hS.1, fun _ => getD_set_true (ready_dep hL (by kernel_rfl)), by rw [getD_self (by rw [hS.1]; decide), if_pos rfl]; exact hS.2.2.setSnd _ (by omega) (by omega)⟩
    simp only [Act.put, List.getElem_toArray, List.getElem_cons_zero, List.getElem_cons_succ]
    refine AllS.done (by kernel_rfl) ?_
    intro wx hS
    have m6 := hS.2.2
    rw [if_pos (by rfl)] at m6
    clear hS m5
    go_wp2_with (first
      | (refine ld28 rfl (.tmp 10) rfl g1 rfl F (m6.blk g1 _ _ (by simp)) ?_)
      | (go_at_call 36; (with_reducible refine (cH _).mono ?_); rintro e w7 ⟨rfl, hb1⟩; have m7 := m6.keep hb1; clear m6 hb1))
    all_goals first | (exfalso; omega) | go_ret2
    all_goals exact ⟨rfl, m7.below⟩
set_option maxRecDepth 100000 in
set_option maxHeartbeats 2000000 in
theorem rmd_up (a b d l x L : Int) (S Q G O F : Nat → Bool) (p bo up : Bool) (ha : 0 ≤ a ∧ a < 9223372036854775808) (hb : 0 ≤ b ∧ b < 9223372036854775808) (hd : 1 ≤ d ∧ d < 9223372036854775808)
    (cM : ∀ W, Calls Try.prog 40 #[.int .u64 a, .int .u64 b] W fun e w' => e = .returned (.agg (arr S)) ∧ Below W.heap.size W w')
    (cD : ∀ W, Calls Try.prog 43 #[.agg (arr S), .int .u64 d] W fun e w' => e = .returned (.tuple #[.agg (arr Q), .agg (arr G)]) ∧ Below W.heap.size W w')
    (cL : ∀ W, Calls Try.prog 44 #[.agg (arr G)] W fun e w' => e = .returned (.int .i64 L) ∧ Below W.heap.size W w')
    (hL : 0 < L) (hup : up = true)
    (cO : ∀ W, Calls Try.prog 46 #[.int .u64 0, .int .u64 1] W fun e w' => e = .returned (.agg (arr O)) ∧ Below W.heap.size W w')
    (cA : ∀ W, Calls Try.prog 45 #[.agg (arr Q), .agg (arr O)] W fun e w' => e = .returned (.tuple #[.agg (arr F), .bool bo]) ∧ Below W.heap.size W w')
    (cH : ∀ W, Calls Try.prog 36 #[.agg (arr F)] W fun e w' => e = .returned (.tuple #[.int .u64 0, .int .u64 l]) ∧ Below W.heap.size W w')
    (cG : ∀ W, Calls Try.prog 39 #[.int .u64 l, .bool false] W fun e w' => e = .returned (.tuple #[.int .i64 x, .bool p]) ∧ Below W.heap.size W w')
 (w : World) :
    Calls Try.prog 17 #[.int .i64 a, .int .i64 b, .int .i64 d, .bool up] w fun e w' => e = .returned (.tuple #[.int .i64 x, .bool p]) ∧ Below w.heap.size w w' := by
  obtain ⟨a0, a1⟩ := ha
  obtain ⟨b0, b1⟩ := hb
  obtain ⟨d0, d1⟩ := hd
  have zv := zero28
  have m0 := Mem.start w
  subst hup
  · skip
    go_enter Try.func17, Try.ntmps17
    go_wp2_with (first
      | (go_at_call 40; (with_reducible refine (cM _).mono ?_); rintro e w1 ⟨rfl, hb1⟩; have m1 := m0.keep hb1; clear m0 hb1)
      | (go_at_call 43; (with_reducible refine (cD _).mono ?_); rintro e w2 ⟨rfl, hb1⟩; have m2 := m1.keep hb1; clear m1 hb1)
      | (refine st28 rfl (.tmp 10) (.tmp 33) rfl w2.heap.size Q (fun _ => false) rfl rfl ((Blk.new' rfl).alloc _) ?_; refine st28 rfl (.tmp 11) (.tmp 34) rfl (w2.heap.size + 1) G (fun _ => false) rfl rfl ((Blk.new' (by simp)).setRow_other (by omega) _) ?_; have m4 := two_rows m2 45 (arr fun _ => false) (arr Q) (arr G); have hg := m2.below.size; generalize (((w2.alloc (.cells (arr fun _ => false) 45)).alloc (.cells (arr fun _ => false) 45)).setRow w2.heap.size (arr Q)).setRow (w2.heap.size + 1) (arr G) = W4 at *; generalize w2.heap.size = g1 at *; clear m2)
      | (refine ld28g (by rfl) (.tmp 11) rfl (g1 + 1) rfl G (m4.blk _ _ _ (by simp)) ?_)
      | (go_at_call 44; (with_reducible refine (cL _).mono ?_); rintro e w5 ⟨rfl, hb1⟩; have m5 := m4.keep hb1; clear m4 hb1))
    all_goals first | (exfalso; omega) | skip
    refine wp_region_S (S := fun L w' => L.size = 7 ∧ (L.getD 6 false = true → L.getD 0 false = true) ∧ Mem w [(g1 + 1, 45, arr G), (g1, 45, arr (if L.getD 6 false = true then F else Q))] w') (by kernel_rfl) ⟨rfl, fun h8 => (by cases h8), m5.drew⟩ ?_
    refine AllS.next (v := .agg (arr Q)) rfl rfl rfl (by kernel_rfl) ?_ ?_
    · exact yieldsS_load28r (fun L wx _ h => ⟨by simpa using h.1, fun h8 => getD_set_true (h.2.1 (by rwa [getD_next (by decide)] at h8)), by rw [getD_next (by decide)]; exact h.2.2⟩) (by rfl) rfl rfl fun L wx hL hS => old_before hL hS.2.1 hS.2.2
    simp only [Act.put, List.setIfInBounds_toArray, List.set_cons_zero, List.set_cons_succ, List.getElem_toArray, List.getElem_cons_zero]
    refine AllS.next (v := .agg (arr O)) rfl rfl rfl (by kernel_rfl) ?_ ?_
    · refine yieldsS_call (f := 46) (args := #[.int .u64 0, .int .u64 1]) (by rfl) ?_ ?_
      · intro wx
        go_simp
        try with_reducible rfl
      · intro L wx hS
        exact (cO wx).mono fun e w' h => ⟨h.1, by simpa using hS.1, fun h8 => getD_set_true (hS.2.1 (by rwa [getD_next (by decide)] at h8)), by rw [getD_next (by decide)]; exact hS.2.2.keep h.2⟩
    simp only [Act.put, List.setIfInBounds_toArray, List.set_cons_zero, List.set_cons_succ, List.getElem_toArray, List.getElem_cons_zero, List.getElem_cons_succ]
    refine AllS.next (v := .tuple #[.agg (arr F), .bool bo]) rfl rfl rfl (by kernel_rfl) ?_ ?_
    · refine yieldsS_call (f := 45) (args := #[.agg (arr Q), .agg (arr O)]) (by rfl) ?_ ?_
      · intro wx
        go_simp
        try with_reducible rfl
      · intro L wx hS
        exact (cA wx).mono fun e w' h => ⟨h.1, by simpa using hS.1, fun h8 => getD_set_true (hS.2.1 (by rwa [getD_next (by decide)] at h8)), by rw [getD_next (by decide)]; exact hS.2.2.keep h.2⟩
    simp only [Act.put, List.setIfInBounds_toArray, List.set_cons_zero, List.set_cons_succ, List.getElem_toArray, List.getElem_cons_zero, List.getElem_cons_succ]
    refine AllS.next (v := ?_) rfl rfl rfl (by kernel_rfl) ?_ ?_
    rotate_left
    · refine yieldsS_run (fun L wx h => ⟨by simpa using h.1, fun h8 => getD_set_true (h.2.1 (by rwa [getD_next (by decide)] at h8)), by rw [getD_next (by decide)]; exact h.2.2⟩) (by rfl) ?_
      intro L wx hS
      go_simp
      try with_reducible rfl
    simp only [Act.put, List.setIfInBounds_toArray, List.set_cons_zero, List.set_cons_succ, List.getElem_toArray, List.getElem_cons_zero, List.getElem_cons_succ]
    refine AllS.next (v := ?_) rfl rfl rfl (by kernel_rfl) ?_ ?_
    rotate_left
    · refine yieldsS_run (fun L wx h => ⟨by simpa using h.1, fun h8 => getD_set_true (h.2.1 (by rwa [getD_next (by decide)] at h8)), by rw [getD_next (by decide)]; exact h.2.2⟩) (by rfl) ?_
      intro L wx hS
      go_simp
      try with_reducible rfl
    simp only [Act.put, List.setIfInBounds_toArray, List.set_cons_zero, List.set_cons_succ, List.getElem_toArray, List.getElem_cons_zero, List.getElem_cons_succ]
    refine AllS.next (v := ?_) rfl rfl rfl (by kernel_rfl) ?_ ?_
    rotate_left
    · refine yieldsS_run (fun L wx h => ⟨by simpa using h.1, fun h8 => getD_set_true (h.2.1 (by rwa [getD_next (by decide)] at h8)), by rw [getD_next (by decide)]; exact h.2.2⟩) (by rfl) ?_
      intro L wx hS
      go_simp
      try with_reducible rfl
    simp only [Act.put, List.setIfInBounds_toArray, List.set_cons_zero, List.set_cons_succ, List.getElem_toArray, List.getElem_cons_zero, List.getElem_cons_succ]
    refine AllS.next (v := undef) rfl rfl rfl (by kernel_rfl) ?_ ?_
    · exact yieldsS_store28 (by rfl) rfl rfl rfl fun L wx hL hS => ⟨⟨_, hS.2.2.blk g1 45 (arr (if L.getD 6 false = true then F else Q)) (by simp)⟩, by simpa using hS.1, fun _ => getD_set_true (ready_dep hL (by kernel_rfl)), by rw [getD_self (by rw [hS.1]; decide), if_pos rfl]; exact hS.2.2.setSnd _ (by omega) (by omega)⟩
    simp only [Act.put, List.getElem_toArray, List.getElem_cons_zero, List.getElem_cons_succ]
    refine AllS.done (by kernel_rfl) ?_
    intro wx hS
    have m6 := hS.2.2
    rw [if_pos (by rfl)] at m6
    clear hS m5
    go_wp2_with (first
      | (refine ld28 rfl (.tmp 10) rfl g1 rfl F (m6.blk g1 _ _ (by simp)) ?_)
      | (go_at_call 36; (with_reducible refine (cH _).mono ?_); rintro e w7 ⟨rfl, hb1⟩; have m7 := m6.keep hb1; clear m6 hb1)
      | (go_at_call 39; (with_reducible refine (cG _).mono ?_); rintro e w8 ⟨rfl, hb1⟩; have m8 := m7.keep hb1; clear m7 hb1))
    all_goals first | (exfalso; omega) | go_ret2
    all_goals exact ⟨rfl, m8.below⟩
theorem rmuldiv_any (a b d : Int) (up : Bool) (ha : In64 a) (hb : In64 b) (hd : In64 d) (w : World) :
    Calls Try.prog 17 #[.int .i64 a, .int .i64 b, .int .i64 d, .bool up] w fun e w' => e = .returned (mdT a b d up) ∧ Below w.heap.size w w' := by
  unfold mdT
  by_cases hn : a < 0 ∨ b < 0 ∨ d < 1
  · rw [if_pos hn]
    unfold In64 at ha hb hd
    go_enter Try.func17, Try.ntmps17
    go_wp2
    all_goals first | (exfalso; omega) | go_ret2
    all_goals exact ⟨rfl, Below.refl _ _⟩
  · rw [if_neg hn]
    have ha' : 0 ≤ a ∧ a < 9223372036854775808 := ⟨by omega, ha.2⟩
    have hb' : 0 ≤ b ∧ b < 9223372036854775808 := ⟨by omega, hb.2⟩
    have hd' : 1 ≤ d ∧ d < 9223372036854775808 := ⟨by omega, hd.2⟩
    have wa : Word a := ⟨ha'.1, by omega⟩
    have wb : Word b := ⟨hb'.1, by omega⟩
    have hP := two_mul a b wa wb
    have cM := mulN a b wa wb
    have hPP : a * b ≤ 9223372036854775807 * 9223372036854775807 := Int.mul_le_mul (by omega) (by omega) hb'.1 (by decide)
    have hab := toNat_mul' ha'.1 hb'.1
    unfold mdV
    generalize a.toNat * b.toNat = N at *
    rw [← hab] at hPP hP ⊢
    obtain ⟨D, rfl⟩ := Int.eq_ofNat_of_zero_le (show 0 ≤ d by omega)
    have hN : N < 340282366920938463463374607431768211456 := by have := hP.2; omega
    have cD := rdiv_any N D hN (by omega) (by omega)
    have cL := lenN (N % D)
    have hmlt := Nat.mod_lt N (show 0 < D by omega)
    obtain ⟨z1, z2⟩ := len_zero (N % D) (by omega)
    have hqle := Nat.div_le_self N D
    have e1 : (N : Int) / D = ((N / D : Nat) : Int) := by simp
    have e2 : (N : Int) % D = ((N % D : Nat) : Int) := by simp
    rw [e1, e2]
    by_cases hu : up = true ∧ ((N % D : Nat) : Int) ≠ 0
    · rw [if_pos hu]
      have hl := z2 (by have := hu.2; omega)
      obtain ⟨bo, cA⟩ := addN (N / D) 1
      have cO := ofN 1 ⟨by decide, by decide⟩
      have cH := halvesN (N / D + 1) (by omega)
      have e3 : ((N / D : Nat) : Int) + 1 = ((N / D + 1 : Nat) : Int) := by simp
      rw [e3]
      have hL0 : (0 : Int) < (lenB (BitVec.ofNat 128 (N % D)) 128 : Nat) := by omega
      generalize (lenB (BitVec.ofNat 128 (N % D)) 128 : Int) = L at *
      by_cases hN2 : 18446744073709551616 ≤ N / D + 1
      · rw [fit_no (by unfold In64; omega)]
        exact rmd_up_over a b D _ _ _ _ _ _ _ _ bo up ha' hb' hd' cM cD cL hL0 hu.1 cO cA cH (by have := Nat.div_pos hN2 (by decide); omega) w
      · have hlt : N / D + 1 < 18446744073709551616 := by omega
        rw [Nat.div_eq_of_lt hlt, Nat.mod_eq_of_lt hlt] at cH
        have cG := signed_any ((N / D + 1 : Nat) : Int) false ⟨Int.natCast_nonneg _, Int.ofNat_lt.2 hlt⟩
        rw [if_neg (by decide)] at cG
        obtain ⟨x, p, hx, -, -⟩ := fit_is ((N / D + 1 : Nat) : Int)
        rw [hx] at cG ⊢
        exact rmd_up a b D _ x _ _ _ _ _ _ p bo up ha' hb' hd' cM cD cL hL0 hu.1 cO cA cH cG w
    · rw [if_neg hu, Int.add_zero]
      have cH := halvesN (N / D) (by omega)
      have hup : up = false ∨ up = true ∧ (lenB (BitVec.ofNat 128 (N % D)) 128 : Int) = 0 := by
        cases up
        · exact .inl rfl
        · right
          refine ⟨rfl, ?_⟩
          have : N % D = 0 := Decidable.byContradiction fun h => hu ⟨rfl, by omega⟩
          rw [z1 this]; rfl
      generalize (lenB (BitVec.ofNat 128 (N % D)) 128 : Int) = L at *
      by_cases hN2 : 18446744073709551616 ≤ N / D
      · rw [fit_no (by unfold In64; omega)]
        exact rmd_down_over a b D _ _ _ _ _ _ up ha' hb' hd' cM cD cL hup cH (by have := Nat.div_pos hN2 (by decide); omega) w
      · have hlt : N / D < 18446744073709551616 := by omega
        rw [Nat.div_eq_of_lt hlt, Nat.mod_eq_of_lt hlt] at cH
        have cG := signed_any ((N / D : Nat) : Int) false ⟨Int.natCast_nonneg _, Int.ofNat_lt.2 hlt⟩
        rw [if_neg (by decide)] at cG
        obtain ⟨x, p, hx, -, -⟩ := fit_is ((N / D : Nat) : Int)
        rw [hx] at cG ⊢
        exact rmd_down a b D _ x _ _ _ _ p up ha' hb' hd' cM cD cL hup cH cG w
end Go.Proofs.Ytnahocdeaopflaa
