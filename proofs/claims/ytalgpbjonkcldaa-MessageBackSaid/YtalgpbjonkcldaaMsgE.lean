/-
  The contract of package message's Encode.
-/
import Derived.Test.YtalgpbjonkcldaaMsgP
import Derived.Test.YtalgpbjonkcldaaMsgF
namespace Go.Proofs.Ytalgpbjonkcldaa
open Go.RowKit
/-- A writer of one's own, laid at block g when the world was V: nothing that V had has turned. -/
def Wi (V : World) (g : Nat) (w : World) (xs : List Nat) : Prop := ∃ k, Wr w g k xs ∧ g < k ∧ Below g V w ∧ xs.length ≤ 1000
theorem Wi.step {V w w' : World} {g k : Nat} {xs zs : List Nat} (hk : g < k) (hb : Below g V w) (hW : Wr w g k xs) (h : Wrote w g k w' zs) (hl : zs.length ≤ 1000) : Wi V g w' zs := by
  obtain ⟨k', h1, h2, h3⟩ := h
  have hlt : g < w.heap.size := by obtain ⟨_, _, hg, _, _⟩ := hW; exact hg.lt
  exact ⟨k', h1, by omega, hb.trans (h2.below (by omega) (by rintro b (rfl | rfl) <;> omega)), hl⟩
theorem Wi.new {V : World} {g : Nat} (hg : g = V.heap.size) : Wi V g (V.alloc (.cells #[.slice none 0 0] 43)) [] := by
  subst hg
  exact ⟨V.heap.size + 1, nilWriter (Blk.new _ _ _) (by omega), by omega, (Below.refl _ _).alloc (Nat.le_refl _) _, by simp⟩
theorem Wi.uint {V w : World} {g : Nat} {xs : List Nat} (h : Wi V g w xs) (n : Nat) (hn : n < 256) (hl : xs.length ≤ 900) :
    Calls Try.prog 21 #[.pointer (some ⟨g, 0, none⟩), .int .u64 (n : Int), .int .i64 1] w fun e w' => e = .returned (.pointer (some ⟨g, 0, none⟩)) ∧ Wi V g w' (xs ++ [n]) := by
  obtain ⟨k, hW, hk, hb, _⟩ := h
  refine (uint_any n (by omega) 1 (by omega) (by omega) g k xs (by omega) w hW).mono ?_
  rintro e w' ⟨rfl, h2⟩
  rw [beM_one hn] at h2
  exact ⟨rfl, Wi.step hk hb hW h2 (by simp; omega)⟩
theorem Wi.num {V w : World} {g : Nat} {xs : List Nat} (h : Wi V g w xs) (n : Nat) (hn : n ≤ 4611686018427387904) (hl : xs.length ≤ 900) :
    Calls Try.prog 22 #[.pointer (some ⟨g, 0, none⟩), .int .u64 (n : Int)] w fun e w' => e = .returned (.pointer (some ⟨g, 0, none⟩)) ∧ Wi V g w' (xs ++ num n) := by
  obtain ⟨k, hW, hk, hb, _⟩ := h
  have hq := num_ten (n := n) (by omega)
  refine (num_any n (by omega) g k xs (by omega) w hW).mono ?_
  rintro e w' ⟨rfl, h2⟩
  exact ⟨rfl, Wi.step hk hb hW h2 (by simp; omega)⟩
theorem Wi.int {V w : World} {g : Nat} {xs : List Nat} (h : Wi V g w xs) (s : Int) (hs : In64 s) (hl : xs.length ≤ 900) :
    Calls Try.prog 23 #[.pointer (some ⟨g, 0, none⟩), .int .i64 s] w fun e w' => e = .returned (.pointer (some ⟨g, 0, none⟩)) ∧ Wi V g w' (xs ++ be 8 (zig s)) := by
  obtain ⟨k, hW, hk, hb, _⟩ := h
  refine (int_any s hs.1 hs.2 g k xs (by omega) w hW).mono ?_
  rintro e w' ⟨rfl, h2⟩
  exact ⟨rfl, Wi.step hk hb hW h2 (by simp [be_length]; omega)⟩
theorem Wi.kept {V w : World} {g b : Nat} {xs : List Nat} {T : TypeId} {cs : Array Value} (h : Wi V g w xs) (hb : Blk V b T cs) (hg : g = V.heap.size) : Blk w b T cs := by
  obtain ⟨_, _, _, hB, _⟩ := h
  subst hg
  exact hb.below hB hb.lt
/-- What has been written so far: two numbers, four. -/
def frB (a b c : List Nat) : Nat → List Nat
  | 0 => a
  | 1 => a ++ b
  | _ => (a ++ b) ++ c
def frC (a b c d e : List Nat) : Nat → List Nat
  | 0 => a
  | 1 => a ++ b
  | 2 => (a ++ b) ++ c
  | 3 => ((a ++ b) ++ c) ++ d
  | _ => (((a ++ b) ++ c) ++ d) ++ e
set_option maxRecDepth 8000 in
set_option maxHeartbeats 2000000 in
theorem mencode_road (k s q t c : Nat) (i o p y : Int) (hk : k < 256) (hs : s < 256) (hc : c < 256) (hq : q ≤ 4611686018427387904) (ht : t ≤ 4611686018427387904) (hi : In64 i) (ho : In64 o) (hp : In64 p) (hy : In64 y) (W : World)
    (cR : ∀ w, Calls Try.prog 10 #[vMsg ⟨(k : Int), (s : Int), (q : Int), (t : Int), i, o, p, y, (c : Int)⟩] w fun e w' => e = .returned (.bool true) ∧ Below w.heap.size w w') :
    Calls Try.prog 7 #[vMsg ⟨(k : Int), (s : Int), (q : Int), (t : Int), i, o, p, y, (c : Int)⟩] W fun e w' => Coded W w' e (((((([k, s, c] ++ num q) ++ num t) ++ be 8 (zig i)) ++ be 8 (zig o)) ++ be 8 (zig p)) ++ be 8 (zig y)) 0 := by
  obtain ⟨X, hX⟩ : ∃ X, Hid (X = (((((([k, s, c] ++ num q) ++ num t) ++ be 8 (zig i)) ++ be 8 (zig o)) ++ be 8 (zig p)) ++ be 8 (zig y))) := ⟨_, Lib.hid rfl⟩
  rw [← hX.out]
  have vK := fun w => conv_u64 Try.underlying3 k (by omega) w
  have vS := fun w => conv_u64 Try.underlying3 s (by omega) w
  have vC := fun w => conv_u64 Try.underlying3 c (by omega) w
  have vQ := fun w => conv_u64 Try.underlying2 q (by omega) w
  have vT := fun w => conv_u64 Try.underlying2 t (by omega) w
  have lQ := num_ten (n := q) (by omega)
  have lT := num_ten (n := t) (by omega)
  have lI : (be 8 (zig i)).length = 8 := be_length _ _
  have lO : (be 8 (zig o)).length = 8 := be_length _ _
  have lP : (be 8 (zig p)).length = 8 := be_length _ _
  have iA0 : ∀ w, (Instr.index 47 (.agg #[.int .i64 (k : Int), .int .i64 (s : Int), .int .i64 (c : Int)]) (.int .i64 0)).run Try.prog w = .ok (.int .i64 (k : Int)) w := fun _ => by kernel_rfl
  have iA1 : ∀ w, (Instr.index 47 (.agg #[.int .i64 (k : Int), .int .i64 (s : Int), .int .i64 (c : Int)]) (.int .i64 1)).run Try.prog w = .ok (.int .i64 (s : Int)) w := fun _ => by kernel_rfl
  have iA2 : ∀ w, (Instr.index 47 (.agg #[.int .i64 (k : Int), .int .i64 (s : Int), .int .i64 (c : Int)]) (.int .i64 2)).run Try.prog w = .ok (.int .i64 (c : Int)) w := fun _ => by kernel_rfl
  have iB0 : ∀ w, (Instr.index 49 (.agg #[.int .i64 (q : Int), .int .i64 (t : Int)]) (.int .i64 0)).run Try.prog w = .ok (.int .i64 (q : Int)) w := fun _ => by kernel_rfl
  have iB1 : ∀ w, (Instr.index 49 (.agg #[.int .i64 (q : Int), .int .i64 (t : Int)]) (.int .i64 1)).run Try.prog w = .ok (.int .i64 (t : Int)) w := fun _ => by kernel_rfl
  have iC0 : ∀ w, (Instr.index 50 (.agg #[.int .i64 i, .int .i64 o, .int .i64 p, .int .i64 y]) (.int .i64 0)).run Try.prog w = .ok (.int .i64 i) w := fun _ => by kernel_rfl
  have iC1 : ∀ w, (Instr.index 50 (.agg #[.int .i64 i, .int .i64 o, .int .i64 p, .int .i64 y]) (.int .i64 1)).run Try.prog w = .ok (.int .i64 o) w := fun _ => by kernel_rfl
  have iC2 : ∀ w, (Instr.index 50 (.agg #[.int .i64 i, .int .i64 o, .int .i64 p, .int .i64 y]) (.int .i64 2)).run Try.prog w = .ok (.int .i64 p) w := fun _ => by kernel_rfl
  have iC3 : ∀ w, (Instr.index 50 (.agg #[.int .i64 i, .int .i64 o, .int .i64 p, .int .i64 y]) (.int .i64 3)).run Try.prog w = .ok (.int .i64 y) w := fun _ => by kernel_rfl
  go_enter Try.func7, Try.ntmps7
  have hN : ∀ w1, Below (W.alloc (.cells (cMsg ⟨(k : Int), (s : Int), (q : Int), (t : Int), i, o, p, y, (c : Int)⟩) 23)).heap.size (W.alloc (.cells (cMsg ⟨(k : Int), (s : Int), (q : Int), (t : Int), i, o, p, y, (c : Int)⟩) 23)) w1 → Blk w1 W.heap.size 23 (cMsg ⟨(k : Int), (s : Int), (q : Int), (t : Int), i, o, p, y, (c : Int)⟩) ∧ Below W.heap.size W w1 :=
    fun w1 h => ⟨(Blk.new W _ _).below h (by simp), (Below.al (Below.refl _ W) _).trans (h.mono (by simp))⟩
  go_wp2_with (go_at_call 10; refine (cR _).mono ?_; rintro e w1 ⟨rfl, hb1⟩; obtain ⟨hB, hbel⟩ := hN _ hb1; clear hb1 cR hN; have hI := Wi.new (V := w1) rfl; have hB2 := hB.alloc (.cells #[.slice none 0 0] 43); obtain ⟨x0, x1, x2, x3, x4, x5, x6, x7, x8⟩ := Msg.cells hB2)
  clear hB2 x0 x1 x2 x3 x4 x5 x6 x7 x8
  go_loopg [31] 3 (fun j pp wr => ∃ n : Nat, n + j = 3 ∧ pp = .int .i64 (n : Int) ∧ Wi w1 w1.heap.size wr ([k, s, c].take n))
  case atStart => exact ⟨0, by omega, rfl, hI⟩
  case round =>
    obtain ⟨n, hn, rfl, hJ⟩ := hrel
    have hcase : n = 0 ∨ n = 1 ∨ n = 2 ∨ n = 3 := by omega
    clear hI
    rcases hcase with rfl | rfl | rfl | rfl
    · have cU := hJ.uint k hk (by simp)
      clear hJ
      go_wp2_with (go_at_call 21; refine cU.mono ?_; rintro e w2 ⟨rfl, hJ2⟩)
      go_roundg 2
      case measure => omega
      case rel => exact ⟨1, by omega, rfl, hJ2⟩
    · have cU := hJ.uint s hs (by simp)
      clear hJ
      go_wp2_with (go_at_call 21; refine cU.mono ?_; rintro e w2 ⟨rfl, hJ2⟩)
      go_roundg 1
      case measure => omega
      case rel => exact ⟨2, by omega, rfl, hJ2⟩
    · have cU := hJ.uint c hc (by simp)
      clear hJ
      go_wp2_with (go_at_call 21; refine cU.mono ?_; rintro e w2 ⟨rfl, hJ2⟩)
      go_roundg 0
      case measure => omega
      case rel => exact ⟨3, by omega, rfl, hJ2⟩
    · obtain ⟨x0, x1, x2, x3, x4, x5, x6, x7, x8⟩ := Msg.cells (Wi.kept hJ hB rfl)
      go_wp2_with fail
      clear x0 x1 x2 x3 x4 x5 x6 x7 x8
      go_loopg [44] 2 (fun j pp wr => ∃ n : Nat, n + j = 2 ∧ pp = .int .i64 (n : Int) ∧ Wi w1 w1.heap.size wr (frB [k, s, c] (num q) (num t) n))
      case atStart => exact ⟨0, by omega, rfl, hJ⟩
      case round =>
        clear hJ
        obtain ⟨n, hn, rfl, hJ⟩ := hrel
        have hcase : n = 0 ∨ n = 1 ∨ n = 2 := by omega
        rcases hcase with rfl | rfl | rfl
        · have cU := hJ.num q hq (by simp [frB] <;> omega)
          clear hJ
          go_wp2_with (go_at_call 22; refine cU.mono ?_; rintro e w2 ⟨rfl, hJ2⟩)
          go_roundg 1
          case measure => omega
          case rel => exact ⟨1, by omega, rfl, hJ2⟩
        · have cU := hJ.num t ht (by simp [frB] <;> omega)
          clear hJ
          go_wp2_with (go_at_call 22; refine cU.mono ?_; rintro e w2 ⟨rfl, hJ2⟩)
          go_roundg 0
          case measure => omega
          case rel => exact ⟨2, by omega, rfl, hJ2⟩
        · obtain ⟨x0, x1, x2, x3, x4, x5, x6, x7, x8⟩ := Msg.cells (Wi.kept hJ hB rfl)
          go_wp2_with fail
          clear x0 x1 x2 x3 x4 x5 x6 x7 x8
          go_loopg [61] 4 (fun j pp wr => ∃ n : Nat, n + j = 4 ∧ pp = .int .i64 (n : Int) ∧ Wi w1 w1.heap.size wr (frC (([k, s, c] ++ num q) ++ num t) (be 8 (zig i)) (be 8 (zig o)) (be 8 (zig p)) (be 8 (zig y)) n))
          case atStart => exact ⟨0, by omega, rfl, hJ⟩
          case round =>
            clear hJ
            obtain ⟨n, hn, rfl, hJ⟩ := hrel
            have hcase : n = 0 ∨ n = 1 ∨ n = 2 ∨ n = 3 ∨ n = 4 := by omega
            rcases hcase with rfl | rfl | rfl | rfl | rfl
            · have cU := hJ.int i hi (by simp [frC] <;> omega)
              clear hJ
              go_wp2_with (go_at_call 23; refine cU.mono ?_; rintro e w2 ⟨rfl, hJ2⟩)
              go_roundg 3
              case measure => omega
              case rel => exact ⟨1, by omega, rfl, hJ2⟩
            · have cU := hJ.int o ho (by simp [frC, lI] <;> omega)
              clear hJ
              go_wp2_with (go_at_call 23; refine cU.mono ?_; rintro e w2 ⟨rfl, hJ2⟩)
              go_roundg 2
              case measure => omega
              case rel => exact ⟨2, by omega, rfl, hJ2⟩
            · have cU := hJ.int p hp (by simp [frC, lI, lO] <;> omega)
              clear hJ
              go_wp2_with (go_at_call 23; refine cU.mono ?_; rintro e w2 ⟨rfl, hJ2⟩)
              go_roundg 1
              case measure => omega
              case rel => exact ⟨3, by omega, rfl, hJ2⟩
            · have cU := hJ.int y hy (by simp [frC, lI, lO, lP] <;> omega)
              clear hJ
              go_wp2_with (go_at_call 23; refine cU.mono ?_; rintro e w2 ⟨rfl, hJ2⟩)
              go_roundg 0
              case measure => omega
              case rel => exact ⟨4, by omega, rfl, hJ2⟩
            · have hJ3 : Wi w1 w1.heap.size wr X := by rw [hX.out]; exact hJ
              clear hX hJ
              obtain ⟨kk, hW, hkk, hbk, hlk⟩ := hJ3
              have cB := bytes_any w1.heap.size kk X (by omega) wr hW
              clear hlk
              go_wp2_with (go_at_call 24; refine cB.mono ?_; rintro e w3 ⟨v, rfl, ao, cap, k', rfl, hX3, hb3, hk3⟩)
              go_ret2
              exact ⟨ao, cap, k', rfl, hX3, hbel.trans ((hbk.mono hbel.size).trans (hb3.mono (by have := hbel.size; have := hbk.size; omega)))⟩
theorem mright_true {m : Msg} (h : rightM m = true) (w : World) : Calls Try.prog 10 #[vMsg m] w fun e w' => e = .returned (.bool true) ∧ Below w.heap.size w w' :=
  (mright_any m w).mono fun e w' k => ⟨by rw [k.1, h], k.2⟩
theorem mright_false {m : Msg} (h : rightM m = false) (w : World) : Calls Try.prog 10 #[vMsg m] w fun e w' => e = .returned (.bool false) ∧ Below w.heap.size w w' :=
  (mright_any m w).mono fun e w' k => ⟨by rw [k.1, h], k.2⟩
theorem mencode_any (m : Msg) (hf : m.Fit) (W : World) : Calls Try.prog 7 #[vMsg m] W fun e w' => Coded W w' e (encMB m) (encMF m) := by
  cases h : rightM m with
  | true =>
    unfold encMB encMF
    rw [if_pos h, if_pos h]
    have cR := mright_true h
    revert cR
    refine rightM_cases (P := fun m => (∀ w, Calls Try.prog 10 #[vMsg m] w fun e w' => e = .returned (.bool true) ∧ Below w.heap.size w w') → Calls Try.prog 7 #[vMsg m] W fun e w' => Coded W w' e (formM m) 0) m ((rightM_iff m).1 h) hf ?_
    intro k s q t c i o p y hk hs hc hq ht hi ho hp hy cR
    have e : formM ⟨(k : Int), (s : Int), (q : Int), (t : Int), i, o, p, y, (c : Int)⟩ = (((((([k, s, c] ++ num q) ++ num t) ++ be 8 (zig i)) ++ be 8 (zig o)) ++ be 8 (zig p)) ++ be 8 (zig y)) := by simp [formM]
    rw [e]
    exact mencode_road k s q t c i o p y hk hs hc hq ht hi ho hp hy W cR
  | false =>
    have cR := mright_false h
    unfold encMB encMF
    rw [if_neg (by rw [h]; decide), if_neg (by rw [h]; decide)]
    clear h hf
    obtain ⟨kind, sym, seq, tick, id, other, price, qty, code⟩ := m
    go_enter Try.func7, Try.ntmps7
    go_wp2_with (go_at_call 10; refine (cR _).mono ?_; rintro e w1 ⟨rfl, hb1⟩)
    go_ret2
    exact ⟨none, 0, 0, rfl, Bt.nil _ _, ((Below.refl _ _).alloc (Nat.le_refl _) _).trans (hb1.mono (by simp))⟩
end Go.Proofs.Ytalgpbjonkcldaa
