/-
  The contracts of package command's Encode, and of the document's, for every command.
-/
import Derived.Test.YtjleebfdbkfgmaaCmdF
namespace Go.Proofs.Ytjleebfdbkfgmaa
open Go.RowKit
/-- The bytes, and the fault, of a command. -/
def encB (c : Cmd) : List Nat := if rightB c = true then formC c else []
def encF (c : Cmd) : Nat := if rightB c = true then 0 else 1
/-- The three kinds of a right command, its numbers as what they are. -/
theorem right_cases {M : Cmd → Prop} (c : Cmd) (hr : Right c) (hf : c.Fit)
    (h1 : ∀ (s i o d t f : Nat) (p q : Int), s < 256 → i ≤ 4611686018427387904 → o ≤ 1073741824 → d < 256 → t < 256 → f < 256 → In64 p → In64 q → M ⟨1, (s : Int), (i : Int), (o : Int), (d : Int), (t : Int), p, q, (f : Int)⟩)
    (h2 : ∀ (s i : Nat), s < 256 → i ≤ 4611686018427387904 → M ⟨2, (s : Int), (i : Int), 0, 0, 0, 0, 0, 0⟩)
    (h3 : ∀ (s i : Nat) (p q : Int), s < 256 → i ≤ 4611686018427387904 → In64 p → In64 q → M ⟨3, (s : Int), (i : Int), 0, 0, 0, p, q, 0⟩) : M c := by
  obtain ⟨hk, hs, hi, hn, hre, hba⟩ := hr
  obtain ⟨kind, sym, id, owner, side, typ, price, qty, flags⟩ := c
  have hp := hf.price
  have hq := hf.qty
  simp only at hk hs hi hn hre hba hp hq
  obtain ⟨s, rfl⟩ : ∃ s : Nat, sym = (s : Int) := ⟨sym.toNat, by omega⟩
  obtain ⟨i, rfl⟩ : ∃ i : Nat, id = (i : Int) := ⟨id.toNat, by omega⟩
  rcases hk with hk | hk | hk
  · subst hk
    obtain ⟨ho, hd, ht, hfl⟩ := hn rfl
    obtain ⟨o, rfl⟩ : ∃ n : Nat, owner = (n : Int) := ⟨owner.toNat, by omega⟩
    obtain ⟨d, rfl⟩ : ∃ n : Nat, side = (n : Int) := ⟨side.toNat, by omega⟩
    obtain ⟨t, rfl⟩ : ∃ n : Nat, typ = (n : Int) := ⟨typ.toNat, by omega⟩
    obtain ⟨f, rfl⟩ : ∃ n : Nat, flags = (n : Int) := ⟨flags.toNat, by omega⟩
    exact h1 s i o d t f price qty (by omega) (by omega) (by omega) (by omega) (by omega) (by omega) hp hq
  · subst hk
    obtain ⟨rfl, rfl, rfl, rfl⟩ := hre (by decide)
    obtain ⟨rfl, rfl⟩ := hba rfl
    exact h2 s i (by omega) (by omega)
  · subst hk
    obtain ⟨rfl, rfl, rfl, rfl⟩ := hre (by decide)
    exact h3 s i price qty (by omega) (by omega) hp hq
theorem right_true {c : Cmd} (h : rightB c = true) (w : World) : Calls Try.prog 10 #[cv c] w fun e w' => e = .returned (.bool true) ∧ Below w.heap.size w w' :=
  (right_any c w).mono fun e w' k => ⟨by rw [k.1, h], k.2⟩
theorem right_false {c : Cmd} (h : rightB c = false) (w : World) : Calls Try.prog 10 #[cv c] w fun e w' => e = .returned (.bool false) ∧ Below w.heap.size w w' :=
  (right_any c w).mono fun e w' k => ⟨by rw [k.1, h], k.2⟩
theorem refRight_true {c : Cmd} (h : rightB c = true) (w : World) : Calls Try.prog 11 #[cv c] w fun e w' => e = .returned (.bool true) ∧ Below w.heap.size w w' :=
  (refRight_any c w).mono fun e w' k => ⟨by rw [k.1, h], k.2⟩
theorem refRight_false {c : Cmd} (h : rightB c = false) (w : World) : Calls Try.prog 11 #[cv c] w fun e w' => e = .returned (.bool false) ∧ Below w.heap.size w w' :=
  (refRight_any c w).mono fun e w' k => ⟨by rw [k.1, h], k.2⟩
theorem encode_any (c : Cmd) (hf : c.Fit) (W : World) : Calls Try.prog 6 #[cv c] W fun e w' => Coded W w' e (encB c) (encF c) := by
  cases h : rightB c with
  | true =>
    have cR := right_true h
    unfold encB encF
    rw [if_pos h, if_pos h]
    have hR := (right_iff c).1 h
    clear h
    refine right_cases (M := fun c => (∀ w, Calls Try.prog 10 #[cv c] w fun e w' => e = .returned (.bool true) ∧ Below w.heap.size w w') → Calls Try.prog 6 #[cv c] W fun e w' => Coded W w' e (formC c) 0) c hR hf ?_ ?_ ?_ cR
    · intro s i o d t f p q hs hi ho hd ht hfl hp hq cR
      have e : formC ⟨1, (s : Int), (i : Int), (o : Int), (d : Int), (t : Int), p, q, (f : Int)⟩ = (be 1 1 ++ (be 1 s ++ (num i ++ (num o ++ (be 1 d ++ (be 1 t ++ (be 1 f ++ (be 8 (zig p) ++ be 8 (zig q))))))))) := by
        rw [be_one (show 1 < 256 by decide), be_one hs, be_one hd, be_one ht, be_one hfl]; simp [formC]
      rw [e]
      exact encode_new s i o d t f p q hs hi ho hd ht hfl hp hq W cR
    · intro s i hs hi cR
      have e : formC ⟨2, (s : Int), (i : Int), 0, 0, 0, 0, 0, 0⟩ = (be 1 2 ++ (be 1 s ++ num i)) := by
        rw [be_one (show 2 < 256 by decide), be_one hs]; simp [formC]
      rw [e]
      exact encode_cancel s i hs hi W cR
    · intro s i p q hs hi hp hq cR
      have e : formC ⟨3, (s : Int), (i : Int), 0, 0, 0, p, q, 0⟩ = (be 1 3 ++ (be 1 s ++ (num i ++ (be 8 (zig p) ++ be 8 (zig q))))) := by
        rw [be_one (show 3 < 256 by decide), be_one hs]; simp [formC]
      rw [e]
      exact encode_replace s i p q hs hi hp hq W cR
  | false =>
    have cR := right_false h
    unfold encB encF
    rw [if_neg (by rw [h]; decide), if_neg (by rw [h]; decide)]
    clear h hf
    obtain ⟨kind, sym, id, owner, side, typ, price, qty, flags⟩ := c
    go_enter Try.func6, Try.ntmps6
    go_wp2_with (go_at_call 10; refine (cR _).mono ?_; rintro e w1 ⟨rfl, hb1⟩)
    go_ret2
    exact ⟨none, 0, 0, rfl, Bt.nil _ _, ((Below.refl _ _).alloc (Nat.le_refl _) _).trans (hb1.mono (by simp))⟩
theorem rform_any (c : Cmd) (hr : Right c) (hf : c.Fit) (W : World) : Calls Try.prog 19 #[cv c] W fun e w' => ∃ v, e = .returned v ∧ Given W w' v (formC c) := by
  refine right_cases (M := fun c => Calls Try.prog 19 #[cv c] W fun e w' => ∃ v, e = .returned v ∧ Given W w' v (formC c)) c hr hf ?_ ?_ ?_
  · intro s i o d t f p q hs hi ho hd ht hfl hp hq
    have e : formC ⟨1, (s : Int), (i : Int), (o : Int), (d : Int), (t : Int), p, q, (f : Int)⟩ = ((((([1, s] ++ num i) ++ num o) ++ [d, t, f]) ++ be 8 (zig p)) ++ be 8 (zig q)) := by simp [formC]
    rw [e]
    exact rform_new s i o d t f p q hs hi ho hd ht hfl hp hq W
  · intro s i hs hi
    have e : formC ⟨2, (s : Int), (i : Int), 0, 0, 0, 0, 0, 0⟩ = ([2, s] ++ num i) := by simp [formC]
    rw [e]
    exact rform_cancel s i hs hi W
  · intro s i p q hs hi hp hq
    have e : formC ⟨3, (s : Int), (i : Int), 0, 0, 0, p, q, 0⟩ = ((([3, s] ++ num i) ++ be 8 (zig p)) ++ be 8 (zig q)) := by simp [formC]
    rw [e]
    exact rform_replace s i p q hs hi hp hq W
theorem refEncode_any (c : Cmd) (hf : c.Fit) (W : World) : Calls Try.prog 7 #[cv c] W fun e w' => Coded W w' e (encB c) (encF c) := by
  cases h : rightB c with
  | true =>
    have cR := refRight_true h
    have cF := rform_any c ((right_iff c).1 h) hf
    unfold encB encF
    rw [if_pos h, if_pos h]
    clear h hf
    generalize formC c = X at cF ⊢
    have hb0 := fun o => (Below.refl W.heap.size W).alloc (Nat.le_refl _) o
    have hB0 : ∀ w1, Below (W.alloc (.cells (cc c) 23)).heap.size (W.alloc (.cells (cc c) 23)) w1 → Blk w1 W.heap.size 23 (cc c) ∧ Below W.heap.size W w1 := fun w1 h => ⟨(Blk.new W _ _).below h (by simp), (hb0 _).trans (h.mono (by simp))⟩
    obtain ⟨kind, sym, id, owner, side, typ, price, qty, flags⟩ := c
    go_enter Try.func7, Try.ntmps7
    go_wp2_with (first
      | (go_at_call 11; refine (cR _).mono ?_; rintro e w1 ⟨rfl, hb1⟩; obtain ⟨hB, hbel⟩ := hB0 _ hb1; obtain ⟨x0, x1, x2, x3, x4, x5, x6, x7, x8⟩ := cells9 hB; clear hB0 hb0)
      | (go_at_call 19; refine (cF _).mono ?_; rintro e w2 ⟨v, rfl, ao, cap, k, rfl, hX, hb2⟩))
    go_ret2
    exact ⟨ao, cap, k, rfl, hX, hbel.trans (hb2.mono hbel.size)⟩
  | false =>
    have cR := refRight_false h
    unfold encB encF
    rw [if_neg (by rw [h]; decide), if_neg (by rw [h]; decide)]
    clear h hf
    obtain ⟨kind, sym, id, owner, side, typ, price, qty, flags⟩ := c
    go_enter Try.func7, Try.ntmps7
    go_wp2_with (go_at_call 11; refine (cR _).mono ?_; rintro e w1 ⟨rfl, hb1⟩)
    go_ret2
    exact ⟨none, 0, 0, rfl, Bt.nil _ _, ((Below.refl _ _).alloc (Nat.le_refl _) _).trans (hb1.mono (by simp))⟩
end Go.Proofs.Ytjleebfdbkfgmaa
