/-
  The contracts of package fix's bandable, and of the document's answer fits, for every input.
-/
import Derived.Test.YtnahocdeaopflaaFixD
namespace Go.Proofs.Ytnahocdeaopflaa
open Go.RowKit Go.Shelf
def bandV (r b g : Int) : Bool := decide (1 ≤ r ∧ r ≤ 1099511627776 ∧ 0 ≤ b ∧ b ≤ 9999 ∧ 1 ≤ g ∧ g ≤ 1099511627776)
theorem check_any (n lo hi : Int) (q : Nat) (k r : Bool) (W : World) (hr : (k && (decide (lo ≤ n) && decide (n ≤ hi))) = r) (hb : Blk W q 4 #[.bool k]) :
    Calls Try.prog 57 #[.int .i64 n, .int .i64 lo, .int .i64 hi, .pointer (some ⟨q, 0, none⟩)] W fun e w' => e = .returned (.tuple #[]) ∧ w' = W.setCell ⟨q, 0, none⟩ (.bool r) := by
  have c0 := hb.cell_eq 0 (.bool k) rfl
  have c1 := hb.free 0
  cases k
  · subst hr
    go_enter Try.func57, Try.ntmps57
    go_wp2
    go_end0
    exact ⟨rfl, rfl⟩
  · by_cases h1 : lo ≤ n
    · have e1 : decide (lo ≤ n) = true := by simpa using h1
      rw [e1, Bool.true_and, Bool.true_and] at hr
      go_enter Try.func57, Try.ntmps57
      go_wp2
      go_end0
      exact ⟨rfl, rfl⟩
    · have e1 : decide (lo ≤ n) = false := by simpa using h1
      rw [e1, Bool.false_and, Bool.and_false] at hr
      subst hr
      go_enter Try.func57, Try.ntmps57
      go_wp2
      go_end0
      exact ⟨rfl, rfl⟩
theorem bandable_any (r b g : Int) (w : World) :
    Calls Try.prog 47 #[.int .i64 r, .int .i64 b, .int .i64 g] w fun e w' => e = .returned (.bool (bandV r b g)) ∧ Below w.heap.size w w' := by
  have m0 := (Mem.start w).new 4 #[.bool true]
  have e1 : (true && (decide (1 ≤ r) && decide (r ≤ 1099511627776))) = decide (1 ≤ r ∧ r ≤ 1099511627776) := by simp
  have e2 : ∀ p, (p && (decide (0 ≤ b) && decide (b ≤ 9999))) = (p && decide (0 ≤ b ∧ b ≤ 9999)) := by simp
  have e3 : ∀ p, (p && (decide (1 ≤ g) && decide (g ≤ 1099511627776))) = (p && decide (1 ≤ g ∧ g ≤ 1099511627776)) := by simp
  have eV : bandV r b g = ((decide (1 ≤ r ∧ r ≤ 1099511627776) && decide (0 ≤ b ∧ b ≤ 9999)) && decide (1 ≤ g ∧ g ≤ 1099511627776)) := by
    unfold bandV; simp [Bool.and_assoc]
  rw [eV]
  generalize decide (1 ≤ r ∧ r ≤ 1099511627776) = p1 at *
  have e2 := e2 p1
  generalize (p1 && decide (0 ≤ b ∧ b ≤ 9999)) = p2 at *
  have e3 := e3 p2
  generalize (p2 && decide (1 ≤ g ∧ g ≤ 1099511627776)) = p3 at *
  have c1 := fun W hb => check_any r 1 1099511627776 w.heap.size true p1 W e1 hb
  have c2 := fun W hb => check_any b 0 9999 w.heap.size p1 p2 W e2 hb
  have c3 := fun W hb => check_any g 1 1099511627776 w.heap.size p2 p3 W e3 hb
  clear e1 e2 e3 eV
  go_enter Try.func47, Try.ntmps47
  go_wp2_with (first
    | (go_at_call 57; (with_reducible refine (c1 _ (Blk.new' rfl)).mono ?_); rintro e w1 ⟨rfl, rfl⟩; clear c1)
    | (go_at_call 57; (with_reducible refine (c2 _ (Blk.new' rfl)).mono ?_); rintro e w1 ⟨rfl, rfl⟩; clear c2)
    | (go_at_call 57; (with_reducible refine (c3 _ (Blk.new' rfl)).mono ?_); rintro e w1 ⟨rfl, rfl⟩; clear c3))
  go_ret
  exact ⟨rfl, (Below.refl _ _).alloc (Nat.le_refl _) _⟩
theorem fits_any (r b g : Int) (w : World) :
    Calls Try.prog 48 #[.int .i64 r, .int .i64 b, .int .i64 g] w fun e w' => e = .returned (.bool (bandV r b g)) ∧ Below w.heap.size w w' := by
  by_cases h : 1 ≤ r ∧ r ≤ 1099511627776 ∧ 0 ≤ b ∧ b ≤ 9999 ∧ 1 ≤ g ∧ g ≤ 1099511627776
  · have eV : bandV r b g = true := by unfold bandV; simpa using h
    rw [eV]
    obtain ⟨h1, h2, h3, h4, h5, h6⟩ := h
    go_enter Try.func48, Try.ntmps48
    go_wp2
    all_goals first | (exfalso; omega) | go_ret
    all_goals exact ⟨by first | rfl | simpa using h6, Below.refl _ _⟩
  · have eV : bandV r b g = false := by unfold bandV; simpa using h
    rw [eV]
    go_enter Try.func48, Try.ntmps48
    go_wp2
    all_goals first | (exfalso; omega) | go_ret
    all_goals exact ⟨by first | rfl | (refine congrArg (fun z => Ending.returned (Value.bool z)) ?_; simp; omega), Below.refl _ _⟩
end Go.Proofs.Ytnahocdeaopflaa
