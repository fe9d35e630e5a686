/-
  Frames in a stream, in plain arithmetic: the frame of a payload, the payload of a stream's begin, all frames of a stream, and what more bytes do to them. No Go text is looked at here.
-/
import Derived.Test.YtalgpbjonkcldaaOct
namespace Go.Proofs.Ytalgpbjonkcldaa

/-- The frame of a payload of at most 64 bytes. -/
def putF (p : List Nat) : List Nat := be 2 p.length ++ p
theorem putF_length (p : List Nat) : (putF p).length = 2 + p.length := by unfold putF; rw [List.length_append, be_length]
/-- The payload of the frame with which b begins, how many bytes it takes, and the fault. -/
def takeF (b : List Nat) : List Nat × Nat × Nat :=
  if b.length < 2 then ([], 0, 3) else if 64 < val (b.take 2) then ([], 0, 4) else if b.length < 2 + val (b.take 2) then ([], 0, 3) else ((b.drop 2).take (val (b.take 2)), 2 + val (b.take 2), 0)
theorem takeF_short {b : List Nat} (h : b.length < 2) : takeF b = ([], 0, 3) := if_pos h
theorem takeF_bad {b : List Nat} (h : ¬ b.length < 2) (h2 : 64 < val (b.take 2)) : takeF b = ([], 0, 4) := by unfold takeF; rw [if_neg h, if_pos h2]
theorem takeF_part {b : List Nat} (h : ¬ b.length < 2) (h2 : ¬ 64 < val (b.take 2)) (h3 : b.length < 2 + val (b.take 2)) : takeF b = ([], 0, 3) := by unfold takeF; rw [if_neg h, if_neg h2, if_pos h3]
theorem takeF_ok {b : List Nat} (h : ¬ b.length < 2) (h2 : ¬ 64 < val (b.take 2)) (h3 : ¬ b.length < 2 + val (b.take 2)) : takeF b = ((b.drop 2).take (val (b.take 2)), 2 + val (b.take 2), 0) := by unfold takeF; rw [if_neg h, if_neg h2, if_neg h3]
/-- The cases of a take. -/
theorem takeF_cases (b : List Nat) : (takeF b = ([], 0, 3)) ∨ (takeF b = ([], 0, 4)) ∨ (∃ p, takeF b = (p, 2 + p.length, 0) ∧ p.length ≤ 64 ∧ 2 + p.length ≤ b.length) := by
  by_cases h : b.length < 2
  · exact .inl (takeF_short h)
  · by_cases h2 : 64 < val (b.take 2)
    · exact .inr (.inl (takeF_bad h h2))
    · by_cases h3 : b.length < 2 + val (b.take 2)
      · exact .inl (takeF_part h h2 h3)
      · have hl : ((b.drop 2).take (val (b.take 2))).length = val (b.take 2) := by rw [List.length_take, List.length_drop]; omega
        exact .inr (.inr ⟨_, by rw [hl]; exact takeF_ok h h2 h3, by rw [hl]; omega, by rw [hl]; omega⟩)
/-- More bytes behind turn no frame, and no malformed length. -/
theorem takeF_more {b : List Nat} (t : List Nat) (h : (takeF b).2.2 ≠ 3) : takeF (b ++ t) = takeF b := by
  by_cases h1 : b.length < 2
  · rw [takeF_short h1] at h; exact absurd rfl h
  · have e : (b ++ t).take 2 = b.take 2 := List.take_append_of_le_length (by omega)
    have hl : ¬ (b ++ t).length < 2 := by rw [List.length_append]; omega
    by_cases h2 : 64 < val (b.take 2)
    · rw [takeF_bad h1 h2, takeF_bad hl (by rw [e]; exact h2)]
    · by_cases h3 : b.length < 2 + val (b.take 2)
      · rw [takeF_part h1 h2 h3] at h; exact absurd rfl h
      · rw [takeF_ok h1 h2 h3, takeF_ok hl (by rw [e]; exact h2) (by rw [e, List.length_append]; omega), e, List.drop_append_of_le_length (by omega), List.take_append_of_le_length (by rw [List.length_drop]; omega)]
theorem takeF_put {p : List Nat} (h : p.length ≤ 64) (t : List Nat) : takeF (putF p ++ t) = (p, 2 + p.length, 0) := by
  have hb : (be 2 p.length).length = 2 := be_length 2 _
  have e : (putF p ++ t).take 2 = be 2 p.length := by unfold putF; rw [List.append_assoc]; exact List.take_left' hb
  have ev : val (be 2 p.length) = p.length := by rw [val_be]; omega
  have hl : (putF p ++ t).length = 2 + p.length + t.length := by rw [List.length_append, putF_length]
  rw [takeF_ok (by omega) (by rw [e, ev]; omega) (by rw [e, ev]; omega), e, ev]
  congr 1
  unfold putF
  rw [List.append_assoc, List.drop_left' hb]
  exact List.take_left
/-- The payloads of the frames with which b begins, how many bytes they take, and the fault behind them. -/
def frames : Nat → List Nat → List (List Nat) × Nat × Nat
  | 0, _ => ([], 0, 0)
  | f + 1, b => if b.length = 0 then ([], 0, 0) else if (takeF b).2.2 = 0 then ((takeF b).1 :: (frames f (b.drop (takeF b).2.1)).1, (takeF b).2.1 + (frames f (b.drop (takeF b).2.1)).2.1, (frames f (b.drop (takeF b).2.1)).2.2) else ([], 0, (takeF b).2.2)
theorem frames_nil {f : Nat} {b : List Nat} (h : b.length = 0) : frames f b = ([], 0, 0) := by
  cases f with
  | zero => rfl
  | succ f => exact if_pos h
theorem frames_stop {f : Nat} {b : List Nat} (h : b.length ≠ 0) (h0 : (takeF b).2.2 ≠ 0) : frames (f + 1) b = ([], 0, (takeF b).2.2) := (if_neg h).trans (if_neg h0)
theorem frames_step {f : Nat} {b p : List Nat} {n : Nat} (h : b.length ≠ 0) (h0 : takeF b = (p, n, 0)) : frames (f + 1) b = (p :: (frames f (b.drop n)).1, n + (frames f (b.drop n)).2.1, (frames f (b.drop n)).2.2) := by
  have e : frames (f + 1) b = _ := (if_neg h).trans (if_pos (by rw [h0]))
  rw [e, h0]
/-- Enough fuel is enough. -/
theorem frames_fuel : ∀ (f g : Nat) (b : List Nat), b.length ≤ f → b.length ≤ g → frames f b = frames g b := by
  intro f
  induction f with
  | zero => intro g b hf _; rw [frames_nil (by omega), frames_nil (by omega)]
  | succ f ih =>
    intro g b hf hg
    by_cases h : b.length = 0
    · rw [frames_nil h, frames_nil h]
    · obtain ⟨g', rfl⟩ : ∃ g', g = g' + 1 := ⟨g - 1, by omega⟩
      rcases takeF_cases b with h0 | h0 | ⟨p, h0, _, hp⟩
      · rw [frames_stop h (by rw [h0]; decide), frames_stop h (by rw [h0]; decide)]
      · rw [frames_stop h (by rw [h0]; decide), frames_stop h (by rw [h0]; decide)]
      · rw [frames_step h h0, frames_step h h0, ih g' (b.drop (2 + p.length)) (by rw [List.length_drop]; omega) (by rw [List.length_drop]; omega)]
/-- All frames of b. -/
def allF (b : List Nat) : List (List Nat) × Nat × Nat := frames b.length b
theorem allF_nil : allF [] = ([], 0, 0) := rfl
theorem allF_stop {b : List Nat} (h : b.length ≠ 0) (h0 : (takeF b).2.2 ≠ 0) : allF b = ([], 0, (takeF b).2.2) := by
  obtain ⟨f, hf⟩ : ∃ f, b.length = f + 1 := ⟨b.length - 1, by omega⟩
  unfold allF; rw [hf]; exact frames_stop h h0
theorem allF_step {b p : List Nat} {n : Nat} (h : b.length ≠ 0) (h0 : takeF b = (p, n, 0)) : allF b = (p :: (allF (b.drop n)).1, n + (allF (b.drop n)).2.1, (allF (b.drop n)).2.2) := by
  obtain ⟨f, hf⟩ : ∃ f, b.length = f + 1 := ⟨b.length - 1, by omega⟩
  have hn : 2 ≤ n := by
    rcases takeF_cases b with h1 | h1 | ⟨q, h1, _, _⟩
    · rw [h0] at h1; simp at h1
    · rw [h0] at h1; simp at h1
    · rw [h0] at h1; simp at h1; omega
  have e : allF b = frames (f + 1) b := by unfold allF; rw [hf]
  rw [e, frames_step h h0]
  have e2 : frames f (b.drop n) = allF (b.drop n) := frames_fuel _ _ _ (by rw [List.length_drop]; omega) (Nat.le_refl _)
  rw [e2]
/-- What the frames take is there, and the fault is one of three. -/
theorem allF_size (b : List Nat) : (allF b).2.1 ≤ b.length ∧ ((allF b).2.2 = 0 ∨ (allF b).2.2 = 3 ∨ (allF b).2.2 = 4) ∧ ((allF b).2.2 = 0 → (allF b).2.1 = b.length) := by
  generalize hn : b.length = n
  induction n using Nat.strongRecOn generalizing b with
  | _ n ih =>
    by_cases h : b.length = 0
    · have e : b = [] := List.eq_nil_of_length_eq_zero h
      subst e
      rw [allF_nil]
      simp at hn
      exact ⟨Nat.zero_le _, .inl rfl, fun _ => hn⟩
    · rcases takeF_cases b with h0 | h0 | ⟨p, h0, _, hp⟩
      · rw [allF_stop h (by rw [h0]; decide), h0]; exact ⟨Nat.zero_le _, .inr (.inl rfl), fun e => by cases e⟩
      · rw [allF_stop h (by rw [h0]; decide), h0]; exact ⟨Nat.zero_le _, .inr (.inr rfl), fun e => by cases e⟩
      · obtain ⟨h1, h2, h3⟩ := ih (b.drop (2 + p.length)).length (by rw [List.length_drop]; omega) _ rfl
        rw [List.length_drop] at h1 h3
        rw [allF_step h h0]
        refine ⟨?_, h2, fun e => ?_⟩
        · show 2 + p.length + _ ≤ _; omega
        · have := h3 e
          show 2 + p.length + _ = _; omega
/-- A stream that goes on: behind a malformed length nothing more; else what was left, and what comes. -/
theorem allF_more (b t : List Nat) : ((allF b).2.2 = 4 → allF (b ++ t) = allF b) ∧
    ((allF b).2.2 ≠ 4 → allF (b ++ t) = ((allF b).1 ++ (allF (b.drop (allF b).2.1 ++ t)).1, (allF b).2.1 + (allF (b.drop (allF b).2.1 ++ t)).2.1, (allF (b.drop (allF b).2.1 ++ t)).2.2)) := by
  generalize hn : b.length = n
  induction n using Nat.strongRecOn generalizing b with
  | _ n ih =>
    by_cases h : b.length = 0
    · have e : b = [] := List.eq_nil_of_length_eq_zero h
      subst e
      rw [allF_nil]
      exact ⟨fun e => (by cases e), fun _ => by simp⟩
    · have hbt : (b ++ t).length ≠ 0 := by rw [List.length_append]; omega
      rcases takeF_cases b with h0 | h0 | ⟨p, h0, _, hp⟩
      · rw [allF_stop h (by rw [h0]; decide), h0]
        exact ⟨fun e => (by cases e), fun _ => by simp⟩
      · have hm : takeF (b ++ t) = takeF b := takeF_more t (by rw [h0]; decide)
        rw [allF_stop h (by rw [h0]; decide), allF_stop hbt (by rw [hm, h0]; decide), hm, h0]
        exact ⟨fun _ => rfl, fun e => absurd rfl e⟩
      · have hm : takeF (b ++ t) = (p, 2 + p.length, 0) := (takeF_more t (by rw [h0]; exact fun e => (by cases e))).trans h0
        have hd : (b ++ t).drop (2 + p.length) = b.drop (2 + p.length) ++ t := List.drop_append_of_le_length hp
        obtain ⟨i1, i2⟩ := ih (b.drop (2 + p.length)).length (by rw [List.length_drop]; omega) _ rfl
        rw [allF_step h h0, allF_step hbt hm, hd]
        refine ⟨fun e => ?_, fun e => ?_⟩
        · rw [i1 e]
        · rw [i2 e]
          simp only [List.cons_append, List.drop_drop, Prod.mk.injEq, and_true, true_and]
          exact (Nat.add_assoc _ _ _).symm
/-- Frames that are put one behind the other come out again. -/
theorem allF_puts : ∀ (l : List (List Nat)), (∀ p ∈ l, p.length ≤ 64) → allF (l.flatMap putF) = (l, (l.flatMap putF).length, 0) := by
  intro l
  induction l with
  | nil => intro _; rfl
  | cons p l ih =>
    intro h
    have hp := h p (by simp)
    have e : (p :: l).flatMap putF = putF p ++ l.flatMap putF := rfl
    have hl := putF_length p
    rw [e, allF_step (by rw [List.length_append]; omega) (takeF_put hp _), List.drop_left' hl, ih fun q hq => h q (List.mem_cons_of_mem _ hq), List.length_append, hl]
/-- How many bytes the frames of these payloads take; where each begins, the first one at i. -/
def tot : List (List Nat) → Nat
  | [] => 0
  | p :: l => 2 + p.length + tot l
def ats : Nat → List (List Nat) → List Nat
  | _, [] => []
  | i, p :: l => i :: ats (i + (2 + p.length)) l
theorem tot_snoc (l : List (List Nat)) (p : List Nat) : tot (l ++ [p]) = tot l + (2 + p.length) := by
  induction l with
  | nil => show 2 + p.length + 0 = 0 + (2 + p.length); omega
  | cons q l ih => show 2 + q.length + tot (l ++ [p]) = 2 + q.length + tot l + _; rw [ih]; omega
theorem ats_snoc (l : List (List Nat)) (p : List Nat) : ∀ i, ats i (l ++ [p]) = ats i l ++ [i + tot l] := by
  induction l with
  | nil => intro i; rfl
  | cons q l ih =>
    intro i
    show i :: ats (i + (2 + q.length)) (l ++ [p]) = i :: (ats (i + (2 + q.length)) l ++ [i + (2 + q.length + tot l)])
    rw [ih, Nat.add_assoc i (2 + q.length) (tot l)]
theorem ats_length (l : List (List Nat)) : ∀ i, (ats i l).length = l.length := by
  induction l with
  | nil => intro i; rfl
  | cons q l ih => intro i; show (ats _ l).length + 1 = l.length + 1; rw [ih]
theorem length_le_tot (l : List (List Nat)) : 2 * l.length ≤ tot l := by
  induction l with
  | nil => exact Nat.le_refl 0
  | cons q l ih => show 2 * (l.length + 1) ≤ 2 + q.length + tot l; omega
theorem tot_allF (b : List Nat) : tot (allF b).1 = (allF b).2.1 := by
  generalize hn : b.length = n
  induction n using Nat.strongRecOn generalizing b with
  | _ n ih =>
    by_cases h : b.length = 0
    · have e : b = [] := List.eq_nil_of_length_eq_zero h
      subst e
      rw [allF_nil]; rfl
    · rcases takeF_cases b with h0 | h0 | ⟨p, h0, _, hp⟩
      · rw [allF_stop h (by rw [h0]; decide)]; rfl
      · rw [allF_stop h (by rw [h0]; decide)]; rfl
      · rw [allF_step h h0]
        show 2 + p.length + tot _ = 2 + p.length + _
        rw [ih (b.drop (2 + p.length)).length (by rw [List.length_drop]; omega) _ rfl]
/-- One more frame, in a run over a stream. -/
theorem run_step {b p : List Nat} {pre : List (List Nat)} {i : Nat} (hb : i < b.length) (h0 : takeF (b.drop i) = (p, 2 + p.length, 0)) (h : allF b = (pre ++ (allF (b.drop i)).1, i + (allF (b.drop i)).2.1, (allF (b.drop i)).2.2)) :
    allF b = ((pre ++ [p]) ++ (allF (b.drop (i + (2 + p.length)))).1, i + (2 + p.length) + (allF (b.drop (i + (2 + p.length)))).2.1, (allF (b.drop (i + (2 + p.length)))).2.2) := by
  rw [h, allF_step (by rw [List.length_drop]; omega) h0, List.drop_drop]
  simp only [List.append_assoc, List.cons_append, List.nil_append, Nat.add_assoc]
theorem run_stop {b : List Nat} {pre : List (List Nat)} {i f : Nat} (hb : i < b.length) (h0 : takeF (b.drop i) = ([], 0, f)) (hf : f ≠ 0) (h : allF b = (pre ++ (allF (b.drop i)).1, i + (allF (b.drop i)).2.1, (allF (b.drop i)).2.2)) : allF b = (pre, i, f) := by
  rw [h, allF_stop (by rw [List.length_drop]; omega) (by rw [h0]; exact hf), h0]
  simp
theorem run_end {b : List Nat} {pre : List (List Nat)} {i : Nat} (hb : b.length ≤ i) (h : allF b = (pre ++ (allF (b.drop i)).1, i + (allF (b.drop i)).2.1, (allF (b.drop i)).2.2)) : allF b = (pre, i, 0) := by
  rw [h, List.drop_eq_nil_of_le hb, allF_nil]
  simp
end Go.Proofs.Ytalgpbjonkcldaa
