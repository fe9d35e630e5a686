/-
  A range over a function whose iterator says of what it hands out something of the memory as it is then (G): the iterator's word (Seqs), and the statement's law. No Go text is looked at here.
-/
import Derived.Test.YtbfidpngpdaieaaByt
import Derived.RangeFuncNested
namespace Go.Proofs.Ytbfidpngpdaieaa
open Go.RowKit
variable {F : Fence} {n : Nat} {P : Program}

theorem Frm.put {S : Nat → Prop} (W : World) (l : Nat) (o : Obj) (h : S l) : Frm S W (W.putObj l o) :=
  ⟨rfl, rfl, rfl, by simp, fun k _ hs => World.putObj_heap_other fun e => hs (by rw [e]; exact h)⟩
/-- An iterator: whoever keeps J over new memory, and whose rounds keep Kp where what G says holds, sees all of S, or leaves at a part of Sp. -/
def Seqs {α : Type} (F : Fence) (n : Nat) (P : Program) (g : Nat) (lb : Array Value) (enc : α → Array Value) (G : List α → α → World → Prop) (Kp : World → World → Prop) (S Sp : List α → Prop) (N : Nat) (w : World) : Prop :=
  ∀ (l : Nat) (J Jx : List α → World → Prop) (W : World), Below w.heap.size w W → (∀ pre A B, J pre A → Below A.heap.size A B → J pre B) →
    (∀ pre x A, J pre A → G pre x A → pre.length < N → YieldAt F (n - 1) P l (enc x) A fun e B => (e = .returned (.bool true) ∧ J (pre ++ [x]) B ∧ Kp A B) ∨ (e = .returned (.bool false) ∧ Jx (pre ++ [x]) B)) →
    J [] W → CallsIn F n P g (#[.func (.yield l) #[] #[]] ++ lb) W fun e B => (∃ v, e = .returned v) ∧ ((∃ xs, S xs ∧ J xs B) ∨ (∃ pre, Sp pre ∧ Jx pre B))
/-- How a round's body may be left. -/
def roundOut {α : Type} (T : Nat → Prop) (I : List α → World → Prop) (Ix : Code → List α → World → Prop) (xs : List α) (W : World) : Exit → Act → World → Prop
  | .normal, _, B => Frm T W B ∧ I xs B
  | .ret, _, B => Frm T W B ∧ Ix .ret xs B
  | .exit id, _, B => Frm T W B ∧ Ix (.exit id) xs B
  | .goto t, _, B => Frm T W B ∧ Ix (.goto t) xs B
  | .panic _, _, _ => False
  | .outgrown, _, _ => False
/-- A body may also turn what earlier rounds have made; its word need only abide the loop record's own block. -/
theorem range_law2 {α : Type} {g : Operand} {ps : Array Tmp} {assign body : Code} {Q : Exit → Act → World → Prop} {a : Act} {w : World} (hro : F.round = none) (h1 : 1 ≤ n) {gf : Nat} {lb : Array Value} (hg : a.eval g = .func (.func gf) #[] lb) (hFg : F.fn gf)
    (eg : ∀ args w, (callFunc gf args).run P w = .ok (.enter gf args) w) {enc : α → Array Value} (hps : ∀ x, (enc x).size = ps.size) (T : Nat → Prop) (hT : ∀ k, T k → k < w.heap.size ∨ w.heap.size + 1 < k) {G : List α → α → World → Prop}
    (hG : ∀ pre x A l o o', G pre x A → A.heap[l]? = some o → o.isCells = false → G pre x (A.putObj l o')) {S Sp : List α → Prop} {N : Nat} (hseq : Seqs F (n - 1) P gf lb enc G (Frm fun k => T k ∨ w.heap.size ≤ k) S Sp N w)
    (I : List α → World → Prop) (Ix : Code → List α → World → Prop) (hI : ∀ pre A B, I pre A → Frm (fun k => k = w.heap.size + 1) A B → I pre B) (hIx : ∀ c pre A B, Ix c pre A → Frm (fun k => k = w.heap.size + 1) A B → Ix c pre B) (h0 : I [] w) (a₁ : α → Act)
    (hassign : ∀ (l : Nat) (x : α) (W : World) (K : Act → World → Prop), K (a₁ x) W → assign.wpIn (F.inRound l) (n - 1 - 1) P (Exit.then K (fun _ _ _ => False)) { tmps := (ps.zip (enc x)).foldl (fun t (p, v) => t.setIfInBounds p v) a.tmps, defers := [] } W)
    (hbody : ∀ (l : Nat) (pre : List α) (x : α) (W : World), I pre W → G pre x W → pre.length < N → w.heap.size + 1 < W.heap.size → body.wpIn (F.inRound l) (n - 1 - 1) P (roundOut T I Ix (pre ++ [x]) W) (a₁ x) W)
    (hdone : ∀ (D : Nat) (xs : List α) (W : World), w.heap.size ≤ D → S xs → I xs W → W.heap[D]? = some (.deferred (some [])) → Q .normal { a with defers := { target := .collected D, args := #[] } :: a.defers } W)
    (hstop : ∀ (D : Nat) (c : Code) (pre : List α) (W : World), w.heap.size ≤ D → Sp pre → Ix c pre W → W.heap[D]? = some (.deferred (some [])) → c.wpIn F n P Q { a with defers := { target := .collected D, args := #[] } :: a.defers } W) :
    (Code.rangeFunc g ps assign body).wpIn F n P Q a w := by
  refine wpIn_rangeFunc fun fn hfn => ?_
  rw [hro]
  obtain ⟨R, hR⟩ : ∃ R : LoopState → Option Code → Loop, R = fun st pe => { state := st, pending := pe, fn, tmps := a.tmps, params := ps, assign, body, defers := w.heap.size } := ⟨_, rfl⟩
  have hwD : Below w.heap.size w (w.alloc (.deferred (some []))) := (Below.refl _ w).alloc (Nat.le_refl _) _
  obtain ⟨V, hV⟩ : ∃ V, V = (w.alloc (.deferred (some []))).alloc (.loop (R .ready none)) := ⟨_, rfl⟩
  have hbV : Below w.heap.size w V := by rw [hV]; exact hwD.alloc hwD.size _
  have hVl : V.heap[w.heap.size + 1]? = some (.loop (R .ready none)) := by
    have := World.alloc_heap_new (w.alloc (.deferred (some []))) (.loop (R .ready none))
    rw [World.size_alloc] at this
    rw [hV]; exact this
  have hVd : V.heap[w.heap.size]? = some (.deferred (some [])) := by
    rw [hV]
    exact (Below.heap_alloc _ _ _ (by simp)).trans (World.alloc_heap_new w _)
  have he : (Instr.enterLoop fn a.tmps ps assign body none).run P w = .ok (w.heap.size + 1, [{ target := .collected w.heap.size, args := #[] }]) V := by
    rw [hV, hR]; exact run_enterLoop_outer _ _ _ _ _
  refine ⟨w.heap.size + 1, _, V, { target := .fn (.func gf) lb, args := #[.func (.yield (w.heap.size + 1)) #[] #[]] }, V, gf, #[.func (.yield (w.heap.size + 1)) #[] #[]] ++ lb, V, he, ?_, ?_, ?_, fun _ => h1, ?_⟩
  · simp only [resolve, hg]
    simp [go_sem]
  · intro f' hf'
    simp [Target.leads] at hf'
    subst hf'
    exact hFg
  · simp [invoke, go_sem, eg]
  · refine (hseq (w.heap.size + 1) (fun pre A => I pre A ∧ A.heap[w.heap.size + 1]? = some (.loop (R .ready none)) ∧ A.heap[w.heap.size]? = some (.deferred (some [])))
      (fun pre A => ∃ c, Ix c pre A ∧ A.heap[w.heap.size + 1]? = some (.loop (R .done (some c))) ∧ A.heap[w.heap.size]? = some (.deferred (some []))) V hbV ?_ ?_ ⟨hI _ _ _ h0 (Frm.of_below hbV), hVl, hVd⟩).mono ?_
    · rintro pre A B ⟨hi, hl, hd⟩ hb
      exact ⟨hI _ _ _ hi (Frm.of_below hb), (hb.block _ (Array.getElem?_eq_some_iff.1 hl).1).trans hl, (hb.block _ (Array.getElem?_eq_some_iff.1 hd).1).trans hd⟩
    · rintro pre x A ⟨hi, hl, hd⟩ hg' hlen
      have hlt := (Array.getElem?_eq_some_iff.1 hl).1
      have hy := run_yield (P := P) (args := enc x) hl (by rw [hR]; exact hps x)
      rw [hR] at hy
      refine ⟨fn, _, assign, body, hy, roundIn_of_wpIn hfn (hassign _ x A _ ⟨_, run_beginRound hl (by rw [hR]), ?_⟩)⟩
      -- the record is busy; the body; its end
      obtain ⟨A2, hA2⟩ : ∃ A2, A2 = A.putObj (w.heap.size + 1) (.loop { R .ready none with state := .busy }) := ⟨_, rfl⟩
      rw [← hA2]
      have f2 : Frm (fun k => k = w.heap.size + 1) A A2 := by rw [hA2]; exact Frm.put _ _ _ rfl
      have hl2 : A2.heap[w.heap.size + 1]? = some (.loop { R .ready none with state := .busy }) := by rw [hA2]; exact World.putObj_heap_same hlt
      have hd2 : A2.heap[w.heap.size]? = some (.deferred (some [])) := by rw [hA2]; exact (World.putObj_heap_other (by omega)).trans hd
      have hend : ∀ (jump : Option Code) (B : World), Frm T A2 B → ∃ B2, (Instr.endRound (w.heap.size + 1) jump).run P B = .ok (.bool jump.isNone) B2 ∧ B2.heap[w.heap.size + 1]? = some (.loop (R (if jump.isNone then .ready else .done) jump)) ∧ B2.heap[w.heap.size]? = some (.deferred (some [])) ∧ Frm (fun k => k = w.heap.size + 1) B B2 ∧ Frm (fun k => T k ∨ w.heap.size ≤ k) A B2 := by
        intro jump B hf
        have hlB := (hf.block _ (Array.getElem?_eq_some_iff.1 hl2).1 (fun h => by have := hT _ h; omega)).trans hl2
        have hdB := (hf.block _ (Array.getElem?_eq_some_iff.1 hd2).1 (fun h => by have := hT _ h; omega)).trans hd2
        have hr := run_endRound (P := P) jump hlB
        refine ⟨_, hr, ?_, (World.putObj_heap_other (by omega)).trans hdB, Frm.put _ _ _ rfl, ?_⟩
        · rw [World.putObj_heap_same (Array.getElem?_eq_some_iff.1 hlB).1, hR]
        · exact ((f2.mono (T := fun k => T k ∨ w.heap.size ≤ k) fun k _ h => .inr (by omega)).trans hf (fun k h => .inl (.inl h))).trans (Frm.put (S := fun k => w.heap.size ≤ k) _ _ _ (by omega)) (fun k h => .inl (.inr h))
      refine wpIn_mono (hbody _ pre x A2 (hI _ _ _ hi f2) (by rw [hA2]; exact hG _ _ _ _ _ _ hg' hl rfl) hlen (Array.getElem?_eq_some_iff.1 hl2).1) ?_
      rintro e a3 B hp
      cases e with
      | normal =>
        obtain ⟨hf, hi3⟩ := hp
        obtain ⟨B2, hr, h3, h4, h5, h6⟩ := hend none B hf
        exact ⟨_, _, hr, .inl ⟨rfl, ⟨hI _ _ _ hi3 h5, h3, h4⟩, h6⟩⟩
      | ret =>
        obtain ⟨hf, hi3⟩ := hp
        obtain ⟨B2, hr, h3, h4, h5, h6⟩ := hend (some .ret) B hf
        exact ⟨_, _, hr, .inr ⟨rfl, .ret, hIx _ _ _ _ hi3 h5, h3, h4⟩⟩
      | exit id =>
        obtain ⟨hf, hi3⟩ := hp
        obtain ⟨B2, hr, h3, h4, h5, h6⟩ := hend (some (.exit id)) B hf
        exact ⟨_, _, hr, .inr ⟨rfl, .exit id, hIx _ _ _ _ hi3 h5, h3, h4⟩⟩
      | goto t =>
        obtain ⟨hf, hi3⟩ := hp
        obtain ⟨B2, hr, h3, h4, h5, h6⟩ := hend (some (.goto t)) B hf
        exact ⟨_, _, hr, .inr ⟨rfl, .goto t, hIx _ _ _ _ hi3 h5, h3, h4⟩⟩
      | panic ch => exact hp.elim
      | outgrown => exact hp.elim
    · rintro e B ⟨⟨v, rfl⟩, (⟨xs, hS, hi, hl, hd⟩ | ⟨pre, hS, c, hi, hl, hd⟩)⟩
      · have hr := run_endLoop (P := P) hl (by rw [hR]; simp)
        rw [hR] at hr
        exact ⟨none, _, hr, hdone _ xs _ (Nat.le_refl _) hS (hI _ _ _ hi (Frm.put _ _ _ rfl)) ((World.putObj_heap_other (by omega)).trans hd)⟩
      · have hr := run_endLoop (P := P) hl (by rw [hR]; simp)
        rw [hR] at hr
        exact ⟨some c, _, hr, hstop _ c pre _ (Nat.le_refl _) hS (hIx _ _ _ _ hi (Frm.put _ _ _ (by omega))) ((World.putObj_heap_other (by omega)).trans hd)⟩
/-- The same, where only what was there before turns. -/
theorem range_law {α : Type} {g : Operand} {ps : Array Tmp} {assign body : Code} {Q : Exit → Act → World → Prop} {a : Act} {w : World} (hro : F.round = none) (h1 : 1 ≤ n) {gf : Nat} {lb : Array Value} (hg : a.eval g = .func (.func gf) #[] lb) (hFg : F.fn gf)
    (eg : ∀ args w, (callFunc gf args).run P w = .ok (.enter gf args) w) {enc : α → Array Value} (hps : ∀ x, (enc x).size = ps.size) (T : Nat → Prop) (hT : ∀ k, T k → k < w.heap.size) {G : List α → α → World → Prop}
    (hG : ∀ pre x A l o o', G pre x A → A.heap[l]? = some o → o.isCells = false → G pre x (A.putObj l o')) {S Sp : List α → Prop} {N : Nat} (hseq : Seqs F (n - 1) P gf lb enc G (Frm fun k => T k ∨ w.heap.size ≤ k) S Sp N w)
    (I : List α → World → Prop) (Ix : Code → List α → World → Prop) (hI : ∀ pre A B, I pre A → Frm (fun k => w.heap.size ≤ k) A B → I pre B) (hIx : ∀ c pre A B, Ix c pre A → Frm (fun k => w.heap.size ≤ k) A B → Ix c pre B) (h0 : I [] w) (a₁ : α → Act)
    (hassign : ∀ (l : Nat) (x : α) (W : World) (K : Act → World → Prop), K (a₁ x) W → assign.wpIn (F.inRound l) (n - 1 - 1) P (Exit.then K (fun _ _ _ => False)) { tmps := (ps.zip (enc x)).foldl (fun t (p, v) => t.setIfInBounds p v) a.tmps, defers := [] } W)
    (hbody : ∀ (l : Nat) (pre : List α) (x : α) (W : World), I pre W → G pre x W → pre.length < N → body.wpIn (F.inRound l) (n - 1 - 1) P (roundOut T I Ix (pre ++ [x]) W) (a₁ x) W)
    (hdone : ∀ (D : Nat) (xs : List α) (W : World), w.heap.size ≤ D → S xs → I xs W → W.heap[D]? = some (.deferred (some [])) → Q .normal { a with defers := { target := .collected D, args := #[] } :: a.defers } W)
    (hstop : ∀ (D : Nat) (c : Code) (pre : List α) (W : World), w.heap.size ≤ D → Sp pre → Ix c pre W → W.heap[D]? = some (.deferred (some [])) → c.wpIn F n P Q { a with defers := { target := .collected D, args := #[] } :: a.defers } W) :
    (Code.rangeFunc g ps assign body).wpIn F n P Q a w := by
  refine range_law2 hro h1 hg hFg eg hps T (fun k h => .inl (hT k h)) hG hseq I Ix (fun pre A B h hf => hI pre A B h (hf.mono fun k _ e => by omega)) (fun c pre A B h hf => hIx c pre A B h (hf.mono fun k _ e => by omega)) h0 a₁ hassign (fun l pre x W h1 h2 h3 _ => hbody l pre x W h1 h2 h3) hdone hstop
end Go.Proofs.Ytbfidpngpdaieaa
