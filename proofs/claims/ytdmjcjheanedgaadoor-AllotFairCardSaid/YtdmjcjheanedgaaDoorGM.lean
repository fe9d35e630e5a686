/-
  A range over a function whose iterator says of what it hands out something of the memory as it is then (G): the iterator's word (Seqs), and the statement's law. No Go text is looked at here.
  A range over a function whose iterator keeps memory of its own while it runs: of what there is a round turns only the blocks of T, and the loop's record. No Go text is looked at here.
  A range over a function whose iterator keeps memory of its own, and whose variables live in boxes made anew each round. No Go text is looked at here.
  A range over a function in the body of another one: the outer law tells of its record; the inner law. No Go text is looked at here.
  Ranges over functions where what is kept between rounds abides the turn of blocks that are no cells (loops' records, deferred calls), from the loop's world on; an iterator that itself ranges over functions. No Go text is looked at here.
  Ranges over functions where a round may also turn what earlier rounds have made (X): the iterator's word, and the laws. No Go text is looked at here.
-/
import Derived.Test.YtdmjcjheanedgaaDoorGA
import Derived.RangeFuncNested
namespace Go.Proofs.YtdmjcjheanedgaaDoor
open Go.RowKit
variable {F : Fence} {n : Nat} {P : Program}

theorem Frm.put {S : Nat → Prop} (W : World) (l : Nat) (o : Obj) (h : S l) : Frm S W (W.putObj l o) :=
  ⟨rfl, rfl, rfl, by simp, fun k _ hs => World.putObj_heap_other fun e => hs (by rw [e]; exact h)⟩
/-- An iterator: whoever keeps J over new memory, and whose rounds keep Kp where what G says holds, sees all of S, or leaves at a part of Sp. -/
def Seqs {α : Type} (F : Fence) (n : Nat) (P : Program) (g : Nat) (lb : Array Value) (enc : α → Array Value) (G : List α → α → World → Prop) (Kp : World → World → Prop) (S Sp : List α → Prop) (N : Nat) (w : World) : Prop :=
  ∀ (l : Nat) (J Jx : List α → World → Prop) (W : World), Below w.heap.size w W → (∀ pre A B, J pre A → Below A.heap.size A B → J pre B) →
    (∀ pre x A, J pre A → G pre x A → pre.length < N → YieldAt F (n - 1) P l (enc x) A fun e B => (e = .returned (.bool true) ∧ J (pre ++ [x]) B ∧ Kp A B) ∨ (e = .returned (.bool false) ∧ Jx (pre ++ [x]) B)) →
    J [] W → CallsIn F n P g (#[.func (.yield l) #[] #[]] ++ lb) W fun e B => (∃ v, e = .returned v) ∧ ((∃ xs, S xs ∧ J xs B) ∨ (∃ pre, Sp pre ∧ Jx pre B))
/-- How a round's body may be left. -/
def roundOut {α : Type} (T : Nat → Prop) (I : List α → World → Prop) (Ix : Code → List α → World → Prop) (xs : List α) (W : World) : Exit → Act → World → Prop
  | .normal, _, B => Frm T W B ∧ I xs B
  | .ret, _, B => Frm T W B ∧ Ix .ret xs B
  | .exit id, _, B => Frm T W B ∧ Ix (.exit id) xs B
  | .goto t, _, B => Frm T W B ∧ Ix (.goto t) xs B
  | .panic _, _, _ => False
  | .outgrown, _, _ => False
end Go.Proofs.YtdmjcjheanedgaaDoor
namespace Go.Proofs.YtdmjcjheanedgaaDoor
open Go.RowKit
variable {F : Fence} {n : Nat} {P : Program}
/-- The iterator's word, where a round turns only T and the record l. -/
def SeqsT {α : Type} (F : Fence) (n : Nat) (P : Program) (g : Nat) (lb : Array Value) (enc : α → Array Value) (G : List α → α → World → Prop) (T : Nat → Prop) (S Sp : List α → Prop) (N : Nat) (w : World) : Prop :=
  ∀ (l : Nat) (J Jx : List α → World → Prop) (W : World), Below w.heap.size w W → l < W.heap.size → w.heap.size ≤ l → (∀ pre A B, J pre A → Below A.heap.size A B → J pre B) →
    (∀ pre x A, J pre A → G pre x A → pre.length < N → YieldAt F (n - 1) P l (enc x) A fun e B => (e = .returned (.bool true) ∧ J (pre ++ [x]) B ∧ Frm (fun k => T k ∨ k = l) A B) ∨ (e = .returned (.bool false) ∧ Jx (pre ++ [x]) B)) →
    J [] W → CallsIn F n P g (#[.func (.yield l) #[] #[]] ++ lb) W fun e B => (∃ v, e = .returned v) ∧ ((∃ xs, S xs ∧ J xs B) ∨ (∃ pre, Sp pre ∧ Jx pre B))
end Go.Proofs.YtdmjcjheanedgaaDoor
namespace Go.Proofs.YtdmjcjheanedgaaDoor
open Go.RowKit
variable {F : Fence} {n : Nat} {P : Program}
end Go.Proofs.YtdmjcjheanedgaaDoor
namespace Go.Proofs.YtdmjcjheanedgaaDoor
open Go.RowKit
variable {F : Fence} {n : Nat} {P : Program}
theorem SeqsT.inRound {α : Type} {g : Nat} {lb : Array Value} {enc : α → Array Value} {G : List α → α → World → Prop} {T : Nat → Prop} {S Sp : List α → Prop} {N : Nat} {w : World} (l : Nat) (h : SeqsT F n P g lb enc G T S Sp N w) : SeqsT (F.inRound l) n P g lb enc G T S Sp N w := h
/-- In the wide fence no depth counts, and no round. -/
theorem RoundIn.wideN {m m' l l' : Nat} {f : FuncId} {tmps : Array Value} {assign body : Code} {w : World} {R : Ending → World → Prop} (h : RoundIn Fence.wide m P l f tmps assign body w R) : RoundIn (Fence.wide.inRound l') m' P l f tmps assign body w R := ⟨trivial, fun c cs _ => h.2 c cs (room_wide _)⟩
theorem YieldAt.wideN {m m' l l' : Nat} {args : Array Value} {W : World} {R : Ending → World → Prop} (h : YieldAt Fence.wide m P l args W R) : YieldAt (Fence.wide.inRound l') m' P l args W R := by
  obtain ⟨fn, tmps, assign, body, hy, hR⟩ := h
  exact ⟨fn, tmps, assign, body, hy, Go.Proofs.YtdmjcjheanedgaaDoor.RoundIn.wideN hR⟩
end Go.Proofs.YtdmjcjheanedgaaDoor
namespace Go.Proofs.YtdmjcjheanedgaaDoor
open Go.RowKit
variable {F : Fence} {n : Nat} {P : Program}
/-- It abides new memory, and the turn of what is no cells, from block n0 on. -/
def Quiet {α : Type} (n0 : Nat) (J : List α → World → Prop) : Prop := ∀ pre A B, J pre A → Frm (fun k => n0 ≤ k ∧ ∃ o, A.heap[k]? = some o ∧ o.isCells = false) A B → J pre B
theorem Quiet.mono {α : Type} {n0 n1 : Nat} {J : List α → World → Prop} (h : Quiet n0 J) (hn : n0 ≤ n1) : Quiet n1 J := fun pre A B hj hf => h pre A B hj (hf.mono fun _ _ e => ⟨Nat.le_trans hn e.1, e.2⟩)
theorem Quiet.below {α : Type} {n0 : Nat} {J : List α → World → Prop} (h : Quiet n0 J) {pre : List α} {A B : World} (hj : J pre A) (hb : Below A.heap.size A B) : J pre B := h pre A B hj (Frm.of_below hb)
/-- The iterator's word, where it may range over functions itself. -/
def SeqsU {α : Type} (F : Fence) (n : Nat) (P : Program) (g : Nat) (lb : Array Value) (enc : α → Array Value) (G : List α → α → World → Prop) (T : Nat → Prop) (S Sp : List α → Prop) (N : Nat) (w : World) : Prop :=
  ∀ (l : Nat) (J Jx : List α → World → Prop) (W : World), Below w.heap.size w W → l < W.heap.size → w.heap.size ≤ l → Quiet W.heap.size J → Quiet W.heap.size Jx →
    (∀ pre x A, J pre A → G pre x A → pre.length < N → YieldAt F (n - 1) P l (enc x) A fun e B => (e = .returned (.bool true) ∧ J (pre ++ [x]) B ∧ Frm (fun k => T k ∨ k = l) A B) ∨ (e = .returned (.bool false) ∧ Jx (pre ++ [x]) B ∧ Frm (fun k => T k ∨ k = l) A B)) →
    J [] W → CallsIn F n P g (#[.func (.yield l) #[] #[]] ++ lb) W fun e B => (∃ v, e = .returned v) ∧ ((∃ xs, S xs ∧ J xs B) ∨ (∃ pre, Sp pre ∧ Jx pre B))
end Go.Proofs.YtdmjcjheanedgaaDoor
namespace Go.Proofs.YtdmjcjheanedgaaDoor
open Go.RowKit
variable {F : Fence} {n : Nat} {P : Program}
/-- What rounds have made: what was so, and what has come since A. -/
def Grw (X X' : Nat → Prop) (A B : World) : Prop := ∀ c, X' c → X c ∨ (A.heap.size ≤ c ∧ c < B.heap.size)
def SeqsX {α : Type} (F : Fence) (n : Nat) (P : Program) (g : Nat) (lb : Array Value) (enc : α → Array Value) (G : List α → α → World → Prop) (T : Nat → Prop) (S Sp : List α → Prop) (N : Nat) (w : World) : Prop :=
  ∀ (l : Nat) (J : (Nat → Prop) → List α → World → Prop) (Jx : List α → World → Prop) (W : World), Below w.heap.size w W → l < W.heap.size → w.heap.size ≤ l → (∀ X, Quiet W.heap.size (J X)) → Quiet W.heap.size Jx →
    (∀ X pre x A, J X pre A → (∀ c, X c → W.heap.size ≤ c ∧ c < A.heap.size) → G pre x A → pre.length < N → YieldAt F (n - 1) P l (enc x) A fun e B => (e = .returned (.bool true) ∧ ∃ X', J X' (pre ++ [x]) B ∧ Grw X X' A B ∧ Frm (fun k => T k ∨ k = l ∨ X k) A B) ∨ (e = .returned (.bool false) ∧ Jx (pre ++ [x]) B ∧ Frm (fun k => T k ∨ k = l ∨ X k) A B)) →
    J (fun _ => False) [] W → CallsIn F n P g (#[.func (.yield l) #[] #[]] ++ lb) W fun e B => (∃ v, e = .returned v) ∧ ((∃ xs X, S xs ∧ J X xs B) ∨ (∃ pre, Sp pre ∧ Jx pre B))
theorem SeqsX.inRound {α : Type} {g : Nat} {lb : Array Value} {enc : α → Array Value} {G : List α → α → World → Prop} {T : Nat → Prop} {S Sp : List α → Prop} {N : Nat} {w : World} (l : Nat) (h : SeqsX F n P g lb enc G T S Sp N w) : SeqsX (F.inRound l) n P g lb enc G T S Sp N w := h
/-- One that yields nothing. -/
theorem SeqsX.none {α : Type} {g : Nat} {lb : Array Value} {enc : α → Array Value} {G G' : List α → α → World → Prop} {T : Nat → Prop} {S Sp : List α → Prop} {w : World} (h : SeqsT F n P g lb enc G T S Sp 0 w) : SeqsX F n P g lb enc G' T S Sp 0 w := by
  intro l J Jx W h1 h2 h3 h4 h5 _ h0
  refine (h l (fun pre A => J (fun _ => False) pre A) Jx W h1 h2 h3 (fun pre A B hj hb => (h4 _).below hj hb) (fun _ _ _ _ _ h => absurd h (Nat.not_lt_zero _)) h0).mono ?_
  rintro e B ⟨e1, e2⟩
  exact ⟨e1, e2.imp (fun ⟨xs, a, b⟩ => ⟨xs, _, a, b⟩) id⟩
/-- How a round's body may be left. -/
def roundOutX {α : Type} (T X : Nat → Prop) (I : (Nat → Prop) → List α → World → Prop) (Ix : Code → List α → World → Prop) (xs : List α) (W : World) : Exit → Act → World → Prop
  | .normal, _, B => Frm (fun k => T k ∨ X k) W B ∧ ∃ X', Grw X X' W B ∧ I X' xs B
  | .ret, _, B => Frm (fun k => T k ∨ X k) W B ∧ Ix .ret xs B
  | .exit id, _, B => Frm (fun k => T k ∨ X k) W B ∧ Ix (.exit id) xs B
  | .goto t, _, B => Frm (fun k => T k ∨ X k) W B ∧ Ix (.goto t) xs B
  | .panic _, _, _ => False
  | .outgrown, _, _ => False
/-- A loop over a function. -/
theorem range_law5x {α : Type} {g : Operand} {ps : Array Tmp} {assign body : Code} {Q : Exit → Act → World → Prop} {a : Act} {w : World} (hro : F.round = none) (h1 : 1 ≤ n) {gf : Nat} {lb : Array Value} (hg : a.eval g = .func (.func gf) #[] lb) (hFg : F.fn gf)
    (eg : ∀ args w, (callFunc gf args).run P w = .ok (.enter gf args) w) {enc : α → Array Value} (hps : ∀ x, (enc x).size = ps.size) (T : Nat → Prop) (hT : ∀ k, T k → k < w.heap.size) {G : List α → α → World → Prop}
    (hG : ∀ pre x A l o o', G pre x A → A.heap[l]? = some o → o.isCells = false → G pre x (A.putObj l o')) {S Sp : List α → Prop} {N : Nat} (hseq : SeqsX F (n - 1) P gf lb enc G T S Sp N w)
    (I : (Nat → Prop) → List α → World → Prop) (Ix : Code → List α → World → Prop) (hI : ∀ X, Quiet w.heap.size (I X)) (hIx : ∀ c, Quiet w.heap.size (Ix c)) (h0 : I (fun _ => False) [] w) (a₁ : α → World → Act) (Vn : α → World → World) (hVn : ∀ x A, Below A.heap.size A (Vn x A)) (hGV : ∀ pre x A, G pre x A → G pre x (Vn x A))
    (hassign : ∀ (l : Nat) (x : α) (W : World) (K : Act → World → Prop), K (a₁ x W) (Vn x W) → assign.wpIn (F.inRound l) (n - 1 - 1) P (Exit.then K (fun _ _ _ => False)) { tmps := (ps.zip (enc x)).foldl (fun t (p, v) => t.setIfInBounds p v) a.tmps, defers := [] } W)
    (hbody : ∀ (l : Nat) (X : Nat → Prop) (pre : List α) (x : α) (W0 W : World), l = w.heap.size + 1 → (∃ r, W.heap[l]? = some (.loop r)) → I X pre W → (∀ c, X c → w.heap.size + 1 < c ∧ c < W0.heap.size) → G pre x W → pre.length < N → w.heap.size + 1 < W0.heap.size → Frm (fun k => k = w.heap.size + 1) (Vn x W0) W → body.wpIn (F.inRound l) (n - 1 - 1) P (roundOutX T X I Ix (pre ++ [x]) W) (a₁ x W0) W)
    (hdone : ∀ (D : Nat) (xs : List α) (X : Nat → Prop) (W : World), w.heap.size ≤ D → S xs → I X xs W → W.heap[D]? = some (.deferred (some [])) → Q .normal { a with defers := { target := .collected D, args := #[] } :: a.defers } W)
    (hstop : ∀ (D : Nat) (c : Code) (pre : List α) (W : World), w.heap.size ≤ D → Sp pre → Ix c pre W → W.heap[D]? = some (.deferred (some [])) → c.wpIn F n P Q { a with defers := { target := .collected D, args := #[] } :: a.defers } W) :
    (Code.rangeFunc g ps assign body).wpIn F n P Q a w := by
  refine wpIn_rangeFunc fun fn hfn => ?_
  rw [hro]
  obtain ⟨R, hR⟩ : ∃ R : LoopState → Option Code → Loop, R = fun st pe => { state := st, pending := pe, fn, tmps := a.tmps, params := ps, assign, body, defers := w.heap.size } := ⟨_, rfl⟩
  have hwD : Below w.heap.size w (w.alloc (.deferred (some []))) := (Below.refl _ w).alloc (Nat.le_refl _) _
  obtain ⟨V, hV⟩ : ∃ V, V = (w.alloc (.deferred (some []))).alloc (.loop (R .ready none)) := ⟨_, rfl⟩
  have hbV : Below w.heap.size w V := by rw [hV]; exact hwD.alloc hwD.size _
  have hVl : V.heap[w.heap.size + 1]? = some (.loop (R .ready none)) := by
    have := World.alloc_heap_new (w.alloc (.deferred (some []))) (.loop (R .ready none))
    rw [World.size_alloc] at this
    rw [hV]; exact this
  have hVd : V.heap[w.heap.size]? = some (.deferred (some [])) := by
    rw [hV]
    exact (Below.heap_alloc _ _ _ (by simp)).trans (World.alloc_heap_new w _)
  have he : (Instr.enterLoop fn a.tmps ps assign body none).run P w = .ok (w.heap.size + 1, [{ target := .collected w.heap.size, args := #[] }]) V := by
    rw [hV, hR]; exact run_enterLoop_outer _ _ _ _ _
  refine ⟨w.heap.size + 1, _, V, { target := .fn (.func gf) lb, args := #[.func (.yield (w.heap.size + 1)) #[] #[]] }, V, gf, #[.func (.yield (w.heap.size + 1)) #[] #[]] ++ lb, V, he, ?_, ?_, ?_, fun _ => h1, ?_⟩
  · simp only [resolve, hg]
    simp [go_sem]
  · intro f' hf'
    simp [Target.leads] at hf'
    subst hf'
    exact hFg
  · simp [invoke, go_sem, eg]
  · refine (hseq (w.heap.size + 1) (fun X pre A => I X pre A ∧ A.heap[w.heap.size + 1]? = some (.loop (R .ready none)) ∧ A.heap[w.heap.size]? = some (.deferred (some [])))
      (fun pre A => ∃ c, Ix c pre A ∧ A.heap[w.heap.size + 1]? = some (.loop (R .done (some c))) ∧ A.heap[w.heap.size]? = some (.deferred (some []))) V hbV (Array.getElem?_eq_some_iff.1 hVl).1 (by omega) ?_ ?_ ?_ ⟨hI _ _ _ _ h0 (Frm.of_below hbV), hVl, hVd⟩).mono ?_
    · rintro X pre A B ⟨hi, hl, hd⟩ hb
      have hVs := (Array.getElem?_eq_some_iff.1 hVl).1
      exact ⟨hI _ _ _ _ hi (hb.mono fun k _ e => ⟨by omega, e.2⟩), (hb.block _ (Array.getElem?_eq_some_iff.1 hl).1 (fun e => by omega)).trans hl, (hb.block _ (Array.getElem?_eq_some_iff.1 hd).1 (fun e => by omega)).trans hd⟩
    · rintro pre A B ⟨c, hi, hl, hd⟩ hb
      have hVs := (Array.getElem?_eq_some_iff.1 hVl).1
      exact ⟨c, hIx _ _ _ _ hi (hb.mono fun k _ e => ⟨by omega, e.2⟩), (hb.block _ (Array.getElem?_eq_some_iff.1 hl).1 (fun e => by omega)).trans hl, (hb.block _ (Array.getElem?_eq_some_iff.1 hd).1 (fun e => by omega)).trans hd⟩
    · rintro X pre x A ⟨hi, hl, hd⟩ hX hg' hlen
      have hVs := (Array.getElem?_eq_some_iff.1 hVl).1
      have hlt := (Array.getElem?_eq_some_iff.1 hl).1
      have hy := run_yield (P := P) (args := enc x) hl (by rw [hR]; exact hps x)
      rw [hR] at hy
      have hb1 := hVn x A
      obtain ⟨A1, hA1⟩ : ∃ A1, A1 = Vn x A := ⟨_, rfl⟩
      rw [← hA1] at hb1
      have hl1 : A1.heap[w.heap.size + 1]? = some (.loop (R .ready none)) := (hb1.block _ hlt).trans hl
      have hd1 : A1.heap[w.heap.size]? = some (.deferred (some [])) := (hb1.block _ (Array.getElem?_eq_some_iff.1 hd).1).trans hd
      have hlt1 := (Array.getElem?_eq_some_iff.1 hl1).1
      refine ⟨fn, _, assign, body, hy, roundIn_of_wpIn hfn (hassign _ x A _ ⟨_, run_beginRound (by rw [← hA1]; exact hl1) (by rw [hR]), ?_⟩)⟩
      rw [← hA1]
      -- the record is busy; the body; its end
      obtain ⟨A2, hA2⟩ : ∃ A2, A2 = A1.putObj (w.heap.size + 1) (.loop { R .ready none with state := .busy }) := ⟨_, rfl⟩
      rw [← hA2]
      have f2 : Frm (fun k => k = w.heap.size + 1) A1 A2 := by rw [hA2]; exact Frm.put _ _ _ rfl
      have hl2 : A2.heap[w.heap.size + 1]? = some (.loop { R .ready none with state := .busy }) := by rw [hA2]; exact World.putObj_heap_same hlt1
      have hd2 : A2.heap[w.heap.size]? = some (.deferred (some [])) := by rw [hA2]; exact (World.putObj_heap_other (by omega)).trans hd1
      have hend : ∀ (jump : Option Code) (B : World), Frm (fun k => T k ∨ X k) A2 B → ∃ B2, (Instr.endRound (w.heap.size + 1) jump).run P B = .ok (.bool jump.isNone) B2 ∧ B2.heap[w.heap.size + 1]? = some (.loop (R (if jump.isNone then .ready else .done) jump)) ∧ B2.heap[w.heap.size]? = some (.deferred (some [])) ∧ Frm (fun k => w.heap.size ≤ k ∧ ∃ o, B.heap[k]? = some o ∧ o.isCells = false) B B2 ∧ Frm (fun k => T k ∨ k = w.heap.size + 1 ∨ X k) A B2 ∧ B2.heap.size = B.heap.size := by
        intro jump B hf
        have hlB := (hf.block _ (Array.getElem?_eq_some_iff.1 hl2).1 (fun h => h.elim (fun h => by have := hT _ h; omega) (fun h => by have := hX _ h; omega))).trans hl2
        have hdB := (hf.block _ (Array.getElem?_eq_some_iff.1 hd2).1 (fun h => h.elim (fun h => by have := hT _ h; omega) (fun h => by have := hX _ h; omega))).trans hd2
        have hr := run_endRound (P := P) jump hlB
        refine ⟨_, hr, ?_, (World.putObj_heap_other (by omega)).trans hdB, Frm.put _ _ _ ⟨by omega, _, hlB, rfl⟩, ?_⟩
        · rw [World.putObj_heap_same (Array.getElem?_eq_some_iff.1 hlB).1, hR]
        · exact ⟨(((Frm.of_below (S := fun k => T k ∨ k = w.heap.size + 1 ∨ X k) hb1).trans f2 (fun k h => .inl (.inr (.inl h)))).trans hf (fun k h => .inl (h.elim .inl (fun h => .inr (.inr h))))).trans (Frm.put (S := fun k => k = w.heap.size + 1) _ _ _ rfl) (fun k h => .inl (.inr (.inl h))), by simp⟩
      have hA12 := f2.size
      have hA01 := hb1.size
      refine wpIn_mono (hbody _ X pre x A A2 rfl ⟨_, hl2⟩ (hI _ _ _ _ (hI _ _ _ _ hi (Frm.of_below hb1)) (f2.mono fun k _ e => ⟨by omega, by rw [e]; exact ⟨_, hl1, rfl⟩⟩)) (fun c e => ⟨by have := (hX c e).1; omega, (hX c e).2⟩) (by rw [hA2, hA1]; rw [hA1] at hl1; exact hG _ _ _ _ _ _ (hGV _ _ _ hg') hl1 rfl) hlen hlt (by rw [← hA1]; exact f2)) ?_
      rintro e a3 B hp
      cases e with
      | normal =>
        obtain ⟨hf, X', hX', hi3⟩ := hp
        obtain ⟨B2, hr, h3, h4, h5, h6, h7⟩ := hend none B hf
        exact ⟨_, _, hr, .inl ⟨rfl, X', ⟨hI _ _ _ _ hi3 h5, h3, h4⟩, fun c e => (hX' c e).imp id (fun e => ⟨by omega, by omega⟩), h6⟩⟩
      | ret =>
        obtain ⟨hf, hi3⟩ := hp
        obtain ⟨B2, hr, h3, h4, h5, h6, h7⟩ := hend (some .ret) B hf
        exact ⟨_, _, hr, .inr ⟨rfl, ⟨.ret, hIx _ _ _ _ hi3 h5, h3, h4⟩, h6⟩⟩
      | exit id =>
        obtain ⟨hf, hi3⟩ := hp
        obtain ⟨B2, hr, h3, h4, h5, h6, h7⟩ := hend (some (.exit id)) B hf
        exact ⟨_, _, hr, .inr ⟨rfl, ⟨.exit id, hIx _ _ _ _ hi3 h5, h3, h4⟩, h6⟩⟩
      | goto t =>
        obtain ⟨hf, hi3⟩ := hp
        obtain ⟨B2, hr, h3, h4, h5, h6, h7⟩ := hend (some (.goto t)) B hf
        exact ⟨_, _, hr, .inr ⟨rfl, ⟨.goto t, hIx _ _ _ _ hi3 h5, h3, h4⟩, h6⟩⟩
      | panic ch => exact hp.elim
      | outgrown => exact hp.elim
    · rintro e B ⟨⟨v, rfl⟩, (⟨xs, X, hS, hi, hl, hd⟩ | ⟨pre, hS, c, hi, hl, hd⟩)⟩
      · have hr := run_endLoop (P := P) hl (by rw [hR]; simp)
        rw [hR] at hr
        exact ⟨none, _, hr, hdone _ xs X _ (Nat.le_refl _) hS (hI _ _ _ _ hi (Frm.put _ _ _ ⟨by omega, _, hl, rfl⟩)) ((World.putObj_heap_other (by omega)).trans hd)⟩
      · have hr := run_endLoop (P := P) hl (by rw [hR]; simp)
        rw [hR] at hr
        exact ⟨some c, _, hr, hstop _ c pre _ (Nat.le_refl _) hS (hIx _ _ _ _ hi (Frm.put _ _ _ ⟨by omega, _, hl, rfl⟩)) ((World.putObj_heap_other (by omega)).trans hd)⟩
/-- The loop in the body of another one. -/
theorem range_law6x {α : Type} {g : Operand} {ps : Array Tmp} {assign body : Code} {Q : Exit → Act → World → Prop} {a : Act} {w : World} {l₀ : Nat} {r₀ : Loop} (hro : F.round = some l₀) (hl₀ : w.heap[l₀]? = some (.loop r₀)) (h1 : 1 ≤ n) {gf : Nat} {lb : Array Value} (hg : a.eval g = .func (.func gf) #[] lb) (hFg : F.fn gf)
    (eg : ∀ args w, (callFunc gf args).run P w = .ok (.enter gf args) w) {enc : α → Array Value} (hps : ∀ x, (enc x).size = ps.size) (T : Nat → Prop) (hT : ∀ k, T k → k < w.heap.size) {G : List α → α → World → Prop}
    (hG : ∀ pre x A l o o', G pre x A → A.heap[l]? = some o → o.isCells = false → G pre x (A.putObj l o')) {S Sp : List α → Prop} {N : Nat} (hseq : SeqsX F (n - 1) P gf lb enc G T S Sp N w)
    (I : (Nat → Prop) → List α → World → Prop) (Ix : Code → List α → World → Prop) (hI : ∀ X, Quiet w.heap.size (I X)) (hIx : ∀ c, Quiet w.heap.size (Ix c)) (h0 : I (fun _ => False) [] w) (a₁ : α → World → Act) (Vn : α → World → World) (hVn : ∀ x A, Below A.heap.size A (Vn x A)) (hGV : ∀ pre x A, G pre x A → G pre x (Vn x A))
    (hassign : ∀ (l : Nat) (x : α) (W : World) (K : Act → World → Prop), K (a₁ x W) (Vn x W) → assign.wpIn (F.inRound l) (n - 1 - 1) P (Exit.then K (fun _ _ _ => False)) { tmps := (ps.zip (enc x)).foldl (fun t (p, v) => t.setIfInBounds p v) a.tmps, defers := [] } W)
    (hbody : ∀ (l : Nat) (X : Nat → Prop) (pre : List α) (x : α) (W0 W : World), I X pre W → (∀ c, X c → w.heap.size < c ∧ c < W0.heap.size) → G pre x W → pre.length < N → w.heap.size < W0.heap.size → Frm (fun k => k = w.heap.size) (Vn x W0) W → body.wpIn (F.inRound l) (n - 1 - 1) P (roundOutX T X I Ix (pre ++ [x]) W) (a₁ x W0) W)
    (hdone : ∀ (xs : List α) (X : Nat → Prop) (W : World), S xs → I X xs W → Q .normal a W)
    (hstop : ∀ (c : Code) (pre : List α) (W : World), Sp pre → Ix c pre W → c.wpIn F n P Q a W) :
    (Code.rangeFunc g ps assign body).wpIn F n P Q a w := by
  refine wpIn_rangeFunc fun fn hfn => ?_
  rw [hro]
  obtain ⟨R, hR⟩ : ∃ R : LoopState → Option Code → Loop, R = fun st pe => { state := st, pending := pe, fn, tmps := a.tmps, params := ps, assign, body, defers := r₀.defers } := ⟨_, rfl⟩
  obtain ⟨V, hV⟩ : ∃ V, V = w.alloc (.loop (R .ready none)) := ⟨_, rfl⟩
  have hbV : Below w.heap.size w V := by rw [hV]; exact (Below.refl _ w).alloc (Nat.le_refl _) _
  have hVl : V.heap[w.heap.size]? = some (.loop (R .ready none)) := by rw [hV]; exact World.alloc_heap_new w _
  have he : (Instr.enterLoop fn a.tmps ps assign body (some l₀)).run P w = .ok (w.heap.size, []) V := by
    rw [hV, hR]; exact run_enterLoop_inner hl₀ _ _ _ _ _
  refine ⟨w.heap.size, [], V, { target := .fn (.func gf) lb, args := #[.func (.yield w.heap.size) #[] #[]] }, V, gf, #[.func (.yield w.heap.size) #[] #[]] ++ lb, V, he, ?_, ?_, ?_, fun _ => h1, ?_⟩
  · simp only [resolve, hg]
    simp [go_sem]
  · intro f' hf'
    simp [Target.leads] at hf'
    subst hf'
    exact hFg
  · simp [invoke, go_sem, eg]
  · refine (hseq (w.heap.size) (fun X pre A => I X pre A ∧ A.heap[w.heap.size]? = some (.loop (R .ready none)))
      (fun pre A => ∃ c, Ix c pre A ∧ A.heap[w.heap.size]? = some (.loop (R .done (some c)))) V hbV (Array.getElem?_eq_some_iff.1 hVl).1 (by omega) ?_ ?_ ?_ ⟨hI _ _ _ _ h0 (Frm.of_below hbV), hVl⟩).mono ?_
    · rintro X pre A B ⟨hi, hl⟩ hb
      have hVs := (Array.getElem?_eq_some_iff.1 hVl).1
      exact ⟨hI _ _ _ _ hi (hb.mono fun k _ e => ⟨by omega, e.2⟩), (hb.block _ (Array.getElem?_eq_some_iff.1 hl).1 (fun e => by omega)).trans hl⟩
    · rintro pre A B ⟨c, hi, hl⟩ hb
      have hVs := (Array.getElem?_eq_some_iff.1 hVl).1
      exact ⟨c, hIx _ _ _ _ hi (hb.mono fun k _ e => ⟨by omega, e.2⟩), (hb.block _ (Array.getElem?_eq_some_iff.1 hl).1 (fun e => by omega)).trans hl⟩
    · rintro X pre x A ⟨hi, hl⟩ hX hg' hlen
      have hVs := (Array.getElem?_eq_some_iff.1 hVl).1
      have hlt := (Array.getElem?_eq_some_iff.1 hl).1
      have hy := run_yield (P := P) (args := enc x) hl (by rw [hR]; exact hps x)
      rw [hR] at hy
      have hb1 := hVn x A
      obtain ⟨A1, hA1⟩ : ∃ A1, A1 = Vn x A := ⟨_, rfl⟩
      rw [← hA1] at hb1
      have hl1 : A1.heap[w.heap.size]? = some (.loop (R .ready none)) := (hb1.block _ hlt).trans hl
      have hlt1 := (Array.getElem?_eq_some_iff.1 hl1).1
      refine ⟨fn, _, assign, body, hy, roundIn_of_wpIn hfn (hassign _ x A _ ⟨_, run_beginRound (by rw [← hA1]; exact hl1) (by rw [hR]), ?_⟩)⟩
      rw [← hA1]
      -- the record is busy; the body; its end
      obtain ⟨A2, hA2⟩ : ∃ A2, A2 = A1.putObj (w.heap.size) (.loop { R .ready none with state := .busy }) := ⟨_, rfl⟩
      rw [← hA2]
      have f2 : Frm (fun k => k = w.heap.size) A1 A2 := by rw [hA2]; exact Frm.put _ _ _ rfl
      have hl2 : A2.heap[w.heap.size]? = some (.loop { R .ready none with state := .busy }) := by rw [hA2]; exact World.putObj_heap_same hlt1
      have hend : ∀ (jump : Option Code) (B : World), Frm (fun k => T k ∨ X k) A2 B → ∃ B2, (Instr.endRound (w.heap.size) jump).run P B = .ok (.bool jump.isNone) B2 ∧ B2.heap[w.heap.size]? = some (.loop (R (if jump.isNone then .ready else .done) jump)) ∧ Frm (fun k => w.heap.size ≤ k ∧ ∃ o, B.heap[k]? = some o ∧ o.isCells = false) B B2 ∧ Frm (fun k => T k ∨ k = w.heap.size ∨ X k) A B2 ∧ B2.heap.size = B.heap.size := by
        intro jump B hf
        have hlB := (hf.block _ (Array.getElem?_eq_some_iff.1 hl2).1 (fun h => h.elim (fun h => by have := hT _ h; omega) (fun h => by have := hX _ h; omega))).trans hl2
        have hr := run_endRound (P := P) jump hlB
        refine ⟨_, hr, ?_, Frm.put _ _ _ ⟨by omega, _, hlB, rfl⟩, ?_⟩
        · rw [World.putObj_heap_same (Array.getElem?_eq_some_iff.1 hlB).1, hR]
        · exact ⟨(((Frm.of_below (S := fun k => T k ∨ k = w.heap.size ∨ X k) hb1).trans f2 (fun k h => .inl (.inr (.inl h)))).trans hf (fun k h => .inl (h.elim .inl (fun h => .inr (.inr h))))).trans (Frm.put (S := fun k => k = w.heap.size) _ _ _ rfl) (fun k h => .inl (.inr (.inl h))), by simp⟩
      have hA12 := f2.size
      have hA01 := hb1.size
      refine wpIn_mono (hbody _ X pre x A A2 (hI _ _ _ _ (hI _ _ _ _ hi (Frm.of_below hb1)) (f2.mono fun k _ e => ⟨by omega, by rw [e]; exact ⟨_, hl1, rfl⟩⟩)) (fun c e => ⟨by have := (hX c e).1; omega, (hX c e).2⟩) (by rw [hA2, hA1]; rw [hA1] at hl1; exact hG _ _ _ _ _ _ (hGV _ _ _ hg') hl1 rfl) hlen hlt (by rw [← hA1]; exact f2)) ?_
      rintro e a3 B hp
      cases e with
      | normal =>
        obtain ⟨hf, X', hX', hi3⟩ := hp
        obtain ⟨B2, hr, h3, h5, h6, h7⟩ := hend none B hf
        exact ⟨_, _, hr, .inl ⟨rfl, X', ⟨hI _ _ _ _ hi3 h5, h3⟩, fun c e => (hX' c e).imp id (fun e => ⟨by omega, by omega⟩), h6⟩⟩
      | ret =>
        obtain ⟨hf, hi3⟩ := hp
        obtain ⟨B2, hr, h3, h5, h6, h7⟩ := hend (some .ret) B hf
        exact ⟨_, _, hr, .inr ⟨rfl, ⟨.ret, hIx _ _ _ _ hi3 h5, h3⟩, h6⟩⟩
      | exit id =>
        obtain ⟨hf, hi3⟩ := hp
        obtain ⟨B2, hr, h3, h5, h6, h7⟩ := hend (some (.exit id)) B hf
        exact ⟨_, _, hr, .inr ⟨rfl, ⟨.exit id, hIx _ _ _ _ hi3 h5, h3⟩, h6⟩⟩
      | goto t =>
        obtain ⟨hf, hi3⟩ := hp
        obtain ⟨B2, hr, h3, h5, h6, h7⟩ := hend (some (.goto t)) B hf
        exact ⟨_, _, hr, .inr ⟨rfl, ⟨.goto t, hIx _ _ _ _ hi3 h5, h3⟩, h6⟩⟩
      | panic ch => exact hp.elim
      | outgrown => exact hp.elim
    · rintro e B ⟨⟨v, rfl⟩, (⟨xs, X, hS, hi, hl⟩ | ⟨pre, hS, c, hi, hl⟩)⟩
      · have hr := run_endLoop (P := P) hl (by rw [hR]; simp)
        rw [hR] at hr
        exact ⟨none, _, hr, hdone xs X _ hS (hI _ _ _ _ hi (Frm.put _ _ _ ⟨by omega, _, hl, rfl⟩))⟩
      · have hr := run_endLoop (P := P) hl (by rw [hR]; simp)
        rw [hR] at hr
        exact ⟨some c, _, hr, hstop c pre _ hS (hIx _ _ _ _ hi (Frm.put _ _ _ ⟨by omega, _, hl, rfl⟩))⟩
end Go.Proofs.YtdmjcjheanedgaaDoor
