/-
  Writes by one writer, one behind the other, in a statement whose order Go leaves open: how far the chain has come is told by which calls have come up.
-/
import Derived.Test.YtbkiipeoabbiiaaRegS
import Derived.Test.YtbkiipeoabbiiaaOctB
namespace Go.Proofs.Ytbkiipeoabbiiaa
open Go.RowKit
/-- How many of these operations, from the first on, have come up. -/
def stg (L : Array Bool) : List Nat → Nat
  | [] => 0
  | i :: t => if L.getD i false = true then stg L t + 1 else 0
/-- None has come up ahead of the one before it. -/
def flg (L : Array Bool) : List Nat → Prop
  | [] => True
  | i :: t => (L.getD i false = false → ∀ j ∈ t, L.getD j false = false) ∧ flg L t
theorem getD_next' {L : Array Bool} {i j : Nat} (h : i ≠ j) : (L.setIfInBounds i true).getD j false = L.getD j false := by
  simp [Array.getElem?_setIfInBounds_ne h]
theorem getD_self' {L : Array Bool} {i : Nat} (h : i < L.size) : (L.setIfInBounds i true).getD i false = true := by
  simp [h]
theorem stg_other {L : Array Bool} {i : Nat} : ∀ l : List Nat, i ∉ l → stg (L.setIfInBounds i true) l = stg L l
  | [], _ => rfl
  | j :: t, h => by
    rw [stg, stg, getD_next' (fun e => h (by simp [e])), stg_other t fun e => h (List.mem_cons_of_mem _ e)]
theorem flg_other {L : Array Bool} {i : Nat} : ∀ l : List Nat, i ∉ l → flg L l → flg (L.setIfInBounds i true) l
  | [], _, _ => trivial
  | j :: t, h, hf => by
    refine ⟨fun e k hk => ?_, flg_other t (fun e => h (List.mem_cons_of_mem _ e)) hf.2⟩
    rw [getD_next' fun e' => h (by simp [e'])] at e
    rw [getD_next' fun e' => h (by rw [e']; exact List.mem_cons_of_mem _ hk)]
    exact hf.1 e k hk
/-- The call at place p of the list comes up. -/
theorem stg_call {L : Array Bool} : ∀ (l : List Nat) (p i : Nat), l[p]? = some i → l.Nodup → flg L l → i < L.size → L.getD i false = false → (∀ q j, q < p → l[q]? = some j → L.getD j false = true) →
    stg L l = p ∧ stg (L.setIfInBounds i true) l = p + 1 ∧ flg (L.setIfInBounds i true) l
  | [], p, i, h, _, _, _, _, _ => by simp at h
  | a :: t, 0, i, h, hn, hf, hz, h0, _ => by
    obtain rfl : a = i := by simpa using h
    have hnt : a ∉ t := (List.nodup_cons.1 hn).1
    have h1 : ∀ j ∈ t, L.getD j false = false := hf.1 h0
    have h2 : stg L t = 0 := by
      cases t with
      | nil => rfl
      | cons b u => rw [stg, if_neg (by rw [h1 b (by simp)]; decide)]
    refine ⟨by rw [stg, if_neg (by rw [h0]; decide)], by rw [stg, if_pos (getD_self' hz), stg_other t hnt, h2], fun e => ?_, flg_other t hnt hf.2⟩
    rw [getD_self' hz] at e; cases e
  | a :: t, p + 1, i, h, hn, hf, hz, h0, hb => by
    have hnt : a ∉ t := (List.nodup_cons.1 hn).1
    have hi : t[p]? = some i := by simpa using h
    have hai : a ≠ i := fun e => hnt (e ▸ List.mem_of_getElem? hi)
    have ha : L.getD a false = true := hb 0 a (by omega) rfl
    obtain ⟨h1, h2, h3⟩ := stg_call t p i hi (List.nodup_cons.1 hn).2 hf.2 hz h0 fun q j hq hj => hb (q + 1) j (by omega) (by simpa using hj)
    refine ⟨by rw [stg, if_pos ha, h1], by rw [stg, getD_next' (fun e => hai e.symm), if_pos ha, h2], fun e => ?_, h3⟩
    rw [getD_next' (fun e => hai e.symm), ha] at e; cases e
theorem none_up (n i : Nat) : (Array.replicate n false).getD i false = false := by
  rcases Nat.lt_or_ge i n with h | h
  · simp [h]
  · simp [Array.getElem?_eq_none (xs := Array.replicate n false) (i := i) (by simpa using h)]
theorem stg_none (n : Nat) : ∀ l : List Nat, stg (Array.replicate n false) l = 0
  | [] => rfl
  | i :: t => by
    rw [stg, if_neg (by rw [none_up]; decide)]
theorem flg_none (n : Nat) : ∀ l : List Nat, flg (Array.replicate n false) l
  | [] => trivial
  | _ :: t => ⟨fun _ j _ => none_up n j, flg_none n t⟩
/-- A chain of writes: the calls' places, what there is behind so many of them; and what the world has kept since W. -/
structure Chain (W : World) (g k n : Nat) (l : List Nat) (c : Nat → List Nat) (L : Array Bool) (w : World) : Prop where
  size : L.size = n
  flags : flg L l
  wrote : Wrote W g k w (c (stg L l))
theorem Chain.start {W : World} {g k : Nat} {c : Nat → List Nat} (n : Nat) (l : List Nat) (h : Wr W g k (c 0)) : Chain W g k n l c (Array.replicate n false) W.drew := by
  refine ⟨by simp, flg_none n l, ?_⟩
  rw [stg_none]
  exact ⟨k, h.below ((Below.refl _ _).drew), (Frm.refl _ _).drew, .inl rfl⟩
theorem Chain.other {W w : World} {g k n i : Nat} {l : List Nat} {c : Nat → List Nat} {L : Array Bool} (h : Chain W g k n l c L w) (hi : i ∉ l) : Chain W g k n l c (L.setIfInBounds i true) w :=
  ⟨by rw [Array.size_setIfInBounds]; exact h.size, flg_other l hi h.flags, by rw [stg_other l hi]; exact h.wrote⟩
/-- A block that stood before stands. -/
theorem Chain.blk {W w : World} {g k n b : Nat} {l : List Nat} {c : Nat → List Nat} {L : Array Bool} {t : TypeId} {cs : Array Value} (h : Chain W g k n l c L w) (hb : Blk W b t cs) (hg : b ≠ g) (hk : b ≠ k) : Blk w b t cs := by
  obtain ⟨_, _, hf, _⟩ := h.wrote
  exact hb.frm hf (by rintro (h | h) <;> omega)
/-- A call that may come up where it is ready. -/
theorem yieldsS_callr {P : Program} {md : Region.Mode} {ops : Array Oper} {S : Array Bool → World → Prop} {i : Nat} {o : Oper} {v : Value} {a : Act} {f : FuncId} {args : Array Value} (hw : Region.wanted o (yielded ops a.tmps) = true)
    (hr : ∀ w, (execOp a.eval o).run P w = .ok (.enter f args) w) (hc : ∀ L w, i ∈ Region.ready md ops L → S L w → Calls P f args w fun e w' => e = .returned v ∧ S (L.setIfInBounds i true) w') : YieldsS P md ops S i o v a :=
  .inl ⟨hw, fun L w hL hS => .inr (.inr ⟨f, args, hr w, hc L w hL hS⟩)⟩
/-- What each of these waits for: the one before it has come up. -/
def waits (md : Region.Mode) (ops : Array Oper) : List Nat → Bool
  | i :: j :: t => (match ops[j]? with | some o => o.after.any fun e => Region.binds md e && e.on == i | none => false) && waits md ops (j :: t)
  | _ => true
theorem waits_at {md : Region.Mode} {ops : Array Oper} : ∀ (l : List Nat) (p i j : Nat), waits md ops l = true → l[p]? = some i → l[p + 1]? = some j → (match ops[j]? with | some o => o.after.any fun e => Region.binds md e && e.on == i | none => false) = true
  | [], p, i, j, _, h, _ => by simp at h
  | [_], p, i, j, _, _, h => by simp at h
  | a :: b :: t, 0, i, j, hw, h1, h2 => by
    obtain rfl : a = i := by simpa using h1
    obtain rfl : b = j := by simpa using h2
    simp only [waits, Bool.and_eq_true] at hw
    exact hw.1
  | a :: b :: t, p + 1, i, j, hw, h1, h2 => by
    simp only [waits, Bool.and_eq_true] at hw
    exact waits_at (b :: t) p i j hw.2 (by simpa using h1) (by simpa using h2)
theorem flg_before {L : Array Bool} : ∀ (l : List Nat) (p : Nat) (i : Nat), flg L l → l[p]? = some i → L.getD i false = true → ∀ q j, q < p → l[q]? = some j → L.getD j false = true
  | [], p, i, _, h, _ => by simp at h
  | a :: t, 0, i, _, _, _ => fun q j hq => by omega
  | a :: t, p + 1, i, hf, h, hi => fun q j hq hj => by
    have hi' : t[p]? = some i := by simpa using h
    cases q with
    | zero =>
      obtain rfl : a = j := by simpa using hj
      cases hA : L.getD a false with
      | true => rfl
      | false => have := hf.1 hA i (List.mem_of_getElem? hi'); rw [hi] at this; cases this
    | succ q => exact flg_before t p i hf.2 hi' hi q j (by omega) (by simpa using hj)
/-- The call at place p writes: it takes what there is behind p of them to what there is behind one more. -/
theorem Chain.call {W w : World} {g k n p i : Nat} {l : List Nat} {c : Nat → List Nat} {L : Array Bool} {md : Region.Mode} {ops : Array Oper} {P : Program} {f : FuncId} {args : Array Value} {v : Value}
    (h : Chain W g k n l c L w) (hr : i ∈ Region.ready md ops L) (hp : l[p]? = some i) (hin : i < n) (hn : l.Nodup) (hwt : waits md ops l = true)
    (hc : ∀ w k', Wr w g k' (c p) → Calls P f args w fun e w' => e = .returned v ∧ Wrote w g k' w' (c (p + 1))) :
    Calls P f args w fun e w' => e = .returned v ∧ Chain W g k n l c (L.setIfInBounds i true) w' := by
  have h0 := ready_not hr
  have hb : ∀ q j, q < p → l[q]? = some j → L.getD j false = true := by
    cases p with
    | zero => intro q j hq; omega
    | succ p =>
      have hlt : p + 1 < l.length := (List.getElem?_eq_some_iff.1 hp).1
      have hj0 : l[p]? = some l[p] := List.getElem?_eq_getElem (by omega)
      have hd := ready_dep hr (waits_at l p _ i hwt hj0 hp)
      intro q j hq hj
      rcases Nat.lt_or_ge q p with h' | h'
      · exact flg_before l p _ h.flags hj0 hd q j h' hj
      · obtain rfl : q = p := by omega
        rw [hj0] at hj
        injection hj with e
        rw [← e]; exact hd
  obtain ⟨h1, h2, h3⟩ := stg_call l p i hp hn h.flags (by rw [h.size]; exact hin) h0 hb
  have hw := h.wrote
  rw [h1] at hw
  obtain ⟨k', hr', hf', hk'⟩ := hw
  refine (hc w k' hr').mono fun e w' h' => ⟨h'.1, ?_⟩
  refine ⟨by rw [Array.size_setIfInBounds]; exact h.size, h3, ?_⟩
  rw [h2]
  exact Wrote.trans hf' hk' h'.2
/-- All have come up. -/
theorem stg_all {L : Array Bool} : ∀ l : List Nat, (∀ i ∈ l, L.getD i false = true) → stg L l = l.length
  | [], _ => rfl
  | i :: t, h => by rw [stg, if_pos (h i (by simp)), stg_all t fun j hj => h j (List.mem_cons_of_mem _ hj)]; rfl
/-- What there is behind p writes of these. -/
def pre (zs : List (List Nat)) (xs : List Nat) (p : Nat) : List Nat := xs ++ (zs.take p).flatten
theorem pre_succ {zs : List (List Nat)} {xs z : List Nat} {p : Nat} (h : zs[p]? = some z) : pre zs xs (p + 1) = pre zs xs p ++ z := by
  unfold pre
  rw [List.take_add_one, h, List.flatten_append, List.append_assoc]
  simp
theorem pre_all {zs : List (List Nat)} {xs : List Nat} {p : Nat} (h : p = zs.length) : pre zs xs p = xs ++ zs.flatten := by subst h; unfold pre; rw [List.take_length]
theorem pre_zero (zs : List (List Nat)) (xs : List Nat) : pre zs xs 0 = xs := by unfold pre; simp
theorem pre_len (zs : List (List Nat)) (xs : List Nat) (p : Nat) : (pre zs xs p).length ≤ (xs ++ zs.flatten).length := by
  unfold pre
  have h := congrArg (fun l => (List.flatten l).length) (List.take_append_drop p zs)
  simp only [List.flatten_append, List.length_append] at h
  rw [List.length_append, List.length_append]
  omega
/-- Where a writer stands behind a chain of writes. -/
theorem behind {W W0 w : World} {g k b : Nat} {zs : List Nat} (h : Wrote W0 g k w zs) (hbel : Below b W W0) (hbg : b ≠ g) (hbk : b ≠ k) (hk : b ≤ k) (hgb : b ≤ g := by assumption) (hs : b < W0.heap.size := by assumption) :
    ∃ k', Wr w g k' zs ∧ Below b W w ∧ b ≠ k' ∧ b ≤ k' := by
  obtain ⟨k', hr, hf, hk'⟩ := h
  refine ⟨k', hr, hbel.trans (hf.below (by omega) (by rintro x (rfl | rfl) <;> assumption)), ?_, ?_⟩
  · rcases hk' with rfl | h
    · exact hbk
    · omega
  · rcases hk' with rfl | h
    · exact hk
    · omega
end Go.Proofs.Ytbkiipeoabbiiaa
