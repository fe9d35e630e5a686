/-
  BookGives in plain lists: what is in the book behind a list of orders, and in which order it comes out. (No Go text.)
  BookGives: what is left of the book while its orders come out, one structure for each loop. (No Go text.)
-/
import Derived.Test.YthbopaeaplejiaaDoorGP
namespace Go.Proofs.YthbopaeaplejiaaDoor
/-- Where an order stands first in a list, whole. -/
def opl (l : List Ord) (o : Ord) : Option Nat := l.findIdx? fun x => decide (x.id = o.id ∧ x.owner = o.owner ∧ x.side = o.side ∧ x.price = o.price ∧ x.qty = o.qty ∧ x.flags = o.flags ∧ x.seq = o.seq)
theorem ord_ext {x o : Ord} : (x.id = o.id ∧ x.owner = o.owner ∧ x.side = o.side ∧ x.price = o.price ∧ x.qty = o.qty ∧ x.flags = o.flags ∧ x.seq = o.seq) ↔ x = o := by
  obtain ⟨a, b, c, d, e, f, g⟩ := x
  obtain ⟨a', b', c', d', e', f', g'⟩ := o
  simp
def oplI (l : List Ord) (o : Ord) : Int := match opl l o with
  | some i => i
  | none => -1
theorem opl_at {l : List Ord} {o : Ord} {i : Nat} (h : l[i]? = some o) (hn : ∀ j, j < i → l[j]? ≠ some o) : opl l o = some i := by
  obtain ⟨hi, rfl⟩ := List.getElem?_eq_some_iff.1 h
  refine List.findIdx?_eq_some_iff_getElem.2 ⟨hi, by simp, fun j hj => ?_⟩
  simp only [decide_eq_true_eq]
  intro e
  exact hn j hj (by rw [List.getElem?_eq_getElem (by omega)]; exact congrArg some (ord_ext.1 e))
theorem opl_no {l : List Ord} {o : Ord} (h : ∀ j : Nat, l[j]? ≠ some o) : opl l o = none := by
  refine List.findIdx?_eq_none_iff.2 fun x hx => ?_
  obtain ⟨j, hj⟩ := List.mem_iff_getElem?.1 hx
  simp only [decide_eq_false_iff_not]
  intro e
  exact h j (by rw [hj]; exact congrArg some (ord_ext.1 e))
/-- What may be in a book by itself. -/
def okO (x : Ord) : Prop := (x.side = 0 ∨ x.side = 1) ∧ 1 ≤ x.price ∧ x.price ≤ 1099511627776 ∧ 1 ≤ x.qty ∧ x.qty ≤ 4294967296
theorem room_roomy {b : Bk} (h1 : b.L.length < b.slots) (h2 : b.L.length < b.levels) (s p : Int) : b.room s p = true := by
  unfold Bk.room bkFits
  have := prs_len b.L s
  rw [Bool.and_eq_true]
  refine ⟨decide_eq_true h1, ?_⟩
  rw [Bool.or_eq_true]
  exact .inr (decide_eq_true (by omega))
theorem addF_roomy {b : Bk} (h1 : b.L.length < b.slots) (h2 : b.L.length < b.levels) (o : Ord) : b.addF o = 0 ↔ okO o ∧ bkf b.L o.id = none := by
  constructor
  · intro h
    obtain ⟨g1, g2, g3, g4, g5, g6, -⟩ := Bk.addF_zero h
    exact ⟨⟨g1, g2, g3, g4, g5⟩, g6⟩
  · rintro ⟨⟨g1, g2, g3, g4, g5⟩, g6⟩
    unfold Bk.addF
    rw [if_neg (by omega), if_neg (by omega), g6, if_neg (by simp), room_roomy h1 h2, if_pos rfl]
/-- Behind i of the orders of l. -/
structure Gv (l : List Ord) (i : Nat) (b : Bk) : Prop where
  sl : b.slots = 60
  lv : b.levels = 60
  ok : b.Ok
  len : b.L.length ≤ i
  at' : ∀ x ∈ b.L, ∃ j, j < i ∧ opl l x = some j
  ord : b.L.Pairwise fun x y => ∀ j k, opl l x = some j → opl l y = some k → j < k
  rej : ∀ j x, j < i → l[j]? = some x → x ∈ b.L ∨ ¬ okO x ∨ bkf b.L x.id ≠ none
theorem Gv.start (l : List Ord) : Gv l 0 (Bk.new 60 60) :=
  ⟨rfl, rfl, Bk.Ok.new (by omega) (by omega) (by omega) (by omega), Nat.le_refl _, (fun _ h => by cases h), List.Pairwise.nil, (fun j x h => by omega)⟩
theorem Gv.step {l : List Ord} {i : Nat} {b : Bk} (h : Gv l i b) (hi : i < 60) {o : Ord} (ho : l[i]? = some o) (hf : o.Fit) : Gv l (i + 1) (b.add o) ∧ (b.add o).L.length = b.L.length + (if b.addF o = 0 then 1 else 0) := by
  have hl := h.len
  have hr := addF_roomy (b := b) (by rw [h.sl]; omega) (by rw [h.lv]; omega) o
  have hok := h.ok.add hf
  obtain ⟨e1, e2⟩ := b.add_slots o
  unfold Bk.add at *
  by_cases h0 : b.addF o = 0
  · rw [if_pos h0] at hok e1 e2 ⊢
    rw [if_pos h0]
    obtain ⟨g1, g2⟩ := hr.1 h0
    have hp : opl l o = some i := by
      refine opl_at ho fun j hj e => ?_
      rcases h.rej j o hj e with k | k | k
      · exact bkf_none g2 o k rfl
      · exact k g1
      · exact k g2
    refine ⟨⟨h.sl, h.lv, hok, by simp; omega, fun x hx => ?_, ?_, fun j x hj hx => ?_⟩, by simp⟩
    · rcases List.mem_append.1 hx with k | k
      · obtain ⟨j, hj, hp'⟩ := h.at' x k; exact ⟨j, by omega, hp'⟩
      · rw [List.mem_singleton.1 k]; exact ⟨i, by omega, hp⟩
    · refine List.pairwise_append.2 ⟨h.ord, List.pairwise_singleton _ _, fun a ha c hc j k hj hk => ?_⟩
      rw [List.mem_singleton.1 hc, hp] at hk
      cases hk
      obtain ⟨j', hj', hp'⟩ := h.at' a ha
      rw [hp'] at hj
      cases hj
      exact hj'
    · rcases Nat.lt_succ_iff_lt_or_eq.1 hj with k | rfl
      · rcases h.rej j x k hx with k | k | k
        · exact .inl (List.mem_append_left _ k)
        · exact .inr (.inl k)
        · refine .inr (.inr fun e => k ?_)
          exact bkf_no fun y hy => bkf_none e y (List.mem_append_left _ hy)
      · rw [ho] at hx
        cases hx
        exact .inl (List.mem_append_right _ (List.mem_singleton.2 rfl))
  · rw [if_neg h0] at hok e1 e2 ⊢
    rw [if_neg h0]
    refine ⟨⟨h.sl, h.lv, h.ok, by omega, fun x hx => ?_, h.ord, fun j x hj hx => ?_⟩, rfl⟩
    · obtain ⟨j, hj, hp'⟩ := h.at' x hx; exact ⟨j, by omega, hp'⟩
    · rcases Nat.lt_succ_iff_lt_or_eq.1 hj with k | rfl
      · exact h.rej j x k hx
      · rw [ho] at hx
        cases hx
        refine .inr ?_
        by_cases g : okO o
        · exact .inr fun e => h0 (hr.2 ⟨g, e⟩)
        · exact .inl g
/-- What is left while the orders come out: of side s, whose orders were Q, all but n. -/
structure Gt (l : List Ord) (s : Int) (Q : List Ord) (n : Nat) (b : Bk) : Prop where
  ok : b.Ok
  sl : b.slots = 60
  at' : ∀ x ∈ b.L, ∃ j, opl l x = some j
  ord : b.L.Pairwise fun x y => ∀ j k, opl l x = some j → opl l y = some k → j < k
  q : bkOf b.L s = Q.drop n
  le : n ≤ Q.length
  srt : Q.Pairwise fun x y => bett s y.price x.price = false ∧ (y.price = x.price → ∀ j k, opl l x = some j → opl l y = some k → j < k)
  qat : ∀ x ∈ Q, ∃ j, opl l x = some j
/-- What all Gt's have. -/
structure Gw (l : List Ord) (b : Bk) : Prop where
  ok : b.Ok
  sl : b.slots = 60
  at' : ∀ x ∈ b.L, ∃ j, opl l x = some j
  ord : b.L.Pairwise fun x y => ∀ j k, opl l x = some j → opl l y = some k → j < k
theorem Gv.w {l : List Ord} {i : Nat} {b : Bk} (h : Gv l i b) : Gw l b := ⟨h.ok, h.sl, fun x hx => by obtain ⟨j, -, hj⟩ := h.at' x hx; exact ⟨j, hj⟩, h.ord⟩
theorem Gt.w {l : List Ord} {s : Int} {Q : List Ord} {n : Nat} {b : Bk} (h : Gt l s Q n b) : Gw l b := ⟨h.ok, h.sl, h.at', h.ord⟩
theorem Gw.t {l : List Ord} {b : Bk} (h : Gw l b) (s : Int) : Gt l s (bkOf b.L s) 0 b := by
  refine ⟨h.ok, h.sl, h.at', h.ord, rfl, Nat.zero_le _, ?_, fun x hx => h.at' x (bkOf_mem.1 hx).1⟩
  refine (bkOf_srt h.ok.u s).imp_of_mem ?_
  intro x y hx hy g
  obtain ⟨i, hi⟩ := List.mem_iff_getElem?.1 (bkOf_mem.1 hx).1
  obtain ⟨k, hk⟩ := List.mem_iff_getElem?.1 (bkOf_mem.1 hy).1
  rcases g with g | ⟨g1, g2⟩
  · refine ⟨bett_asymm g, fun e => ?_⟩
    rw [e, bett_irr] at g
    cases g
  · refine ⟨g1, fun _ => ?_⟩
    rw [h.ok.u.x hi, h.ok.u.x hk] at g2
    obtain ⟨li, rfl⟩ := List.getElem?_eq_some_iff.1 hi
    obtain ⟨lk, rfl⟩ := List.getElem?_eq_some_iff.1 hk
    exact List.pairwise_iff_getElem.1 h.ord i k li lk g2
theorem Gt.front {l : List Ord} {s : Int} {Q : List Ord} {n : Nat} {b : Bk} (h : Gt l s Q n b) : b.front s = Q[n]? := by
  unfold Bk.front
  rw [h.q, List.head?_drop]
theorem Gt.len {l : List Ord} {s : Int} {Q : List Ord} {n : Nat} {b : Bk} (h : Gt l s Q n b) : Q.length ≤ n + b.L.length := by
  have h1 := congrArg List.length h.q
  rw [List.length_drop] at h1
  have h2 := (bkOf_perm b.L s).length_eq
  have h3 := List.length_filter_le (fun x : Ord => x.side == s) b.L
  omega
/-- The next one comes out. -/
theorem Gt.step {l : List Ord} {s : Int} {Q : List Ord} {n : Nat} {b : Bk} (h : Gt l s Q n b) {o : Ord} (ho : Q[n]? = some o) :
    b.remF o.id = (o, 0) ∧ Gt l s Q (n + 1) (b.rem o.id) ∧ (b.rem o.id).L.length + 1 = b.L.length ∧ o.Ok ∧ ∀ s2, s2 ≠ s → bkOf (b.rem o.id).L s2 = bkOf b.L s2 := by
  have hlt := (List.getElem?_eq_some_iff.1 ho).1
  have hq : bkOf b.L s = o :: Q.drop (n + 1) := by
    rw [h.q]
    obtain ⟨hl, rfl⟩ := List.getElem?_eq_some_iff.1 ho
    exact List.drop_eq_getElem_cons hl
  obtain ⟨hm, hs⟩ := bkOf_mem.1 (show o ∈ bkOf b.L s by rw [hq]; exact List.mem_cons_self)
  obtain ⟨i, hi⟩ := List.mem_iff_getElem?.1 hm
  have hf := h.ok.u.at' hi
  have hok := h.ok.rem o.id
  have e : b.rem o.id = { b with L := b.L.eraseIdx i } := by unfold Bk.rem; rw [hf]
  rw [e] at hok ⊢
  have hil := (List.getElem?_eq_some_iff.1 hi).1
  refine ⟨by unfold Bk.remF; rw [hf]; simp [hi], ⟨hok, h.sl, fun x hx => h.at' x (List.mem_of_mem_eraseIdx hx), List.Pairwise.sublist (List.eraseIdx_sublist _ _) h.ord, bkOf_tail h.ok.u hq hi, by omega, h.srt, h.qat⟩, ?_, h.ok.ok o hm, fun s2 hs2 => bkOf_other h.ok.u hi (fun e => hs2 (e.symm.trans hs))⟩
  show (b.L.eraseIdx i).length + 1 = b.L.length
  rw [List.length_eraseIdx, if_pos hil]
  omega
theorem Gt.prev {l : List Ord} {s : Int} {Q : List Ord} {n : Nat} {b : Bk} (h : Gt l s Q (n + 1) b) {o p : Ord} (ho : Q[n + 1]? = some o) (hp : Q[n]? = some p) : bett s o.price p.price = false ∧ (o.price = p.price → oplI l p ≤ oplI l o) := by
  obtain ⟨l1, rfl⟩ := List.getElem?_eq_some_iff.1 ho
  obtain ⟨l2, rfl⟩ := List.getElem?_eq_some_iff.1 hp
  obtain ⟨g1, g2⟩ := List.pairwise_iff_getElem.1 h.srt n (n + 1) l2 l1 (by omega)
  refine ⟨g1, fun e => ?_⟩
  obtain ⟨j, hj⟩ := h.qat _ (List.getElem_mem l2)
  obtain ⟨k, hk⟩ := h.qat _ (List.getElem_mem l1)
  have := g2 e j k hj hk
  simp only [oplI, hj, hk]
  omega
theorem Gt.place {l : List Ord} {s : Int} {Q : List Ord} {n : Nat} {b : Bk} (h : Gt l s Q n b) {o : Ord} (ho : Q[n]? = some o) : 0 ≤ oplI l o := by
  obtain ⟨k, hk⟩ := h.qat _ (List.mem_of_getElem? ho)
  simp only [oplI, hk]
  omega
/-- Both sides empty: all is empty. -/
theorem Gw.none {l : List Ord} {b : Bk} (h : Gw l b) (h0 : bkOf b.L 0 = []) (h1 : bkOf b.L 1 = []) : b.L = [] := by
  refine List.eq_nil_iff_forall_not_mem.2 fun x hx => ?_
  rcases (h.ok.ok x hx).side with e | e
  · have := bkOf_mem.2 ⟨hx, e⟩
    rw [h0] at this; cases this
  · have := bkOf_mem.2 ⟨hx, e⟩
    rw [h1] at this; cases this
end Go.Proofs.YthbopaeaplejiaaDoor
namespace Go.Proofs.YthbopaeaplejiaaDoor
/-- Both sides' loop: the sides behind are empty. -/
structure Go1 (l : List Ord) (s : Nat) (b : Bk) (m : Nat) : Prop where
  w : Gw l b
  e0 : 0 < s → bkOf b.L 0 = []
  e1 : 1 < s → bkOf b.L 1 = []
  len : b.L.length = m
/-- One side's loop: n of it are out, the last one of them is z. -/
structure Gi1 (l : List Ord) (s : Nat) (Q : List Ord) (n : Nat) (z : Ord) (b : Bk) (m : Nat) : Prop where
  t : Gt l (s : Int) Q n b
  e0 : 0 < s → bkOf b.L 0 = []
  pv : 0 < n → Q[n - 1]? = some z
  len : b.L.length = m
  q60 : Q.length ≤ 60
  s2 : s < 2
theorem bkOf_le (L : List Ord) (s : Int) : (bkOf L s).length ≤ L.length := by
  rw [(bkOf_perm L s).length_eq]
  exact List.length_filter_le _ _
section
variable {l Q : List Ord} {s n m i : Nat} {b : Bk} {z o : Ord}
theorem Go1.start (h : Gv l i b) (hm : b.L.length = m) : Go1 l 0 b m := ⟨h.w, fun h => by omega, fun h => by omega, hm⟩
theorem Go1.enter (h : Go1 l s b m) (hs : s < 2) : Gi1 l s (bkOf b.L (s : Int)) 0 Ord.zero b m := by
  have h1 := h.w.ok.len
  have h2 := h.w.sl
  have h3 := bkOf_le b.L (s : Int)
  exact ⟨h.w.t _, h.e0, fun h => by omega, h.len, by omega, hs⟩
theorem Gi1.out (h : Gi1 l s Q n z b m) (hq : Q[n]? = none) : Go1 l (s + 1) b m := by
  have h1 := h.t.q
  rw [List.drop_eq_nil_of_le (List.getElem?_eq_none_iff.1 hq)] at h1
  have h2 := h.s2
  refine ⟨h.t.w, fun _ => ?_, fun e => ?_, h.len⟩
  · rcases Nat.lt_or_ge 0 s with e | e
    · exact h.e0 e
    · obtain rfl : s = 0 := by omega
      exact h1
  · obtain rfl : s = 1 := by omega
    exact h1
theorem Gi1.full (h : Gi1 l s Q 60 z b m) : Q[60]? = none := List.getElem?_eq_none_iff.2 h.q60
theorem Gi1.step (h : Gi1 l s Q n z b m) (ho : Q[n]? = some o) : ∃ m', m = m' + 1 ∧ b.remF o.id = (o, 0) ∧ Gi1 l s Q (n + 1) o (b.rem o.id) m' ∧ o.Fit := by
  obtain ⟨h1, h2, h3, h4, h5⟩ := h.t.step ho
  refine ⟨(b.rem o.id).L.length, by rw [← h.len, h3], h1, ⟨h2, fun e => ?_, fun _ => ?_, rfl, h.q60, h.s2⟩, h4.fit⟩
  · rw [h5 0 (by omega)]
    exact h.e0 e
  · rw [Nat.add_sub_cancel]
    exact ho
theorem Gi1.place (h : Gi1 l s Q n z b m) (ho : Q[n]? = some o) : 0 ≤ oplI l o := h.t.place ho
theorem Gi1.prev (h : Gi1 l s Q n z b m) (hn : 0 < n) (ho : Q[n]? = some o) : bett (s : Int) o.price z.price = false ∧ (o.price = z.price → oplI l z ≤ oplI l o) := by
  obtain ⟨k, rfl⟩ : ∃ k, n = k + 1 := ⟨n - 1, by omega⟩
  exact h.t.prev ho (h.pv hn)
theorem Go1.done (h : Go1 l 2 b m) : m = 0 := by
  have h1 := h.w.none (h.e0 (by omega)) (h.e1 (by omega))
  rw [← h.len, h1]
  rfl
end
end Go.Proofs.YthbopaeaplejiaaDoor
