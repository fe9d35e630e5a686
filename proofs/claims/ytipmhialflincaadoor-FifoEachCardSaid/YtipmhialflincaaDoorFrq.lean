/-
  The document's queues in memory; its Has, Find, Front.
-/
import Derived.Test.YtipmhialflincaaDoorFia
namespace Go.Proofs.YtipmhialflincaaDoor
open Go.RowKit
/-- The document's queues: a struct in block r, the lists' heads in block bm; S: the blocks on which they hang. -/
structure RqB (w : World) (r bm : Nat) (S : Nat → Prop) (s : Fq) (c : Array Value) : Prop where
  wf : s.Wf
  nn : s.n ≤ 500
  nm : s.L.length ≤ 400
  hr : Blk w r 39 #[.int .i64 (s.n : Int), .slice (some ⟨bm, 0, none⟩) s.L.length s.L.length]
  hm : Blk w bm 36 c
  hc : c.size = s.L.length
  at' : ∀ (i : Nat) q, s.L[i]? = some q → ∃ ao cap, c[i]? = some (.slice ao q.length cap) ∧ It .i64 w ao cap (zs q) ∧ ∀ b off, ao = some ⟨b, off, none⟩ → S b ∧ b ≠ r ∧ b ≠ bm
  sr : S r
  sm : S bm
  ne : r ≠ bm
  lt : ∀ b, S b → b < w.heap.size
def RQ (w : World) (r : Nat) (S : Nat → Prop) (s : Fq) : Prop := ∃ bm c, RqB w r bm S s c
section
variable {w w' W : World} {r bm : Nat} {S T : Nat → Prop} {s : Fq} {c : Array Value}
theorem RqB.frm (h : RqB w r bm S s c) (hf : Frm T w w') (hT : ∀ b, T b → ¬ S b) : RqB w' r bm S s c := by
  have k : ∀ b, S b → w'.heap[b]? = w.heap[b]? := fun b hb => hf.block b (h.lt b hb) (fun ht => hT b ht hb)
  refine ⟨h.wf, h.nn, h.nm, (k _ h.sr).trans h.hr, (k _ h.sm).trans h.hm, h.hc, fun i q hi => ?_, h.sr, h.sm, h.ne, fun b hb => Nat.lt_of_lt_of_le (h.lt b hb) hf.size⟩
  obtain ⟨ao, cap, h1, h2, h3⟩ := h.at' i q hi
  exact ⟨ao, cap, h1, h2.keep (fun b off e => k b (h3 b off e).1), h3⟩
theorem RqB.below (h : RqB w r bm S s c) (hb : Below w.heap.size w w') : RqB w' r bm S s c := h.frm (Frm.of_below (S := fun _ => False) hb) (fun _ f => f.elim)
theorem RQ.frm (h : RQ w r S s) (hf : Frm T w w') (hT : ∀ b, T b → ¬ S b) : RQ w' r S s := by
  obtain ⟨bm, c, h⟩ := h
  exact ⟨bm, c, h.frm hf hT⟩
theorem RQ.below (h : RQ w r S s) (hb : Below w.heap.size w w') : RQ w' r S s := h.frm (Frm.of_below (S := fun _ => False) hb) (fun _ f => f.elim)
theorem RQ.lt (h : RQ w r S s) : ∀ b, S b → b < w.heap.size := by
  obtain ⟨bm, c, h⟩ := h
  exact h.lt
theorem RqB.c0 (h : RqB w r bm S s c) : w.cell? ⟨r, 0, none⟩ = some (.int .i64 (s.n : Int)) := h.hr.cell_eq 0 _ rfl
theorem RqB.c1 (h : RqB w r bm S s c) : w.cell? ⟨r, 1, none⟩ = some (.slice (some ⟨bm, 0, none⟩) s.L.length s.L.length) := h.hr.cell_eq 1 _ rfl
theorem RqB.len (h : RqB w r bm S s c) {i : Nat} {q : List Nat} (hi : s.L[i]? = some q) : q.length ≤ 500 := by
  have := h.wf.len hi
  have := h.nn
  omega
/-- A list's head. -/
theorem RqB.head (h : RqB w r bm S s c) {i : Nat} {q : List Nat} (hi : s.L[i]? = some q) : ∃ ao cap, w.cell? ⟨bm, i, none⟩ = some (.slice ao q.length cap) ∧ It .i64 w ao cap (zs q) ∧ ∀ b off, ao = some ⟨b, off, none⟩ → S b ∧ b ≠ r ∧ b ≠ bm := by
  obtain ⟨ao, cap, h1, h2⟩ := h.at' i q hi
  exact ⟨ao, cap, h.hm.cell_eq _ _ h1, h2⟩
set_option maxRecDepth 8000 in
set_option maxHeartbeats 1000000 in
theorem rhas_any (x : Int) (h : RqB W r bm S s c) :
    Calls Tryd.prog 11 #[.pointer (some ⟨r, 0, none⟩), .int .i64 x] W fun e w' => e = .returned (.bool (s.hasQ x)) ∧ w' = W := by
  have c1 := h.c1
  have hn := h.nm
  unfold Fq.hasQ
  generalize s.L.length = n at *
  clear h
  by_cases h0 : x < 0
  · rw [decide_eq_false (show ¬ 0 ≤ x by omega)]
    go_enter Tryd.func11, Tryd.ntmps11
    go_wp2_with fail
    all_goals go_ret
    all_goals trivial
  · obtain ⟨i, rfl⟩ : ∃ i : Nat, x = (i : Int) := ⟨x.toNat, by omega⟩
    rw [decide_eq_true (show (0 : Int) ≤ i by omega), Int.toNat_natCast]
    by_cases h1 : i < n
    · rw [decide_eq_true h1]
      go_enter Tryd.func11, Tryd.ntmps11
      go_wp2_with fail
      all_goals go_ret
      all_goals trivial
    · rw [decide_eq_false h1]
      go_enter Tryd.func11, Tryd.ntmps11
      go_wp2_with fail
      all_goals go_ret
      all_goals trivial
end
/-- Where a number is found, as the document says it. -/
def Fq.fI (s : Fq) (x : Int) : Int := match s.findI x with
  | some (i, _) => i
  | none => -1
def Fq.fK (s : Fq) (x : Int) : Int := match s.findI x with
  | some (_, k) => k
  | none => 0
section
variable {w w' W : World} {r bm : Nat} {S T : Nat → Prop} {s : Fq} {c : Array Value}
set_option maxRecDepth 8000 in
set_option maxHeartbeats 1000000 in
theorem rfind_any (x : Int) (h : RqB W r bm S s c) :
    Calls Tryd.prog 23 #[.pointer (some ⟨r, 0, none⟩), .int .i64 x] W fun e w' => e = .returned (.tuple #[.int .i64 (s.fI x), .int .i64 (s.fK x)]) ∧ w' = W := by
  have c1 := h.c1
  have hm := h.nm
  have hno : (∀ (i k : Nat) (y : Nat), s.At y i k → (y : Int) ≠ x) → s.fI x = -1 ∧ s.fK x = 0 := by
    intro hn
    have : s.findI x = none := by
      unfold Fq.findI
      split
      · refine Fq.find_no fun i k hik => hn i k _ hik ?_
        omega
      · rfl
    unfold Fq.fI Fq.fK
    rw [this]
    exact ⟨rfl, rfl⟩
  have hyes : ∀ (i k y : Nat), s.At y i k → (y : Int) = x → s.fI x = (i : Int) ∧ s.fK x = (k : Int) := by
    rintro i k y hy rfl
    unfold Fq.fI Fq.fK
    rw [Fq.findI_eq h.wf hy]
    exact ⟨rfl, rfl⟩
  have hhd := fun (i : Nat) (q : List Nat) (hi : s.L[i]? = some q) => h.head hi
  have hln := fun (i : Nat) (q : List Nat) (hi : s.L[i]? = some q) => h.len hi
  clear h
  generalize s.fI x = fi at *
  generalize s.fK x = fk at *
  obtain ⟨m, hmm⟩ : ∃ m, m = s.L.length := ⟨_, rfl⟩
  rw [← hmm] at c1 hm
  replace hmm := Lib.hid hmm
  replace hno := Lib.hid hno
  go_enter Tryd.func23, Tryd.ntmps23
  go_wp2_with fail
  go_loopg [6] m (fun j p6 wr => ∃ i : Nat, i + j = m ∧ p6 = .int .i64 (i : Int) ∧ Hid (∀ j' k y : Nat, j' < i → s.At y j' k → (y : Int) ≠ x) ∧ wr = W)
  case atStart => exact ⟨0, by omega, rfl, Lib.hid (fun j' k y h => by omega), rfl⟩
  case round =>
    obtain ⟨i, hi, rfl, hP, rfl⟩ := hrel
    by_cases him : i < m
    · obtain ⟨q, hq⟩ : ∃ q, s.L[i]? = some q := ⟨_, List.getElem?_eq_getElem (by rw [← hmm.out]; exact him)⟩
      obtain ⟨ao, cap, hcell, hI, -⟩ := hhd i q hq
      have hql := hln i q hq
      obtain ⟨n, hn⟩ : ∃ n, n = q.length := ⟨_, rfl⟩
      rw [← hn] at hcell hql
      replace hn := Lib.hid hn
      have hi2 : (i : Int) < (m : Int) := by omega
      clear hhd hln
      go_wp2_with fail
      go_loopg [7] n (fun j p7 wr' => ∃ k : Nat, k + j = n ∧ p7 = .int .i64 (k : Int) ∧ Hid (∀ k' y : Nat, k' < k → q[k']? = some y → (y : Int) ≠ x) ∧ wr' = wr)
      case atStart => exact ⟨0, by omega, rfl, Lib.hid (fun k' y h => by omega), rfl⟩
      case round =>
        obtain ⟨k, hk, rfl, hQ, rfl⟩ := hrel
        by_cases hkn : k < n
        · obtain ⟨y, hy⟩ : ∃ y, q[k]? = some y := ⟨_, List.getElem?_eq_getElem (by rw [← hn.out]; exact hkn)⟩
          obtain ⟨b, off, rfl, hcy⟩ := hI.get (i := k) (z := (y : Int)) (by rw [zs_get, hy]; rfl)
          have hcy := hcy _ (Below.refl _ _)
          have hk2 : (k : Int) < (n : Int) := by omega
          by_cases hxy : (y : Int) = x
          · obtain ⟨e1, e2⟩ := hyes i k y ⟨q, hq, hy⟩ hxy
            have hbq : ((y : Int) == x) = true := by simpa using hxy
            clear hyes hno hQ hP hn hmm hI hxy
            go_wp2_with fail
            go_ret2
            exact ⟨by rw [e1, e2]; rfl, rfl⟩
          · have hbq : ((y : Int) == x) = false := by simpa using hxy
            have hQ' : Hid (∀ k' y : Nat, k' < k + 1 → q[k']? = some y → (y : Int) ≠ x) := Lib.hid (fun k' y' h1 h2 => by
              by_cases e : k' = k
              · subst e; rw [hy] at h2; cases h2; exact hxy
              · exact hQ.out k' y' (by omega) h2)
            clear hyes hno hQ hP hn hmm hI hxy
            go_wp2_with fail
            go_roundg (n - (k + 1))
            case measure => omega
            case rel => exact ⟨k + 1, by omega, by go_num, hQ', rfl⟩
        · have hP' : Hid (∀ j' k y : Nat, j' < i + 1 → s.At y j' k → (y : Int) ≠ x) := Lib.hid (fun j' k' y' h1 h2 => by
            by_cases e : j' = i
            · subst e
              have := Fq.at_get h2 hq
              exact hQ.out k' y' (by have := (List.getElem?_eq_some_iff.1 this).1; have := hn.out; omega) this
            · exact hP.out j' k' y' (by omega) h2)
          clear hyes hno hQ hP hn hI
          go_wp2_with fail
          go_roundg (m - (i + 1))
          case measure => omega
          case rel => exact ⟨i + 1, by omega, by go_num, hP', rfl⟩
    · obtain ⟨e1, e2⟩ := hno.out (fun i' k' y' h1 => hP.out i' k' y' (by
        obtain ⟨q, h2, -⟩ := h1
        have := (List.getElem?_eq_some_iff.1 h2).1
        have := hmm.out
        omega) h1)
      clear hno hP hmm hyes hhd hln
      go_wp2_with fail
      go_ret2
      exact ⟨by rw [e1, e2]; rfl, rfl⟩
set_option maxRecDepth 8000 in
set_option maxHeartbeats 1000000 in
theorem rfront_any (x : Int) (h : RqB W r bm S s c) :
    Calls Tryd.prog 22 #[.pointer (some ⟨r, 0, none⟩), .int .i64 x] W fun e w' => e = .returned (.tuple #[.int .i64 (s.frontV x), .bool (s.frontB x)]) ∧ w' = W := by
  have cH := rhas_any x h
  cases hx : s.hasQ x with
  | false =>
    rw [hx] at cH
    have hf : s.qi x = [] := Fq.qi_no hx
    have e1 : s.frontV x = 0 := by unfold Fq.frontV; rw [hf]; rfl
    have e2 : s.frontB x = false := by unfold Fq.frontB; rw [hf]; rfl
    rw [e1, e2]
    clear hx hf e1 e2
    go_enter Tryd.func22, Tryd.ntmps22
    go_wp2_with (go_at_call 11; (with_reducible refine cH.mono ?_); rintro e w1 ⟨rfl, rfl⟩)
    go_ret2
    exact ⟨rfl, rfl⟩
  | true =>
    rw [hx] at cH
    obtain ⟨i, q, rfl, hi, hq, hqi⟩ := Fq.hasQ_pos hx
    obtain ⟨ao, cap, hcell, hI, -⟩ := h.head hq
    have c1 := h.c1
    have hm := h.nm
    have hi2 : (i : Int) < (s.L.length : Int) := by omega
    unfold Fq.frontV Fq.frontB
    rw [hqi]
    generalize s.L.length = m at *
    clear h hx hq hqi hi
    cases q with
    | nil =>
      replace hcell : W.cell? ⟨bm, i, none⟩ = some (.slice ao 0 cap) := hcell
      go_enter Tryd.func22, Tryd.ntmps22
      go_wp2_with (go_at_call 11; (with_reducible refine cH.mono ?_); rintro e w1 ⟨rfl, rfl⟩)
      go_ret2
      exact ⟨rfl, rfl⟩
    | cons y t =>
      replace hcell : W.cell? ⟨bm, i, none⟩ = some (.slice ao (t.length + 1) cap) := hcell
      obtain ⟨b, off, rfl, hcy⟩ := hI.get (i := 0) (z := (y : Int)) rfl
      replace hcy : W.cell? ⟨b, off, none⟩ = some (.int .i64 (y : Int)) := hcy _ (Below.refl _ _)
      generalize t.length = tl at *
      have ht : ((((tl + 1 : Nat) : Int)) == 0) = false := by simp; omega
      have ht2 : (0 : Int) < ((tl + 1 : Nat) : Int) := by omega
      go_enter Tryd.func22, Tryd.ntmps22
      go_wp2_with (go_at_call 11; (with_reducible refine cH.mono ?_); rintro e w1 ⟨rfl, rfl⟩)
      go_ret2
      exact ⟨rfl, rfl⟩
end
end Go.Proofs.YtipmhialflincaaDoor
