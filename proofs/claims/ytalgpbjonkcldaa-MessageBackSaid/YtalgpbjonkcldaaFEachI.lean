/-
  frame.Each and the function that it hands back, for every slice of bytes.
-/
import Derived.Test.YtalgpbjonkcldaaFrmA
import Derived.Test.YtalgpbjonkcldaaLeft
import Derived.Test.YtalgpbjonkcldaaRange
import Derived.Shelf.Abstract
import Derived.WalkKit
import Derived.OwnWalkIn
import Derived.TacticsInMore
import Derived.LoopNIn
import Derived.LoopIn
namespace Go.Proofs.Ytalgpbjonkcldaa
open Go.RowKit
attribute [local go_sem] Oper.semAt_some

theorem each_any (k cap : Nat) (ao : Option Addr) (xs : List Nat) (hx : xs.length ≤ 2000000) (W : World) (hB : Bt W k ao cap xs) :
    Calls Try.prog 37 #[.slice ao xs.length cap] W fun e w' => ∃ Bs ao' cap' k', e = .returned (.func (.func 50) #[] #[.pointer (some ⟨Bs, 0, none⟩)]) ∧ Blk w' Bs 24 #[.slice ao' xs.length cap'] ∧ Bt w' k' ao' cap' xs ∧ Below W.heap.size W w' ∧ W.heap.size ≤ Bs ∧ W.heap.size ≤ k' := by
  have cC := clone_any k cap ao xs hx W hB
  go_enter Try.func37, Try.ntmps37
  go_wp2_with (go_at_call 42; refine cC.mono ?_; rintro e w1 ⟨v, rfl, ao', cap', k', rfl, hB', hb', hk'⟩)
  go_ret
  exact ⟨w1.heap.size, ao', cap', k', rfl, Blk.new _ _ _, hB'.alloc _, hb'.alloc hb'.size _, hb'.size, hk'⟩
/-- What is handed to a round: the place, and the payload's slice. -/
structure El where
  i : Nat
  k : Nat
  ao : Option Addr
  cap : Nat
  p : List Nat
def El.enc (x : El) : Array Value := #[.int .i64 (x.i : Int), .slice x.ao x.p.length x.cap]
def El.good (xs : List Nat) (pre : List El) (x : El) (A : World) : Prop := Bt A x.k x.ao x.cap x.p ∧ (allF xs).1[pre.length]? = some x.p ∧ (ats 0 (allF xs).1)[pre.length]? = some x.i
theorem El.good_put (xs : List Nat) (pre : List El) (x : El) (A : World) (l : Nat) (o o' : Obj) (h : El.good xs pre x A) (hl : A.heap[l]? = some o) (ho : o.isCells = false) : El.good xs pre x (A.putObj l o') := by
  refine ⟨h.1.keep fun hx => ?_, h.2⟩
  refine World.putObj_heap_other fun e => ?_
  obtain ⟨off, ha, hc⟩ := h.1.open hx
  obtain ⟨y, hy⟩ : ∃ y, x.p[0]? = some y := by
    cases hp : x.p with
    | nil => exact absurd hp hx
    | cons y t => exact ⟨y, by simp⟩
  obtain ⟨o2, h2, h3⟩ := cells_of_cell (hc 0 y hy)
  have h4 : A.heap[x.k]? = some o2 := h2
  rw [e, hl] at h4
  cases h4
  rw [ho] at h3
  cases h3
theorem ats_get (l r : List (List Nat)) (p : List Nat) : ∀ i, (ats i (l ++ p :: r))[l.length]? = some (i + tot l) := by
  induction l with
  | nil => intro i; rfl
  | cons q l ih =>
    intro i
    show (ats (i + (2 + q.length)) (l ++ p :: r))[l.length]? = some (i + (2 + q.length + tot l))
    rw [ih, Nat.add_assoc]
theorem next_get {xs p : List Nat} {ps : List (List Nat)} {i : Nat} (hi : i < xs.length) (h0 : takeF (xs.drop i) = (p, 2 + p.length, 0)) (ht : i = tot ps) (h : allF xs = (ps ++ (allF (xs.drop i)).1, i + (allF (xs.drop i)).2.1, (allF (xs.drop i)).2.2)) :
    (allF xs).1[ps.length]? = some p ∧ (ats 0 (allF xs).1)[ps.length]? = some i ∧ ps.length < (allF xs).1.length := by
  have e := run_step hi h0 h
  have e1 : (allF xs).1 = ps ++ p :: (allF (xs.drop (i + (2 + p.length)))).1 := by rw [e]; simp
  rw [e1]
  refine ⟨by simp, ?_, by simp⟩
  rw [ats_get, Nat.zero_add, ht]
set_option maxRecDepth 100000 in
set_option maxHeartbeats 2000000 in
theorem each_seqs (F : Fence) (hF : F = Fence.wide) (n : Nat) (hn : 1 ≤ n) (Bs k cap : Nat) (ao : Option Addr) (xs : List Nat) (w : World) (T : Nat → Prop) (hb : Blk w Bs 24 #[.slice ao xs.length cap]) (hB : Bt w k ao cap xs) (hTb : ¬ T Bs) (hTk : ¬ T k) :
    Seqs F n Try.prog 50 #[.pointer (some ⟨Bs, 0, none⟩)] El.enc (El.good xs) (Frm fun q => T q ∨ w.heap.size ≤ q) (fun ys => ys.length = (allF xs).1.length) (fun pre => pre.length ≤ (allF xs).1.length) (allF xs).1.length w := by
  intro l J Jx W hW hJ hY h0
  have hl := hB.len
  have hm := hB.top
  unfold maxLen at hm
  subst hF
  have hlt : xs ≠ [] → k < w.heap.size := hB.size
  have hbl := hb.lt
  refine callsIn_of_wp Try.func50 rfl trivial ?_ rfl
  simp only [Try.ntmps50, List.size_toArray, List.length_cons, List.length_nil, Nat.reduceAdd, Nat.reduceSub, Array.replicate_succ, Array.replicate_zero, List.push_toArray, List.append_toArray, List.nil_append, List.cons_append]
  gi_wp2
  gi_loopw [3] (fun p3 wr => ∃ (i : Nat) (pre : List El), p3 = .int .i64 (i : Int) ∧ i ≤ xs.length ∧ J pre wr ∧ Frm (fun q => T q ∨ w.heap.size ≤ q) w wr ∧ Hid (i = tot (pre.map El.p)) ∧
      Hid (allF xs = (pre.map El.p ++ (allF (xs.drop i)).1, i + (allF (xs.drop i)).2.1, (allF (xs.drop i)).2.2)))
    (fun p _ => xs.length - (intOf p).toNat)
  case atStart => exact ⟨0, [], rfl, Nat.zero_le _, h0, Frm.of_below hW, rfl, by simp [Hid]⟩
  case round =>
    obtain ⟨i, pre, rfl, hi, hJs, hfr, htot, hall⟩ := hrel
    have hb2 := hb.frm hfr (by rintro (h | h); exact hTb h; omega)
    have hB2 := hB.frm hfr (fun hx => by rintro (h | h); exact hTk h; have := hlt hx; omega)
    have cb := hb2.cell_eq 0 _ rfl
    have hli : (xs.drop i).length = xs.length - i := List.length_drop
    have cT : ∀ a c, Bt wr k a c (xs.drop i) → Calls Try.prog 38 #[.slice a (xs.length - i) c] wr fun e w' => Took wr w' e (takeF (xs.drop i)) := fun a c h => by
      have := ftake_any k c a (xs.drop i) wr h
      rw [hli] at this
      exact this
    rcases takeF_cases (xs.drop i) with h0' | h0' | ⟨p, h0', hp1, hp2⟩
    · obtain ⟨e1, -⟩ := run_left3 hi h0' hall.out
      rw [h0'] at cT
      clear hall h0'
      gi_wp2_with (first
        | (refine ⟨trivial, ?_⟩; gi_at_call 38; (with_reducible refine (callsIn_wide.2 (cT _ _ (hB2.drop hi))).mono ?_); rintro e w1 ⟨ao', cap', k', rfl, hp, hb1', hk'⟩)
        | (refine ⟨trivial, ?_⟩; gi_at_call 38; (with_reducible refine (callsIn_wide.2 (cT _ _ (hB2.dropAll (n := i) ?_ hi))).mono ?_); omega; rintro e w1 ⟨ao', cap', k', rfl, hp, hb1', hk'⟩))
      all_goals
        refine ⟨fun _ h => (by cases h), ?_⟩
        gi_wp2
        refine bodyPost_ret (results_none rfl _ _ _) rfl ?_
        exact ⟨⟨_, rfl⟩, .inl ⟨pre, by rw [e1, List.length_map], hJ _ _ _ hJs hb1'⟩⟩
    · obtain ⟨e1, -⟩ := run_left4 hi h0' hall.out
      rw [h0'] at cT
      clear hall h0'
      gi_wp2_with (first
        | (refine ⟨trivial, ?_⟩; gi_at_call 38; (with_reducible refine (callsIn_wide.2 (cT _ _ (hB2.drop hi))).mono ?_); rintro e w1 ⟨ao', cap', k', rfl, hp, hb1', hk'⟩)
        | (refine ⟨trivial, ?_⟩; gi_at_call 38; (with_reducible refine (callsIn_wide.2 (cT _ _ (hB2.dropAll (n := i) ?_ hi))).mono ?_); omega; rintro e w1 ⟨ao', cap', k', rfl, hp, hb1', hk'⟩))
      all_goals
        refine ⟨fun _ h => (by cases h), ?_⟩
        gi_wp2
        refine bodyPost_ret (results_none rfl _ _ _) rfl ?_
        exact ⟨⟨_, rfl⟩, .inl ⟨pre, by rw [e1, List.length_map], hJ _ _ _ hJs hb1'⟩⟩
    · have hi2 : i < xs.length := by omega
      obtain ⟨g1, g2, g3⟩ := next_get hi2 h0' htot.out hall.out
      rw [List.length_map] at g1 g2 g3
      have hE : Hid _ := run_step hi2 h0' hall.out
      rw [h0'] at cT
      clear hall h0'
      gi_wp2_with (first
        | (refine ⟨trivial, ?_⟩; gi_at_call 38; (with_reducible refine (callsIn_wide.2 (cT _ _ (hB2.drop hi))).mono ?_); rintro e w1 ⟨ao', cap', k', rfl, hp, hb1', hk'⟩; obtain ⟨fn, tmps, assign, body, hy, hR⟩ := hY pre ⟨i, k', ao', cap', p⟩ w1 (hJ _ _ _ hJs hb1') ⟨hp, g1, g2⟩ g3; dsimp only [El.enc] at hy)
        | (refine ⟨trivial, ?_⟩; gi_at_call 38; (with_reducible refine (callsIn_wide.2 (cT _ _ (hB2.dropAll (n := i) ?_ hi))).mono ?_); omega; rintro e w1 ⟨ao', cap', k', rfl, hp, hb1', hk'⟩; obtain ⟨fn, tmps, assign, body, hy, hR⟩ := hY pre ⟨i, k', ao', cap', p⟩ w1 (hJ _ _ _ hJs hb1') ⟨hp, g1, g2⟩ g3; dsimp only [El.enc] at hy))
      refine hR.mono ?_
      rintro e W3 (⟨rfl, hJ3, hk3⟩ | ⟨rfl, hJx3⟩)
      · gi_wp2
        go_roundw
        case rel =>
          refine ⟨i + (2 + p.length), pre ++ [⟨i, k', ao', cap', p⟩], by go_num, by omega, hJ3, (hfr.trans (Frm.of_below (S := fun _ => False) hb1') (fun _ h => h.elim)).trans hk3 (fun q h => .inl h), ?_, ?_⟩
          · show _ = _
            rw [List.map_append, List.map_cons, List.map_nil, tot_snoc, ← htot.out]
          · show _ = _
            rw [List.map_append, List.map_cons, List.map_nil]
            exact hE.out
        case measure => simp [intOf]; omega
      · gi_wp2
        refine bodyPost_ret (results_none rfl _ _ _) rfl ?_
        exact ⟨⟨_, rfl⟩, .inr ⟨pre ++ [⟨i, k', ao', cap', p⟩], by rw [List.length_append]; exact g3, hJx3⟩⟩
end Go.Proofs.Ytalgpbjonkcldaa
