/-
  The ladders' and the queues' iterators where rounds may also turn what earlier ones have made (SeqsX).
  For the program's walk over a side's orders: a level's queue, a queue's iterator by its address, how far a walk has come.
-/
import Derived.Test.YtdmjcjheanedgaaDoorLeaq
import Derived.Test.YtdmjcjheanedgaaDoorGX
import Derived.Test.YtdmjcjheanedgaaDoorGM
import Derived.Lib.SliceRun
import Derived.Shelf.Abstract
import Derived.WalkKit
import Derived.OwnWalkIn
import Derived.TacticsInMore
import Derived.LoopNIn
import Derived.LoopIn
import Derived.Stop.RegionWithIn
import Derived.Sort.QuietTacIn
import Derived.Test.YtdmjcjheanedgaaDoorGT
import Derived.Test.YtdmjcjheanedgaaDoorGQ
namespace Go.Proofs.YtdmjcjheanedgaaDoor
open Go.RowKit
set_option linter.unusedVariables false
attribute [local go_sem] Oper.semAt_some
attribute [local go_sem] wide_fn
set_option maxRecDepth 100000 in
set_option maxHeartbeats 4000000 in
theorem peach_seqsx (F : Fence) (hF : F = Fence.wide) (n : Nat) (hn : 1 ≤ n) {g : Nat} {S : Nat → Prop} {ko : Option Nat} {ao : Option Addr} {cap : Nat} {buy : Bool} {P : List Lvl} {Fw : List Nat} (t1 : Nat) (T1 : TypeId) (w : World) (T : Nat → Prop) (hb1 : Blk w t1 T1 #[.pointer (some ⟨g, 0, none⟩)])
    (hP : PmB w g S ko ao cap buy P Fw) (hS : Std buy P) (hT1 : ¬ T t1) (hTg : ∀ b, T b → ¬ S b) (hTw : ∀ b, T b → b < w.heap.size) :
    SeqsX F n Tryd.prog 91 #[.pointer (some ⟨t1, 0, none⟩)] encL (goodL P) T (fun ys => ys.length = P.length) (fun pre => pre.length ≤ P.length) P.length w := by
  intro lb J Jx W hW hlb hlw hJ hJx hY h0
  subst hF
  have hl1 := hb1.lt
  have hPW := hP.below hW
  have cL := plist_any hPW
  have hW1 := hb1.below hW hl1
  have hql := hP.len
  refine callsIn_of_wp Tryd.func91 rfl trivial ?_ rfl
  simp only [Tryd.ntmps91, List.size_toArray, List.length_cons, List.length_nil, Nat.reduceAdd, Nat.reduceSub, Array.replicate_succ, Array.replicate_zero, List.push_toArray, List.append_toArray, List.nil_append, List.cons_append]
  have cb1 := hW1.cell_eq 0 _ rfl
  have hJd : ∀ V, Below W.heap.size W V → J (fun _ => False) [] V := fun V hb => (hJ _).below h0 hb
  gi_wp2_with (gi_at_call 92; refine (callsIn_wide.2 cL).mono ?_; rintro e w1 ⟨ao2, cap2, rfl, hI, hao, hb⟩)
  have hJ1 := hJd _ hb
  have hP1 := hPW.below hb
  have hB1 := hW1.below hb hW1.lt
  have hsz1 := hb.size
  have hWs := hW.size
  have hQw := hP.lt
  clear cL cb1 hJd hPW hW1 hP hb1 h0
  gi_loopw [10] (fun p10 wr => ∃ (k : Nat) (pre : List Lvl) (X : Nat → Prop), p10 = .int .i64 (k : Int) ∧ k ≤ P.length ∧ J X pre wr ∧ Frm (fun b => T b ∨ b = lb ∨ w1.heap.size ≤ b) w1 wr ∧ (∀ c, X c → w1.heap.size ≤ c ∧ c < wr.heap.size) ∧ Hid (pre.length = k))
    (fun p _ => P.length - (intOf p).toNat)
  case atStart => exact ⟨0, [], fun _ => False, rfl, Nat.zero_le _, hJ1, Frm.refl _ _, fun _ e => e.elim, Lib.hid rfl⟩
  case round =>
    clear hJ1
    obtain ⟨k, pre, X, rfl, hk, hJs, hfr, hX, hpre⟩ := hrel
    have hws := hfr.size
    by_cases hkn : k < P.length
    · obtain ⟨x, hx⟩ : ∃ x, P[k]? = some x := ⟨_, List.getElem?_eq_getElem hkn⟩
      have hPr := hP1.frm hfr (fun b hb hs => by
        rcases hb with hb | rfl | hb
        · exact hTg b hb hs
        · have := hQw b hs; omega
        · have := hQw b hs; omega)
      have hB1r := blk_frm hB1 hfr (by rintro (h | h | h); exact hT1 h; omega; omega)
      have hIr := hI.frm hfr (fun b off s e h => by
        have := hao b off s e
        rcases h with h | h | h
        · have := hTw b h; omega
        · omega
        · omega)
      obtain ⟨lb2, off, rfl, x0, x1, x2, x3⟩ := hIr.get hx
      replace x0 : wr.cell? ⟨lb2, off + k * 4, none⟩ = some (.int .i64 x.price) := x0
      have hbA : Below wr.heap.size wr (wr.alloc (.cells (cLvl x) 133)) := (Below.refl _ _).alloc (Nat.le_refl _) _
      have b1 := (hB1r.below hbA hB1r.lt).cell_eq 0 _ rfl
      have hplc := hS.plc_of hx
      have cX := pfind_yes x.price (hPr.below hbA) hS (x := x) (by rw [hplc]; exact hx) rfl
      have hgood : ∀ V, goodL P pre x V := fun V => by show P[pre.length]? = some x; rw [hpre.out]; exact hx
      have hlt : pre.length < P.length := by rw [hpre.out]; exact hkn
      have hn2 : Hid ((pre ++ [x]).length = k + 1) := Lib.hid (by rw [List.length_append, hpre.out]; rfl)
      have hYq := fun V (hb : Below wr.heap.size wr V) => hY X pre x V ((hJ X).below hJs hb) (fun c e => ⟨by have := (hX c e).1; omega, by have := (hX c e).2; have := hb.size; omega⟩) (hgood V) hlt
      have hfd : ∀ V, Below wr.heap.size wr V → Frm (fun b => T b ∨ b = lb ∨ w1.heap.size ≤ b) w1 V := fun V hb => hfr.trans (Frm.of_below (S := fun _ => False) hb) (fun _ f => f.elim)
      have hbX : ∀ V, Below (wr.alloc (.cells (cLvl x) 133)).heap.size (wr.alloc (.cells (cLvl x) 133)) V → Below wr.heap.size wr V := fun V hb => hbA.trans (hb.mono (by simp))
      have hki : (k : Int) < (P.length : Int) := by omega
      clear hPr hB1r hgood hx hI hIr hao hB1 hP1 hJs hJ hY hfr hQw hTg hTw hT1 hbA hplc hS
      obtain ⟨v0, v1, v2, v3⟩ := x
      simp only [vLvl, cLvl] at *
      gi_wp2_with (first
        | (gi_at_call 93; refine (callsIn_wide.2 cX).mono ?_; rintro e w2 ⟨rfl, hb2⟩; clear cX b1; have hb3 := (hbX _ hb2).alloc (hbX _ hb2).size (.cells #[.int .i64 v0, .int .i64 v1, .int .i64 v2, .int .i64 v3] 133); obtain ⟨fn, tmps, assign, body, hy, hR⟩ := hYq _ hb3; have hfW := hfd _ hb3; have hb3s := hb3.size; clear hYq hfd hbX hb2 hb3; dsimp only [encL, vLvl, cLvl] at hy hR)
        | (refine hR.mono ?_; rintro e W3 h3; obtain ⟨kk, rfl, hk⟩ := merge3 h3; rcases hk with ⟨rfl, X', hJ3, hG3, hk3⟩ | ⟨rfl, hJx3, hk3⟩; have hk3s := Nat.le_trans hb3s hk3.size))
      all_goals first
        | exact ⟨⟨k + 1, _, X', by go_num, hkn, hJ3, hfW.trans hk3 (fun c h => .inl (h.imp id (Or.imp id (fun e => (hX c e).1)))), fun c e => (by
          rcases hG3 c e with e' | e'
          · have := hX c e'
            omega
          · have e1 := Nat.le_trans hb3s e'.1
            have := e'.2
            omega), hn2⟩, by simp [intOf]; omega⟩
        | (refine bodyPost_end (results_none rfl _ _ _) rfl ?_
           exact ⟨⟨_, rfl⟩, .inr ⟨_, by rw [List.length_append]; exact hlt, hJx3⟩⟩)
        | (refine bodyPost_ret (results_none rfl _ _ _) rfl ?_
           exact ⟨⟨_, rfl⟩, .inr ⟨_, by rw [List.length_append]; exact hlt, hJx3⟩⟩)
        | trace_state
    · clear hY
      gi_wp2
      have hqe : k = P.length := by omega
      rw [hqe] at hpre
      exact bodyPost_end (results_none rfl _ _ _) rfl ⟨⟨_, rfl⟩, .inl ⟨pre, X, hpre.out, hJs⟩⟩
set_option maxRecDepth 100000 in
set_option maxHeartbeats 2000000 in
theorem each_seqsx (F : Fence) (hF : F = Fence.wide) (n : Nat) (hn : 1 ≤ n) {g bl be bs : Nat} {K : List Lk} {E : List En} {Z : List Int} {s : Fq} (t1 t3 : Nat) (T1 T3 : TypeId) (i : Int) (w : World) (T : Nat → Prop) (hb1 : Blk w t1 T1 #[.pointer (some ⟨g, 0, none⟩)]) (hb3 : Blk w t3 T3 #[.int .i64 i])
    (hP : PM w g bl be bs K E Z) (hQ : Fqp K E Z s) (hT1 : ¬ T t1) (hT3 : ¬ T t3) (hTg : ∀ b, T b → 2 ≤ b ∧ ¬ Qb g bl be bs b) (hTw : ∀ b, T b → b < w.heap.size) :
    SeqsX F n Tryd.prog 94 #[.pointer (some ⟨t1, 0, none⟩), .pointer (some ⟨t3, 0, none⟩)] encF (goodF (s.qi i)) T (fun ys => ys.length = (s.qi i).length) (fun pre => pre.length ≤ (s.qi i).length) (s.qi i).length w := by
  intro lb J Jx W hW hlb hlw hJ hJx hY h0
  subst hF
  have hl1 := hb1.lt
  have hl3 := hb3.lt
  have hPW := hP.below hW
  have cL := list_any i hQ hPW
  have hW1 := hb1.below hW hl1
  have hW3 := hb3.below hW hl3
  have hat : ∀ (k x : Nat), (s.qi i)[k]? = some x → ∃ j : Nat, i = (j : Int) ∧ s.ofV (x : Int) = i ∧ s.ofB (x : Int) = true := by
    intro k x hx
    cases hq : s.hasQ i with
    | false => rw [Fq.qi_no hq] at hx; simp at hx
    | true =>
      obtain ⟨j, q, rfl, hj, hq, hqi⟩ := Fq.hasQ_pos hq
      rw [hqi] at hx
      have hf := Fq.findI_eq hQ.wf (⟨q, hq, hx⟩ : s.At x j k)
      exact ⟨j, rfl, by unfold Fq.ofV; rw [hf]; rfl, by unfold Fq.ofB; rw [hf]; rfl⟩
  have cO := fun w (k : PM w g bl be bs K E Z) (x : Int) => of_any x hQ k
  have hql : (s.qi i).length ≤ 500 := by
    cases hq : s.hasQ i with
    | false => rw [Fq.qi_no hq]; simp
    | true =>
      obtain ⟨j, q, rfl, hj, hq, hqi⟩ := Fq.hasQ_pos hq
      rw [hqi]
      have := hQ.wf.len hq
      have := hQ.lk
      have := hP.nk
      omega
  refine callsIn_of_wp Tryd.func94 rfl trivial ?_ rfl
  simp only [Tryd.ntmps94, List.size_toArray, List.length_cons, List.length_nil, Nat.reduceAdd, Nat.reduceSub, Array.replicate_succ, Array.replicate_zero, List.push_toArray, List.append_toArray, List.nil_append, List.cons_append]
  have cb1 := hW1.cell_eq 0 _ rfl
  have cb3 := hW3.cell_eq 0 _ rfl
  have hJd : ∀ V, Below W.heap.size W V → J (fun _ => False) [] V := fun V hb => (hJ _).below h0 hb
  generalize s.qi i = q at *
  gi_wp2_with (gi_at_call 95; refine (callsIn_wide.2 cL).mono ?_; rintro e w1 ⟨ao, cap, rfl, hb, hI, hao⟩)
  have hJ1 := hJd _ hb
  have hP1 := hPW.below hb
  have hB1 := hW1.below hb hW1.lt
  have hB3 := hW3.below hb hW3.lt
  have hsz1 := hb.size
  have hWs := hW.size
  have hQw := hP.lt
  have htwo := hPW.gl.two
  have hw2 := hP.gl.two
  clear cL cb1 cb3 hJd hPW hW1 hW3 hP hb1 hb3 h0
  gi_loopw [12] (fun p12 wr => ∃ (k : Nat) (pre : List Nat) (X : Nat → Prop), p12 = .int .i64 (k : Int) ∧ k ≤ q.length ∧ J X pre wr ∧ Frm (fun b => T b ∨ b = lb ∨ w1.heap.size ≤ b) w1 wr ∧ (∀ c, X c → w1.heap.size ≤ c ∧ c < wr.heap.size) ∧ Hid (pre.length = k))
    (fun p _ => q.length - (intOf p).toNat)
  case atStart => exact ⟨0, [], fun _ => False, rfl, Nat.zero_le _, hJ1, Frm.refl _ _, fun _ e => e.elim, Lib.hid rfl⟩
  case round =>
    clear hJ1
    obtain ⟨k, pre, X, rfl, hk, hJs, hfr, hX, hpre⟩ := hrel
    have hws := hfr.size
    by_cases hkn : k < q.length
    · obtain ⟨x, hx⟩ : ∃ x, q[k]? = some x := ⟨_, List.getElem?_eq_getElem hkn⟩
      obtain ⟨j, rfl, hV, hB⟩ := hat k x hx
      have hPr := hP1.frm hfr (fun b hb => by
        rcases hb with hb | rfl | hb
        · exact hTg b hb
        · exact ⟨by omega, fun h => by have := hQw b h; omega⟩
        · exact ⟨by omega, fun h => by have := hQw b h; omega⟩)
      have cX := cO wr hPr (x : Int)
      rw [hV, hB] at cX
      have b1 := (fblk_frm hB1 hfr (by rintro (h | h | h); exact hT1 h; omega; omega)).cell_eq 0 _ rfl
      have b3 := (fblk_frm hB3 hfr (by rintro (h | h | h); exact hT3 h; omega; omega)).cell_eq 0 _ rfl
      have hIr := hI.keep (fun b off e => hfr.block b (by
        obtain ⟨b', off', e', h'⟩ := hI.get (i := k) (z := (x : Int)) (by rw [zs_get, hx]; rfl)
        rw [e'] at e; cases e
        have := h' w1 (Below.refl _ _)
        exact World.block_lt_of_cell? w1 _ this) (by
        have := hao b off e
        rintro (h | h | h)
        · have := hTw b h; omega
        · omega
        · obtain ⟨b', off', e', h'⟩ := hI.get (i := k) (z := (x : Int)) (by rw [zs_get, hx]; rfl)
          rw [e'] at e; cases e
          have := World.block_lt_of_cell? w1 _ (h' w1 (Below.refl _ _))
          simp only at this
          omega))
      obtain ⟨lb2, off, rfl, hcell⟩ := hIr.get (i := k) (z := (x : Int)) (by rw [zs_get, hx]; rfl)
      have hcell := hcell wr (Below.refl _ _)
      have hgood : ∀ V, goodF q pre x V := fun V => by show q[pre.length]? = some x; rw [hpre.out]; exact hx
      have hlt : pre.length < q.length := by rw [hpre.out]; exact hkn
      have hn2 : Hid ((pre ++ [x]).length = k + 1) := Lib.hid (by rw [List.length_append, hpre.out]; rfl)
      have hYq := fun m => hY X pre x (wr.drewN m) ((hJ X).below hJs (fbelow_drewN (Below.refl _ _) m)) (fun c e => ⟨by have := (hX c e).1; omega, (hX c e).2⟩) (hgood _) hlt
      have hfd : ∀ m, Frm (fun b => T b ∨ b = lb ∨ w1.heap.size ≤ b) w1 (wr.drewN m) := fun m => hfr.trans (Frm.of_below (S := fun _ => False) (fbelow_drewN (Below.refl _ _) m)) (fun _ f => f.elim)
      have hjj : ((j : Int) == (j : Int)) = true := by simp
      have hki : (k : Int) < (q.length : Int) := by omega
      clear hat hV hB hPr cO hgood hx hI hIr hao hB1 hB3 hP1 hJs hJ hY hfr hQ hQw hTg hTw hT1 hT3
      gi_wp2_with (first
        | (gi_at_call 86; refine (callsIn_wide.2 cX).mono ?_; rintro e w2 ⟨rfl, m, rfl⟩; clear cX b1; have b4 : (wr.drewN m).cell? ⟨t3, 0, none⟩ = some (.int .i64 (j : Int)) := b3; obtain ⟨fn, tmps, assign, body, hy, hR⟩ := hYq m; have hfW := hfd m; clear hYq hfd; dsimp only [encF] at hy hR)
        | (refine hR.mono ?_; rintro e W3 h3; obtain ⟨kk, rfl, hk⟩ := fmerge3 h3; rcases hk with ⟨rfl, X', hJ3, hG3, hk3⟩ | ⟨rfl, hJx3, hk3⟩; have hk3s : wr.heap.size ≤ W3.heap.size := hk3.size))
      all_goals first
        | exact ⟨⟨k + 1, _, X', by go_num, hkn, hJ3, hfW.trans hk3 (fun c h => .inl (h.imp id (Or.imp id (fun e => (hX c e).1)))), fun c e => (by
          rcases hG3 c e with e' | e'
          · have := hX c e'
            omega
          · have e1 : wr.heap.size ≤ c := e'.1
            have := e'.2
            omega), hn2⟩, by simp [intOf]; omega⟩
        | (refine bodyPost_end (results_none rfl _ _ _) rfl ?_
           exact ⟨⟨_, rfl⟩, .inr ⟨_, by rw [List.length_append]; exact hlt, hJx3⟩⟩)
        | (refine bodyPost_ret (results_none rfl _ _ _) rfl ?_
           exact ⟨⟨_, rfl⟩, .inr ⟨_, by rw [List.length_append]; exact hlt, hJx3⟩⟩)
        | trace_state
    · clear cO hY
      gi_wp2
      have hqe : k = q.length := by omega
      rw [hqe] at hpre
      exact bodyPost_end (results_none rfl _ _ _) rfl ⟨⟨_, rfl⟩, .inl ⟨pre, X, hpre.out, hJs⟩⟩
end Go.Proofs.YtdmjcjheanedgaaDoor
namespace Go.Proofs.YtdmjcjheanedgaaDoor
open Go.RowKit
set_option linter.unusedSimpArgs false
def encO (x : Ord) : Array Value := #[vOrd x]
/-- What is handed to a round: the next one. -/
def goodO (P : List Ord) (pre : List Ord) (x : Ord) (_ : World) : Prop := P[pre.length]? = some x
theorem goodO_put (P : List Ord) (pre : List Ord) (x : Ord) (A : World) (l : Nat) (o o' : Obj) (h : goodO P pre x A) (_ : A.heap[l]? = some o) (_ : o.isCells = false) : goodO P pre x (A.putObj l o') := h
section
variable {W0 w w' W : World} {S0 S So : Nat → Prop} {ga gf gx g0 g1 k g : Nat} {a : Ar} {x : List Ixr} {f : Fq} {d : Int → Ld} {b : Bk} {Z : List (Nat × Ord)} {s : Int} {P : List Lvl}
theorem Bs.rebase (h : Bs W S ga gf gx g0 g1 k a x f d W) (hb : Below W.heap.size W w) : Bs w S ga gf gx g0 g1 k a x f d w := by
  obtain ⟨Sf, Sx, S1, S2, h1, h2⟩ := h.p
  refine ⟨Frm.refl _ _, Sf, Sx, S1, S2, h1.below hb, fun i c e => .inl ?_⟩
  have := h1.lt i c e
  rcases h2 i c e with e' | e'
  · exact e'
  · omega
set_option maxRecDepth 8000 in
theorem queue_any (p : Value) (c : Int) (y : Lvl) (hw : IntKind.i64.wrap (c + y.queue) = c + y.queue) (w : World) : Calls Tryd.prog 83 #[.agg #[p, .int .i64 c], vLvl y] w fun e w' => e = .returned (.int .i64 (c + y.queue)) ∧ w' = (w.alloc (.cells #[p, .int .i64 c] 73)).alloc (.cells (cLvl y) 133) := by
  have h1 : Blk ((w.alloc (.cells #[p, .int .i64 c] 73)).alloc (.cells (cLvl y) 133)) w.heap.size 73 #[p, .int .i64 c] := (Blk.new _ _ _).alloc _
  have h2 : Blk ((w.alloc (.cells #[p, .int .i64 c] 73)).alloc (.cells (cLvl y) 133)) (w.heap.size + 1) 133 (cLvl y) := Blk.new' (by simp)
  have c1 := h1.cell_eq 1 _ rfl
  obtain ⟨-, -, -, c3⟩ := Lvl.cells h2
  clear h1 h2
  obtain ⟨v0, v1, v2, v3⟩ := y
  simp only [cLvl] at c1 c3
  simp only [vLvl, cLvl]
  simp only at hw
  obtain ⟨V, hV⟩ : ∃ V, V = (w.alloc (.cells #[p, .int .i64 c] 73)).alloc (.cells #[.int .i64 v0, .int .i64 v1, .int .i64 v2, .int .i64 v3] 133) := ⟨_, rfl⟩
  rw [← hV] at c1 c3 ⊢
  go_enter Tryd.func83, Tryd.ntmps83
  go_wp2_with (first | (rw [← hV]) | fail)
  go_ret
  exact ⟨by first | rfl | rw [hw], rfl⟩
theorem Bs.own (h : Bs W0 S0 ga gf gx g0 g1 k a x f d w) (hs : s = 0 ∨ s = 1) : ∃ S, PL w (gsd g0 g1 s) S (d s) ∧ ∀ c, S c → S0 c ∨ W0.heap.size ≤ c := by
  obtain ⟨Sf, Sx, S1, S2, h1, h2⟩ := h.p
  rcases hs with rfl | rfl
  · exact ⟨S1, h1.l0, fun c e => h2 3 c (.inr (.inr (.inr (.inl ⟨rfl, e⟩))))⟩
  · exact ⟨S2, h1.l1, fun c e => h2 4 c (.inr (.inr (.inr (.inr ⟨rfl, e⟩))))⟩
/-- A ladder's levels, the best one first. -/
theorem Bs.leachx (h : Bs W0 S0 ga gf gx g0 g1 k a x f d w) (hs : s = 0 ∨ s = 1) {P : List Lvl} (hP : Sord (d s).buy (d s).L P) :
    Calls Tryd.prog 81 #[.pointer (some ⟨gsd g0 g1 s, 0, none⟩)] w fun e w' => ∃ lb, e = .returned (.func (.func 91) #[] lb) ∧ Below w.heap.size w w' ∧
      ∀ (n : Nat) (T : Nat → Prop), 1 ≤ n → (∀ c, T c → c < W0.heap.size ∧ ¬ S0 c) → SeqsX Fence.wide n Tryd.prog 91 lb encL (goodL P) T (fun ys => ys.length = P.length) (fun pre => pre.length ≤ P.length) P.length w' := by
  obtain ⟨S, h1, h2⟩ := h.own hs
  have hz := h.frm.size
  refine (peach_any (some ⟨gsd g0 g1 s, 0, none⟩) w).mono ?_
  rintro e w' ⟨he, hb, T1, hB⟩
  have h3 := h1.below hb
  have hlt := h1.lt
  obtain ⟨ko, ao, cap, P', F, h4⟩ := h3
  obtain rfl : P' = P := h4.ord.uni hP
  refine ⟨_, he, hb, fun n T hn hT => ?_⟩
  have hbs := hb.size
  have hBl := hB.lt
  exact peach_seqsx Fence.wide rfl n hn w.heap.size T1 w' T hB h4.mem hP.std (fun e => by have := (hT _ e).1; omega) (fun c e e' => by
    rcases h2 c e' with g | g
    · exact (hT c e).2 g
    · have := (hT c e).1; omega) (fun c e => by have := (hT c e).1; omega)
/-- A queue's nodes, by the iterator's own boxes. -/
theorem Bs.feach2 (h : Bs W0 S0 ga gf gx g0 g1 k a x f d w) (q : Int) :
    Calls Tryd.prog 82 #[.pointer (some ⟨gf, 0, none⟩), .int .i64 q] w fun e w' => e = .returned (.func (.func 94) #[] #[.pointer (some ⟨w.heap.size, 0, none⟩), .pointer (some ⟨w.heap.size + 1, 0, none⟩)]) ∧ Below w.heap.size w w' ∧
      ∀ (n : Nat) (T : Nat → Prop), 1 ≤ n → (∀ c, T c → 2 ≤ c ∧ c < W0.heap.size ∧ ¬ S0 c) → SeqsX Fence.wide n Tryd.prog 94 #[.pointer (some ⟨w.heap.size, 0, none⟩), .pointer (some ⟨w.heap.size + 1, 0, none⟩)] encF (goodF (f.qi q)) T (fun ys => ys.length = (f.qi q).length) (fun pre => pre.length ≤ (f.qi q).length) (f.qi q).length w' := by
  obtain ⟨Sf, Sx, S1, S2, h1, h2⟩ := h.p
  obtain ⟨bl, be, bs, K, E, Z, hM, hF, e0⟩ := h1.fi
  have hz := h.frm.size
  refine (each_any (some ⟨gf, 0, none⟩) q w).mono ?_
  rintro e w' ⟨he, hb, T1, T3, hB1, hB3⟩
  refine ⟨he, hb, fun n T hn hT => ?_⟩
  have hbs := hb.size
  have hBl := hB3.lt
  exact each_seqsx Fence.wide rfl n hn w.heap.size (w.heap.size + 1) T1 T3 q w' T hB1 hB3 (hM.below hb) hF (fun e => by have := (hT _ e).2.1; omega) (fun e => by have := (hT _ e).2.1; omega) (fun c e => ⟨(hT c e).1, fun e' => by
    rcases h2 1 c (.inr (.inl ⟨rfl, by rw [e0]; exact e'⟩)) with g | g
    · exact (hT c e).2.2 g
    · have := (hT c e).2.1; omega⟩) (fun c e => by have := (hT c e).2.1; omega)
/-- The orders of the first j levels. -/
def upF (Z : List (Nat × Ord)) (s : Int) (P : List Lvl) (j : Nat) : List Ord := flatP Z s (P.take j)
theorem upF_all : upF Z s P P.length = flatP Z s P := by unfold upF; rw [List.take_length]
theorem upF_succ {j : Nat} {y : Lvl} (h : P[j]? = some y) : upF Z s P (j + 1) = upF Z s P j ++ (grp Z s y.price).map (·.2) := by
  unfold upF flatP
  rw [List.take_add_one, h]
  simp
/-- The orders of the levels' groups, one by one. -/
theorem upF_at {j : Nat} {y : Lvl} (h : P[j]? = some y) {m : Nat} {o : Ord} (hm : ((grp Z s y.price).map (·.2))[m]? = some o) :
    (flatP Z s P)[(upF Z s P j ++ ((grp Z s y.price).map (·.2)).take m).length]? = some o ∧ (upF Z s P j ++ ((grp Z s y.price).map (·.2)).take m).length < (flatP Z s P).length ∧
      upF Z s P j ++ ((grp Z s y.price).map (·.2)).take m ++ [o] = upF Z s P j ++ ((grp Z s y.price).map (·.2)).take (m + 1) := by
  have hd : flatP Z s P = upF Z s P j ++ ((grp Z s y.price).map (·.2) ++ flatP Z s (P.drop (j + 1))) := by
    have e : P = P.take j ++ y :: P.drop (j + 1) := by
      have hj := (List.getElem?_eq_some_iff.1 h)
      obtain ⟨h1, h2⟩ := hj
      rw [← h2, List.getElem_cons_drop, List.take_append_drop]
    conv => lhs; rw [e]
    unfold upF flatP
    rw [List.flatMap_append, List.flatMap_cons]
  have hl := (List.getElem?_eq_some_iff.1 hm).1
  have hlen : (upF Z s P j ++ ((grp Z s y.price).map (·.2)).take m).length = (upF Z s P j).length + m := by
    rw [List.length_append, List.length_take]; omega
  refine ⟨?_, ?_, ?_⟩
  · rw [hlen, hd, List.getElem?_append_right (by omega), Nat.add_sub_cancel_left, List.getElem?_append_left hl]
    exact hm
  · rw [hlen, hd, List.length_append, List.length_append]
    omega
  · rw [List.append_assoc, List.take_add_one, hm]
    rfl
/-- The second call, once the first has come up. -/
theorem Duo.snd1 {n i j : Nat} {J : Bool → Bool → World → Prop} {L : Array Bool} {md : Region.Mode} {ops : Array Oper} {P : Program} {fn : FuncId} {args : Array Value} {v : Value} (h : Duo n i j J L w) (hr : j ∈ Region.ready md ops L) (hjn : j < n) (hij : j ≠ i) (hd : L.getD i false = true) (hc : J true false w → Calls P fn args w fun e w' => e = .returned v ∧ J true true w') :
    Calls P fn args w fun e w' => e = .returned v ∧ Duo n i j J (L.setIfInBounds j true) w' := by
  have h0 := ready_not hr
  have hw := h.at'
  rw [h0, hd] at hw
  refine (hc hw).mono fun e w' h' => ⟨h'.1, by rw [Array.size_setIfInBounds]; exact h.size, ?_⟩
  rw [getD_self2 (by rw [h.size]; exact hjn), getD_ne2 hij, hd]
  exact h'.2
end
end Go.Proofs.YtdmjcjheanedgaaDoor
