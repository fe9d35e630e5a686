/-
  What nil queues answer; Each of the program: the function that it hands back, and what that yields.
  What the function that Each of package fifo hands back yields.
-/
import Derived.Test.YtpadjlhleaboaaaGreatDoorFiaq
import Derived.Test.YtpadjlhleaboaaaGreatDoorGM
import Derived.Shelf.Abstract
import Derived.WalkKit
import Derived.OwnWalkIn
import Derived.TacticsInMore
import Derived.LoopNIn
import Derived.LoopIn
import Derived.Stop.RegionWithIn
import Derived.Sort.QuietTacIn
import Derived.Great.BuildSlice
namespace Go.Proofs.YtpadjlhleaboaaaGreatDoor
open Go.RowKit
attribute [local go_sem] Oper.semAt_some
section
variable (x : Int) (W : World)
theorem lenNil_any : Calls Tryz.prog 109 #[.pointer none, .int .i64 x] W fun e w' => e = .returned (.int .i64 0) ∧ w' = W := lenNo_any none x (hasQueueNil_any x W)
set_option maxRecDepth 8000 in
theorem frontNil_any : Calls Tryz.prog 110 #[.pointer none, .int .i64 x] W fun e w' => e = .returned (.tuple #[.int .i64 0, .bool false]) ∧ ∃ n, w' = W.drewN n := by
  have cH := fun w => hasQueueNil_any x w
  go_enter Tryz.func110, Tryz.ntmps110
  go_wp2_with fail
  go_quiet ((go_at_call 58; exact Calls.quiet_of_same (cH _)))
  go_wp2
  all_goals go_ret2
  all_goals exact ⟨rfl, _, rfl⟩
set_option maxRecDepth 8000 in
theorem ofNil_any : Calls Tryz.prog 99 #[.pointer none, .int .i64 x] W fun e w' => e = .returned (.tuple #[.int .i64 0, .bool false]) ∧ ∃ n, w' = W.drewN n := by
  have cH := fun w => hasNodeNil_any x w
  go_enter Tryz.func99, Tryz.ntmps99
  go_wp2_with fail
  go_quiet ((go_at_call 59; exact Calls.quiet_of_same (cH _)))
  go_wp2
  all_goals go_ret2
  all_goals exact ⟨rfl, _, rfl⟩
set_option maxRecDepth 8000 in
theorem pushNil_any (y : Int) : Calls Tryz.prog 40 #[.pointer none, .int .i64 x, .int .i64 y] W fun e w' => e = .returned (.bool false) ∧ ∃ n, w' = W.drewN n := by
  have cH := fun w => hasQueueNil_any x w
  go_enter Tryz.func40, Tryz.ntmps40
  go_wp2_with fail
  go_quiet ((go_at_call 58; exact Calls.quiet_of_same (cH _)))
  go_wp2
  all_goals go_ret
  all_goals exact ⟨rfl, _, rfl⟩
set_option maxRecDepth 8000 in
set_option maxHeartbeats 1000000 in
theorem listNil_any : Calls Tryz.prog 98 #[.pointer none, .int .i64 x] W fun e w' => ∃ ao, e = .returned (.slice ao 0 0) ∧ Below W.heap.size W w' := by
  have cL := lenNil_any x W
  have cF := fun w => frontNil_any x w
  have mC : ∀ w, (Instr.makeSlice 100 (.int .i64 0) (.int .i64 0)).run Tryz.prog w = _ := make_cap 0 (by omega)
  generalize madeCells (cI 0) 0 = zi at *
  have hb0 := Below.refl W.heap.size W
  go_enter Tryz.func98, Tryz.ntmps98
  go_wp2_with (first
    | (go_at_call 109; (with_reducible refine cL.mono ?_); rintro e w1 ⟨rfl, rfl⟩; clear cL)
    | (go_at_call 110; (with_reducible refine (cF _).mono ?_); rintro e w2 ⟨rfl, n2, rfl⟩; clear cF))
  have hB : Below w1.heap.size w1 ((w1.alloc (Obj.cells zi 3)).drewN n2) := fbelow_drewN (hb0.alloc (Nat.le_refl _) _) n2
  generalize (w1.alloc (Obj.cells zi 3)).drewN n2 = V at *
  generalize (some ⟨w1.heap.size, 0, none⟩ : Option Addr) = ao0 at *
  go_loopg [6, 7, 8] 0 (fun j p6 p7 p8 wr => p6 = .slice ao0 0 0 ∧ p7 = .int .i64 0 ∧ p8 = .bool false ∧ wr = V)
  case atStart => exact ⟨rfl, rfl, rfl, rfl⟩
  case round =>
    obtain ⟨rfl, rfl, rfl, rfl⟩ := hrel
    go_wp2_with fail
    go_ret
    exact ⟨ao0, rfl, hB⟩
end
set_option maxRecDepth 8000 in
set_option maxHeartbeats 1000000 in
/-- Each hands back a function that knows the pointer and the queue. -/
theorem each_any (p : Option Addr) (i : Int) (W : World) : Calls Tryz.prog 77 #[.pointer p, .int .i64 i] W fun e w' =>
    e = .returned (.func (.func 97) #[] #[.pointer (some ⟨W.heap.size, 0, none⟩), .pointer (some ⟨W.heap.size + 1, 0, none⟩)]) ∧ Below W.heap.size W w' ∧ ∃ T1 T3, Blk w' W.heap.size T1 #[.pointer p] ∧ Blk w' (W.heap.size + 1) T3 #[.int .i64 i] := by
  go_enter Tryz.func77, Tryz.ntmps77
  have hB : Blk ((W.alloc (.cells #[.pointer p] 78)).alloc (.cells #[.int .i64 i] 3)) (W.heap.size + 1) 3 #[.int .i64 i] := Blk.new' (by simp)
  have hA : Blk ((W.alloc (.cells #[.pointer p] 78)).alloc (.cells #[.int .i64 i] 3)) W.heap.size 78 #[.pointer p] := (Blk.new _ _ _).alloc _
  have hbel : Below W.heap.size W ((W.alloc (.cells #[.pointer p] 78)).alloc (.cells #[.int .i64 i] 3)) := ((Below.refl _ _).alloc (Nat.le_refl _) _).alloc (by simp) _
  go_wp2_with fail
  go_ret
  exact ⟨rfl, hbel, _, _, hA, hB⟩
end Go.Proofs.YtpadjlhleaboaaaGreatDoor
namespace Go.Proofs.YtpadjlhleaboaaaGreatDoor
open Go.RowKit
attribute [local go_sem] Oper.semAt_some
def encF (x : Nat) : Array Value := #[.int .i64 (x : Int)]
/-- What is handed to a round: the next one. -/
def goodF (q : List Nat) (pre : List Nat) (x : Nat) (_ : World) : Prop := q[pre.length]? = some x
theorem goodF_put (q : List Nat) (pre : List Nat) (x : Nat) (A : World) (l : Nat) (o o' : Obj) (h : goodF q pre x A) (_ : A.heap[l]? = some o) (_ : o.isCells = false) : goodF q pre x (A.putObj l o') := h
theorem fgoodNo_put (pre : List Nat) (x : Nat) (A : World) (l : Nat) (o o' : Obj) (h : (fun (_ : List Nat) (_ : Nat) (_ : World) => False) pre x A) (_ : A.heap[l]? = some o) (_ : o.isCells = false) : (fun (_ : List Nat) (_ : Nat) (_ : World) => False) pre x (A.putObj l o') := h
theorem fblk_frm {S : Nat → Prop} {w w' : World} {g : Nat} {t : TypeId} {cs : Array Value} (h : Blk w g t cs) (hf : Frm S w w') (hg : ¬ S g) : Blk w' g t cs := (hf.block g h.lt hg).trans h
theorem fwide_fn (f : FuncId) : Fence.wide.fn f = True := by simp [Fence.wide]
attribute [local go_sem] fwide_fn
theorem fmerge3 {e : Ending} {A B : Prop} (h : (e = .returned (.bool true) ∧ A) ∨ (e = .returned (.bool false) ∧ B)) : ∃ k, e = .returned (.bool k) ∧ ((k = true ∧ A) ∨ (k = false ∧ B)) := by
  rcases h with ⟨h1, h2⟩ | ⟨h1, h2⟩
  · exact ⟨true, h1, .inl ⟨rfl, h2⟩⟩
  · exact ⟨false, h1, .inr ⟨rfl, h2⟩⟩
set_option maxRecDepth 100000 in
set_option maxHeartbeats 2000000 in
theorem eachNil_seqs (F : Fence) (hF : F = Fence.wide) (n : Nat) (hn : 1 ≤ n) (t1 t3 : Nat) (T1 T3 : TypeId) (i : Int) (w : World) (hb1 : Blk w t1 T1 #[.pointer none]) (hb3 : Blk w t3 T3 #[.int .i64 i]) (T : Nat → Prop) :
    SeqsT F n Tryz.prog 97 #[.pointer (some ⟨t1, 0, none⟩), .pointer (some ⟨t3, 0, none⟩)] encF (fun _ _ _ => False) T (fun ys => ys = []) (fun _ => False) 0 w := by
  intro lb J Jx W hW _ _ hJ hY h0
  subst hF
  have hl1 := hb1.lt
  have hl3 := hb3.lt
  have cL := fun w => listNil_any i w
  refine callsIn_of_wp Tryz.func97 rfl trivial ?_ rfl
  simp only [Tryz.ntmps97, List.size_toArray, List.length_cons, List.length_nil, Nat.reduceAdd, Nat.reduceSub, Array.replicate_succ, Array.replicate_zero, List.push_toArray, List.append_toArray, List.nil_append, List.cons_append]
  have cb1 := (hb1.below hW hl1).cell_eq 0 _ rfl
  have cb3 := (hb3.below hW hl3).cell_eq 0 _ rfl
  have hJd : ∀ V, Below W.heap.size W V → J [] V := fun V hb => hJ _ _ _ h0 hb
  clear hY hJ
  gi_wp2_with (gi_at_call 98; refine (callsIn_wide.2 (cL _)).mono ?_; rintro e w1 ⟨ao, rfl, hb⟩; have hJ1 := hJd _ hb)
  gi_loopw [12] (fun p12 wr => p12 = .int .i64 0 ∧ wr = w1) (fun _ _ => 0)
  case atStart => exact ⟨rfl, rfl⟩
  case round =>
    obtain ⟨rfl, rfl⟩ := hrel
    gi_wp2
    exact bodyPost_end (results_none rfl _ _ _) rfl ⟨⟨_, rfl⟩, .inl ⟨[], rfl, hJ1⟩⟩
set_option maxRecDepth 100000 in
set_option maxHeartbeats 2000000 in
theorem each_seqs (F : Fence) (hF : F = Fence.wide) (n : Nat) (hn : 1 ≤ n) {g bl be bs : Nat} {K : List Lk} {E : List En} {Z : List Int} {s : Fq} (t1 t3 : Nat) (T1 T3 : TypeId) (i : Int) (w : World) (T : Nat → Prop) (hb1 : Blk w t1 T1 #[.pointer (some ⟨g, 0, none⟩)]) (hb3 : Blk w t3 T3 #[.int .i64 i])
    (hP : PM w g bl be bs K E Z) (hQ : Fqp K E Z s) (hT1 : ¬ T t1) (hT3 : ¬ T t3) (hTg : ∀ b, T b → 2 ≤ b ∧ ¬ Qb g bl be bs b) (hTw : ∀ b, T b → b < w.heap.size) :
    SeqsT F n Tryz.prog 97 #[.pointer (some ⟨t1, 0, none⟩), .pointer (some ⟨t3, 0, none⟩)] encF (goodF (s.qi i)) T (fun ys => ys.length = (s.qi i).length) (fun pre => pre.length ≤ (s.qi i).length) (s.qi i).length w := by
  intro lb J Jx W hW hlb hlw hJ hY h0
  subst hF
  have hl1 := hb1.lt
  have hl3 := hb3.lt
  have hPW := hP.below hW
  have cL := list_any i hQ hPW
  have hW1 := hb1.below hW hl1
  have hW3 := hb3.below hW hl3
  have hat : ∀ (k x : Nat), (s.qi i)[k]? = some x → ∃ j : Nat, i = (j : Int) ∧ s.ofV (x : Int) = i ∧ s.ofB (x : Int) = true := by
    intro k x hx
    cases hq : s.hasQ i with
    | false => rw [Fq.qi_no hq] at hx; simp at hx
    | true =>
      obtain ⟨j, q, rfl, hj, hq, hqi⟩ := Fq.hasQ_pos hq
      rw [hqi] at hx
      have hf := Fq.findI_eq hQ.wf (⟨q, hq, hx⟩ : s.At x j k)
      exact ⟨j, rfl, by unfold Fq.ofV; rw [hf]; rfl, by unfold Fq.ofB; rw [hf]; rfl⟩
  have cO := fun w (k : PM w g bl be bs K E Z) (x : Int) => of_any x hQ k
  have hql : (s.qi i).length ≤ 500 := by
    cases hq : s.hasQ i with
    | false => rw [Fq.qi_no hq]; simp
    | true =>
      obtain ⟨j, q, rfl, hj, hq, hqi⟩ := Fq.hasQ_pos hq
      rw [hqi]
      have := hQ.wf.len hq
      have := hQ.lk
      have := hP.nk
      omega
  refine callsIn_of_wp Tryz.func97 rfl trivial ?_ rfl
  simp only [Tryz.ntmps97, List.size_toArray, List.length_cons, List.length_nil, Nat.reduceAdd, Nat.reduceSub, Array.replicate_succ, Array.replicate_zero, List.push_toArray, List.append_toArray, List.nil_append, List.cons_append]
  have cb1 := hW1.cell_eq 0 _ rfl
  have cb3 := hW3.cell_eq 0 _ rfl
  have hJd : ∀ V, Below W.heap.size W V → J [] V := fun V hb => hJ _ _ _ h0 hb
  generalize s.qi i = q at *
  gi_wp2_with (gi_at_call 98; refine (callsIn_wide.2 cL).mono ?_; rintro e w1 ⟨ao, cap, rfl, hb, hI, hao⟩)
  have hJ1 := hJd _ hb
  have hP1 := hPW.below hb
  have hB1 := hW1.below hb hW1.lt
  have hB3 := hW3.below hb hW3.lt
  have hsz1 := hb.size
  have hWs := hW.size
  have hQw := hP.lt
  have htwo := hPW.gl.two
  have hw2 := hP.gl.two
  clear cL cb1 cb3 hJd hPW hW1 hW3 hP hb1 hb3 h0
  gi_loopw [12] (fun p12 wr => ∃ (k : Nat) (pre : List Nat), p12 = .int .i64 (k : Int) ∧ k ≤ q.length ∧ J pre wr ∧ Frm (fun b => T b ∨ b = lb) w1 wr ∧ Hid (pre.length = k))
    (fun p _ => q.length - (intOf p).toNat)
  case atStart => exact ⟨0, [], rfl, Nat.zero_le _, hJ1, Frm.refl _ _, Lib.hid rfl⟩
  case round =>
    clear hJ1
    obtain ⟨k, pre, rfl, hk, hJs, hfr, hpre⟩ := hrel
    by_cases hkn : k < q.length
    · obtain ⟨x, hx⟩ : ∃ x, q[k]? = some x := ⟨_, List.getElem?_eq_getElem hkn⟩
      obtain ⟨j, rfl, hV, hB⟩ := hat k x hx
      have hPr := hP1.frm hfr (fun b hb => by
        rcases hb with hb | rfl
        · exact hTg b hb
        · exact ⟨by omega, fun h => by have := hQw b h; omega⟩)
      have cX := cO wr hPr (x : Int)
      rw [hV, hB] at cX
      have b1 := (fblk_frm hB1 hfr (by rintro (h | h); exact hT1 h; omega)).cell_eq 0 _ rfl
      have b3 := (fblk_frm hB3 hfr (by rintro (h | h); exact hT3 h; omega)).cell_eq 0 _ rfl
      have hIr := hI.keep (fun b off e => hfr.block b (by
        obtain ⟨b', off', e', h'⟩ := hI.get (i := k) (z := (x : Int)) (by rw [zs_get, hx]; rfl)
        rw [e'] at e; cases e
        have := h' w1 (Below.refl _ _)
        exact World.block_lt_of_cell? w1 _ this) (by
        have := hao b off e
        rintro (h | h)
        · have := hTw b h; omega
        · omega))
      obtain ⟨lb2, off, rfl, hcell⟩ := hIr.get (i := k) (z := (x : Int)) (by rw [zs_get, hx]; rfl)
      have hcell := hcell wr (Below.refl _ _)
      have hgood : ∀ V, goodF q pre x V := fun V => by show q[pre.length]? = some x; rw [hpre.out]; exact hx
      have hlt : pre.length < q.length := by rw [hpre.out]; exact hkn
      have hn2 : Hid ((pre ++ [x]).length = k + 1) := Lib.hid (by rw [List.length_append, hpre.out]; rfl)
      have hYq := fun m => hY pre x (wr.drewN m) (hJ _ _ _ hJs (fbelow_drewN (Below.refl _ _) m)) (hgood _) hlt
      have hfd : ∀ m, Frm (fun b => T b ∨ b = lb) w1 (wr.drewN m) := fun m => hfr.trans (Frm.of_below (S := fun _ => False) (fbelow_drewN (Below.refl _ _) m)) (fun _ f => f.elim)
      have hjj : ((j : Int) == (j : Int)) = true := by simp
      have hki : (k : Int) < (q.length : Int) := by omega
      clear hat hV hB hPr cO hgood hx hI hIr hao hB1 hB3 hP1 hJs hJ hY hfr hQ hQw hTg hTw hT1 hT3
      gi_wp2_with (first
        | (gi_at_call 99; refine (callsIn_wide.2 cX).mono ?_; rintro e w2 ⟨rfl, m, rfl⟩; clear cX b1; have b4 : (wr.drewN m).cell? ⟨t3, 0, none⟩ = some (.int .i64 (j : Int)) := b3; obtain ⟨fn, tmps, assign, body, hy, hR⟩ := hYq m; have hfW := hfd m; clear hYq hfd; dsimp only [encF] at hy hR)
        | (refine hR.mono ?_; rintro e W3 h3; obtain ⟨kk, rfl, hk⟩ := fmerge3 h3; rcases hk with ⟨rfl, hJ3, hk3⟩ | ⟨rfl, hJx3⟩))
      all_goals first
        | exact ⟨⟨k + 1, _, by go_num, hkn, hJ3, hfW.trans hk3 (fun _ h => .inl h), hn2⟩, by simp [intOf]; omega⟩
        | (refine bodyPost_end (results_none rfl _ _ _) rfl ?_
           exact ⟨⟨_, rfl⟩, .inr ⟨_, by rw [List.length_append]; exact hlt, hJx3⟩⟩)
        | (refine bodyPost_ret (results_none rfl _ _ _) rfl ?_
           exact ⟨⟨_, rfl⟩, .inr ⟨_, by rw [List.length_append]; exact hlt, hJx3⟩⟩)
        | trace_state
    · clear cO hY
      gi_wp2
      have hqe : k = q.length := by omega
      rw [hqe] at hpre
      exact bodyPost_end (results_none rfl _ _ _) rfl ⟨⟨_, rfl⟩, .inl ⟨pre, hpre.out, hJs⟩⟩
end Go.Proofs.YtpadjlhleaboaaaGreatDoor
