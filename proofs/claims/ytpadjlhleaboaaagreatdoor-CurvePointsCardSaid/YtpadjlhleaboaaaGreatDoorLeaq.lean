/-
  The contracts of slices.Clone of levels, of list, and of Each: what the function that it hands back yields.
-/
import Derived.Test.YtpadjlhleaboaaaGreatDoorGL
import Derived.Test.YtpadjlhleaboaaaGreatDoorGI
import Derived.Test.YtpadjlhleaboaaaGreatDoorGM
import Derived.Lib.SliceRun
import Derived.Shelf.Abstract
import Derived.WalkKit
import Derived.OwnWalkIn
import Derived.TacticsInMore
import Derived.LoopNIn
import Derived.LoopIn
import Derived.Stop.RegionWithIn
import Derived.Sort.QuietTacIn
import Derived.Great.BuildSlice
namespace Go.Proofs.YtpadjlhleaboaaaGreatDoor
open Go.RowKit
attribute [local go_sem] Oper.semAt_some
section
variable {w w' W : World} {g : Nat} {S T : Nat → Prop} {ko : Option Nat} {ao : Option Addr} {cap : Nat} {buy : Bool} {P : List Lvl} {F : List Nat}
set_option maxHeartbeats 1000000 in
theorem pclone_any (h : OwG 138 4 W ko ao cap P.length (lcs P)) (hl : P.length ≤ 200) :
    Calls Tryz.prog 107 #[.slice ao P.length cap] W fun e w' => ∃ ao' cap', e = .returned (.slice ao' P.length cap') ∧ Lvls w' ao' cap' P ∧ (∀ b off s, ao' = some ⟨b, off, s⟩ → W.heap.size ≤ b ∧ b < w'.heap.size) ∧ Below W.heap.size W w' := by
  have eN : ∀ (w : World) (b : Option Addr) (n c : Nat), (binOp .eql 125 (.slice b n c) (.slice none 0 0)).run Tryz.prog w = .ok (.bool b.isNone) w := fun w b n c => Lib.run_eql_slice_nil w _ _ b n c 0 0 Tryz.underlying125
  cases ao with
  | none =>
    have h0 : P = [] := by
      rcases h.at' with ⟨-, -, h0⟩ | ⟨k, cur, -, h0, -⟩
      · have := h.len; exact List.eq_nil_of_length_eq_zero (by omega)
      · cases h0
    subst h0
    go_enter Tryz.func107, Tryz.ntmps107
    go_wp2
    go_ret
    exact ⟨_, _, rfl, Lvls.nil _, (fun b off s h => by cases h), Below.refl _ _⟩
  | some a =>
    obtain ⟨i1, hi1, e1⟩ := Option.map_eq_some_iff.1 infoLv
    simp only [Prod.mk.injEq] at e1
    obtain ⟨hz1, hs1, hb1⟩ := e1
    have hsrc := (h.alloc (.cells #[] 138)).src (lcs_one P)
    go_enter Tryz.func107, Tryz.ntmps107
    go_wp2_with (at_builtin; refine wpList_appG rfl (.tmp 5) (.tmp 6) 125 138 i1 _ 4 32 Tryz.underlying125 hi1 hz1 hs1 hb1 rfl (by decide) rfl (OwG.emptyG _ _ W) hsrc rfl rfl (by omega) (by omega) ?_; intro oo' oc' ko' w3 ho hf3 hm3)
    go_ret
    rw [List.nil_append] at ho
    have hown : ∀ k, ko' = some k → W.heap.size ≤ k := by
      intro k hk
      rcases hm3 with h1 | h1 | ⟨k2, h1, h2⟩
      · rw [h1] at hk; cases hk
      · rw [h1] at hk; cases hk; exact Nat.le_refl _
      · rw [h1] at hk; cases hk; simp at h2; omega
    rw [Nat.zero_add] at ho
    refine ⟨oo', oc', rfl, Lvls.of_own ho, ?_, ?_⟩
    · intro b off s h
      rcases ho.at' with ⟨-, h0, -⟩ | ⟨k, cur, h1, h2, -⟩
      · rw [h0] at h; cases h
      · rw [h2] at h; cases h; subst h1; exact ⟨hown _ rfl, ho.lt⟩
    · exact ((Below.refl _ W).alloc (Nat.le_refl _) _).trans (hf3.below (by simp) (by intro k h; cases h; exact Nat.le_refl _))
theorem plist_any (h : PmB W g S ko ao cap buy P F) :
    Calls Tryz.prog 95 #[.pointer (some ⟨g, 0, none⟩)] W fun e w' => ∃ ao' cap', e = .returned (.slice ao' P.length cap') ∧ Lvls w' ao' cap' P ∧ (∀ b off s, ao' = some ⟨b, off, s⟩ → W.heap.size ≤ b ∧ b < w'.heap.size) ∧ Below W.heap.size W w' := by
  have cC := pclone_any h.how h.len
  have c1 := h.c1
  go_enter Tryz.func95, Tryz.ntmps95
  go_wp2_with (go_at_call 107; refine cC.mono ?_; rintro e w1 ⟨ao', cap', rfl, k1, k2, k3⟩)
  go_ret
  exact ⟨_, _, rfl, k1, k2, k3⟩
theorem plistNil_any (W : World) :
    Calls Tryz.prog 95 #[.pointer none] W fun e w' => e = .returned (.slice none 0 0) ∧ w' = W := by
  go_enter Tryz.func95, Tryz.ntmps95
  go_wp2_with fail
  go_ret
  exact ⟨rfl, rfl⟩
end
set_option maxRecDepth 8000 in
set_option maxHeartbeats 1000000 in
/-- Each hands back a function that knows the pointer. -/
theorem peach_any (p : Option Addr) (W : World) : Calls Tryz.prog 76 #[.pointer p] W fun e w' =>
    e = .returned (.func (.func 94) #[] #[.pointer (some ⟨W.heap.size, 0, none⟩)]) ∧ Below W.heap.size W w' ∧ ∃ T1, Blk w' W.heap.size T1 #[.pointer p] := by
  go_enter Tryz.func76, Tryz.ntmps76
  have hA : Blk (W.alloc (.cells #[.pointer p] 74)) W.heap.size 74 #[.pointer p] := Blk.new _ _ _
  have hbel : Below W.heap.size W (W.alloc (.cells #[.pointer p] 74)) := (Below.refl _ _).alloc (Nat.le_refl _) _
  go_wp2_with fail
  go_ret
  exact ⟨rfl, hbel, _, hA⟩
def encL (x : Lvl) : Array Value := #[vLvl x]
/-- What is handed to a round: the next one. -/
def goodL (P : List Lvl) (pre : List Lvl) (x : Lvl) (_ : World) : Prop := P[pre.length]? = some x
theorem goodL_put (P : List Lvl) (pre : List Lvl) (x : Lvl) (A : World) (l : Nat) (o o' : Obj) (h : goodL P pre x A) (_ : A.heap[l]? = some o) (_ : o.isCells = false) : goodL P pre x (A.putObj l o') := h
theorem blk_frm {S : Nat → Prop} {w w' : World} {g : Nat} {t : TypeId} {cs : Array Value} (h : Blk w g t cs) (hf : Frm S w w') (hg : ¬ S g) : Blk w' g t cs := (hf.block g h.lt hg).trans h
theorem Lvls.frm {S : Nat → Prop} {w w' : World} {ao : Option Addr} {cap : Nat} {l : List Lvl} (h : Lvls w ao cap l) (hf : Frm S w w') (hk : ∀ b off s, ao = some ⟨b, off, s⟩ → ¬ S b) : Lvls w' ao cap l := by
  refine ⟨h.len, h.top, ?_⟩
  rcases h.at' with h0 | ⟨b, off, ha, hl⟩
  · exact .inl h0
  · refine .inr ⟨b, off, ha, fun i m hi j v hj => ?_⟩
    have hc := hl i m hi j v hj
    have hlt : b < w.heap.size := World.block_lt_of_cell? w ⟨b, off + i * 4 + j, none⟩ hc
    exact (World.cell?_of_block (a := ⟨b, off + i * 4 + j, none⟩) (hf.block b hlt (hk b off none ha))).trans hc
theorem wide_fn (f : FuncId) : Fence.wide.fn f = True := by simp [Fence.wide]
attribute [local go_sem] wide_fn
theorem merge3 {e : Ending} {A B : Prop} (h : (e = .returned (.bool true) ∧ A) ∨ (e = .returned (.bool false) ∧ B)) : ∃ k, e = .returned (.bool k) ∧ ((k = true ∧ A) ∨ (k = false ∧ B)) := by
  rcases h with ⟨h1, h2⟩ | ⟨h1, h2⟩
  · exact ⟨true, h1, .inl ⟨rfl, h2⟩⟩
  · exact ⟨false, h1, .inr ⟨rfl, h2⟩⟩
set_option maxRecDepth 100000 in
set_option maxHeartbeats 2000000 in
theorem peachNil_seqs (F : Fence) (hF : F = Fence.wide) (n : Nat) (hn : 1 ≤ n) (t1 : Nat) (T1 : TypeId) (w : World) (hb1 : Blk w t1 T1 #[.pointer none]) (T : Nat → Prop) :
    SeqsT F n Tryz.prog 94 #[.pointer (some ⟨t1, 0, none⟩)] encL (fun _ _ _ => False) T (fun ys => ys = []) (fun _ => False) 0 w := by
  intro lb J Jx W hW _ _ hJ hY h0
  subst hF
  have hl1 := hb1.lt
  have cL := fun w => plistNil_any w
  refine callsIn_of_wp Tryz.func94 rfl trivial ?_ rfl
  simp only [Tryz.ntmps94, List.size_toArray, List.length_cons, List.length_nil, Nat.reduceAdd, Nat.reduceSub, Array.replicate_succ, Array.replicate_zero, List.push_toArray, List.append_toArray, List.nil_append, List.cons_append]
  have cb1 := (hb1.below hW hl1).cell_eq 0 _ rfl
  clear hY hJ
  gi_wp2_with (gi_at_call 95; refine (callsIn_wide.2 (cL _)).mono ?_; rintro e w1 ⟨rfl, hw1⟩; subst w1)
  gi_loopw [10] (fun p10 wr => p10 = .int .i64 0 ∧ wr = W) (fun _ _ => 0)
  case atStart => exact ⟨rfl, rfl⟩
  case round =>
    obtain ⟨rfl, rfl⟩ := hrel
    gi_wp2
    exact bodyPost_end (results_none rfl _ _ _) rfl ⟨⟨_, rfl⟩, .inl ⟨[], rfl, h0⟩⟩
set_option maxRecDepth 100000 in
set_option maxHeartbeats 4000000 in
theorem peach_seqs (F : Fence) (hF : F = Fence.wide) (n : Nat) (hn : 1 ≤ n) {g : Nat} {S : Nat → Prop} {ko : Option Nat} {ao : Option Addr} {cap : Nat} {buy : Bool} {P : List Lvl} {Fw : List Nat} (t1 : Nat) (T1 : TypeId) (w : World) (T : Nat → Prop) (hb1 : Blk w t1 T1 #[.pointer (some ⟨g, 0, none⟩)])
    (hP : PmB w g S ko ao cap buy P Fw) (hS : Std buy P) (hT1 : ¬ T t1) (hTg : ∀ b, T b → ¬ S b) (hTw : ∀ b, T b → b < w.heap.size) :
    SeqsT F n Tryz.prog 94 #[.pointer (some ⟨t1, 0, none⟩)] encL (goodL P) T (fun ys => ys.length = P.length) (fun pre => pre.length ≤ P.length) P.length w := by
  intro lb J Jx W hW hlb hlw hJ hY h0
  subst hF
  have hl1 := hb1.lt
  have hPW := hP.below hW
  have cL := plist_any hPW
  have hW1 := hb1.below hW hl1
  have hql := hP.len
  refine callsIn_of_wp Tryz.func94 rfl trivial ?_ rfl
  simp only [Tryz.ntmps94, List.size_toArray, List.length_cons, List.length_nil, Nat.reduceAdd, Nat.reduceSub, Array.replicate_succ, Array.replicate_zero, List.push_toArray, List.append_toArray, List.nil_append, List.cons_append]
  have cb1 := hW1.cell_eq 0 _ rfl
  have hJd : ∀ V, Below W.heap.size W V → J [] V := fun V hb => hJ _ _ _ h0 hb
  gi_wp2_with (gi_at_call 95; refine (callsIn_wide.2 cL).mono ?_; rintro e w1 ⟨ao2, cap2, rfl, hI, hao, hb⟩)
  have hJ1 := hJd _ hb
  have hP1 := hPW.below hb
  have hB1 := hW1.below hb hW1.lt
  have hsz1 := hb.size
  have hWs := hW.size
  have hQw := hP.lt
  clear cL cb1 hJd hPW hW1 hP hb1 h0
  gi_loopw [10] (fun p10 wr => ∃ (k : Nat) (pre : List Lvl), p10 = .int .i64 (k : Int) ∧ k ≤ P.length ∧ J pre wr ∧ Frm (fun b => T b ∨ b = lb) w1 wr ∧ Hid (pre.length = k))
    (fun p _ => P.length - (intOf p).toNat)
  case atStart => exact ⟨0, [], rfl, Nat.zero_le _, hJ1, Frm.refl _ _, Lib.hid rfl⟩
  case round =>
    clear hJ1
    obtain ⟨k, pre, rfl, hk, hJs, hfr, hpre⟩ := hrel
    by_cases hkn : k < P.length
    · obtain ⟨x, hx⟩ : ∃ x, P[k]? = some x := ⟨_, List.getElem?_eq_getElem hkn⟩
      have hPr := hP1.frm hfr (fun b hb hs => by
        rcases hb with hb | rfl
        · exact hTg b hb hs
        · have := hQw b hs; omega)
      have hB1r := blk_frm hB1 hfr (by rintro (h | h); exact hT1 h; omega)
      have hIr := hI.frm hfr (fun b off s e h => by
        have := hao b off s e
        rcases h with h | h
        · have := hTw b h; omega
        · omega)
      obtain ⟨lb2, off, rfl, x0, x1, x2, x3⟩ := hIr.get hx
      replace x0 : wr.cell? ⟨lb2, off + k * 4, none⟩ = some (.int .i64 x.price) := x0
      have hbA : Below wr.heap.size wr (wr.alloc (.cells (cLvl x) 138)) := (Below.refl _ _).alloc (Nat.le_refl _) _
      have b1 := (hB1r.below hbA hB1r.lt).cell_eq 0 _ rfl
      have hplc := hS.plc_of hx
      have cX := pfind_yes x.price (hPr.below hbA) hS (x := x) (by rw [hplc]; exact hx) rfl
      have hgood : ∀ V, goodL P pre x V := fun V => by show P[pre.length]? = some x; rw [hpre.out]; exact hx
      have hlt : pre.length < P.length := by rw [hpre.out]; exact hkn
      have hn2 : Hid ((pre ++ [x]).length = k + 1) := Lib.hid (by rw [List.length_append, hpre.out]; rfl)
      have hYq := fun V (hb : Below wr.heap.size wr V) => hY pre x V (hJ _ _ _ hJs hb) (hgood V) hlt
      have hfd : ∀ V, Below wr.heap.size wr V → Frm (fun b => T b ∨ b = lb) w1 V := fun V hb => hfr.trans (Frm.of_below (S := fun _ => False) hb) (fun _ f => f.elim)
      have hbX : ∀ V, Below (wr.alloc (.cells (cLvl x) 138)).heap.size (wr.alloc (.cells (cLvl x) 138)) V → Below wr.heap.size wr V := fun V hb => hbA.trans (hb.mono (by simp))
      have hki : (k : Int) < (P.length : Int) := by omega
      clear hPr hB1r hgood hx hI hIr hao hB1 hP1 hJs hJ hY hfr hQw hTg hTw hT1 hbA hplc hS
      obtain ⟨v0, v1, v2, v3⟩ := x
      simp only [vLvl, cLvl] at *
      gi_wp2_with (first
        | (gi_at_call 96; refine (callsIn_wide.2 cX).mono ?_; rintro e w2 ⟨rfl, hb2⟩; clear cX b1; have hb3 := (hbX _ hb2).alloc (hbX _ hb2).size (.cells #[.int .i64 v0, .int .i64 v1, .int .i64 v2, .int .i64 v3] 138); obtain ⟨fn, tmps, assign, body, hy, hR⟩ := hYq _ hb3; have hfW := hfd _ hb3; clear hYq hfd hbX hb2 hb3; dsimp only [encL, vLvl, cLvl] at hy hR)
        | (refine hR.mono ?_; rintro e W3 h3; obtain ⟨kk, rfl, hk⟩ := merge3 h3; rcases hk with ⟨rfl, hJ3, hk3⟩ | ⟨rfl, hJx3⟩))
      all_goals first
        | exact ⟨⟨k + 1, _, by go_num, hkn, hJ3, hfW.trans hk3 (fun _ h => .inl h), hn2⟩, by simp [intOf]; omega⟩
        | (refine bodyPost_end (results_none rfl _ _ _) rfl ?_
           exact ⟨⟨_, rfl⟩, .inr ⟨_, by rw [List.length_append]; exact hlt, hJx3⟩⟩)
        | (refine bodyPost_ret (results_none rfl _ _ _) rfl ?_
           exact ⟨⟨_, rfl⟩, .inr ⟨_, by rw [List.length_append]; exact hlt, hJx3⟩⟩)
        | trace_state
    · clear hY
      gi_wp2
      have hqe : k = P.length := by omega
      rw [hqe] at hpre
      exact bodyPost_end (results_none rfl _ _ _) rfl ⟨⟨_, rfl⟩, .inl ⟨pre, hpre.out, hJs⟩⟩
end Go.Proofs.YtpadjlhleaboaaaGreatDoor
