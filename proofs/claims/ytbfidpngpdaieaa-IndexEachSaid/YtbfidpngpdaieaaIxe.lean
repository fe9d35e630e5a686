/-
  The program's index: Each, the function that it hands back, and what that yields: a symbol's rows by their IDs.
-/
import Derived.Test.YtbfidpngpdaieaaPxc
import Derived.Test.YtbfidpngpdaieaaSrt
import Derived.Test.YtbfidpngpdaieaaRangec
import Derived.Shelf.Abstract
import Derived.OwnWalkIn
import Derived.TacticsInMore
import Derived.LoopNIn
import Derived.LoopIn
import Derived.Stop.RegionWithIn
import Derived.Sort.QuietTacIn
namespace Go.Proofs.Ytbfidpngpdaieaa
open Go.RowKit
set_option linter.unusedSimpArgs false
attribute [local go_sem] Oper.semAt_some
/-- What is collected in any order, sorted: the IDs as they rise. -/
theorem ids_sorted {l : List Ixr} (hu : Ixu l) {s : Int} {ds : List Int} (h : ds.Perm (idsOf l s)) : (ds.mergeSort fun x y => decide (x ≤ y)) = (ixOf l s).map Ixr.id := by
  have h1 : (ds.mergeSort fun x y => decide (x ≤ y)).Perm ((ixOf l s).map Ixr.id) := (List.mergeSort_perm ds _).trans (h.trans ((ixOf_perm l s).map Ixr.id).symm)
  have h2 : (ds.mergeSort fun x y => decide (x ≤ y)).Pairwise fun a b => a ≤ b := by
    have := List.pairwise_mergeSort (le := fun x y : Int => decide (x ≤ y)) (fun a b c h1 h2 => by simp at *; omega) (fun a b => by simp; omega) ds
    simpa using this
  have h3 : ((ixOf l s).map Ixr.id).Pairwise fun a b => a ≤ b := by
    rw [List.pairwise_map]
    exact (ixOf_mono hu s).imp fun h => Int.le_of_lt h
  exact List.Perm.eq_of_pairwise (le := fun a b : Int => a ≤ b) (fun a b _ _ h1 h2 => by omega) h2 h3 h1
theorem xeach_any (p : Option Addr) (s : Int) (W : World) : Calls Try.prog 11 #[.pointer p, .int .i64 s] W fun e w' =>
    e = .returned (.func (.func 21) #[] #[.pointer (some ⟨W.heap.size, 0, none⟩), .pointer (some ⟨W.heap.size + 1, 0, none⟩)]) ∧ Below W.heap.size W w' ∧ Blk w' W.heap.size 24 #[.pointer p] ∧ Blk w' (W.heap.size + 1) 3 #[.int .i64 s] := by
  have hA : Blk ((W.alloc (.cells #[.pointer p] 24)).alloc (.cells #[.int .i64 s] 3)) W.heap.size 24 #[.pointer p] := (Blk.new _ _ _).alloc _
  have hB : Blk ((W.alloc (.cells #[.pointer p] 24)).alloc (.cells #[.int .i64 s] 3)) (W.heap.size + 1) 3 #[.int .i64 s] := Blk.new' (by simp)
  have hbel : Below W.heap.size W ((W.alloc (.cells #[.pointer p] 24)).alloc (.cells #[.int .i64 s] 3)) := ((Below.refl _ _).alloc (Nat.le_refl _) _).alloc (by simp) _
  go_enter Try.func11, Try.ntmps11
  go_wp2_with fail
  go_ret
  exact ⟨rfl, hbel, hA, hB⟩
def encX (x : Ixr) : Array Value := #[.int .i64 x.id, .int .i64 x.slot]
/-- What is handed to a round: the next one. -/
def goodX (P : List Ixr) (pre : List Ixr) (x : Ixr) (_ : World) : Prop := P[pre.length]? = some x
theorem goodX_put (P : List Ixr) (pre : List Ixr) (x : Ixr) (A : World) (l : Nat) (o o' : Obj) (h : goodX P pre x A) (_ : A.heap[l]? = some o) (_ : o.isCells = false) : goodX P pre x (A.putObj l o') := h
theorem wide_fn (f : FuncId) : Fence.wide.fn f = True := by simp [Fence.wide]
attribute [local go_sem] wide_fn
theorem merge3 {e : Ending} {A B : Prop} (h : (e = .returned (.bool true) ∧ A) ∨ (e = .returned (.bool false) ∧ B)) : ∃ k, e = .returned (.bool k) ∧ ((k = true ∧ A) ∨ (k = false ∧ B)) := by
  rcases h with ⟨h1, h2⟩ | ⟨h1, h2⟩
  · exact ⟨true, h1, .inl ⟨rfl, h2⟩⟩
  · exact ⟨false, h1, .inr ⟨rfl, h2⟩⟩
set_option maxRecDepth 100000 in
set_option maxHeartbeats 4000000 in
theorem xeach_seqs (F : Fence) (hF : F = Fence.wide) (n : Nat) (hn : 1 ≤ n) {g k : Nat} {S : Nat → Prop} {l : List Ixr} {s : Int} (t1 t3 : Nat) (T1 T3 : TypeId) (w : World) (T : Nat → Prop) (hb1 : Blk w t1 T1 #[.pointer (some ⟨g, 0, none⟩)]) (hb3 : Blk w t3 T3 #[.int .i64 s])
    (hX : PX w g S k l) (hlen : l.length ≤ 100000) (hT1 : ¬ T t1) (hT3 : ¬ T t3) (hTg : ∀ b, T b → ¬ S b) (hTw : ∀ b, T b → b < w.heap.size) :
    SeqsT F n Try.prog 21 #[.pointer (some ⟨t1, 0, none⟩), .pointer (some ⟨t3, 0, none⟩)] encX (goodX (ixOf l s)) T (fun ys => ys.length = (ixOf l s).length) (fun pre => pre.length ≤ (ixOf l s).length) (ixOf l s).length w := by
  intro lb J Jx W hW hlb hlw hJ hY h0
  subst hF
  have hsrt := fun (ds : List Int) => ids_sorted (s := s) (ds := ds) hX.u
  have hmem : ∀ x ∈ ixOf l s, ixg l s x.id = some x.slot ∧ In64 s ∧ In64 x.id := by
    intro x hx
    obtain ⟨h1, h2⟩ := ixOf_mem.1 hx
    obtain ⟨h3, h4⟩ := hX.t x h1
    rw [h2] at h3
    exact ⟨(ixg_key hX.u).2 (by rw [← h2]; exact h1), h3, h4⟩
  have hPl : (idsOf l s).length = (ixOf l s).length := by rw [List.length_map, (ixOf_perm l s).length_eq]
  have hPb : (ixOf l s).length ≤ 100000 := by rw [← hPl]; exact Nat.le_trans (idsOf_len l s) hlen
  generalize ixOf l s = P at *
  have hl1 := hb1.lt
  have hl3 := hb3.lt
  have hPW := hX.below hW
  have cI := xids_any s hPW hlen
  have hW1 := hb1.below hW hl1
  have hW3 := hb3.below hW hl3
  have cb1 := hW1.cell_eq 0 _ rfl
  have cb3 := hW3.cell_eq 0 _ rfl
  have hJd : ∀ V, Below W.heap.size W V → J [] V := fun V hb => hJ _ _ _ h0 hb
  refine callsIn_of_wp Try.func21 rfl trivial ?_ rfl
  simp only [Try.ntmps21, List.size_toArray, List.length_cons, List.length_nil, Nat.reduceAdd, Nat.reduceSub, Array.replicate_succ, Array.replicate_zero, List.push_toArray, List.append_toArray, List.nil_append, List.cons_append]
  gi_wp2_with (first
    | (gi_at_call 20; refine (callsIn_wide.2 cI).mono ?_; rintro e w1 ⟨ko, ao, cap, ds, rfl, hO, hPm, hb, hko⟩; clear cI; have cS := sort_any hO (by rw [hPm.length_eq]; exact Nat.le_trans (idsOf_len l s) hlen))
    | (gi_at_call 22; refine (callsIn_wide.2 cS).mono ?_; rintro e w2 ⟨rfl, hO2, hf2⟩; clear cS))
  have hdsl : ds.length = P.length := hPm.length_eq.trans hPl
  rw [hsrt ds hPm, hdsl] at hO2
  rw [hdsl]
  have hb2 : Below W.heap.size W w2 := hb.trans (hf2.below hb.size fun c e => hko c e)
  have hJ1 := hJd _ hb2
  have hX2 := hPW.below hb2
  have hB1 := hW1.below hb2 hW1.lt
  have hB3 := hW3.below hb2 hW3.lt
  have hsz1 := hb2.size
  have hWs := hW.size
  have hQw := hX.lt
  clear cb1 cb3 hJd hPW hW1 hW3 hX hb1 hb3 h0 hO hf2 hPm hb hb2 hdsl hsrt hPl
  gi_loopw [16] (fun p16 wr => ∃ (k : Nat) (pre : List Ixr), p16 = .int .i64 (k : Int) ∧ k ≤ P.length ∧ J pre wr ∧ Frm (fun b => T b ∨ b = lb) w2 wr ∧ Hid (pre.length = k))
    (fun p _ => P.length - (intOf p).toNat)
  case atStart => exact ⟨0, [], rfl, Nat.zero_le _, hJ1, Frm.refl _ _, Lib.hid rfl⟩
  case round =>
    clear hJ1
    obtain ⟨j, pre, rfl, hk, hJs, hfr, hpre⟩ := hrel
    by_cases hkn : j < P.length
    · obtain ⟨x, hx⟩ : ∃ x, P[j]? = some x := ⟨_, List.getElem?_eq_getElem hkn⟩
      have hPr := hX2.frm hfr (fun b hb hs => by
        rcases hb with hb | rfl
        · exact hTg b hb hs
        · have := hQw b hs; omega)
      have hB1r := blk_frmX hB1 hfr (by rintro (h | h); exact hT1 h; omega)
      have hB3r := blk_frmX hB3 hfr (by rintro (h | h); exact hT3 h; omega)
      have hIr := hO2.frm hfr (fun b e => by
        have := hko b e
        rintro (h | h)
        · have := hTw b h; omega
        · omega)
      obtain ⟨hgx, hi1, hi2⟩ := hmem x (List.mem_of_getElem? hx)
      obtain ⟨c, rfl, rfl, y0, -⟩ := hIr.cell j (.int .i64 x.id) (by simp [hx])
      have b1 := hB1r.cell_eq 0 _ rfl
      have b3 := hB3r.cell_eq 0 _ rfl
      have cX := xget_any s x.id hi1 hi2 hPr
      rw [hgx] at cX
      simp only [Option.getD_some, Option.isSome_some, vKey] at cX
      have hgood : ∀ V, goodX P pre x V := fun V => by show P[pre.length]? = some x; rw [hpre.out]; exact hx
      have hlt : pre.length < P.length := by rw [hpre.out]; exact hkn
      have hn2 : Hid ((pre ++ [x]).length = j + 1) := Lib.hid (by rw [List.length_append, hpre.out]; rfl)
      have hYq := fun V (hb : Below wr.heap.size wr V) => hY pre x V (hJ _ _ _ hJs hb) (hgood V) hlt
      have hfd : ∀ V, Below wr.heap.size wr V → Frm (fun b => T b ∨ b = lb) w2 V := fun V hb => hfr.trans (Frm.of_below (S := fun _ => False) hb) (fun _ f => f.elim)
      have hki : (j : Int) < (P.length : Int) := by omega
      clear hPr hB1r hB3r hgood hx hO2 hIr hB1 hB3 hX2 hJs hJ hY hfr hQw hTg hTw hT1 hT3 hgx hi1 hi2 hmem hko
      obtain ⟨v0, v1, v2⟩ := x
      simp only at *
      gi_wp2_with (first
        | (gi_at_call 15; refine (callsIn_wide.2 cX).mono ?_; rintro e w3 ⟨rfl, hb3⟩; clear cX b1 b3 y0; obtain ⟨fn, tmps, assign, body, hy, hR⟩ := hYq _ hb3; have hfW := hfd _ hb3; clear hYq hfd hb3; dsimp only [encX] at hy hR)
        | (refine hR.mono ?_; rintro e W3 h3; obtain ⟨kk, rfl, hk⟩ := merge3 h3; rcases hk with ⟨rfl, hJ3, hk3⟩ | ⟨rfl, hJx3⟩))
      all_goals first
        | exact ⟨⟨j + 1, _, by go_num, hkn, hJ3, hfW.trans hk3 (fun _ h => .inl h), hn2⟩, by simp [intOf]; omega⟩
        | (refine bodyPost_end (results_none rfl _ _ _) rfl ?_
           exact ⟨⟨_, rfl⟩, .inr ⟨_, by rw [List.length_append]; exact hlt, hJx3⟩⟩)
        | (refine bodyPost_ret (results_none rfl _ _ _) rfl ?_
           exact ⟨⟨_, rfl⟩, .inr ⟨_, by rw [List.length_append]; exact hlt, hJx3⟩⟩)
        | trace_state
    · clear hY
      gi_wp2
      have hqe : j = P.length := by omega
      rw [hqe] at hpre
      exact bodyPost_end (results_none rfl _ _ _) rfl ⟨⟨_, rfl⟩, .inl ⟨pre, hpre.out, hJs⟩⟩
end Go.Proofs.Ytbfidpngpdaieaa
