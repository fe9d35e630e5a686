/-
  What a nil arena's methods answer; Each of the program: the function that it hands back, and what that yields.
-/
import Derived.Test.YtbkdakabpmpiiaaArv
import Derived.Test.YtbkdakabpmpiiaaRange
import Derived.Shelf.Abstract
import Derived.WalkKit
import Derived.OwnWalkIn
import Derived.TacticsInMore
import Derived.LoopNIn
import Derived.LoopIn
import Derived.Stop.RegionWithIn
import Derived.Sort.QuietTacIn
import Derived.Great.BuildSlice
namespace Go.Proofs.Ytbkdakabpmpiiaa
open Go.RowKit
attribute [local go_sem] Oper.semAt_some
set_option maxRecDepth 8000 in
set_option maxHeartbeats 1000000 in
theorem holdsNil_any (x : Int) (W : World) : Calls Try.prog 25 #[.pointer none, .int .i64 x] W fun e w' => e = .returned (.bool false) ∧ w' = W := by
  go_enter Try.func25, Try.ntmps25
  go_wp2_with fail
  all_goals go_ret
  all_goals trivial
set_option maxRecDepth 8000 in
set_option maxHeartbeats 1000000 in
theorem takeNil_any (o : Ord) (W : World) : Calls Try.prog 16 #[.pointer none, vOrd o] W fun e w' => e = .returned (.tuple #[.int .i64 0, .int .i64 1]) ∧ Below W.heap.size W w' := by
  have hb := (Below.refl W.heap.size W).alloc (Nat.le_refl _) (.cells (cOrd o) 33)
  obtain ⟨a1, a2, a3, a4, a5, a6, a7⟩ := o
  simp only [cOrd] at hb
  go_enter Try.func16, Try.ntmps16
  go_wp2_with fail
  go_ret2
  exact ⟨rfl, hb⟩
set_option maxRecDepth 8000 in
set_option maxHeartbeats 1000000 in
theorem dropNil_any (x : Int) (W : World) : Calls Try.prog 18 #[.pointer none, .int .i64 x] W fun e w' => e = .returned (.bool false) ∧ w' = W := by
  have cH := holdsNil_any x W
  go_enter Try.func18, Try.ntmps18
  go_wp2_with (go_at_call 25; (with_reducible refine cH.mono ?_); rintro e w1 ⟨rfl, rfl⟩)
  go_ret
  exact ⟨rfl, rfl⟩
set_option maxRecDepth 8000 in
set_option maxHeartbeats 1000000 in
theorem setNil_any (x : Int) (o : Ord) (W : World) : Calls Try.prog 19 #[.pointer none, .int .i64 x, vOrd o] W fun e w' => e = .returned (.bool false) ∧ Below W.heap.size W w' := by
  have cH := fun w => holdsNil_any x w
  have hb := (Below.refl W.heap.size W).alloc (Nat.le_refl _) (.cells (cOrd o) 33)
  obtain ⟨a1, a2, a3, a4, a5, a6, a7⟩ := o
  simp only [cOrd] at hb
  go_enter Try.func19, Try.ntmps19
  go_wp2_with (go_at_call 25; (with_reducible refine (cH _).mono ?_); rintro e w1 ⟨rfl, rfl⟩)
  go_ret
  exact ⟨rfl, hb⟩
theorem getNil_any (x : Int) (W : World) : Calls Try.prog 17 #[.pointer none, .int .i64 x] W fun e w' => e = .returned (.tuple #[vOrd Ord.zero, .bool false]) ∧ Below W.heap.size W w' := get_no none x W fun w _ => holdsNil_any x w
set_option maxRecDepth 8000 in
set_option maxHeartbeats 1000000 in
/-- Each hands back a function that knows the pointer and the method Get of it. -/
theorem each_any (p : Option Addr) (W : World) : Calls Try.prog 14 #[.pointer p] W fun e w' =>
    e = .returned (.func (.func 24) #[] #[.pointer (some ⟨W.heap.size, 0, none⟩), .pointer (some ⟨W.heap.size + 1, 0, none⟩)]) ∧ Below W.heap.size W w' ∧ ∃ T1 T3, Blk w' W.heap.size T1 #[.pointer p] ∧ Blk w' (W.heap.size + 1) T3 #[.func (.func 17) #[.pointer p] #[]] := by
  go_enter Try.func14, Try.ntmps14
  have hB : Blk ((W.alloc (.cells #[.pointer p] 24)).alloc (.cells #[.nilFunc] 51)) (W.heap.size + 1) 51 #[.nilFunc] := Blk.new' (by simp)
  have hA : Blk (W.alloc (.cells #[.pointer p] 24)) W.heap.size 24 #[.pointer p] := Blk.new _ _ _
  have hbel : Below W.heap.size W (((W.alloc (.cells #[.pointer p] 24)).alloc (.cells #[.nilFunc] 51)).setRow (W.heap.size + 1) #[.func (.func 17) #[.pointer p] #[]]) :=
    below_setRow (((Below.refl _ _).alloc (Nat.le_refl _) _).alloc (by simp) _) (by omega) _
  go_wp2_with (refine wpList_store_oneTo rfl 51 (.tmp 3) (.tmp 5) rfl rfl (W.heap.size + 1) (.func (.func 17) #[.pointer p] #[]) rfl rfl rfl 51 .nilFunc hB (by kernel_rfl) ?_)
  go_ret
  exact ⟨rfl, hbel, _, _, (hA.alloc _).setRow_other (by omega) _, hB.setRow _⟩
/-- The taken ones among the first q slots. -/
def Ar.lstN (s : Ar) (q : Nat) : List (Nat × Ord) := (List.range q).filterMap fun i => if s.has i = true then some (i, s.O[i]?.getD Ord.zero) else none
def Ar.lst (s : Ar) : List (Nat × Ord) := s.lstN s.n
theorem Ar.lstN_succ (s : Ar) (q : Nat) : s.lstN (q + 1) = s.lstN q ++ (if s.has q = true then [(q, s.O[q]?.getD Ord.zero)] else []) := by
  unfold Ar.lstN
  rw [List.range_succ, List.filterMap_append]
  congr 1
  by_cases h : s.has q = true <;> simp [h]
theorem Ar.lstN_at (s : Ar) (m i : Nat) (x : Nat × Ord) (h : (s.lstN m)[i]? = some x) : x.1 < m ∧ s.has x.1 = true ∧ x.2 = s.O[x.1]?.getD Ord.zero ∧ i = (s.lstN x.1).length := by
  induction m with
  | zero => simp [Ar.lstN] at h
  | succ m ih =>
    rw [Ar.lstN_succ] at h
    rcases Nat.lt_or_ge i (s.lstN m).length with hi | hi
    · rw [List.getElem?_append_left hi] at h
      obtain ⟨h1, h2⟩ := ih h
      exact ⟨by omega, h2⟩
    · rw [List.getElem?_append_right hi] at h
      split at h
      · rename_i hq
        rw [List.getElem?_singleton] at h
        split at h
        · cases h
          exact ⟨by simp, hq, rfl, by simp; omega⟩
        · cases h
      · simp at h
theorem Ar.lstN_mono (s : Ar) {a b : Nat} (h : a ≤ b) : ∃ r, s.lstN b = s.lstN a ++ r := by
  induction b with
  | zero => exact ⟨[], by rw [show a = 0 by omega]; simp⟩
  | succ b ih =>
    by_cases hb : a = b + 1
    · exact ⟨[], by rw [hb]; simp⟩
    · obtain ⟨r, hr⟩ := ih (by omega)
      exact ⟨_, by rw [Ar.lstN_succ, hr, List.append_assoc]⟩
theorem Ar.lst_get (s : Ar) {q : Nat} (hq : q < s.n) (h : s.has q = true) : s.lst[(s.lstN q).length]? = some (q, s.O[q]?.getD Ord.zero) := by
  obtain ⟨r, hr⟩ := s.lstN_mono (a := q + 1) (b := s.n) hq
  unfold Ar.lst
  rw [hr, Ar.lstN_succ, if_pos h, List.append_assoc, List.getElem?_append_right (Nat.le_refl _)]
  simp
theorem Ar.lst_used {s : Ar} (hw : s.Wf) : s.lst.length = s.used := by
  have h : ∀ q, q ≤ s.n → (s.lstN q).length = (s.T.take q).count true := by
    intro q
    induction q with
    | zero => intro _; simp [Ar.lstN]
    | succ q ih =>
      intro hq
      have hl : q < s.T.length := by rw [hw.lenT]; omega
      rw [Ar.lstN_succ, List.length_append, ih (by omega), List.take_succ_eq_append_getElem hl, List.count_append]
      unfold Ar.has
      rw [List.getElem?_eq_getElem hl]
      cases s.T[q] <;> simp
  unfold Ar.lst Ar.used
  rw [h s.n (Nat.le_refl _), ← hw.lenT, List.take_length]
/-- What is handed to a round: the next one. -/
def goodE (s : Ar) (pre : List (Nat × Ord)) (x : Nat × Ord) (_ : World) : Prop := s.lst[pre.length]? = some x
def encE (x : Nat × Ord) : Array Value := #[.int .i64 (x.1 : Int), vOrd x.2]
theorem blk_frm {S : Nat → Prop} {w w' : World} {g : Nat} {t : TypeId} {cs : Array Value} (h : Blk w g t cs) (hf : Frm S w w') (hg : ¬ S g) : Blk w' g t cs := (hf.block g h.lt hg).trans h
theorem wide_fn (f : FuncId) : Fence.wide.fn f = True := by simp [Fence.wide]
attribute [local go_sem] wide_fn
theorem merge3 {e : Ending} {A B : Prop} (h : (e = .returned (.bool true) ∧ A) ∨ (e = .returned (.bool false) ∧ B)) : ∃ k, e = .returned (.bool k) ∧ ((k = true ∧ A) ∨ (k = false ∧ B)) := by
  rcases h with ⟨h1, h2⟩ | ⟨h1, h2⟩
  · exact ⟨true, h1, .inl ⟨rfl, h2⟩⟩
  · exact ⟨false, h1, .inr ⟨rfl, h2⟩⟩
set_option maxRecDepth 100000 in
set_option maxHeartbeats 2000000 in
theorem eachNil_seqs (F : Fence) (hF : F = Fence.wide) (n : Nat) (hn : 1 ≤ n) (t1 t3 : Nat) (T1 : TypeId) (w : World) (hb1 : Blk w t1 T1 #[.pointer none]) (Kp : World → World → Prop) :
    Seqs F n Try.prog 24 #[.pointer (some ⟨t1, 0, none⟩), .pointer (some ⟨t3, 0, none⟩)] encE (fun _ _ _ => False) Kp (fun ys => ys = []) (fun _ => False) 0 w := by
  intro lb J Jx W hW hJ hY h0
  subst hF
  have hl1 := hb1.lt
  have cU := fun w => usedNil_any w
  have cR := fun w => roomNil_any w
  refine callsIn_of_wp Try.func24 rfl trivial ?_ rfl
  simp only [Try.ntmps24, List.size_toArray, List.length_cons, List.length_nil, Nat.reduceAdd, Nat.reduceSub, Array.replicate_succ, Array.replicate_zero, List.push_toArray, List.append_toArray, List.nil_append, List.cons_append]
  have cb1 := (hb1.below hW hl1).cell_eq 0 _ rfl
  have hJd : ∀ m, J [] (W.drewN m) := fun m => hJ _ _ _ h0 (below_drewN (Below.refl _ _) m)
  clear hY hJ
  have hw0 : IntKind.i64.wrap 0 = 0 := by decide
  gi_wp2
  gi_quiet_th ((first
    | (gi_at_call 11; exact CallsIn.quiet_of_same (callsIn_wide.2 (cU _)))
    | (gi_at_call 13; exact CallsIn.quiet_of_same (callsIn_wide.2 (cR _)))))
  gi_wp2
  gi_loopw [12] (fun p12 wr => p12 = .int .i64 0 ∧ wr = W.drewN nq) (fun _ _ => 0)
  case atStart => exact ⟨rfl, rfl⟩
  case round =>
    obtain ⟨rfl, rfl⟩ := hrel
    gi_wp2
    exact bodyPost_end (results_none rfl _ _ _) rfl ⟨⟨_, rfl⟩, .inl ⟨[], rfl, hJd _⟩⟩
set_option maxRecDepth 100000 in
set_option maxHeartbeats 2000000 in
theorem each_seqs (F : Fence) (hF : F = Fence.wide) (n : Nat) (hn : 1 ≤ n) (g t1 t3 : Nat) (T1 T3 : TypeId) (c : Array Value) (s : Ar) (w : World) (T : Nat → Prop) (hb1 : Blk w t1 T1 #[.pointer (some ⟨g, 0, none⟩)]) (hb3 : Blk w t3 T3 #[.func (.func 17) #[.pointer (some ⟨g, 0, none⟩)] #[]])
    (hg : Blk w g 58 c) (hA : Arn c s) (hT1 : ¬ T t1) (hT3 : ¬ T t3) (hTg : ¬ T g) :
    Seqs F n Try.prog 24 #[.pointer (some ⟨t1, 0, none⟩), .pointer (some ⟨t3, 0, none⟩)] encE (goodE s) (Frm fun q => T q ∨ w.heap.size ≤ q) (fun ys => ys.length = s.lst.length) (fun pre => pre.length ≤ s.lst.length) s.lst.length w := by
  intro lb J Jx W hW hJ hY h0
  subst hF
  have hl1 := hb1.lt
  have hl3 := hb3.lt
  have hlg := hg.lt
  have hsm := hA.small
  have hcnt := hA.wf.cnt
  have cU := fun w hg => used_any g c s w hg hA
  have cR := fun w hg => room_any g c s w hg hA
  have hsum : IntKind.i64.wrap ((s.used : Int) + (s.fr.length : Int)) = (s.n : Int) := by
    rw [IntKind.wrap_i64]
    omega
  refine callsIn_of_wp Try.func24 rfl trivial ?_ rfl
  simp only [Try.ntmps24, List.size_toArray, List.length_cons, List.length_nil, Nat.reduceAdd, Nat.reduceSub, Array.replicate_succ, Array.replicate_zero, List.push_toArray, List.append_toArray, List.nil_append, List.cons_append]
  have cb1 := (hb1.below hW hl1).cell_eq 0 _ rfl
  have hgd : ∀ m, Blk (W.drewN m) g 58 c := fun m => (hg.below hW hlg).below (below_drewN (Below.refl _ _) m) (by have := hW.size; omega)
  have hJd : ∀ m, J [] (W.drewN m) := fun m => hJ _ _ _ h0 (below_drewN (Below.refl _ _) m)
  have hfd : ∀ m, Frm (fun q => T q ∨ w.heap.size ≤ q) w (W.drewN m) := fun m => Frm.of_below (below_drewN hW m)
  gi_wp2
  gi_quiet_th ((first
    | (gi_at_call 11; exact CallsIn.quiet_of_same (callsIn_wide.2 (cU _ (hgd _))))
    | (gi_at_call 13; exact CallsIn.quiet_of (callsIn_wide.2 (cR _ (hgd _))))))
  gi_wp2
  generalize hN : s.n = N at *
  gi_loopw [12] (fun p12 wr => ∃ (q : Nat) (pre : List (Nat × Ord)), p12 = .int .i64 (q : Int) ∧ q ≤ N ∧ J pre wr ∧ Frm (fun q => T q ∨ w.heap.size ≤ q) w wr ∧ Hid (pre.length = (s.lstN q).length))
    (fun p _ => N - (intOf p).toNat)
  case atStart => exact ⟨0, [], rfl, Nat.zero_le _, hJd _, hfd _, Lib.hid (by simp [Ar.lstN])⟩
  case round =>
    obtain ⟨q, pre, rfl, hq, hJs, hfr, hlen⟩ := hrel
    have hg2 := blk_frm hg hfr (by rintro (h | h); exact hTg h; omega)
    have hb12 := blk_frm hb1 hfr (by rintro (h | h); exact hT1 h; omega)
    have hb32 := blk_frm hb3 hfr (by rintro (h | h); exact hT3 h; omega)
    have c32 := hb32.cell_eq 0 _ rfl
    by_cases hj : q < N
    · have hsucc := s.lstN_succ q
      cases hh : s.has q with
      | true =>
        obtain ⟨o, ho⟩ := Ar.get_some hA.wf (i := q) (by omega)
        have hgood : ∀ V, goodE s pre (q, o) V := fun V => by
          have := s.lst_get (q := q) (by omega) hh
          rw [ho] at this
          show s.lst[pre.length]? = some (q, o)
          rw [hlen.out]
          exact this
        have hlt : pre.length < s.lst.length := (List.getElem?_eq_some_iff.1 (hgood wr)).1
        have hn2 : Hid ((pre ++ [(q, o)]).length = (s.lstN (q + 1)).length) := Lib.hid (by rw [hsucc, if_pos hh, List.length_append, List.length_append, hlen.out]; rfl)
        have cG := get_yes g c s q o wr hg2 hA hh ho
        have hYq := fun V (hb : Below wr.heap.size wr V) => hY pre (q, o) V (hJ _ _ _ hJs hb) (hgood V) hlt
        have hsl := hfr.trans (T := fun _ => False) (Frm.of_below (w := wr) (w1 := wr) (Below.refl _ _)) (fun _ h => h.elim)
        have hfV := fun V (hb : Below wr.heap.size wr V) => hfr.trans (Frm.of_below (S := fun _ => False) hb) (fun _ h => h.elim)
        clear hsucc hgood hlen hg hg2 hb1 hb3 hb12 hb32 cU cR hA hh ho hJs hJ hY cb1 hgd hJd hfd hsl hsum hcnt
        obtain ⟨a1, a2, a3, a4, a5, a6, a7⟩ := o
        gi_wp2_with (first
          | (gi_at_call 17; refine (callsIn_wide.2 cG).mono ?_; rintro e w1 ⟨rfl, hb1⟩; clear cG c32; have hbV := hb1.alloc hb1.size (.cells (cOrd ⟨a1, a2, a3, a4, a5, a6, a7⟩) 33); obtain ⟨fn, tmps, assign, body, hy, hR⟩ := hYq _ hbV; have hfW := hfV _ hbV; clear hYq hfV hbV hb1; dsimp only [encE, vOrd, cOrd] at hy hR hfW)
          | (refine hR.mono ?_; rintro e W3 h3; obtain ⟨k, rfl, hk⟩ := merge3 h3; rcases hk with ⟨rfl, hJ3, hk3⟩ | ⟨rfl, hJx3⟩))
        all_goals first
          | exact ⟨⟨q + 1, _, by go_num, hj, hJ3, hfW.trans hk3 (fun _ h => .inl h), hn2⟩, by simp [intOf]; omega⟩
          | (refine bodyPost_ret (results_none rfl _ _ _) rfl ?_
             exact ⟨⟨_, rfl⟩, .inr ⟨_, by rw [List.length_append]; exact hlt, hJx3⟩⟩)
      | false =>
        have hn2 : Hid (pre.length = (s.lstN (q + 1)).length) := Lib.hid (by rw [hsucc, if_neg (by rw [hh]; simp), List.append_nil]; exact hlen.out)
        have cG := get_no (some ⟨g, 0, none⟩) (q : Int) wr fun w hb => by
          have := holds_any g c s (q : Int) w (hg2.below hb hg2.lt) hA
          rwa [s.hasI_nat, hh] at this
        have hJV := fun V (hb : Below wr.heap.size wr V) => hJ _ _ _ hJs hb
        have hfV := fun V (hb : Below wr.heap.size wr V) => hfr.trans (Frm.of_below (S := fun _ => False) hb) (fun _ h => h.elim)
        clear hsucc hlen hg hg2 hb1 hb3 hb12 hb32 cU cR hA hh hJs hJ hY cb1 hgd hJd hfd hsum hcnt
        simp only [Ord.zero] at cG
        gi_wp2_with (gi_at_call 17; refine (callsIn_wide.2 cG).mono ?_; rintro e w1 ⟨rfl, hb1⟩; clear cG c32)
        have hbV := hb1.alloc hb1.size (.cells (cOrd Ord.zero) 33)
        exact ⟨⟨q + 1, pre, by go_num, hj, hJV _ hbV, hfV _ hbV, hn2⟩, by simp [intOf]; omega⟩
    · clear cU cR hY
      gi_wp2
      have hqe : q = N := by omega
      rw [hqe, ← hN] at hlen
      exact bodyPost_end (results_none rfl _ _ _) rfl ⟨⟨_, rfl⟩, .inl ⟨pre, hlen.out, hJs⟩⟩
end Go.Proofs.Ytbkdakabpmpiiaa
