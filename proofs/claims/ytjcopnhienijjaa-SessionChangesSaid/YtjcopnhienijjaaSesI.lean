/-
  The iterator that package session's Changes hands back.
-/
import Derived.Test.YtjcopnhienijjaaSesF
import Derived.Test.YtjcopnhienijjaaRange
import Derived.Shelf.Abstract
import Derived.WalkKit
import Derived.OwnWalkIn
import Derived.TacticsInMore
import Derived.LoopNIn
import Derived.LoopIn
import Derived.Stop.RegionWithIn
import Derived.Sort.QuietTacIn
namespace Go.Proofs.Ytjcopnhienijjaa
open Go.RowKit
attribute [local go_sem] Oper.semAt_some
theorem blk_frm {S : Nat → Prop} {w w' : World} {g : Nat} {t : TypeId} {cs : Array Value} (h : Blk w g t cs) (hf : Frm S w w') (hg : ¬ S g) : Blk w' g t cs := (hf.block g h.lt hg).trans h
def encC (x : Rowp) : Array Value := #[.int .i64 x.tick, .int .i64 x.phase]
/-- What is handed to a round: the next change. -/
def goodC (l : List Rowp) (pre : List Rowp) (x : Rowp) (_ : World) : Prop := (chL 0 l)[pre.length]? = some x
theorem chL_at {l : List Rowp} {q : Nat} {r : Rowp} (h : l[q]? = some r) (hne : r.phase ≠ phN l q) : (chL 0 l)[(chL 0 (l.take q)).length]? = some r := by
  have h1 := chL_take h
  rw [if_neg hne] at h1
  have h2 : ∀ (a b : List Rowp) (p : Int), ∃ s, chL p (a ++ b) = chL p a ++ s := by
    intro a
    induction a with
    | nil => intro b p; exact ⟨chL p b, by simp [chL]⟩
    | cons x t ih =>
      intro b p
      simp only [List.cons_append, chL]
      split
      · exact ih b p
      · obtain ⟨s, hs⟩ := ih b x.phase
        exact ⟨s, by rw [hs, List.cons_append]⟩
  obtain ⟨s, hs⟩ := h2 (l.take (q + 1)) (l.drop (q + 1)) 0
  rw [List.take_append_drop] at hs
  rw [hs, h1, List.append_assoc, List.getElem?_append_right (Nat.le_refl _)]
  simp
theorem wide_fn (f : FuncId) : Fence.wide.fn f = True := by simp [Fence.wide]
attribute [local go_sem] wide_fn
theorem merge3 {e : Ending} {A B : Prop} (h : (e = .returned (.bool true) ∧ A) ∨ (e = .returned (.bool false) ∧ B)) : ∃ k, e = .returned (.bool k) ∧ ((k = true ∧ A) ∨ (k = false ∧ B)) := by
  rcases h with ⟨h1, h2⟩ | ⟨h1, h2⟩
  · exact ⟨true, h1, .inl ⟨rfl, h2⟩⟩
  · exact ⟨false, h1, .inr ⟨rfl, h2⟩⟩
set_option maxRecDepth 100000 in
set_option maxHeartbeats 2000000 in
theorem changes_seqs (F : Fence) (hF : F = Fence.wide) (n : Nat) (hn : 1 ≤ n) (Bs cap : Nat) (ao : Option Addr) (l : List Rowp) (w : World) (T : Nat → Prop) (hb : Blk w Bs 22 #[.slice ao l.length cap]) (hL : Rowps w ao cap l) (hTb : ¬ T Bs) (hTk : ∀ b off s, ao = some ⟨b, off, s⟩ → ¬ T b ∧ b < w.heap.size) :
    Seqs F n Try.prog 23 #[.pointer (some ⟨Bs, 0, none⟩)] encC (goodC l) (Frm fun q => T q ∨ w.heap.size ≤ q) (fun ys => ys.length = (chL 0 l).length) (fun pre => pre.length ≤ (chL 0 l).length) (chL 0 l).length w := by
  intro lb J Jx W hW hJ hY h0
  have hl := hL.len
  have hm := hL.top
  unfold maxLen at hm
  subst hF
  have hbl := hb.lt
  have cH := fun w n (hw : Rowps w ao cap l) (hn : n ≤ l.length) => phase_any ao cap l n hn w hw
  refine callsIn_of_wp Try.func23 rfl trivial ?_ rfl
  simp only [Try.ntmps23, List.size_toArray, List.length_cons, List.length_nil, Nat.reduceAdd, Nat.reduceSub, Array.replicate_succ, Array.replicate_zero, List.push_toArray, List.append_toArray, List.nil_append, List.cons_append]
  have cb0 := (hb.below hW hbl).cell_eq 0 _ rfl
  gi_wp2
  gi_loopw [7] (fun p7 wr => ∃ (q : Nat) (pre : List Rowp), p7 = .int .i64 (q : Int) ∧ q ≤ l.length ∧ J pre wr ∧ Frm (fun q => T q ∨ w.heap.size ≤ q) w wr ∧ Hid (pre.length = (chL 0 (l.take q)).length))
    (fun p _ => l.length - (intOf p).toNat)
  case atStart => exact ⟨0, [], rfl, Nat.zero_le _, h0, Frm.of_below hW, Lib.hid (by simp [chL])⟩
  case round =>
    obtain ⟨q, pre, rfl, hq, hJs, hfr, hlen⟩ := hrel
    have hb2 := blk_frm hb hfr (by rintro (h | h); exact hTb h; omega)
    have hL2 := hL.frm hfr (fun b off s e => by rintro (h | h); exact (hTk b off s e).1 h; have := (hTk b off s e).2; omega)
    by_cases hj : q < l.length
    · obtain ⟨r, hr⟩ : ∃ x, l[q]? = some x := ⟨l[q], List.getElem?_eq_getElem hj⟩
      obtain ⟨b, off, rfl, x0, x1⟩ := hL2.get hr
      replace x0 : wr.cell? ⟨b, off + q * 2, none⟩ = some (.int .i64 r.tick) := x0
      obtain ⟨z, hz⟩ : ∃ z, phN l q = z := ⟨_, rfl⟩
      have hch := chL_take hr
      rw [hz] at hch
      obtain ⟨V, hV⟩ : ∃ V, V = (wr.alloc (.cells (cRowp r) 33)).drew := ⟨_, rfl⟩
      have hbV : Below wr.heap.size wr V := by rw [hV]; exact ((Below.refl _ _).alloc (Nat.le_refl _) _).drew
      have cb := (hb2.below hbV hb2.lt).cell_eq 0 _ rfl
      have hLV := hL2.below hbV
      have cHV := cH V q hLV hq
      rw [hz] at cHV
      have hBox : Blk V wr.heap.size 33 (cRowp r) := by rw [hV]; exact (Blk.new _ _ _).drew
      have k0 := hBox.cell_eq 0 _ rfl
      have k1 := hBox.cell_eq 1 _ rfl
      have hJV := hJ _ _ _ hJs hbV
      have hfV : Frm (fun q => T q ∨ w.heap.size ≤ q) w V := hfr.trans (Frm.of_below (S := fun _ => False) hbV) (fun _ h => h.elim)
      by_cases he : r.phase = z
      · have hn2 : Hid (pre.length = (chL 0 (l.take (q + 1))).length) := Lib.hid (by rw [hch, if_pos he, List.append_nil]; exact hlen.out)
        have hLq : ∀ m, Rowps ((wr.alloc (.cells (cRowp r) 33)).drewN m) (some ⟨b, off, none⟩) cap l := fun m => hL2.below (below_drewN ((Below.refl _ _).alloc (Nat.le_refl _) _) m)
        have cHq := fun m => cH _ q (hLq m) hq
        rw [hz] at cHq
        have hbq : Blk (wr.alloc (.cells (cRowp r) 33)) Bs 22 #[.slice (some ⟨b, off, none⟩) l.length cap] := hb2.alloc _
        have cb' := hbq.cell_eq 0 _ rfl
        have k1' := (Blk.new wr 33 (cRowp r)).cell_eq 1 _ rfl
        have hJq : ∀ m, J pre ((wr.alloc (.cells (cRowp r) 33)).drewN m) := fun m => hJ _ _ _ hJs (below_drewN ((Below.refl _ _).alloc (Nat.le_refl _) _) m)
        have hfq : ∀ m, Frm (fun q => T q ∨ w.heap.size ≤ q) w ((wr.alloc (.cells (cRowp r) 33)).drewN m) := fun m => hfr.trans (Frm.of_below (S := fun _ => False) (below_drewN ((Below.refl _ _).alloc (Nat.le_refl _) _) m)) (fun _ h => h.elim)
        clear hch hlen hr hL hL2 cH hLV hz hBox hY hLq cHV hV cb k0 k1 hJV hfV hbV
        obtain ⟨t', p'⟩ := r
        simp only at *
        subst he
        have hne : ((p' : Int) != p') = false := by simp
        gi_wp2
        gi_quiet_th ((gi_at_call 21; exact CallsIn.quiet_of_same (callsIn_wide.2 (cHq _))))
        gi_wp2
        exact ⟨⟨q + 1, pre, by go_num, hj, hJq _, hfq _, hn2⟩, by simp [intOf]; omega⟩
      · have hne : ((r.phase : Int) != z) = true := by simpa using he
        have hgood : goodC l pre r V := by
          show (chL 0 l)[pre.length]? = some r
          rw [hlen.out]
          exact chL_at hr (by rw [hz]; exact he)
        have hlt : pre.length < (chL 0 l).length := (List.getElem?_eq_some_iff.1 hgood).1
        have hn2 : Hid ((pre ++ [r]).length = (chL 0 (l.take (q + 1))).length) := Lib.hid (by rw [hch, if_neg he, List.length_append, List.length_append, hlen.out])
        clear hch hlen hr hL hL2 cH hLV hz hBox
        obtain ⟨t', p'⟩ := r
        simp only at *
        subst hV
        gi_wp2
        obtain ⟨fn, tmps, assign, body, hy, hR⟩ := hY pre ⟨t', p'⟩ _ hJV hgood hlt
        dsimp only [encC] at hy
        gi_region_with (first
          | (refine ⟨trivial, ?_⟩; gi_at_call 21; (with_reducible refine (callsIn_wide.2 cHV).mono ?_); rintro e w1 ⟨rfl, rfl⟩)
          | (gi_at_call 21; (with_reducible refine (callsIn_wide.2 cHV).mono ?_); rintro e w1 ⟨rfl, rfl⟩)
          | (refine hR.mono ?_; rintro e W3 h3; obtain ⟨k, rfl, hk⟩ := merge3 h3)
          | fail)
        all_goals rcases hk with ⟨rfl, hJ3, hk3⟩ | ⟨rfl, hJx3⟩
        all_goals gi_wp2
        all_goals first
          | exact ⟨⟨q + 1, _, by go_num, hj, hJ3, hfV.trans hk3 (fun _ h => .inl h), hn2⟩, by simp [intOf]; omega⟩
          | (refine bodyPost_ret (results_none rfl _ _ _) rfl ?_
             exact ⟨⟨_, rfl⟩, .inr ⟨_, by rw [List.length_append]; exact hlt, hJx3⟩⟩)
    · have hqe : q = l.length := by omega
      have hnl : ¬ q < l.length := by omega
      rw [hqe, List.take_length] at hlen
      clear cH hY hqe
      gi_wp2
      exact bodyPost_end (results_none rfl _ _ _) rfl ⟨⟨_, rfl⟩, .inl ⟨pre, hlen.out, hJs⟩⟩
end Go.Proofs.Ytjcopnhienijjaa
