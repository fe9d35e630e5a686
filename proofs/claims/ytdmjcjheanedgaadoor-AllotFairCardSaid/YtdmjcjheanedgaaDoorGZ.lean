/-
  slices.Collect of the program's walk: a side's orders in a slice.
  What the function that the program's Each hands back yields.
  What the law's walks ask of the program's book: PB and its contracts (Pbm to Pby); Each.
-/
import Derived.Test.YtdmjcjheanedgaaDoorGY
import Derived.Test.YtdmjcjheanedgaaDoorGW
import Derived.Test.YtdmjcjheanedgaaDoorGB
import Derived.Lib.SliceRun
import Derived.Test.YtdmjcjheanedgaaDoorGP
import Derived.Lib.Hide
import Derived.WalkKit
namespace Go.Proofs.YtdmjcjheanedgaaDoor
open Go.RowKit
set_option linter.unusedSimpArgs false
attribute [local go_sem] Oper.semAt_some
attribute [local go_sem] wide_fn
theorem infoPOrd : (Tryd.prog.info? 44).map (fun i => (i.zero, i.size, i.bytes)) = some (some (vOrd Ord.zero), 7, 56) := by kernel_rfl
theorem pOrd_one (x : Ord) : ∀ u ∈ (cOrd x).toList, u.oneCell' = true := by
  intro u hu
  simp at hu
  rcases hu with rfl | rfl | rfl | rfl | rfl | rfl | rfl <;> rfl
theorem OwG.isCells {E : TypeId} {sz : Nat} {w : World} {k : Nat} {ao : Option Addr} {cap n : Nat} {cs : List Value} (h : OwG E sz w (some k) ao cap n cs) {o : Obj} (ho : w.heap[k]? = some o) : o.isCells = true := by
  rcases h.at' with ⟨h0, _⟩ | ⟨k', cur, hk, _, hc, _⟩
  · cases h0
  · cases hk
    rw [hc] at ho
    cases ho
    rfl
theorem OwG.quiet {E : TypeId} {sz n0 : Nat} {w w' : World} {ko : Option Nat} {ao : Option Addr} {cap n : Nat} {cs : List Value} (h : OwG E sz w ko ao cap n cs) (hf : Frm (fun k => n0 ≤ k ∧ ∃ o, w.heap[k]? = some o ∧ o.isCells = false) w w') : OwG E sz w' ko ao cap n cs := by
  refine h.frm hf fun k e => ?_
  subst e
  rintro ⟨-, o, h1, h2⟩
  rw [h.isCells h1] at h2
  cases h2
theorem Blk.quiet {n0 q : Nat} {w w' : World} {T : TypeId} {cs : Array Value} (h : Blk w q T cs) (hf : Frm (fun k => n0 ≤ k ∧ ∃ o, w.heap[k]? = some o ∧ o.isCells = false) w w') : Blk w' q T cs := by
  refine blk_frm h hf ?_
  rintro ⟨-, o, h1, h2⟩
  rw [show w.heap[q]? = some (.cells cs T (0, 0)) from h] at h1
  cases h1
  cases h2
/-- What a walk hands to Collect. -/
def Walks (Q : List Ord) (lb : Array Value) (W : World) : Prop := ∀ V, Below W.heap.size W V → ∀ (n : Nat) (T : Nat → Prop), (∀ c, T c → W.heap.size ≤ c ∧ c < V.heap.size) → SeqsX Fence.wide n Tryd.prog 80 lb encO (goodO Q) T (fun ys => ys.length = Q.length) (fun pre => pre.length ≤ Q.length) Q.length V
theorem Walks.below {Q : List Ord} {lb : Array Value} {W W' : World} (h : Walks Q lb W) (hb : Below W.heap.size W W') : Walks Q lb W' := fun V hV n T hT => h V (hb.trans (hV.mono hb.size)) n T fun c e => ⟨Nat.le_trans hb.size (hT c e).1, (hT c e).2⟩
set_option maxRecDepth 100000 in
set_option maxHeartbeats 8000000 in
theorem appendseq_any (lb : Array Value) (Q : List Ord) (hQ : Q.length ≤ 500) (W : World) (hseq : Walks Q lb W) :
    Calls Tryd.prog 79 #[.slice none 0 0, .func (.func 80) #[] lb] W fun e w' => ∃ ao cap, e = .returned (.slice ao Q.length cap) ∧ Ords w' ao cap Q ∧ (∀ b off s, ao = some ⟨b, off, s⟩ → W.heap.size ≤ b ∧ b < w'.heap.size) ∧ Below W.heap.size W w' := by
  obtain ⟨i1, hi1, e1⟩ := Option.map_eq_some_iff.1 infoPOrd
  simp only [Prod.mk.injEq] at e1
  obtain ⟨hz1, hs1, hb1⟩ := e1
  obtain ⟨V0, hV0⟩ : ∃ V0, V0 = W.alloc (.cells #[.slice none 0 0] 22) := ⟨_, rfl⟩
  have hbV0 : Below W.heap.size W V0 := by rw [hV0]; exact (Below.refl _ _).alloc (Nat.le_refl _) _
  have hs0 := Lib.hid (show V0.heap.size = W.heap.size + 1 by rw [hV0]; simp)
  have hq0 : Blk V0 W.heap.size 22 #[.slice none 0 0] := by rw [hV0]; exact Blk.new _ _ _
  have hseq' := hseq V0 hbV0 (12 - 1) (fun c => c = W.heap.size) (fun c e => ⟨by omega, by rw [hs0.out]; omega⟩)
  clear hseq
  refine (callsIn_wide (n := 12)).1 ?_
  refine callsIn_of_wp_marks Tryd.func79 rfl trivial ?_ rfl
  simp only [Tryd.ntmps79, List.size_toArray, List.length_cons, List.length_nil, Nat.reduceAdd, Nat.reduceSub, Array.replicate_succ, Array.replicate_zero, List.push_toArray, List.append_toArray, List.nil_append, List.cons_append]
  gi_wp2
  rw [← hV0]
  clear hV0
  refine range_law5x (F := Fence.wide) rfl (by omega) (gf := 80) (lb := lb) rfl trivial (goes_of Tryd.func80 (by kernel_rfl) rfl) (enc := encO) (fun _ => rfl) (fun c => c = W.heap.size) (fun c e => by rw [hs0.out]; omega) (G := goodO Q) (goodO_put Q) hseq'
    (fun X pre A => ∃ ko ao cap, Blk A W.heap.size 22 #[.slice ao pre.length cap] ∧ OwG 44 7 A ko ao cap pre.length (ocs pre) ∧ (∀ k, ko = some k → X k ∧ W.heap.size < k) ∧ pre = Q.take pre.length ∧ Frm (fun c => c = W.heap.size ∨ V0.heap.size ≤ c) V0 A)
    (fun _ _ _ => False)
    (fun X pre A B ⟨ko, ao, cap, h1, h2, h3, h4, h5⟩ hf => ⟨ko, ao, cap, h1.quiet hf, h2.quiet hf, h3, h4, h5.trans hf (fun c e => .inl (.inr e.1))⟩)
    (fun c pre A B h hf => h)
    ⟨none, none, 0, hq0, OwG.nil _ _ _, (fun k e => by cases e), rfl, Frm.refl _ _⟩
    ?a1 (fun y A => A.alloc (.cells (cOrd y) 44)) (fun y A => (Below.refl _ _).alloc (Nat.le_refl _) _) (fun _ _ _ h => h) ?assign ?body ?done ?stop
  case assign =>
    intro l' y V K hK
    simp only [encO]
    gi_wp2
    exact hK
  case body =>
    rintro lo X pre y A0 A hlo hr ⟨ko, ao, cap, h1, h2, h3, h4, h5⟩ hX hgood hlen hl0 hfA
    have hy : Q[pre.length]? = some y := hgood
    have hbx := blk_frm (Blk.new A0 44 (cOrd y)) hfA (by omega)
    have hA5 := h5.size
    have hl1 := h1.lt
    have c2 := h1.cell_eq 0 _ rfl
    obtain ⟨t0, t1, t2, t3, t4, t5, t6⟩ := Ord.cells hbx
    have hpre : pre ++ [y] = Q.take (pre ++ [y]).length := by
      have e : (pre ++ [y]).length = pre.length + 1 := by simp
      rw [e, List.take_add_one, hy, ← h4]
      rfl
    have hoc : ocs (pre ++ [y]) = ocs pre ++ (cOrd y).toList := by simp [ocs]
    have hlp : (pre ++ [y]).length = pre.length + 1 := by simp
    have hend : ∀ ao' cap' ko' w8, OwG 44 7 w8 ko' ao' cap' (pre.length + 1) (ocs pre ++ (cOrd y).toList) → Frm (fun b => ko = some b) (A.alloc (.cells (cOrd y) 44)) w8 → Moved (A.alloc (.cells (cOrd y) 44)) ko ko' →
        (w8.cell? ⟨W.heap.size, 0, none⟩ = some (.slice ao pre.length cap) ∧ w8.frozen? ⟨W.heap.size, 0, none⟩ = false) ∧ ∀ aa, roundOutX (fun c => c = W.heap.size) X (fun X pre A => ∃ ko ao cap, Blk A W.heap.size 22 #[.slice ao pre.length cap] ∧ OwG 44 7 A ko ao cap pre.length (ocs pre) ∧ (∀ k, ko = some k → X k ∧ W.heap.size < k) ∧ pre = Q.take pre.length ∧ Frm (fun c => c = W.heap.size ∨ V0.heap.size ≤ c) V0 A) (fun _ _ _ => False) (pre ++ [y]) A .normal aa (w8.setCell ⟨W.heap.size, 0, none⟩ (.slice ao' (pre.length + 1) cap')) := by
      intro ao' cap' ko' w8 ho hf hm
      have hb8 := h1.alloc (.cells (cOrd y) 44)
      have hb9 := blk_frm hb8 hf (fun e => by have := (h3 _ e).2; omega)
      have hAw : A.heap.size ≤ w8.heap.size := by have := hf.size; rw [World.size_alloc] at this; omega
      have hfs : Frm (fun c => c = W.heap.size ∨ X c) A (w8.setCell ⟨W.heap.size, 0, none⟩ (.slice ao' (pre.length + 1) cap')) := by
        have e1 : Frm (fun c => c = W.heap.size ∨ X c) A (A.alloc (.cells (cOrd y) 44)) := (Frm.refl _ _).alloc _
        exact (e1.trans hf (fun c e => .inl (.inr (h3 c e).1))).setCell _ _ (.inl (.inl rfl))
      have hsz : (w8.setCell ⟨W.heap.size, 0, none⟩ (.slice ao' (pre.length + 1) cap')).heap.size = w8.heap.size := by simp [World.setCell]
      have hko : ∀ k, ko' = some k → (X k ∨ (A.heap.size ≤ k ∧ k < w8.heap.size)) ∧ W.heap.size < k := by
        intro k e
        subst e
        have hkl := ho.lt
        rcases hm with e | e | ⟨k2, e, e2⟩
        · cases e
        · have := h3 k e.symm
          exact ⟨.inl this.1, this.2⟩
        · cases e
          rw [World.size_alloc] at e2
          exact ⟨.inr ⟨by omega, hkl⟩, by omega⟩
      refine ⟨⟨hb9.cell_eq 0 _ rfl, hb9.free 0⟩, fun _ => ⟨hfs, fun c => X c ∨ (A.heap.size ≤ c ∧ c < w8.heap.size), fun c e => by rw [hsz]; exact e, ko', ao', cap', ?_, ?_, hko, hpre, h5.trans hfs (fun c e => ?_)⟩⟩
      · rw [hlp]; exact hb9.set 0 _
      · rw [hoc, hlp]
        refine ho.frm (S := fun c => c = W.heap.size) ((Frm.refl _ _).setCell _ _ (.inl rfl)) (fun k e => ?_)
        have := (hko k e).2
        omega
      · rcases e with e | e
        · exact .inl (.inl e)
        · have := (hX c e).1
          exact .inl (.inr (by omega))
    have hsrc : SrcG 7 (A.alloc (.cells (cOrd y) 44)) (some ⟨A.heap.size, 0, none⟩) 1 1 (cOrd y).toList := SrcG.row (cs := cOrd y) (Blk.new _ _ _) rfl (pOrd_one y)
    have hend := Lib.hid hend
    clear h1 h3 h4 h5 hX hgood hy hbx hpre hoc hlp hfA hr hlo hl0 hq0 hseq'
    obtain ⟨o0, o1, o2, o3, o4, o5, o6⟩ := y
    simp only at t0 t1 t2 t3 t4 t5 t6
    gi_wp2_with (gi_at_builtin; refine wpListIn_appG rfl (.tmp 8) (.tmp 10) 22 44 i1 _ 7 56 Tryd.underlying22 hi1 hz1 hs1 hb1 rfl (by decide) rfl (h2.alloc _) hsrc rfl rfl (by omega) (by omega) ?_; intro ao' cap' ko' w8 ho hf8 hm8; obtain ⟨⟨c2', f2'⟩, hout⟩ := hend.out ao' cap' ko' w8 ho hf8 hm8; clear hend hsrc)
  case done =>
    rintro D ys X V hD hys ⟨ko, ao, cap, h1, h2, h3, h4, h5⟩ hK
    have hQs : ys = Q := by rw [h4, hys, List.take_length]
    subst hQs
    have hK2 : W.heap.size < D := by have := hs0.out; omega
    have hbV : Below W.heap.size W V := hbV0.trans (h5.below hbV0.size (fun c e => by have := hs0.out; omega))
    have hP := Frm.put (S := fun b => b = D) V D (.deferred none) rfl
    have hfin : Below W.heap.size W (V.putObj D (.deferred none)) := hbV.trans (hP.below hbV.size (fun c e => by omega))
    have c2 := h1.cell_eq 0 _ rfl
    have hOo : OwG 44 7 (V.putObj D (.deferred none)) ko ao cap ys.length (ocs ys) := h2.frm hP (fun k e e' => by
      subst e'
      have := h2
      rw [e] at this
      exact absurd (this.isCells hK) (by decide))
    have hpost : ∃ ao' cap', (Ending.returned (.slice ao ys.length cap) = .returned (.slice ao' ys.length cap')) ∧ Ords (V.putObj D (.deferred none)) ao' cap' ys ∧ (∀ b off s, ao' = some ⟨b, off, s⟩ → W.heap.size ≤ b ∧ b < (V.putObj D (.deferred none)).heap.size) ∧ Below W.heap.size W (V.putObj D (.deferred none)) := by
      refine ⟨ao, cap, rfl, Ords.of_own hOo, fun b off s e => ?_, hfin⟩
      rcases hOo.at' with ⟨_, h0, _⟩ | ⟨k, cur, e1, h0, _⟩
      · rw [h0] at e; cases e
      · rw [h0] at e; cases e
        subst e1
        exact ⟨by have := (h3 b rfl).2; omega, hOo.lt⟩
    have hpost := Lib.hid hpost
    clear h1 h2 h3 h4 h5 hbV hP hfin hOo hseq' hq0 hys
    gi_wp2
    refine ⟨by simp, .inl ⟨_, _, rfl, run_takeDeferred hK, ?_⟩⟩
    refine ⟨.slice ao ys.length cap, ?_, hpost.out⟩
    simp [results, Tryd.results79, go_sem]
  case stop =>
    rintro D c pre V hD hsp h hK
    exact h.elim
theorem collect_any (lb : Array Value) (Q : List Ord) (hQ : Q.length ≤ 500) (W : World) (hseq : Walks Q lb W) :
    Calls Tryd.prog 64 #[.func (.func 80) #[] lb] W fun e w' => ∃ ao cap, e = .returned (.slice ao Q.length cap) ∧ Ords w' ao cap Q ∧ (∀ b off s, ao = some ⟨b, off, s⟩ → W.heap.size ≤ b ∧ b < w'.heap.size) ∧ Below W.heap.size W w' := by
  have cA := appendseq_any lb Q hQ W hseq
  clear hseq
  go_enter Tryd.func64, Tryd.ntmps64
  go_wp2_with (go_at_call 79; refine cA.mono ?_; rintro e w1 ⟨ao, cap, rfl, k1, k2, k3⟩; clear cA)
  go_ret
  exact ⟨ao, cap, rfl, k1, k2, k3⟩
end Go.Proofs.YtdmjcjheanedgaaDoor
namespace Go.Proofs.YtdmjcjheanedgaaDoor
open Go.RowKit
set_option linter.unusedSimpArgs false
attribute [local go_sem] Oper.semAt_some
attribute [local go_sem] wide_fn
theorem Ords.frmP {S : Nat → Prop} {w w' : World} {ao : Option Addr} {cap : Nat} {l : List Ord} (h : Ords w ao cap l) (hf : Frm S w w') (hk : ∀ b off s, ao = some ⟨b, off, s⟩ → ¬ S b) : Ords w' ao cap l := by
  refine ⟨h.len, h.top, ?_⟩
  rcases h.at' with h0 | ⟨b, off, ha, hl⟩
  · exact .inl h0
  · refine .inr ⟨b, off, ha, fun i m hi j v hj => ?_⟩
    have hc := hl i m hi j v hj
    have hlt : b < w.heap.size := World.block_lt_of_cell? w ⟨b, off + i * 7 + j, none⟩ hc
    exact (World.cell?_of_block (a := ⟨b, off + i * 7 + j, none⟩) (hf.block b hlt (hk b off none ha))).trans hc
set_option maxRecDepth 100000 in
set_option maxHeartbeats 8000000 in
theorem each1_seqs (p : Option Addr) (s : Int) (P : List Ord) (hP : P.length ≤ 500) (t1 t2 : Nat) (T1 T2 : TypeId) (w : World) (T : Nat → Prop) (n : Nat) (hn : 1 ≤ n) (hb1 : Blk w t1 T1 #[.pointer p]) (hb2 : Blk w t2 T2 #[.int .i64 s]) (hT : ∀ c, T c → c < w.heap.size ∧ c ≠ t1 ∧ c ≠ t2)
    (cW0 : ∀ W, Below w.heap.size w W → Calls Tryd.prog 65 #[.pointer p, .int .i64 s] W fun e w' => ∃ lb, e = .returned (.func (.func 80) #[] lb) ∧ Below W.heap.size W w' ∧ Walks P lb w')
    (cG0 : ∀ (k : Nat) (x : Ord) (V : World), P[k]? = some x → Frm (fun c => T c ∨ w.heap.size ≤ c) w V → Calls Tryd.prog 27 #[.pointer p, .int .i64 x.id] V fun e w' => e = .returned (.tuple #[vOrd x, .bool true]) ∧ Below V.heap.size V w') :
    SeqsT Fence.wide n Tryd.prog 63 #[.pointer (some ⟨t1, 0, none⟩), .pointer (some ⟨t2, 0, none⟩)] encO (goodO P) T (fun ys => ys.length = P.length) (fun pre => pre.length ≤ P.length) P.length w := by
  intro l J Jx W hW hlW hlw hJ hY h0
  have hl1 := hb1.lt
  have hl2 := hb2.lt
  have hWs := hW.size
  have hW1 := hb1.below hW hl1
  have hW2 := hb2.below hW hl2
  have cW := cW0 W hW
  refine callsIn_of_wp Tryd.func63 rfl trivial ?_ rfl
  simp only [Tryd.ntmps63, List.size_toArray, List.length_cons, List.length_nil, Nat.reduceAdd, Nat.reduceSub, Array.replicate_succ, Array.replicate_zero, List.push_toArray, List.append_toArray, List.nil_append, List.cons_append]
  have cb1 := hW1.cell_eq 0 _ rfl
  have cb2 := hW2.cell_eq 0 _ rfl
  clear cW0
  gi_wp2_with (first
    | (gi_at_call 65; refine (callsIn_wide.2 cW).mono ?_; rintro e w1 ⟨lb, rfl, hbw1, hwk⟩; clear cW; have cC := collect_any lb P hP w1 hwk)
    | (gi_at_call 64; refine (callsIn_wide.2 cC).mono ?_; rintro e w2 ⟨ao, cap, rfl, hI, hao, hbw2⟩; clear cC))
  have hs1 := hbw1.size
  have hs2 := hbw2.size
  have hb02 : Below W.heap.size W w2 := hbw1.trans (hbw2.mono hs1)
  have hJ1 := hJ _ _ _ h0 hb02
  have hB1 := hW1.below hb02 hW1.lt
  have hF2 : Frm (fun c => T c ∨ w.heap.size ≤ c) w w2 := (Frm.of_below hW).trans (Frm.of_below (S := fun _ => False) hb02) (fun _ e => e.elim)
  clear cb1 cb2 hW1 hW2 hb1 hb2 h0 hwk hbw1 hbw2 hb02
  gi_loopw [13] (fun p13 wr => ∃ (k : Nat) (pre : List Ord), p13 = .int .i64 (k : Int) ∧ k ≤ P.length ∧ J pre wr ∧ Frm (fun b => T b ∨ b = l) w2 wr ∧ Hid (pre.length = k))
    (fun p _ => P.length - (intOf p).toNat)
  case atStart => exact ⟨0, [], rfl, Nat.zero_le _, hJ1, Frm.refl _ _, Lib.hid rfl⟩
  case round =>
    clear hJ1
    obtain ⟨k, pre, rfl, hk, hJs, hfr, hpre⟩ := hrel
    have hws := hfr.size
    by_cases hkn : k < P.length
    · obtain ⟨y, hx⟩ : ∃ y, P[k]? = some y := ⟨_, List.getElem?_eq_getElem hkn⟩
      have hB1r := blk_frm hB1 hfr (by rintro (h | h); exact (hT _ h).2.1 rfl; omega)
      have hIr := hI.frmP hfr (fun b off s e h => by
        have := hao b off s e
        rcases h with h | h
        · have := (hT b h).1; omega
        · omega)
      obtain ⟨rb, off, rfl, u0, u1, u2, u3, u4, u5, u6⟩ := hIr.get hx
      replace u0 : wr.cell? ⟨rb, off + k * 7, none⟩ = some (.int .i64 y.id) := u0
      have hbA : Below wr.heap.size wr (wr.alloc (.cells (cOrd y) 44)) := (Below.refl _ _).alloc (Nat.le_refl _) _
      have b1 := (hB1r.below hbA hB1r.lt).cell_eq 0 _ rfl
      have hFr : Frm (fun c => T c ∨ w.heap.size ≤ c) w wr := hF2.trans hfr (fun c e => e.elim (fun e => .inl (.inl e)) (fun e => .inl (.inr (by omega))))
      have cX := cG0 k y (wr.alloc (.cells (cOrd y) 44)) hx (hFr.alloc _)
      have hthen : Blk (wr.alloc (.cells (cOrd y) 44)) wr.heap.size 44 (cOrd y) := Blk.new _ _ _
      obtain ⟨i0, -, -, -, -, -, -⟩ := Ord.cells hthen
      have hgood : ∀ V, goodO P pre y V := fun V => by show P[pre.length]? = some y; rw [hpre.out]; exact hx
      have hlt : pre.length < P.length := by rw [hpre.out]; exact hkn
      have hn2 : Hid ((pre ++ [y]).length = k + 1) := Lib.hid (by rw [List.length_append, hpre.out]; rfl)
      have hnx : ∀ w3, Below (wr.alloc (.cells (cOrd y) 44)).heap.size (wr.alloc (.cells (cOrd y) 44)) w3 → ∃ V4 V5, V4 = w3.alloc (.cells (cOrd y) 44) ∧ V5 = V4.setCell ⟨wr.heap.size, 4, none⟩ (.int .i64 y.qty) ∧ V4.cell? ⟨w3.heap.size, 4, none⟩ = some (.int .i64 y.qty) ∧ V4.cell? ⟨wr.heap.size, 4, none⟩ = some (.int .i64 y.qty) ∧ V4.frozen? ⟨wr.heap.size, 4, none⟩ = false ∧
          Blk V5 wr.heap.size 44 (cOrd y) ∧ Blk V5 w3.heap.size 44 (cOrd y) ∧ Below wr.heap.size wr V5 := fun w3 h => by
        have h1 := (hthen.below h hthen.lt).alloc (.cells (cOrd y) 44)
        have h2 : Blk (w3.alloc (.cells (cOrd y) 44)) w3.heap.size 44 (cOrd y) := Blk.new _ _ _
        have hsz := h.size
        rw [World.size_alloc] at hsz
        refine ⟨_, _, rfl, rfl, h2.cell_eq 4 _ rfl, h1.cell_eq 4 _ rfl, h1.free 4, h1.set 4 _, h2.other (by show wr.heap.size ≠ w3.heap.size; omega) _, ?_⟩
        exact ((hbA.trans (h.mono hbA.size)).alloc (by omega) _).setCell (p := ⟨wr.heap.size, 4, none⟩) (Nat.le_refl _) _
      have hYq := fun V (hb : Below wr.heap.size wr V) => hY pre y V (hJ _ _ _ hJs hb) (hgood V) hlt
      have hfd : ∀ V, Below wr.heap.size wr V → Frm (fun b => T b ∨ b = l) w2 V := fun V hb => hfr.trans (Frm.of_below (S := fun _ => False) hb) (fun _ f => f.elim)
      have hE := eql_Ord y y
      rw [eqOrd_self] at hE
      have hki : (k : Int) < (P.length : Int) := by omega
      clear hB1r hgood hx hI hIr hao hB1 hJs hJ hY hfr hT hFr hF2 cG0 hbA hthen
      obtain ⟨o0, o1, o2, o3, o4, o5, o6⟩ := y
      simp only [vOrd] at hE cX
      simp only at u0 u1 u2 u3 u4 u5 u6 i0 cX hE
      simp only [cOrd] at hnx cX b1 i0
      gi_wp2_with (first
        | (gi_at_call 27; refine (callsIn_wide.2 cX).mono ?_; rintro e w3 ⟨rfl, hb3⟩; clear cX b1 u0 u1 u2 u3 u4 u5 u6 i0; obtain ⟨V4, V5, hV4, hV5, q1, q2, q3, hB5, hB6, hbV⟩ := hnx _ hb3; obtain ⟨v0, v1, v2, v3, v4, v5, v6⟩ := Ord.cells (m := ⟨o0, o1, o2, o3, o4, o5, o6⟩) hB5; obtain ⟨z0, z1, z2, z3, z4, z5, z6⟩ := Ord.cells (m := ⟨o0, o1, o2, o3, o4, o5, o6⟩) hB6; simp only at v0 v1 v2 v3 v4 v5 v6 z0 z1 z2 z3 z4 z5 z6; obtain ⟨fn, tmps, assign, body, hyy, hRR⟩ := hYq V5 hbV; have hfW := hfd V5 hbV; clear hYq hfd hnx hb3 hB5 hB6; dsimp only [encO, vOrd] at hyy hRR)
        | (rw [← hV4]; clear hV4)
        | (rw [← hV5]; clear hV5)
        | (refine hRR.mono ?_; rintro e W3 h3; obtain ⟨kk, rfl, hk'⟩ := merge3 h3; rcases hk' with ⟨rfl, hJ3, hk3⟩ | ⟨rfl, hJx3⟩))
      all_goals first
        | exact ⟨⟨k + 1, _, by go_num, hkn, hJ3, hfW.trans hk3 (fun _ h => .inl h), hn2⟩, by simp [intOf]; omega⟩
        | (refine bodyPost_end (results_none rfl _ _ _) rfl ?_
           exact ⟨⟨_, rfl⟩, .inr ⟨_, by rw [List.length_append]; exact hlt, hJx3⟩⟩)
        | (refine bodyPost_ret (results_none rfl _ _ _) rfl ?_
           exact ⟨⟨_, rfl⟩, .inr ⟨_, by rw [List.length_append]; exact hlt, hJx3⟩⟩)
        | trace_state
    · clear hY cG0
      gi_wp2
      have hqe : k = P.length := by omega
      rw [hqe] at hpre
      exact bodyPost_end (results_none rfl _ _ _) rfl ⟨⟨_, rfl⟩, .inl ⟨pre, hpre.out, hJs⟩⟩
end Go.Proofs.YtdmjcjheanedgaaDoor
namespace Go.Proofs.YtdmjcjheanedgaaDoor
open Go.RowKit
section
variable {w w' W : World} {g k : Nat} {S T : Nat → Prop} {b : Bk}
theorem beach_fn (p : Option Addr) (s : Int) (W : World) : Calls Tryd.prog 46 #[.pointer p, .int .i64 s] W fun e w' => e = .returned (.func (.func 63) #[] #[.pointer (some ⟨W.heap.size, 0, none⟩), .pointer (some ⟨W.heap.size + 1, 0, none⟩)]) ∧ Below W.heap.size W w' ∧ ∃ T1 T2, Blk w' W.heap.size T1 #[.pointer p] ∧ Blk w' (W.heap.size + 1) T2 #[.int .i64 s] := by
  have hA : Blk ((W.alloc (.cells #[.pointer p] 24)).alloc (.cells #[.int .i64 s] 3)) W.heap.size 24 #[.pointer p] := (Blk.new _ _ _).alloc _
  have hB : Blk ((W.alloc (.cells #[.pointer p] 24)).alloc (.cells #[.int .i64 s] 3)) (W.heap.size + 1) 3 #[.int .i64 s] := Blk.new' (by simp)
  have hbel : Below W.heap.size W ((W.alloc (.cells #[.pointer p] 24)).alloc (.cells #[.int .i64 s] 3)) := ((Below.refl _ _).alloc (Nat.le_refl _) _).alloc (by simp) _
  go_enter Tryd.func46, Tryd.ntmps46
  go_wp2_with fail
  go_ret
  exact ⟨rfl, hbel, _, _, hA, hB⟩
theorem pbkOf_le (h : b.Ok) (s : Int) : (bkOf b.L s).length ≤ 500 := by
  have h1 := h.len
  have h2 := h.s2
  have h3 : (bkOf b.L s).length ≤ b.L.length := by
    rw [(bkOf_perm b.L s).length_eq]
    exact List.length_filter_le _ _
  omega
theorem Bk.Ok.got (h : b.Ok) {s : Int} {x : Ord} {k : Nat} (hx : (bkOf b.L s)[k]? = some x) : b.get x.id = some x ∧ x.Ok := by
  have h1 := (bkOf_mem.1 (List.mem_of_getElem? hx)).1
  obtain ⟨i, hi⟩ := List.mem_iff_getElem?.1 h1
  refine ⟨?_, h.ok x h1⟩
  unfold Bk.get
  rw [h.u.at' hi]
  simp [hi]
theorem pbNil_each (side : Int) (W : World) : Calls Tryd.prog 46 #[.pointer none, .int .i64 side] W fun e w' => ∃ lb, e = .returned (.func (.func 63) #[] lb) ∧ Below W.heap.size W w' ∧
    ∀ (T : Nat → Prop), SeqsT Fence.wide 5 Tryd.prog 63 lb encO (fun _ _ _ => False) T (fun ys => ys = []) (fun _ => False) 0 w' := by
  refine (beach_fn none side W).mono ?_
  rintro e w' ⟨he, hb, T1, T2, hA, hB⟩
  refine ⟨_, he, hb, fun T => ?_⟩
  intro l J Jx V hV hl hlw hJ _ h0
  have := each1_seqs none side [] (Nat.zero_le _) _ _ T1 T2 w' (fun _ => False) 5 (by omega) hA hB (fun c e => e.elim) (fun V hV => by
    refine (walk_nil side V).mono ?_
    rintro e v ⟨lb, he, hb', hs⟩
    exact ⟨lb, he, hb', fun V' hV' n T hT => hs V' hV' n T⟩) (fun j x V hx => by cases hx)
  refine (this l J (fun _ _ => False) V hV hl hlw hJ (fun _ _ _ _ _ h => absurd h (Nat.not_lt_zero _)) h0).mono ?_
  rintro e B ⟨e1, e2⟩
  refine ⟨e1, e2.imp (fun ⟨xs, a, c⟩ => ⟨xs, List.eq_nil_of_length_eq_zero a, c⟩) (fun ⟨_, _, c⟩ => c.elim)⟩
end
end Go.Proofs.YtdmjcjheanedgaaDoor
