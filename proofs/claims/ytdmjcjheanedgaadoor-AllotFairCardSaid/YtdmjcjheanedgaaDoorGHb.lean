/-
  willing of the program's allot: a side's orders up to the first one that is beyond a price.
  Lists that are cut, in memory; cut of the program's allot.
-/
import Derived.Test.YtdmjcjheanedgaaDoorPexq
import Derived.Test.YtdmjcjheanedgaaDoorGHa
import Derived.Test.YtdmjcjheanedgaaDoorGZ
namespace Go.Proofs.YtdmjcjheanedgaaDoor
open Go.RowKit
set_option linter.unusedSimpArgs false
attribute [local go_sem] Oper.semAt_some
attribute [local go_sem] wide_fn
/-- Those ahead of the first one that is beyond a price. -/
def wilL (side price : Int) (Q : List Ord) : List Ord := Q.takeWhile fun o => !bett side price o.price
theorem wil_stop {side price : Int} {pre : List Ord} {y : Ord} {Q : List Ord} (hp : ∀ z ∈ pre, bett side price z.price = false) (hy : bett side price y.price = true) (hpre : pre = Q.take pre.length) (hq : Q[pre.length]? = some y) : wilL side price Q = pre := by
  have e : Q = pre ++ y :: Q.drop (pre.length + 1) := by
    conv => lhs; rw [← List.take_append_drop pre.length Q, ← hpre]
    congr 1
    have hlt := (List.getElem?_eq_some_iff.1 hq).1
    have := (List.getElem?_eq_some_iff.1 hq).2
    rw [← this, List.drop_eq_getElem_cons hlt]
  rw [e]
  unfold wilL
  rw [List.takeWhile_append_of_pos (by intro z hz; simp [hp z hz]), List.takeWhile_cons_of_neg (by simp [hy]), List.append_nil]
theorem wil_all {side price : Int} {Q : List Ord} (hp : ∀ z ∈ Q, bett side price z.price = false) : wilL side price Q = Q := by
  unfold wilL
  have := List.takeWhile_append_of_pos (p := fun o : Ord => !bett side price o.price) (l₁ := Q) (l₂ := []) (by intro z hz; simp [hp z hz])
  simpa using this
theorem wil_part {L : List Ord} (hu : Bku L) (side price : Int) : wilL side price (bkOf L side) = partL L side price := by
  unfold wilL partL
  have hs := bkOf_srt hu side
  generalize bkOf L side = Q at hs
  induction Q with
  | nil => rfl
  | cons x Q ih =>
    have h2 := List.pairwise_cons.1 hs
    cases hb : bett side price x.price
    · rw [List.takeWhile_cons_of_pos (by simp [hb]), List.filter_cons_of_pos (by simp [hb]), ih h2.2]
    · rw [List.takeWhile_cons_of_neg (by simp [hb]), List.filter_cons_of_neg (by simp [hb])]
      symm
      rw [List.filter_eq_nil_iff]
      intro y hy
      have h3 := h2.1 y hy
      have : bett side price y.price = true := by
        rcases h3 with h3 | ⟨h3, -⟩
        · exact bett_trans hb h3
        · by_cases e : bett side price y.price = true
          · exact e
          · exfalso
            have e' : bett side price y.price = false := by simpa using e
            rw [bett_ntrans e' h3] at hb
            cases hb
      simp [this]
/-- What the program's Each hands back, where rounds append. -/
def EachX (p : Option Addr) (s : Int) (Q : List Ord) (W : World) : Prop := ∀ V, Below W.heap.size W V → Calls Tryd.prog 46 #[.pointer p, .int .i64 s] V fun e w' => ∃ lb, e = .returned (.func (.func 63) #[] lb) ∧ Below V.heap.size V w' ∧
  ∀ (T : Nat → Prop), (∀ c, T c → W.heap.size ≤ c ∧ c < V.heap.size) → SeqsX Fence.wide 5 Tryd.prog 63 lb encO (goodO Q) T (fun ys => ys.length = Q.length) (fun pre => pre.length ≤ Q.length) Q.length w'
section
variable {w w' W : World} {g k : Nat} {S : Nat → Prop} {b : Bk} {p : Option Addr}
theorem eachx_pb (side : Int) (h : PB W g S k b) : EachX (some ⟨g, 0, none⟩) side (bkOf b.L side) W := by
  intro V hV
  have h2 := h.gl.two
  have hVs := hV.size
  refine (pb_eachx side (h.below hV)).mono ?_
  rintro e w' ⟨lb, he, hb, hs⟩
  exact ⟨lb, he, hb, fun T hT => hs 5 T (by omega) fun c e => ⟨by have := (hT c e).1; omega, (hT c e).2, fun e' => by have := h.lt c e'; have := (hT c e).1; omega⟩⟩
theorem eachx_nil (side : Int) (W : World) : EachX none side [] W := by
  intro V hV
  refine (pbNil_each side V).mono ?_
  rintro e w' ⟨lb, he, hb, hs⟩
  refine ⟨lb, he, hb, fun T hT => ?_⟩
  intro l J Jx W h1 h2 h3 h4 h5 _ h0
  refine (hs T l (fun pre A => J (fun _ => False) pre A) Jx W h1 h2 h3 (fun pre A B hj hb => (h4 _).below hj hb) (fun _ _ _ _ _ h => absurd h (Nat.not_lt_zero _)) h0).mono ?_
  rintro e B ⟨e1, e2⟩
  exact ⟨e1, e2.imp (fun ⟨xs, a, b⟩ => ⟨xs, _, by rw [a], b⟩) (fun ⟨_, a, _⟩ => a.elim)⟩
theorem EachX.below {s : Int} {Q : List Ord} (h : EachX p s Q W) (hb : Below W.heap.size W w) : EachX p s Q w := fun V hV => by
  refine (h V (hb.trans (hV.mono hb.size))).mono ?_
  rintro e w' ⟨lb, he, hb', hs⟩
  exact ⟨lb, he, hb', fun T hT => hs T fun c e => ⟨Nat.le_trans hb.size (hT c e).1, (hT c e).2⟩⟩
set_option maxRecDepth 100000 in
set_option maxHeartbeats 8000000 in
theorem willing_any (side price : Int) (Q : List Ord) (hQ5 : Q.length ≤ 500) (hE : EachX p side Q W) : Calls Tryd.prog 23 #[.pointer p, .int .i64 side, .int .i64 price] W fun e w' => ∃ ko ao cap, e = .returned (.slice ao (wilL side price Q).length cap) ∧ OwG 44 7 w' ko ao cap (wilL side price Q).length (ocs (wilL side price Q)) ∧ (∀ k, ko = some k → W.heap.size ≤ k) ∧ Below W.heap.size W w' := by
  obtain ⟨i1, hi1, e1⟩ := Option.map_eq_some_iff.1 infoPOrd
  simp only [Prod.mk.injEq] at e1
  obtain ⟨hz1, hs1, hb1⟩ := e1
  obtain ⟨V0, hV0⟩ : ∃ V0, V0 = ((W.alloc (.cells #[.int .i64 side] 3)).alloc (.cells #[.int .i64 price] 2)).alloc (.cells #[.slice none 0 0] 22) := ⟨_, rfl⟩
  have hbV0 : Below W.heap.size W V0 := by rw [hV0]; exact (((Below.refl _ _).alloc (Nat.le_refl _) _).alloc (by simp) _).alloc (by simp; omega) _
  have hs0 := Lib.hid (show V0.heap.size = W.heap.size + 3 by rw [hV0]; simp)
  have hq1 : Blk V0 W.heap.size 3 #[.int .i64 side] := by rw [hV0]; exact ((Blk.new _ _ _).alloc _).alloc _
  have hq2 : Blk V0 (W.heap.size + 1) 2 #[.int .i64 price] := by rw [hV0]; exact (Blk.new' (by simp)).alloc _
  have hq3 : Blk V0 (W.heap.size + 2) 22 #[.slice none 0 0] := by rw [hV0]; exact Blk.new' (by simp)
  have cP : Calls Tryd.prog 46 #[.pointer p, .int .i64 side] V0 fun e w' => ∃ lb, e = .returned (.func (.func 63) #[] lb) ∧ Below V0.heap.size V0 w' ∧ SeqsX Fence.wide 5 Tryd.prog 63 lb encO (goodO Q) (fun c => c = W.heap.size + 2) (fun ys => ys.length = Q.length) (fun pre => pre.length ≤ Q.length) Q.length w' :=
    (hE V0 hbV0).mono fun e w' ⟨lb, he, hb, hs⟩ => ⟨lb, he, hb, hs _ fun c e => by have := hs0.out; omega⟩
  have c1 := hq1.cell_eq 0 _ rfl
  clear hE
  refine (callsIn_wide (n := 6)).1 ?_
  refine callsIn_of_wp_marks Tryd.func23 rfl trivial ?_ rfl
  simp only [Tryd.ntmps23, List.size_toArray, List.length_cons, List.length_nil, Nat.reduceAdd, Nat.reduceSub, Array.replicate_succ, Array.replicate_zero, List.push_toArray, List.append_toArray, List.nil_append, List.cons_append]
  refine wpIn_wide.2 ?_
  go_wp2_with (first | (rw [← hV0]; clear hV0) | fail)
  go_step3
  go_wp2_with (first | (rw [← hV0]; clear hV0) | fail)
  go_step3
  go_wp2_with (first
    | (rw [← hV0]; clear hV0)
    | (go_at_call 46; refine cP.mono ?_; rintro e w3 ⟨lb, rfl, hb3, hseq⟩; clear cP c1)
    | fail)
  refine (wpIn_wide (n := 6)).1 ?_
  have hs3 := hb3.size
  have hB1 := hq1.below hb3 hq1.lt
  have hB2 := hq2.below hb3 hq2.lt
  have hB3 := hq3.below hb3 hq3.lt
  have hbW3 : Below W.heap.size W w3 := hbV0.trans (hb3.mono hbV0.size)
  have hW3 := Lib.hid (show W.heap.size + 3 ≤ w3.heap.size by have := hs0.out; omega)
  clear hs0 hs3 hq1 hq2 hq3 hb3 hbV0
  refine range_law5x (F := Fence.wide) rfl (by omega) (gf := 63) (lb := lb) rfl trivial (goes_of Tryd.func63 (by kernel_rfl) rfl) (enc := encO) (fun _ => rfl) (fun c => c = W.heap.size + 2) (fun c e => by have := hW3.out; omega) (G := goodO Q) (goodO_put Q) hseq
    (fun X pre A => ∃ ko ao cap, Blk A (W.heap.size + 2) 22 #[.slice ao pre.length cap] ∧ OwG 44 7 A ko ao cap pre.length (ocs pre) ∧ (∀ k, ko = some k → X k ∧ W.heap.size + 2 < k) ∧ pre = Q.take pre.length ∧ (∀ z ∈ pre, bett side price z.price = false) ∧ Frm (fun c => c = W.heap.size + 2 ∨ w3.heap.size ≤ c) w3 A)
    (fun c _ A => c = .exit 0 ∧ ∃ ko ao cap, Blk A (W.heap.size + 2) 22 #[.slice ao (wilL side price Q).length cap] ∧ OwG 44 7 A ko ao cap (wilL side price Q).length (ocs (wilL side price Q)) ∧ (∀ k, ko = some k → W.heap.size + 2 < k) ∧ Frm (fun c => c = W.heap.size + 2 ∨ w3.heap.size ≤ c) w3 A)
    (fun X pre A B ⟨ko, ao, cap, h1, h2, h3, h4, h4', h5⟩ hf => ⟨ko, ao, cap, h1.quiet hf, h2.quiet hf, h3, h4, h4', h5.trans hf (fun c e => .inl (.inr e.1))⟩)
    (fun c pre A B ⟨h0, ko, ao, cap, h1, h2, h3, h5⟩ hf => ⟨h0, ko, ao, cap, h1.quiet hf, h2.quiet hf, h3, h5.trans hf (fun c e => .inl (.inr e.1))⟩)
    ⟨none, none, 0, hB3, OwG.nil _ _ _, (fun k e => by cases e), rfl, (fun z hz => by cases hz), Frm.refl _ _⟩
    ?a1 (fun y A => A.alloc (.cells (cOrd y) 44)) (fun y A => (Below.refl _ _).alloc (Nat.le_refl _) _) (fun _ _ _ h => h) ?assign ?body ?done ?stop
  case assign =>
    intro l' y V K hK
    simp only [encO]
    gi_wp2
    exact hK
  case body =>
    rintro l X pre y A0 A hlo hr ⟨ko, ao, cap, h1, h2, h3, h4, h4', h5⟩ hX hgood hlen hl0 hfA
    have hy : Q[pre.length]? = some y := hgood
    have hbx := blk_frm (Blk.new A0 44 (cOrd y)) hfA (by omega)
    have hA5 := h5.size
    have hl1 := h1.lt
    have c3 := h1.cell_eq 0 _ rfl
    have c1 := (blk_frm hB1 h5 (by have := hW3.out; omega)).cell_eq 0 _ rfl
    have c2 := (blk_frm hB2 h5 (by have := hW3.out; omega)).cell_eq 0 _ rfl
    obtain ⟨t0, t1, t2, t3, t4, t5, t6⟩ := Ord.cells hbx
    have hpre : pre ++ [y] = Q.take (pre ++ [y]).length := by
      have e : (pre ++ [y]).length = pre.length + 1 := by simp
      rw [e, List.take_add_one, hy, ← h4]
      rfl
    have cB := fun w => pb_better side price y.price w
    have hp500 : pre.length < 501 := by omega
    cases hby : bett side price y.price
    · rw [hby] at cB
      have hoc : ocs (pre ++ [y]) = ocs pre ++ (cOrd y).toList := by simp [ocs]
      have hlp : (pre ++ [y]).length = pre.length + 1 := by simp
      have hall : ∀ z ∈ pre ++ [y], bett side price z.price = false := fun z hz => by
        rcases List.mem_append.1 hz with hz | hz
        · exact h4' z hz
        · rw [List.mem_singleton] at hz; subst hz; exact hby
      have hend : ∀ ao' cap' ko' w8, OwG 44 7 w8 ko' ao' cap' (pre.length + 1) (ocs pre ++ (cOrd y).toList) → Frm (fun b => ko = some b) (A.alloc (.cells (cOrd y) 44)) w8 → Moved (A.alloc (.cells (cOrd y) 44)) ko ko' →
          (w8.cell? ⟨W.heap.size + 2, 0, none⟩ = some (.slice ao pre.length cap) ∧ w8.frozen? ⟨W.heap.size + 2, 0, none⟩ = false) ∧ ∀ aa, roundOutX (fun c => c = W.heap.size + 2) X (fun X pre A => ∃ ko ao cap, Blk A (W.heap.size + 2) 22 #[.slice ao pre.length cap] ∧ OwG 44 7 A ko ao cap pre.length (ocs pre) ∧ (∀ k, ko = some k → X k ∧ W.heap.size + 2 < k) ∧ pre = Q.take pre.length ∧ (∀ z ∈ pre, bett side price z.price = false) ∧ Frm (fun c => c = W.heap.size + 2 ∨ w3.heap.size ≤ c) w3 A) (fun c _ A => c = .exit 0 ∧ ∃ ko ao cap, Blk A (W.heap.size + 2) 22 #[.slice ao (wilL side price Q).length cap] ∧ OwG 44 7 A ko ao cap (wilL side price Q).length (ocs (wilL side price Q)) ∧ (∀ k, ko = some k → W.heap.size + 2 < k) ∧ Frm (fun c => c = W.heap.size + 2 ∨ w3.heap.size ≤ c) w3 A) (pre ++ [y]) A .normal aa (w8.setCell ⟨W.heap.size + 2, 0, none⟩ (.slice ao' (pre.length + 1) cap')) := by
        intro ao' cap' ko' w8 ho hf hm
        have hb8 := h1.alloc (.cells (cOrd y) 44)
        have hb9 := blk_frm hb8 hf (fun e => by have := (h3 _ e).2; omega)
        have hAw : A.heap.size ≤ w8.heap.size := by have := hf.size; rw [World.size_alloc] at this; omega
        have hfs : Frm (fun c => c = W.heap.size + 2 ∨ X c) A (w8.setCell ⟨W.heap.size + 2, 0, none⟩ (.slice ao' (pre.length + 1) cap')) := by
          have e1 : Frm (fun c => c = W.heap.size + 2 ∨ X c) A (A.alloc (.cells (cOrd y) 44)) := (Frm.refl _ _).alloc _
          exact (e1.trans hf (fun c e => .inl (.inr (h3 c e).1))).setCell _ _ (.inl (.inl rfl))
        have hsz : (w8.setCell ⟨W.heap.size + 2, 0, none⟩ (.slice ao' (pre.length + 1) cap')).heap.size = w8.heap.size := by simp [World.setCell]
        have hko : ∀ k, ko' = some k → (X k ∨ (A.heap.size ≤ k ∧ k < w8.heap.size)) ∧ W.heap.size + 2 < k := by
          intro k e
          subst e
          have hkl := ho.lt
          rcases hm with e | e | ⟨k2, e, e2⟩
          · cases e
          · have := h3 k e.symm
            exact ⟨.inl this.1, this.2⟩
          · cases e
            rw [World.size_alloc] at e2
            exact ⟨.inr ⟨by omega, hkl⟩, by omega⟩
        refine ⟨⟨hb9.cell_eq 0 _ rfl, hb9.free 0⟩, fun _ => ⟨hfs, fun c => X c ∨ (A.heap.size ≤ c ∧ c < w8.heap.size), fun c e => by rw [hsz]; exact e, ko', ao', cap', ?_, ?_, hko, hpre, hall, h5.trans hfs (fun c e => ?_)⟩⟩
        · rw [hlp]; exact hb9.set 0 _
        · rw [hoc, hlp]
          refine ho.frm (S := fun c => c = W.heap.size + 2) ((Frm.refl _ _).setCell _ _ (.inl rfl)) (fun k e => ?_)
          have := (hko k e).2
          omega
        · rcases e with e | e
          · exact .inl (.inl e)
          · have := (hX c e).1
            exact .inl (.inr (by omega))
      have hsrc : SrcG 7 (A.alloc (.cells (cOrd y) 44)) (some ⟨A.heap.size, 0, none⟩) 1 1 (cOrd y).toList := SrcG.row (cs := cOrd y) (Blk.new _ _ _) rfl (pOrd_one y)
      have hend := Lib.hid hend
      have h2' := h2.alloc (.cells (cOrd y) 44)
      clear h1 h2 h3 h4 h4' h5 hX hgood hy hbx hpre hoc hlp hall hfA hr hlo hl0 hseq hB1 hB2 hB3 hby
      obtain ⟨o0, o1, o2, o3, o4, o5, o6⟩ := y
      simp only at t0 t1 t2 t3 t4 t5 t6 cB
      gi_wp2_with (first
        | (gi_at_call 17; refine (callsIn_wide.2 (cB _)).mono ?_; rintro e w4 ⟨rfl, rfl⟩; clear cB)
        | (gi_at_builtin; refine wpListIn_appG rfl (.tmp 18) (.tmp 20) 22 44 i1 _ 7 56 Tryd.underlying22 hi1 hz1 hs1 hb1 rfl (by decide) rfl h2' hsrc rfl rfl (by omega) (by omega) ?_; intro ao' cap' ko' w8 ho hf8 hm8; obtain ⟨⟨c2', f2'⟩, hout⟩ := hend.out ao' cap' ko' w8 ho hf8 hm8; clear hend hsrc)
        | fail)
      exact hout _
    · rw [hby] at cB
      have hwl := wil_stop h4' hby h4 hy
      have hout : Hid (Frm (fun k => k = W.heap.size + 2 ∨ X k) A A ∧ ∃ ko ao cap, Blk A (W.heap.size + 2) 22 #[.slice ao (wilL side price Q).length cap] ∧ OwG 44 7 A ko ao cap (wilL side price Q).length (ocs (wilL side price Q)) ∧ (∀ k, ko = some k → W.heap.size + 2 < k) ∧ Frm (fun c => c = W.heap.size + 2 ∨ w3.heap.size ≤ c) w3 A) := Lib.hid ⟨Frm.refl _ _, ko, ao, cap, by rw [hwl]; exact h1, by rw [hwl]; exact h2, fun k e => (h3 k e).2, h5⟩
      clear h1 h2 h3 h4 h4' h5 hX hgood hy hbx hpre hfA hr hlo hl0 hseq hB1 hB2 hB3 hby hwl
      obtain ⟨o0, o1, o2, o3, o4, o5, o6⟩ := y
      simp only at t0 t1 t2 t3 t4 t5 t6 cB
      gi_wp2_with (first
        | (gi_at_call 17; refine (callsIn_wide.2 (cB _)).mono ?_; rintro e w4 ⟨rfl, rfl⟩; clear cB)
        | fail)
      exact ⟨hout.out.1, rfl, hout.out.2⟩
  case done =>
    rintro D ys X V hD hys ⟨ko, ao, cap, h1, h2, h3, h4, h4', h5⟩ hK
    have hQs : ys = Q := by rw [h4, hys, List.take_length]
    subst hQs
    have hwl := wil_all h4'
    have hK2 : W.heap.size + 2 < D := by have := hW3.out; omega
    have hbV : Below W.heap.size W V := hbW3.trans (h5.below hbW3.size (fun c e => by have := hW3.out; omega))
    have hP := Frm.put (S := fun b => b = D) V D (.deferred none) rfl
    have hfin : Below W.heap.size W (V.putObj D (.deferred none)) := hbV.trans (hP.below hbV.size (fun c e => by omega))
    have c3 := h1.cell_eq 0 _ rfl
    have hOo : OwG 44 7 (V.putObj D (.deferred none)) ko ao cap ys.length (ocs ys) := h2.frm hP (fun k e e' => by
      subst e'
      have := h2
      rw [e] at this
      exact absurd (this.isCells hK) (by decide))
    have hpost := Lib.hid (show ∃ ko' ao' cap', (Ending.returned (.slice ao ys.length cap) = .returned (.slice ao' (wilL side price ys).length cap')) ∧ OwG 44 7 (V.putObj D (.deferred none)) ko' ao' cap' (wilL side price ys).length (ocs (wilL side price ys)) ∧ (∀ k, ko' = some k → W.heap.size ≤ k) ∧ Below W.heap.size W (V.putObj D (.deferred none)) from ⟨ko, ao, cap, by rw [hwl], by rw [hwl]; exact hOo, fun k e => by have := (h3 k e).2; omega, hfin⟩)
    clear h1 h2 h3 h4 h4' h5 hbV hP hfin hOo hseq hys hwl hB1 hB2 hB3
    go_wp2_with fail
    refine ⟨by simp, .inl ⟨_, _, rfl, run_takeDeferred hK, ?_⟩⟩
    refine ⟨.slice ao ys.length cap, ?_, hpost.out⟩
    simp [results, Tryd.results23, go_sem]
  case stop =>
    rintro D c pre V hD hsp ⟨rfl, ko, ao, cap, h1, h2, h3, h5⟩ hK
    obtain ⟨ys, hys⟩ : ∃ ys, ys = wilL side price Q := ⟨_, rfl⟩
    rw [← hys] at h1 h2
    have hK2 : W.heap.size + 2 < D := by have := hW3.out; omega
    have hbV : Below W.heap.size W V := hbW3.trans (h5.below hbW3.size (fun c e => by have := hW3.out; omega))
    have hP := Frm.put (S := fun b => b = D) V D (.deferred none) rfl
    have hfin : Below W.heap.size W (V.putObj D (.deferred none)) := hbV.trans (hP.below hbV.size (fun c e => by omega))
    have c3 := h1.cell_eq 0 _ rfl
    have hOo : OwG 44 7 (V.putObj D (.deferred none)) ko ao cap ys.length (ocs ys) := h2.frm hP (fun k e e' => by
      subst e'
      have := h2
      rw [e] at this
      exact absurd (this.isCells hK) (by decide))
    have hpost := Lib.hid (show ∃ ko' ao' cap', (Ending.returned (.slice ao ys.length cap) = .returned (.slice ao' (wilL side price Q).length cap')) ∧ OwG 44 7 (V.putObj D (.deferred none)) ko' ao' cap' (wilL side price Q).length (ocs (wilL side price Q)) ∧ (∀ k, ko' = some k → W.heap.size ≤ k) ∧ Below W.heap.size W (V.putObj D (.deferred none)) from ⟨ko, ao, cap, by rw [hys], by rw [← hys]; exact hOo, fun k e => by have := h3 k e; omega, hfin⟩)
    clear h1 h2 h3 h5 hbV hP hfin hOo hseq hys hB1 hB2 hB3
    refine wpIn_wide.2 ?_
    go_wp2_with fail
    refine ⟨by simp, .inl ⟨_, _, rfl, run_takeDeferred hK, ?_⟩⟩
    refine ⟨.slice ao ys.length cap, ?_, hpost.out⟩
    simp [results, Tryd.results23, go_sem]
end
end Go.Proofs.YtdmjcjheanedgaaDoor
namespace Go.Proofs.YtdmjcjheanedgaaDoor
open Go.RowKit
set_option linter.unusedSimpArgs false
/-- A list of orders from a place of a block on. -/
def Cut (w : World) (k off : Nat) (X : List Ord) : Prop := ∃ cells, Blk w k 44 cells ∧ ∀ (i : Nat) (m : Ord), X[i]? = some m → ∀ (j : Nat) (v : Value), (cOrd m)[j]? = some v → cells[off + i * 7 + j]? = some v
structure LX (w : World) (ka : Option Nat) (ao : Option Addr) (cap : Nat) (X : List Ord) : Prop where
  len : X.length ≤ cap
  top : cap ≤ maxLen
  at' : X = [] ∨ ∃ k off, ka = some k ∧ ao = some ⟨k, off, none⟩ ∧ Cut w k off X
section
variable {w w' W : World} {k off : Nat} {x : Ord} {X : List Ord} {ka ko ao : Option Nat}
theorem Cut.cell (h : Cut w k off (x :: X)) (j : Nat) (v : Value) (hj : (cOrd x)[j]? = some v) : w.cell? ⟨k, off + j, none⟩ = some v := by
  obtain ⟨cells, hB, hc⟩ := h
  exact hB.cell_eq (off + j) v (by simpa using hc 0 x rfl j v hj)
theorem Cut.free (h : Cut w k off X) (n : Nat) : w.frozen? ⟨k, n, none⟩ = false := by
  obtain ⟨cells, hB, -⟩ := h
  exact hB.free n
theorem Cut.set4 (h : Cut w k off (x :: X)) (r : Int) : Cut (w.setCell ⟨k, off + 4, none⟩ (.int .i64 r)) k off ({ x with qty := r } :: X) := by
  obtain ⟨cells, hB, hc⟩ := h
  refine ⟨_, hB.set (off + 4) (.int .i64 r), fun i m hi j v hj => ?_⟩
  have h4 : (off + 4) < cells.size := by
    have := hc 0 x rfl 4 _ rfl
    rw [Nat.zero_mul, Nat.add_zero] at this
    exact (Array.getElem?_eq_some_iff.1 this).1
  rw [Array.getElem?_setIfInBounds]
  cases i with
  | zero =>
    obtain rfl : { x with qty := r } = m := by simpa using hi
    have h0 := hc 0 x rfl j
    rw [Nat.zero_mul, Nat.add_zero] at h0 ⊢
    have hlt : j < 7 := by
      have := (Array.getElem?_eq_some_iff.1 hj).1
      simpa [cOrd] using this
    by_cases e : j = 4
    · subst e
      rw [if_pos rfl, if_pos h4]
      exact hj
    · rw [if_neg (by omega)]
      refine h0 v ?_
      rw [← hj]
      rcases (by omega : j = 0 ∨ j = 1 ∨ j = 2 ∨ j = 3 ∨ j = 5 ∨ j = 6) with rfl | rfl | rfl | rfl | rfl | rfl <;> rfl
  | succ i =>
    rw [if_neg (by omega)]
    exact hc (i + 1) m (by simpa using hi) j v hj
theorem Cut.tail (h : Cut w k off (x :: X)) : Cut w k (off + 7) X := by
  obtain ⟨cells, hB, hc⟩ := h
  refine ⟨cells, hB, fun i m hi j v hj => ?_⟩
  have := hc (i + 1) m (by simpa using hi) j v hj
  rwa [show off + 7 + i * 7 + j = off + (i + 1) * 7 + j by omega]
theorem Cut.frm {S : Nat → Prop} (h : Cut w k off X) (hf : Frm S w w') (hk : ¬ S k) : Cut w' k off X := by
  obtain ⟨cells, hB, hc⟩ := h
  exact ⟨cells, blk_frm hB hf hk, hc⟩
theorem LX.frm {ao : Option Addr} {cap : Nat} {S : Nat → Prop} (h : LX w ka ao cap X) (hf : Frm S w w') (hk : ∀ k, ka = some k → ¬ S k) : LX w' ka ao cap X :=
  ⟨h.len, h.top, h.at'.imp id fun ⟨k, off, e1, e2, hc⟩ => ⟨k, off, e1, e2, hc.frm hf (hk k e1)⟩⟩
theorem LX.below {ao : Option Addr} {cap : Nat} (h : LX w ka ao cap X) (hb : Below w.heap.size w w') : LX w' ka ao cap X := h.frm (Frm.of_below (S := fun _ => False) hb) (fun _ _ f => f)
theorem LX.drew {ao : Option Addr} {cap : Nat} (h : LX w ka ao cap X) : LX w.drew ka ao cap X := h.below (Below.refl _ _).drew
/-- What is owned is cut. -/
theorem LX.of_own {ao : Option Addr} {cap : Nat} (h : OwG 44 7 w ka ao cap X.length (ocs X)) : LX w ka ao cap X := by
  refine ⟨h.len, h.top, ?_⟩
  by_cases h0 : X = []
  · exact .inl h0
  · refine .inr ?_
    rcases h.at' with ⟨_, _, h1⟩ | ⟨k, cur, e1, e2, h3, h4, h5⟩
    · have := h.len
      have : X.length = 0 := by omega
      exact absurd (List.eq_nil_of_length_eq_zero this) h0
    · refine ⟨k, 0, e1, e2, cur, h3, fun i m hi j v hj => ?_⟩
      have hO : Ords w ao cap X := Ords.of_own h
      rcases hO.at' with h6 | ⟨b, off, ha, hl⟩
      · exact absurd h6 h0
      · rw [e2] at ha
        cases ha
        have := hl i m hi j v hj
        rw [cell_of_row w k _ cur _ (0, 0) h3] at this
        exact this
/-- What is left of a list, as a slice. -/
theorem slice_one (n cap : Nat) (hn : n + 1 ≤ cap) (ht : cap ≤ maxLen) :
    ∃ ao2 cap2, (∀ w, (Instr.slice 22 (.slice (some ⟨k, off, none⟩) (n + 1) cap) (some (.int .i64 1)) none none).run Tryd.prog w = .ok (.slice ao2 n cap2) w) ∧ n ≤ cap2 ∧ cap2 ≤ maxLen ∧ (n = 0 ∨ ao2 = some ⟨k, off + 7, none⟩) := by
  have hu := Tryd.underlying22
  have hc : Tryd.prog.cellsOf 44 = 7 := cells_Ord
  unfold maxLen at ht
  by_cases h : cap = 1
  · subst h
    obtain rfl : n = 0 := by omega
    refine ⟨some ⟨k, off, none⟩, 0, fun w => ?_, Nat.le_refl _, Nat.zero_le _, .inl rfl⟩
    simp [go_sem, Instr.slice]
  · refine ⟨some ⟨k, off + 7, none⟩, cap - 1, fun w => ?_, by omega, by unfold maxLen; omega, .inr rfl⟩
    simp [go_sem, Instr.slice]
    try (rw [if_pos (by omega), if_neg h])
set_option maxRecDepth 8000 in
set_option maxHeartbeats 4000000 in
theorem cut_any {ao : Option Addr} {cap : Nat} (q : Int) (x : Ord) (X : List Ord) (q0 : 0 ≤ q) (q1 : q ≤ x.qty) (q2 : x.qty ≤ 4294967296) (h : LX W ka ao cap (x :: X)) : Calls Tryd.prog 24 #[.slice ao (X.length + 1) cap, .int .i64 q] W fun e w' => ∃ ao' cap', e = .returned (.slice ao' (cutO q x X).length cap') ∧ LX w' ka ao' cap' (cutO q x X) ∧ Frm (fun c => ka = some c) W w' := by
  obtain ⟨hl, ht, h0 | ⟨k, off, rfl, rfl, hC⟩⟩ := h
  · cases h0
  have c4 : W.cell? ⟨k, off + 4, none⟩ = some (.int .i64 x.qty) := hC.cell 4 _ rfl
  have f4 := hC.free (off + 4)
  have hC1 := hC.set4 (x.qty - q)
  have hF : Frm (fun c => some k = some c) W (W.setCell ⟨k, off + 4, none⟩ (.int .i64 (x.qty - q))) := (Frm.refl _ _).setCell _ _ (.inl rfl)
  obtain ⟨W1, hW1⟩ : ∃ W1, W1 = W.setCell ⟨k, off + 4, none⟩ (.int .i64 (x.qty - q)) := ⟨_, rfl⟩
  rw [← hW1] at hC1 hF
  have c5 : W1.cell? ⟨k, off + 4, none⟩ = some (.int .i64 (x.qty - q)) := hC1.cell 4 _ rfl
  obtain ⟨ao2, cap2, hS, s1, s2, s3⟩ := slice_one (k := k) (off := off) X.length cap hl ht
  have hpost : Hid (∃ ao' cap', (if x.qty - q = 0 then Ending.returned (.slice ao2 X.length cap2) else Ending.returned (.slice (some ⟨k, off, none⟩) (X.length + 1) cap)) = .returned (.slice ao' (cutO q x X).length cap') ∧ LX W1 (some k) ao' cap' (cutO q x X) ∧ Frm (fun c => some k = some c) W W1) := by
    refine Lib.hid ?_
    unfold cutO
    by_cases e : x.qty = q
    · rw [if_pos (by omega), if_pos e]
      refine ⟨ao2, cap2, rfl, ⟨s1, s2, ?_⟩, hF⟩
      rcases s3 with s3 | s3
      · exact .inl (List.eq_nil_of_length_eq_zero s3)
      · exact .inr ⟨k, off + 7, rfl, s3, hC1.tail⟩
    · rw [if_neg (by omega), if_neg e]
      exact ⟨_, cap, rfl, ⟨hl, ht, .inr ⟨k, off, rfl, rfl, hC1⟩⟩, hF⟩
  clear hC hC1 hF s1 s2 s3 hl ht
  obtain ⟨o0, o1, o2, o3, o4, o5, o6⟩ := x
  simp only at c4 c5 hW1 q1 q2 hpost
  obtain ⟨n, hn⟩ : ∃ n, n = X.length := ⟨_, rfl⟩
  rw [← hn] at hS hpost ⊢
  have hn0 : (0 : Int) < ((n + 1 : Nat) : Int) := by omega
  replace hn := Lib.hid hn
  by_cases e : o4 - q = 0
  · have hE : (o4 - q == 0) = true := by simp [e]
    rw [if_pos e] at hpost
    clear e
    go_enter Tryd.func24, Tryd.ntmps24
    go_wp2_with (first | (rw [← hW1]; clear hW1 c4 f4) | fail)
    go_ret
    exact hpost.out
  · have hE : (o4 - q == 0) = false := by simp [e]
    rw [if_neg e] at hpost
    clear e hS
    go_enter Tryd.func24, Tryd.ntmps24
    go_wp2_with (first | (rw [← hW1]; clear hW1 c4 f4) | fail)
    go_ret
    exact hpost.out
end
end Go.Proofs.YtdmjcjheanedgaaDoor
