/-
  The program's Make. (Written by gen/p_swv.py.)
  The program's Traded, execute, Apply.
  What the program's sweep answers: sw_reaches, sw_reaches_nil, sw_make, sw_traded, sw_apply.
-/
import Derived.Test.YtdpibjnlpdgdeaaDoorGSb
import Derived.Test.YtdpibjnlpdgdeaaDoorGSa
import Derived.Test.YtdpibjnlpdgdeaaDoorGZ
import Derived.Test.YtdpibjnlpdgdeaaDoorGK
namespace Go.Proofs.YtdpibjnlpdgdeaaDoor
open Go.RowKit
set_option linter.unusedSimpArgs false
attribute [local go_sem] Oper.semAt_some
attribute [local go_sem] wide_fn
/-- What the plan is in a round: its block, its fills' row. -/
structure MkB (A : World) (pb : Nat) (ko : Option Nat) (ao : Option Addr) (cap : Nat) (fs : List Fll) (left stop : Int) : Prop where
  blk : Blk A pb 37 #[.slice ao fs.length cap, .int .i64 left, .int .i64 stop]
  ow : OwG 43 4 A ko ao cap fs.length (fcs fs)
def MkI (w : World) (pb : Nat) (t : Tkr) (P : List Ord) (X : Nat → Prop) (pre : List Ord) (A : World) : Prop :=
  ∃ ko ao cap fs left, MkB A pb ko ao cap fs left 1 ∧ (∀ k, ko = some k → X k ∧ w.heap.size ≤ k) ∧ Frm (fun c => c = pb ∨ w.heap.size ≤ c) w A ∧ Hid (SwRun t P pre.length fs left)
def MkX (w : World) (pb : Nat) (t : Tkr) (P : List Ord) (A : World) : Prop :=
  ∃ ko ao cap fs left stop, MkB A pb ko ao cap fs left stop ∧ (∀ k, ko = some k → w.heap.size ≤ k) ∧ Frm (fun c => c = pb ∨ w.heap.size ≤ c) w A ∧ Hid (SwFin t P fs left stop)
theorem MkB.quiet {A B : World} {n0 pb : Nat} {ko : Option Nat} {ao : Option Addr} {cap : Nat} {fs : List Fll} {left stop : Int} (h : MkB A pb ko ao cap fs left stop) (hf : Frm (fun k => n0 ≤ k ∧ ∃ o, A.heap[k]? = some o ∧ o.isCells = false) A B) : MkB B pb ko ao cap fs left stop :=
  ⟨h.blk.quiet hf, h.ow.quiet hf⟩
section
variable {w4 A B : World} {pb n : Nat} {tt : Tkr} {P pre' : List Ord} {X : Nat → Prop} {ko : Option Nat} {fs : List Fll} {left' : Int} {y : Fll}
theorem mk_next (h3 : ∀ k, ko = some k → X k ∧ w4.heap.size ≤ k) (h4 : Frm (fun c => c = pb ∨ w4.heap.size ≤ c) w4 A)
    (hp : ∃ ko' ao' cap', Blk B pb 37 #[.slice ao' (fs.length + 1) cap', .int .i64 left', .int .i64 1] ∧ OwG 43 4 B ko' ao' cap' (fs.length + 1) (fcs (fs ++ [y])) ∧ (∀ k, ko' = some k → k ≠ pb ∧ (ko = some k ∨ A.heap.size ≤ k)) ∧ Frm (fun c => c = pb ∨ ko = some c) A B)
    (hr : SwRun tt P (n + 1) (fs ++ [y]) left') (hn : pre'.length = n + 1) : Frm (fun c => c = pb ∨ X c) A B ∧ ∃ X', Grw X X' A B ∧ MkI w4 pb tt P X' pre' B := by
  obtain ⟨ko', ao', cap', g1, g2, g3, g4⟩ := hp
  have hl : (fs ++ [y]).length = fs.length + 1 := by simp
  have hAs := h4.size
  refine ⟨g4.mono fun c _ e => e.imp id fun e => (h3 c e).1, fun c => X c ∨ (A.heap.size ≤ c ∧ c < B.heap.size), fun c e => e, ko', ao', cap', fs ++ [y], left', ⟨by rw [hl]; exact g1, by rw [hl]; exact g2⟩, fun k e => ?_, h4.trans g4 (fun c e => ?_), Lib.hid (by rw [hn]; exact hr)⟩
  · subst e
    rcases (g3 k rfl).2 with e | e
    · exact ⟨.inl (h3 k e).1, (h3 k e).2⟩
    · exact ⟨.inr ⟨e, g2.lt⟩, by omega⟩
  · rcases e with e | e
    · exact .inl (.inl e)
    · exact .inr (h3 c e).2
theorem mk_stop {ao : Option Addr} {cap : Nat} {left s0 : Int} (hw : pb < w4.heap.size) (h1 : MkB A pb ko ao cap fs left s0) (h3 : ∀ k, ko = some k → X k ∧ w4.heap.size ≤ k) (h4 : Frm (fun c => c = pb ∨ w4.heap.size ≤ c) w4 A) (s : Int) (hr : SwFin tt P fs left s) :
    Frm (fun c => c = pb ∨ X c) A (A.setCell ⟨pb, 2, none⟩ (.int .i64 s)) ∧ MkX w4 pb tt P (A.setCell ⟨pb, 2, none⟩ (.int .i64 s)) := by
  refine ⟨(Frm.refl _ _).setCell _ _ (.inl (.inl rfl)), ko, ao, cap, fs, left, s, ⟨h1.blk.set 2 _, h1.ow.keep fun k e => heap_othK _ _ _ (by have := (h3 k e).2; show k ≠ pb; omega)⟩, fun k e => (h3 k e).2, h4.setCell _ _ (.inl (.inl rfl)), Lib.hid hr⟩
theorem mk_last (hw : pb < w4.heap.size) (h3 : ∀ k, ko = some k → X k ∧ w4.heap.size ≤ k) (h4 : Frm (fun c => c = pb ∨ w4.heap.size ≤ c) w4 A)
    (hp : ∃ ko' ao' cap', Blk B pb 37 #[.slice ao' (fs.length + 1) cap', .int .i64 left', .int .i64 1] ∧ OwG 43 4 B ko' ao' cap' (fs.length + 1) (fcs (fs ++ [y])) ∧ (∀ k, ko' = some k → k ≠ pb ∧ (ko = some k ∨ A.heap.size ≤ k)) ∧ Frm (fun c => c = pb ∨ ko = some c) A B)
    (hr : SwFin tt P (fs ++ [y]) left' 3) : B.frozen? ⟨pb, 2, none⟩ = false ∧ B.cell? ⟨pb, 2, none⟩ = some (.int .i64 1) ∧ Frm (fun c => c = pb ∨ X c) A (B.setCell ⟨pb, 2, none⟩ (.int .i64 3)) ∧ MkX w4 pb tt P (B.setCell ⟨pb, 2, none⟩ (.int .i64 3)) := by
  obtain ⟨ko', ao', cap', g1, g2, g3, g4⟩ := hp
  have hl : (fs ++ [y]).length = fs.length + 1 := by simp
  have hAs := h4.size
  have hk : ∀ k, ko' = some k → w4.heap.size ≤ k := fun k e => by
    rcases (g3 k e).2 with e | e
    · exact (h3 k e).2
    · omega
  refine ⟨g1.free 2, g1.cell_eq 2 _ rfl, (g4.mono fun c _ e => e.imp id fun e => (h3 c e).1).setCell _ _ (.inl (.inl rfl)), ko', ao', cap', fs ++ [y], left', 3, ⟨by rw [hl]; exact g1.set 2 _, by rw [hl]; exact g2.keep fun k e => heap_othK _ _ _ (by have := hk k e; show k ≠ pb; omega)⟩, hk, (h4.trans g4 (fun c e => ?_)).setCell _ _ (.inl (.inl rfl)), Lib.hid hr⟩
  rcases e with e | e
  · exact .inl (.inl e)
  · exact .inr (h3 c e).2
/-- The plan is handed back. -/
theorem mk_end {w V : World} {rb D : Nat} {ao : Option Addr} {cap : Nat} {left s : Int} {T : TypeId} {u0 u1 u2 : Value} (hb : Below w.heap.size w w4) (hrw : w.heap.size ≤ rb) (hrp : rb ≠ pb) (hr4 : rb < w4.heap.size) (hpw : w.heap.size ≤ pb) (hp4 : pb < w4.heap.size) (hD : w4.heap.size ≤ D) (hR : Blk w4 rb T #[u0, u1, u2])
    (h1 : MkB V pb ko ao cap fs left s) (h2 : ∀ k, ko = some k → w4.heap.size ≤ k) (h4 : Frm (fun c => c = pb ∨ w4.heap.size ≤ c) w4 V) (hK : V.heap[D]? = some (.deferred (some []))) :
    (V.cell? ⟨rb, 0, none⟩ = some u0 ∧ V.cell? ⟨rb, 1, none⟩ = some u1 ∧ V.cell? ⟨rb, 2, none⟩ = some u2) ∧ (∀ i, V.frozen? ⟨rb, i, none⟩ = false) ∧
    Hid (∀ U U', U = ((V.setCell ⟨rb, 0, none⟩ (.slice ao fs.length cap)).setCell ⟨rb, 1, none⟩ (.int .i64 left)).setCell ⟨rb, 2, none⟩ (.int .i64 s) → U' = U.putObj D (.deferred none) →
      U.heap[D]? = some (.deferred (some [])) ∧ (U'.cell? ⟨rb, 0, none⟩ = some (.slice ao fs.length cap) ∧ U'.cell? ⟨rb, 1, none⟩ = some (.int .i64 left) ∧ U'.cell? ⟨rb, 2, none⟩ = some (.int .i64 s)) ∧ Flls U' ao cap fs ∧ (∀ c off s, ao = some ⟨c, off, s⟩ → w.heap.size ≤ c) ∧ Below w.heap.size w U') := by
  have hRV := blk_frm hR h4 (by omega)
  have hbs := hb.size
  refine ⟨three_cells hRV, hRV.free, Lib.hid ?_⟩
  rintro U U' rfl rfl
  have hlay := three_lay hRV (.slice ao fs.length cap) (.int .i64 left) (.int .i64 s)
  have hDr : D ≠ rb := by omega
  have hf : Frm (fun c => c = rb) V (((V.setCell ⟨rb, 0, none⟩ (.slice ao fs.length cap)).setCell ⟨rb, 1, none⟩ (.int .i64 left)).setCell ⟨rb, 2, none⟩ (.int .i64 s)) := (((Frm.refl (fun c => c = rb) V).setCell ⟨rb, 0, none⟩ _ (.inl rfl)).setCell ⟨rb, 1, none⟩ _ (.inl rfl)).setCell ⟨rb, 2, none⟩ _ (.inl rfl)
  have hDl := (Array.getElem?_eq_some_iff.1 hK).1
  have hKU := (hf.block D hDl hDr).trans hK
  have hP := Frm.put (S := fun b => b = D) (((V.setCell ⟨rb, 0, none⟩ (.slice ao fs.length cap)).setCell ⟨rb, 1, none⟩ (.int .i64 left)).setCell ⟨rb, 2, none⟩ (.int .i64 s)) D (.deferred none) rfl
  have hkne : ∀ k, ko = some k → k ≠ D ∧ k ≠ rb := fun k e => by
    subst e
    refine ⟨?_, by have := h2 k rfl; omega⟩
    rintro rfl
    exact absurd (h1.ow.isCells hK) (by decide)
  have hO2 := (h1.ow.frm hf fun k e => (hkne k e).2).frm hP fun k e => (hkne k e).1
  have hV : Below w.heap.size w V := hb.trans (h4.below hbs (fun c e => by omega))
  refine ⟨hKU, three_cells (blk_frm hlay hP (by omega)), Flls.of_own hO2, fun c off s e => ?_, ?_⟩
  · rcases h1.ow.at' with ⟨_, h0, _⟩ | ⟨k, cur, e1, h0, _⟩
    · rw [h0] at e; cases e
    · rw [h0] at e; cases e
      have := h2 c e1
      omega
  · have hVs := hV.size
    have hUs := hf.size
    exact (hV.trans (hf.below hVs (fun c e => by omega))).trans (hP.below (by omega) (fun c e => by omega))
end
section
variable {w w' W : World} {g k : Nat} {S T : Nat → Prop} {b : Bk}
theorem bk_none {b : Bk} (h : b.Ok) {s : Int} (hs : ¬ (s = 0 ∨ s = 1)) : bkOf b.L s = [] := by
  cases hq : bkOf b.L s with
  | nil => rfl
  | cons x q =>
    have hm := bkOf_mem.1 (show x ∈ bkOf b.L s by rw [hq]; exact List.mem_cons_self)
    have := (h.ok x hm.1).side
    rw [hm.2] at this
    exact absurd this hs
set_option maxRecDepth 100000 in
set_option maxHeartbeats 16000000 in
theorem make_less (t : Tkr) (hq : t.qty < 1) (h : PB w g S k b) : Calls Tryd.prog 9 #[.pointer (some ⟨g, 0, none⟩), vTkr t] w fun e w' => ∃ ao cap, e = .returned (.agg #[.slice ao (swm b t).fills.length cap, .int .i64 (swm b t).left, .int .i64 (swm b t).stop]) ∧ Flls w' ao cap (swm b t).fills ∧ (∀ c off s, ao = some ⟨c, off, s⟩ → w.heap.size ≤ c) ∧ Below w.heap.size w w' := by
  have hslt := h.lt
  have h2g := h.gl.two
  obtain ⟨w1, hw1⟩ : ∃ w1, w1 = (w.alloc (.cells (cTkr t) 39)).alloc (.cells #[.slice none 0 0, .int .i64 0, .int .i64 0] 37) := ⟨_, rfl⟩
  obtain ⟨w2, hw2⟩ : ∃ w2, w2 = w1.alloc (.cells #[.slice none 0 0, .int .i64 t.qty, .int .i64 1] 37) := ⟨_, rfl⟩
  have m1 : Mem w [(w.heap.size + 1, 37, #[.slice none 0 0, .int .i64 0, .int .i64 0]), (w.heap.size, 39, cTkr t)] w1 := by
    rw [hw1]
    exact ((Mem.start w).new _ _).new' _ _ (by simp)
  have hz1 : w1.heap.size = w.heap.size + 2 := by rw [hw1]; simp
  have hb12 : Below w1.heap.size w1 w2 := by rw [hw2]; exact (Below.refl _ _).alloc (Nat.le_refl _) _
  have hz2 : w2.heap.size = w.heap.size + 3 := by rw [hw2, World.size_alloc, hz1]
  have hPl : Blk w2 w1.heap.size 37 #[.slice none 0 0, .int .i64 t.qty, .int .i64 1] := by
    rw [hw2]; exact Blk.new _ _ _
  have m2 := m1.keep hb12
  have hTk := m2.blk w.heap.size 39 (cTkr t) (by simp)
  have hRs := m2.blk (w.heap.size + 1) 37 #[.slice none 0 0, .int .i64 0, .int .i64 0] (by simp)
  have hbl := m2.below
  obtain ⟨x0, x1, x2, x3, x4, x5, x6⟩ := seven_cells (m1.blk w.heap.size 39 (cTkr t) (by simp))
  obtain ⟨y0, y1, y2, y3, y4, y5, y6⟩ := seven_cells hTk
  clear m1 m2 hb12
  have dq : decide (t.qty < 1) = true := decide_eq_true hq
  have e0 : swm b t = ⟨[], t.qty, 1⟩ := by unfold swm; rw [if_pos (.inr hq)]
  rw [e0]
  obtain ⟨p0, p1, p2⟩ := three_cells hPl
  have hfr := hRs.free
  obtain ⟨z0, z1, z2⟩ := three_cells hRs
  have hlay := three_lay hRs (.slice none 0 0) (.int .i64 t.qty) (.int .i64 1)
  obtain ⟨q0, q1, q2⟩ := three_cells hlay
  have hfin := three_below hbl (b := w.heap.size + 1) (by omega) (.slice none 0 0) (.int .i64 t.qty) (.int .i64 1)
  clear hlay hPl hTk hRs h hq hz1 hz2 hslt h2g hbl e0
  obtain ⟨side, owner, lim, qty, ⟨lo, hi⟩, self⟩ := t
  simp only [cTkr, vTkr] at *
  go_enter Tryd.func9, Tryd.ntmps9
  go_wp2_with (first | (rw [← hw1]; clear hw1) | fail)
  go_step3
  go_wp2_with (first | (rw [← hw2]; clear hw2) | fail)
  rw [Exit.noGoto_ret]
  refine bodyPost_ret (v := .agg #[.slice none 0 0, .int .i64 qty, .int .i64 1]) ?_ rfl ?_
  rotate_left
  · exact ⟨none, 0, rfl, Flls.nil _, fun c off s e => (by cases e), hfin⟩
  simp [results, Tryd.results9, go_sem, q0, q1, q2]
set_option maxRecDepth 100000 in
set_option maxHeartbeats 16000000 in
theorem make_walk (t : Tkr) (hqt : In64 t.qty) (hq1 : 1 ≤ t.qty) (P : List Ord) (hP : P = bkOf b.L (opp t.side)) (h : PB w g S k b) : Calls Tryd.prog 9 #[.pointer (some ⟨g, 0, none⟩), vTkr t] w fun e w' => ∃ ao cap fs left stop, e = .returned (.agg #[.slice ao fs.length cap, .int .i64 left, .int .i64 (if left = 0 then 0 else stop)]) ∧ Flls w' ao cap fs ∧ (∀ c off s, ao = some ⟨c, off, s⟩ → w.heap.size ≤ c) ∧ SwFin t P fs left stop ∧ Below w.heap.size w w' := by
  have hslt := h.lt
  have h2g := h.gl.two
  obtain ⟨w1, hw1⟩ : ∃ w1, w1 = (w.alloc (.cells (cTkr t) 39)).alloc (.cells #[.slice none 0 0, .int .i64 0, .int .i64 0] 37) := ⟨_, rfl⟩
  obtain ⟨w2, hw2⟩ : ∃ w2, w2 = w1.alloc (.cells #[.slice none 0 0, .int .i64 t.qty, .int .i64 1] 37) := ⟨_, rfl⟩
  have m1 : Mem w [(w.heap.size + 1, 37, #[.slice none 0 0, .int .i64 0, .int .i64 0]), (w.heap.size, 39, cTkr t)] w1 := by
    rw [hw1]
    exact ((Mem.start w).new _ _).new' _ _ (by simp)
  have hz1 : w1.heap.size = w.heap.size + 2 := by rw [hw1]; simp
  have hb12 : Below w1.heap.size w1 w2 := by rw [hw2]; exact (Below.refl _ _).alloc (Nat.le_refl _) _
  have hz2 : w2.heap.size = w.heap.size + 3 := by rw [hw2, World.size_alloc, hz1]
  have hPl : Blk w2 w1.heap.size 37 #[.slice none 0 0, .int .i64 t.qty, .int .i64 1] := by
    rw [hw2]; exact Blk.new _ _ _
  have m2 := m1.keep hb12
  have hTk := m2.blk w.heap.size 39 (cTkr t) (by simp)
  have hRs := m2.blk (w.heap.size + 1) 37 #[.slice none 0 0, .int .i64 0, .int .i64 0] (by simp)
  have hbl := m2.below
  obtain ⟨x0, x1, x2, x3, x4, x5, x6⟩ := seven_cells (m1.blk w.heap.size 39 (cTkr t) (by simp))
  obtain ⟨y0, y1, y2, y3, y4, y5, y6⟩ := seven_cells hTk
  clear m1 m2 hb12
  replace hz1 := Lib.hid hz1
  replace hz2 := Lib.hid hz2
  have hPl5 : P.length ≤ 500 := by rw [hP]; exact pbkOf_le h.ok _
  have hPq : ∀ x ∈ P, 0 ≤ x.qty := fun x hx => by
    rw [hP] at hx
    have := (h.ok.ok x (bkOf_mem.1 hx).1).q1
    omega
  have cE := pb_eachx (opp t.side) (h.below hbl)
  rw [← hP] at cE
  have cO := fun w => opp_any t.side w
  have cW := fun (x : Ord) (w : World) => worse_any t.side x.price t.limit w
  have hpbS : ¬ S w1.heap.size := fun e => by have := hslt _ e; have := hz1.out; omega
  have hpb2 : 2 ≤ w1.heap.size := by
    have := hslt _ h.sg
    have := hz1.out
    omega
  clear hslt h2g h hP
  have dq : decide (t.qty < 1) = false := decide_eq_false (by omega)
  have hfinal : ∀ (fs : List Fll) (left stop : Int), SwFin t P fs left stop → SwFin t P fs left stop := fun _ _ _ h => h
  obtain ⟨tt, htt⟩ : ∃ tt, tt = t := ⟨_, rfl⟩
  have hst : Hid (SwRun tt P 0 [] t.qty) := Lib.hid (by rw [htt]; exact SwRun.start t P (by omega))
  have hpost : ∀ (e : Ending) (w' : World), (∃ ao cap fs left stop, e = .returned (.agg #[.slice ao fs.length cap, .int .i64 left, .int .i64 (if left = 0 then 0 else stop)]) ∧ Flls w' ao cap fs ∧ (∀ c off s, ao = some ⟨c, off, s⟩ → w.heap.size ≤ c) ∧ SwFin tt P fs left stop ∧ Below w.heap.size w w') → (∃ ao cap fs left stop, e = .returned (.agg #[.slice ao fs.length cap, .int .i64 left, .int .i64 (if left = 0 then 0 else stop)]) ∧ Flls w' ao cap fs ∧ (∀ c off s, ao = some ⟨c, off, s⟩ → w.heap.size ≤ c) ∧ SwFin t P fs left stop ∧ Below w.heap.size w w') := fun e w' h => by rw [← htt]; exact h
  refine Calls.mono ?_ hpost
  clear hpost hfinal
  replace htt := Lib.hid htt
  obtain ⟨side, owner, lim, qty, ⟨lo, hi⟩, self⟩ := t
  simp only at cE cO cW hq1 hqt dq x0 x1 x2 x3 x4 x5 x6 y0 y1 y2 y3 y4 y5 y6 hPl
  simp only [vTkr, cTkr] at *
  refine (callsIn_wide (n := 12)).1 ?_
  refine callsIn_of_wp_marks Tryd.func9 rfl trivial ?_ rfl
  simp only [Tryd.ntmps9, List.size_toArray, List.length_cons, List.length_nil, Nat.reduceAdd, Nat.reduceSub, Array.replicate_succ, Array.replicate_zero, List.push_toArray, List.append_toArray, List.nil_append, List.cons_append]
  refine wpIn_wide.2 ?_
  go_wp2_with (first | (rw [← hw1]; clear hw1) | fail)
  go_step3
  go_wp2_with (first
    | (rw [← hw2]; clear hw2)
    | fail)
  go_step3
  go_wp2_with (first
    | (go_at_call 20; refine (cO _).mono ?_; rintro e w3 ⟨rfl, hw3⟩; subst w3; clear cO)
    | (go_at_call 24; refine cE.mono ?_; rintro e w4 ⟨lb, rfl, hb4, hseq0⟩; clear cE)
    | fail)
  refine (wpIn_wide (n := 12)).1 ?_
  have hb4s := hb4.size
  have hpl := hPl.lt
  have hz1' := hz1.out
  have hz2' := hz2.out
  replace hPl := hPl.below hb4 hpl
  replace hTk := hTk.below hb4 hTk.lt
  replace hRs := hRs.below hb4 hRs.lt
  have hbl4 : Below w.heap.size w w4 := hbl.trans (hb4.mono hbl.size)
  obtain ⟨pb, hpb⟩ : ∃ pb, pb = w1.heap.size := ⟨_, rfl⟩
  rw [← hpb] at hPl hpl hpbS hpb2 hz1' ⊢
  have hp4 : pb < w4.heap.size := by omega
  have hpw : w.heap.size + 2 ≤ pb := by omega
  have hT4 : w.heap.size + 2 < w4.heap.size := by omega
  have hseq := hseq0 (12 - 1) (fun c => c = pb) (by omega) (fun c e => ⟨by omega, by omega, e ▸ hpbS⟩)
  clear hseq0 hpbS hpb2 hz1 hz2 hz1' hz2' hb4 hb4s hpl hbl hpb x0 x1 x2 x3 x4 x5 x6 y0 y1 y2 y3 y4 y5 y6
  refine range_law5x (F := Fence.wide) rfl (by omega) (gf := 47) (lb := lb) rfl trivial (goes_of Tryd.func47 (by kernel_rfl) rfl) (enc := encO) (fun _ => rfl) (fun c => c = pb) (fun c e => by omega) (G := goodO P) (goodO_put P) hseq
    (fun X pre A => MkI w4 pb tt P X pre A)
    (fun c pre A => c = .exit 0 ∧ MkX w4 pb tt P A)
    (fun X pre A B ⟨ko, ao, cap, fs, left, h1, h2, h3, h4⟩ hf => ⟨ko, ao, cap, fs, left, h1.quiet hf, h2, h3.trans hf (fun c e => .inl (.inr e.1)), h4⟩)
    (fun c pre A B ⟨h0, ko, ao, cap, fs, left, stop, h1, h2, h3, h4⟩ hf => ⟨h0, ko, ao, cap, fs, left, stop, h1.quiet hf, h2, h3.trans hf (fun c e => .inl (.inr e.1)), h4⟩)
    ⟨none, none, 0, [], qty, ⟨hPl, OwG.nil _ _ _⟩, (fun k e => by cases e), Frm.refl _ _, hst⟩
    ?a1 (fun y A => A.alloc (.cells (cOrd y) 45)) (fun y A => (Below.refl _ _).alloc (Nat.le_refl _) _) (fun _ _ _ h => h) ?assign ?body ?done ?stop
  case assign =>
    intro l' y V K hK
    simp only [encO]
    gi_wp2
    exact hK
  case body =>
    rintro l0 X pre x A0 A hl0 hr ⟨ko, ao, cap, fs, left, hM, h3, h4, h5⟩ hX hgood hlen hl1 hfA
    have hx : P[pre.length]? = some x := hgood
    have hbx := blk_frm (Blk.new A0 45 (cOrd x)) hfA (by omega)
    have hbt := blk_frm hTk h4 (by omega)
    obtain ⟨p0, p1, p2⟩ := three_cells hM.blk
    obtain ⟨y0, y1, y2, y3, y4, y5, y6⟩ := seven_cells hbt
    obtain ⟨z0, z1, z2, z3, z4, z5, z6⟩ := Ord.cells hbx
    have f2 := hM.blk.free 2
    have hcl : (pre ++ [x]).length = pre.length + 1 := by simp
    have hxq := hPq x (List.mem_of_getElem? hx)
    have hkp : ∀ k, ko = some k → k ≠ pb := fun k e => by have := (h3 k e).2; omega
    have hfl : fs.length ≤ 1000 := by have := h5.out.len; omega
    have h5l := h5.out.pos
    have h5g := h5.out.le
    have hts : tt.side = side ∧ tt.limit = lim ∧ tt.band.lo = lo ∧ tt.band.hi = hi ∧ tt.self = self ∧ tt.owner = owner ∧ tt.qty = qty := by rw [htt.out]; exact ⟨rfl, rfl, rfl, rfl, rfl, rfl, rfl⟩
    obtain ⟨s1, s2, s3, s4, s5, s6, s7⟩ := hts
    have hown : tt.own x = (self != 0 && x.owner == owner) := by unfold Tkr.own; rw [s5, s6]
    have cT0 := fun m (hm : m = min left x.qty) hw => trade_any x (W := A) (m := m) hM.blk hM.ow hkp hfl hm hw
    have cC := cancel_any x (W := A) hM.blk hM.ow hkp hfl
    have cWx := fun W => cW x W
    have hMX : ∀ s, SwFin tt P fs left s → Frm (fun c => c = pb ∨ X c) A (A.setCell ⟨pb, 2, none⟩ (.int .i64 s)) ∧ MkX w4 pb tt P (A.setCell ⟨pb, 2, none⟩ (.int .i64 s)) := fun s hs => mk_stop hp4 hM h3 h4 s hs
    have hMN : SwFin tt P fs left 1 → MkX w4 pb tt P A := fun hs => ⟨ko, ao, cap, fs, left, 1, hM, fun k e => (h3 k e).2, h4, Lib.hid hs⟩
    replace hMX := Lib.hid hMX
    replace hMN := Lib.hid hMN
    clear cW hgood hbx hbt hTk hRs hPl hst hseq hfA hr hl0 hM hPq hlen htt
    have hq4 := hMX
    by_cases e0 : left = 0
    · have hend := Lib.hid (hMN.out (h5.out.zero e0))
      clear hMX hMN hq4 h5 cT0 cC cWx h3 h4 hX s1 s2 s3 s4 s5 s6 s7 hown hxq hkp hfl hcl hx
      subst e0
      gi_wp2_with (first
          | (gi_at_call 21; refine (CallsIn.inRound l0 (callsIn_wide.2 (cWx _))).mono ?_; rintro e w2 ⟨rfl, hw2⟩; subst w2; clear cWx)
          | (gi_at_call 25; refine (CallsIn.inRound l0 (callsIn_wide.2 cT)).mono ?_; rintro e w3 ⟨rfl, hT3⟩; clear cT)
          | (gi_at_call 26; refine (CallsIn.inRound l0 (callsIn_wide.2 cC)).mono ?_; rintro e w3 ⟨rfl, hC3⟩; clear cC)
          | fail)
      exact ⟨Frm.refl _ _, rfl, hend.out⟩
    have d0 : (left == 0) = false := by simpa using e0
    cases hB : swo side x.price lim
    rotate_left
    · have hend := Lib.hid (hMN.out (h5.out.worse hx e0 (by rw [s1, s2]; exact hB)))
      rw [hB] at cWx
      clear hMX hMN hq4 h5 cT0 cC h3 h4 hX s1 s2 s3 s4 s5 s6 s7 hown hxq hkp hfl hcl hx hB e0
      obtain ⟨xi, xo, xs, xp, xq, xf, xe⟩ := x
      simp only at z0 z1 z2 z3 z4 z5 z6 cWx
      gi_wp2_with (first
          | (gi_at_call 21; refine (CallsIn.inRound l0 (callsIn_wide.2 (cWx _))).mono ?_; rintro e w2 ⟨rfl, hw2⟩; subst w2; clear cWx)
          | (gi_at_call 25; refine (CallsIn.inRound l0 (callsIn_wide.2 cT)).mono ?_; rintro e w3 ⟨rfl, hT3⟩; clear cT)
          | (gi_at_call 26; refine (CallsIn.inRound l0 (callsIn_wide.2 cC)).mono ?_; rintro e w3 ⟨rfl, hC3⟩; clear cC)
          | fail)
      exact ⟨Frm.refl _ _, rfl, hend.out⟩
    rw [hB] at cWx
    by_cases e2 : x.price < lo ∨ hi < x.price
    · have hend := Lib.hid (hMX.out 2 (h5.out.outside hx e0 (by rw [s1, s2]; exact hB) (by rw [s3, s4]; exact e2)))
      have dd : decide (x.price < lo) = true ∨ (decide (x.price < lo) = false ∧ decide (hi < x.price) = true) := by
        by_cases e : x.price < lo
        · exact .inl (decide_eq_true e)
        · exact .inr ⟨decide_eq_false e, decide_eq_true (by omega)⟩
      clear hMX hMN hq4 h5 cT0 cC h3 h4 hX s1 s2 s3 s4 s5 s6 s7 hown hxq hkp hfl hcl hx hB e0 e2
      obtain ⟨xi, xo, xs, xp, xq, xf, xe⟩ := x
      simp only at z0 z1 z2 z3 z4 z5 z6 cWx dd
      rcases dd with d1 | ⟨d1, d2⟩
      all_goals
        gi_wp2_with (first
          | (gi_at_call 21; refine (CallsIn.inRound l0 (callsIn_wide.2 (cWx _))).mono ?_; rintro e w2 ⟨rfl, hw2⟩; subst w2; clear cWx)
          | (gi_at_call 25; refine (CallsIn.inRound l0 (callsIn_wide.2 cT)).mono ?_; rintro e w3 ⟨rfl, hT3⟩; clear cT)
          | (gi_at_call 26; refine (CallsIn.inRound l0 (callsIn_wide.2 cC)).mono ?_; rintro e w3 ⟨rfl, hC3⟩; clear cC)
          | fail)
        exact ⟨hend.out.1, rfl, hend.out.2⟩
    have d1 : decide (x.price < lo) = false := decide_eq_false (by omega)
    have d2 : decide (hi < x.price) = false := decide_eq_false (by omega)
    cases hO : tt.own x
    · have dd : (self == 0) = true ∨ ((self == 0) = false ∧ (x.owner != owner) = true) := by
        rw [hO] at hown
        by_cases e : self = 0
        · exact .inl (by simpa using e)
        · refine .inr ⟨by simpa using e, ?_⟩
          have e' : (self != 0) = true := by simpa using e
          rw [e', Bool.true_and] at hown
          simpa using hown.symm
      have hrun := h5.out.trade hx hxq e0 (by rw [s1, s2]; exact hB) (by rw [s3, s4]; exact e2) hO
      have hmw : Hid (IntKind.i64.wrap (left - min left x.qty) = left - min left x.qty) := Lib.hid (by
        rw [IntKind.wrap_i64]
        unfold In64 at hqt
        omega)
      have cT := cT0 _ rfl hmw
      have hnx := fun B hp => mk_next (B := B) h3 h4 hp hrun hcl
      replace hnx := Lib.hid hnx
      clear hMX hMN hq4 h5 cT0 cC h3 h4 hX s1 s2 s3 s4 s5 s6 s7 hown hxq hkp hfl hcl hx hB e0 e2 hO hmw hrun
      generalize min left x.qty = m at *
      obtain ⟨xi, xo, xs, xp, xq, xf, xe⟩ := x
      simp only [vOrd] at z0 z1 z2 z3 z4 z5 z6 cWx dd cT d1 d2
      rcases dd with d3 | ⟨d3, d4⟩
      all_goals
        gi_wp2_with (first
          | (gi_at_call 21; refine (CallsIn.inRound l0 (callsIn_wide.2 (cWx _))).mono ?_; rintro e w2 ⟨rfl, hw2⟩; subst w2; clear cWx)
          | (gi_at_call 25; refine (CallsIn.inRound l0 (callsIn_wide.2 cT)).mono ?_; rintro e w3 ⟨rfl, hT3⟩; clear cT)
          | (gi_at_call 26; refine (CallsIn.inRound l0 (callsIn_wide.2 cC)).mono ?_; rintro e w3 ⟨rfl, hC3⟩; clear cC)
          | fail)
        exact hnx.out _ hT3
    have e3 : self ≠ 0 ∧ x.owner = owner := by
      rw [hO] at hown
      simpa using hown.symm
    obtain ⟨e3, e3'⟩ := e3
    have d3 : (self == 0) = false := by simpa using e3
    have d4 : (x.owner != owner) = false := by simpa using e3'
    by_cases e4 : self = 1
    · have hend := Lib.hid (hMX.out 3 (h5.out.own1 hx e0 (by rw [s1, s2]; exact hB) (by rw [s3, s4]; exact e2) hO (by rw [s5]; exact e4)))
      have d5 : (self == 1) = true := by simpa using e4
      clear hMX hMN hq4 h5 cT0 cC h3 h4 hX s1 s2 s3 s4 s5 s6 s7 hown hxq hkp hfl hcl hx hB e0 e2 hO e3 e3' e4
      obtain ⟨xi, xo, xs, xp, xq, xf, xe⟩ := x
      simp only at z0 z1 z2 z3 z4 z5 z6 cWx d1 d2 d4
      gi_wp2_with (first
          | (gi_at_call 21; refine (CallsIn.inRound l0 (callsIn_wide.2 (cWx _))).mono ?_; rintro e w2 ⟨rfl, hw2⟩; subst w2; clear cWx)
          | (gi_at_call 25; refine (CallsIn.inRound l0 (callsIn_wide.2 cT)).mono ?_; rintro e w3 ⟨rfl, hT3⟩; clear cT)
          | (gi_at_call 26; refine (CallsIn.inRound l0 (callsIn_wide.2 cC)).mono ?_; rintro e w3 ⟨rfl, hC3⟩; clear cC)
          | fail)
      exact ⟨hend.out.1, rfl, hend.out.2⟩
    have d5 : (self == 1) = false := by simpa using e4
    by_cases e5 : self = 3
    · have hrun := h5.out.own3 hx e0 (by rw [s1, s2]; exact hB) (by rw [s3, s4]; exact e2) hO (by rw [s5]; exact e5)
      have d6 : (self == 3) = true := by simpa using e5
      have hnx := fun B hp => mk_last (B := B) hp4 h3 h4 hp hrun
      replace hnx := Lib.hid hnx
      clear hMX hMN hq4 h5 cT0 h3 h4 hX s1 s2 s3 s4 s5 s6 s7 hown hxq hkp hfl hcl hx hB e0 e2 hO e3 e3' e4 e5 hrun f2
      obtain ⟨xi, xo, xs, xp, xq, xf, xe⟩ := x
      simp only [vOrd] at z0 z1 z2 z3 z4 z5 z6 cWx d1 d2 d4 cC
      gi_wp2_with (first
          | (gi_at_call 21; refine (CallsIn.inRound l0 (callsIn_wide.2 (cWx _))).mono ?_; rintro e w2 ⟨rfl, hw2⟩; subst w2; clear cWx)
          | (gi_at_call 26; refine (CallsIn.inRound l0 (callsIn_wide.2 cC)).mono ?_; rintro e w3 ⟨rfl, hC3⟩; clear cC; obtain ⟨g1, g2, hend⟩ := hnx.out _ hC3; replace hend := Lib.hid hend; clear hnx hC3)
          | fail)
      exact ⟨hend.out.1, rfl, hend.out.2⟩
    · have hrun := h5.out.skip hx e0 (by rw [s1, s2]; exact hB) (by rw [s3, s4]; exact e2) hO (by rw [s5]; exact e4) (by rw [s5]; exact e5)
      have d6 : (self == 3) = false := by simpa using e5
      have hnx := fun B hp => mk_next (B := B) h3 h4 hp hrun hcl
      replace hnx := Lib.hid hnx
      clear hMX hMN hq4 h5 cT0 h3 h4 hX s1 s2 s3 s4 s5 s6 s7 hown hxq hkp hfl hcl hx hB e0 e2 hO e3 e3' e4 e5 hrun
      obtain ⟨xi, xo, xs, xp, xq, xf, xe⟩ := x
      simp only [vOrd] at z0 z1 z2 z3 z4 z5 z6 cWx d1 d2 d4 cC
      gi_wp2_with (first
          | (gi_at_call 21; refine (CallsIn.inRound l0 (callsIn_wide.2 (cWx _))).mono ?_; rintro e w2 ⟨rfl, hw2⟩; subst w2; clear cWx)
          | (gi_at_call 25; refine (CallsIn.inRound l0 (callsIn_wide.2 cT)).mono ?_; rintro e w3 ⟨rfl, hT3⟩; clear cT)
          | (gi_at_call 26; refine (CallsIn.inRound l0 (callsIn_wide.2 cC)).mono ?_; rintro e w3 ⟨rfl, hC3⟩; clear cC)
          | fail)
      exact hnx.out _ hC3
  case done =>
    rintro D ys X V hD hys ⟨ko, ao, cap, fs, left, hM, h3, h4, h5⟩ hK
    have hf : SwFin tt P fs left 1 := by have := h5.out; rw [hys] at this; exact this.done
    have h3' : ∀ k, ko = some k → w4.heap.size ≤ k := fun k e => (h3 k e).2
    have hbs := hbl4.size
    have hend := fun (V' : World) (s : Int) (hM' : MkB V' pb ko ao cap fs left s) (h4' : Frm (fun c => c = pb ∨ w4.heap.size ≤ c) w4 V') (hK' : V'.heap[D]? = some (.deferred (some []))) => mk_end (rb := w.heap.size + 1) hbl4 (by omega) (by omega) (by omega) (by omega) hp4 hD hRs hM' h3' h4' hK'
    obtain ⟨p0, p1, p2⟩ := three_cells hM.blk
    have f2 := hM.blk.free 2
    by_cases e0 : left = 0
    · have hM2 : MkB (V.setCell ⟨pb, 2, none⟩ (.int .i64 0)) pb ko ao cap fs left 0 := ⟨hM.blk.set 2 _, hM.ow.keep fun k e => heap_othK _ _ _ (by have := h3' k e; show k ≠ pb; omega)⟩
      obtain ⟨⟨r0, r1, r2⟩, rf, hrest⟩ := hend _ 0 hM2 (h4.setCell _ _ (.inl (.inl rfl))) ((heap_othK _ _ _ (by show D ≠ pb; omega)).trans hK)
      obtain ⟨q0, q1, q2⟩ := three_cells hM2.blk
      clear hend hM2 hM h3 h4 hRs hTk hPl hst hseq hbl4 hbs hT4 hpw hp4 hqt hq1 h3'
      subst e0
      go_wp2_with fail
      obtain ⟨g1, ⟨g2, g3, g4⟩, g5, g6, g7⟩ := hrest.out _ _ rfl rfl
      refine ⟨by simp, .inl ⟨_, _, rfl, run_takeDeferred g1, ?_⟩⟩
      refine ⟨.agg #[.slice ao fs.length cap, .int .i64 0, .int .i64 0], ?_, ao, cap, fs, 0, _, rfl, g5, g6, hf, g7⟩
      simp [results, Tryd.results9, go_sem, g2, g3, g4]
    · have d0 : (left == 0) = false := by simpa using e0
      obtain ⟨⟨r0, r1, r2⟩, rf, hrest⟩ := hend _ _ hM h4 hK
      clear hend hM h3 h4 hRs hTk hPl hst hseq hbl4 hbs hT4 hpw hp4 hqt hq1 h3'
      go_wp2_with fail
      obtain ⟨g1, ⟨g2, g3, g4⟩, g5, g6, g7⟩ := hrest.out _ _ rfl rfl
      refine ⟨by simp, .inl ⟨_, _, rfl, run_takeDeferred g1, ?_⟩⟩
      refine ⟨.agg #[.slice ao fs.length cap, .int .i64 left, .int .i64 1], ?_, ao, cap, fs, left, 1, by rw [if_neg e0], g5, g6, hf, g7⟩
      simp [results, Tryd.results9, go_sem, g2, g3, g4]
  case stop =>
    rintro D c pre V hD hsp ⟨rfl, ko, ao, cap, fs, left, stop, hM, h3, h4, h5⟩ hK
    have hf : SwFin tt P fs left stop := h5.out
    have h3' : ∀ k, ko = some k → w4.heap.size ≤ k := h3
    have hbs := hbl4.size
    have hend := fun (V' : World) (s : Int) (hM' : MkB V' pb ko ao cap fs left s) (h4' : Frm (fun c => c = pb ∨ w4.heap.size ≤ c) w4 V') (hK' : V'.heap[D]? = some (.deferred (some []))) => mk_end (rb := w.heap.size + 1) hbl4 (by omega) (by omega) (by omega) (by omega) hp4 hD hRs hM' h3' h4' hK'
    obtain ⟨p0, p1, p2⟩ := three_cells hM.blk
    have f2 := hM.blk.free 2
    by_cases e0 : left = 0
    · have hM2 : MkB (V.setCell ⟨pb, 2, none⟩ (.int .i64 0)) pb ko ao cap fs left 0 := ⟨hM.blk.set 2 _, hM.ow.keep fun k e => heap_othK _ _ _ (by have := h3' k e; show k ≠ pb; omega)⟩
      obtain ⟨⟨r0, r1, r2⟩, rf, hrest⟩ := hend _ 0 hM2 (h4.setCell _ _ (.inl (.inl rfl))) ((heap_othK _ _ _ (by show D ≠ pb; omega)).trans hK)
      obtain ⟨q0, q1, q2⟩ := three_cells hM2.blk
      clear hend hM2 hM h3 h4 hRs hTk hPl hst hseq hbl4 hbs hT4 hpw hp4 hqt hq1 h3'
      subst e0
      refine wpIn_wide.2 ?_
      go_wp2_with fail
      obtain ⟨g1, ⟨g2, g3, g4⟩, g5, g6, g7⟩ := hrest.out _ _ rfl rfl
      refine ⟨by simp, .inl ⟨_, _, rfl, run_takeDeferred g1, ?_⟩⟩
      refine ⟨.agg #[.slice ao fs.length cap, .int .i64 0, .int .i64 0], ?_, ao, cap, fs, 0, _, rfl, g5, g6, hf, g7⟩
      simp [results, Tryd.results9, go_sem, g2, g3, g4]
    · have d0 : (left == 0) = false := by simpa using e0
      obtain ⟨⟨r0, r1, r2⟩, rf, hrest⟩ := hend _ _ hM h4 hK
      clear hend hM h3 h4 hRs hTk hPl hst hseq hbl4 hbs hT4 hpw hp4 hqt hq1 h3'
      refine wpIn_wide.2 ?_
      go_wp2_with fail
      obtain ⟨g1, ⟨g2, g3, g4⟩, g5, g6, g7⟩ := hrest.out _ _ rfl rfl
      refine ⟨by simp, .inl ⟨_, _, rfl, run_takeDeferred g1, ?_⟩⟩
      refine ⟨.agg #[.slice ao fs.length cap, .int .i64 left, .int .i64 stop], ?_, ao, cap, fs, left, stop, by rw [if_neg e0], g5, g6, hf, g7⟩
      simp [results, Tryd.results9, go_sem, g2, g3, g4]
theorem sw_make (t : Tkr) (ht : t.Fit) (h : PB w g S k b) : Calls Tryd.prog 9 #[.pointer (some ⟨g, 0, none⟩), vTkr t] w fun e w' => ∃ ao cap, e = .returned (.agg #[.slice ao (swm b t).fills.length cap, .int .i64 (swm b t).left, .int .i64 (swm b t).stop]) ∧ Flls w' ao cap (swm b t).fills ∧ (∀ c off s, ao = some ⟨c, off, s⟩ → w.heap.size ≤ c) ∧ Below w.heap.size w w' := by
  by_cases hq : t.qty < 1
  · exact make_less t hq h
  have he : swm b t = ⟨(swp t (bkOf b.L (opp t.side)) t.qty).1, (swp t (bkOf b.L (opp t.side)) t.qty).2.1, (swp t (bkOf b.L (opp t.side)) t.qty).2.2⟩ := by
    unfold swm
    by_cases hs : t.side = 0 ∨ t.side = 1
    · rw [if_neg (by omega), opp_side hs]
    · rw [if_pos (.inl (by omega)), opp_no hs, bk_none h.ok hs]
      unfold swp
      rw [if_neg (by omega)]
  rw [he]
  refine (make_walk t ht.qty (by omega) _ rfl h).mono ?_
  rintro e w' ⟨ao, cap, fs, left, stop, h1, h2, h3, h4, h5⟩
  obtain ⟨e1, e2, e3⟩ := h4.fills
  simp only [e1, e2, e3]
  exact ⟨ao, cap, h1, h2, h3, h5⟩
end
end Go.Proofs.YtdpibjnlpdgdeaaDoor
namespace Go.Proofs.YtdpibjnlpdgdeaaDoor
open Go.RowKit
set_option linter.unusedSimpArgs false
theorem trd_snoc (l : List Fll) (x : Fll) : trd (l ++ [x]) = trd l + (if x.gone then 0 else x.qty) := by
  induction l with
  | nil => simp [trd]
  | cons y l ih => simp only [List.cons_append, trd, ih]; omega
theorem trd_at {l : List Fll} {q : Nat} {x : Fll} (h : l[q]? = some x) : trd (l.take (q + 1)) = trd (l.take q) + (if x.gone then 0 else x.qty) := by
  rw [List.take_add_one, h]
  exact trd_snoc _ _
theorem Flls.frmS {S : Nat → Prop} {w w' : World} {ao : Option Addr} {cap : Nat} {l : List Fll} (h : Flls w ao cap l) (hf : Frm S w w') (hk : ∀ b off s, ao = some ⟨b, off, s⟩ → ¬ S b) : Flls w' ao cap l := by
  refine ⟨h.len, h.top, ?_⟩
  rcases h.at' with h0 | ⟨b, off, ha, hl⟩
  · exact .inl h0
  · refine .inr ⟨b, off, ha, fun i m hi j v hj => ?_⟩
    have hc := hl i m hi j v hj
    have hlt : b < w.heap.size := World.block_lt_of_cell? w ⟨b, off + i * 4 + j, none⟩ hc
    exact (World.cell?_of_block (a := ⟨b, off + i * 4 + j, none⟩) (hf.block b hlt (hk b off none ha))).trans hc
def swx (b : Bk) (x : Fll) : Int × Bk := if x.gone then ((b.remF x.id).2, b.rem x.id) else ((b.redF x.id x.qty).2, b.red x.id x.qty)
theorem swa_cons (b : Bk) (x : Fll) (l : List Fll) : swa b (x :: l) = if (swx b x).1 ≠ 0 then swx b x else swa (swx b x).2 l := by
  unfold swx
  cases hx : x.gone <;> simp [swa, hx]
theorem four_cells {w : World} {b : Nat} {T : TypeId} {u0 u1 u2 u3 : Value} (h : Blk w b T #[u0, u1, u2, u3]) : w.cell? ⟨b, 0, none⟩ = some u0 ∧ w.cell? ⟨b, 1, none⟩ = some u1 ∧ w.cell? ⟨b, 2, none⟩ = some u2 ∧ w.cell? ⟨b, 3, none⟩ = some u3 :=
  ⟨h.cell_eq 0 _ rfl, h.cell_eq 1 _ rfl, h.cell_eq 2 _ rfl, h.cell_eq 3 _ rfl⟩
section
variable {w w' W : World} {g k : Nat} {S T : Nat → Prop} {b : Bk}
set_option maxRecDepth 8000 in
set_option maxHeartbeats 4000000 in
theorem sw_traded {ao : Option Addr} {cap : Nat} {l : List Fll} (left stop : Int) (hL : Flls w ao cap l) (hb : ∀ n, 0 ≤ trd (l.take n) ∧ trd (l.take n) ≤ 9223372036854775807) : Calls Tryd.prog 11 #[.agg #[.slice ao l.length cap, .int .i64 left, .int .i64 stop]] w fun e w' => e = .returned (.int .i64 (trd l)) ∧ Below w.heap.size w w' := by
  obtain ⟨W1, hW1⟩ : ∃ W1, W1 = w.alloc (.cells #[.slice ao l.length cap, .int .i64 left, .int .i64 stop] 37) := ⟨_, rfl⟩
  have hb1 : Below w.heap.size w W1 := by rw [hW1]; exact (Below.refl _ _).alloc (Nat.le_refl _) _
  obtain ⟨p0, p1, p2⟩ := three_cells (T := 37) (show Blk W1 w.heap.size _ #[.slice ao l.length cap, .int .i64 left, .int .i64 stop] by rw [hW1]; exact Blk.new _ _ _)
  have hl1 := hL.len
  have hl2 := hL.top
  unfold maxLen at hl2
  have hlm0 : l.length ≤ 9223372036854775807 := by omega
  have hall : Hid (trd (l.take l.length) = trd l) := Lib.hid (by rw [List.take_length])
  have hz : trd (l.take 0) = 0 := rfl
  clear hl1 hl2
  obtain ⟨n, hn⟩ : ∃ n, n = l.length := ⟨_, rfl⟩
  rw [← hn] at hW1 p0 hlm0 ⊢
  have hlm := Lib.hid hlm0
  clear hlm0
  replace hn := Lib.hid hn
  go_enter Tryd.func11, Tryd.ntmps11
  go_wp2_with (rw [← hW1]; clear hW1)
  go_loopg [3, 11] n (fun j p3 p11 wr => ∃ (q : Nat) (t : Int), q + j = n ∧ p3 = .int .i64 t ∧ p11 = .int .i64 (q : Int) ∧ Hid (t = trd (l.take q)) ∧ Below w.heap.size w wr)
  case atStart => exact ⟨0, 0, by omega, rfl, rfl, Lib.hid hz.symm, hb1⟩
  case round =>
    clear hb1 p0 p1 p2 hz
    obtain ⟨q, t, hqj, rfl, rfl, ht, br⟩ := hrel
    by_cases hqn : q < n
    · obtain ⟨x, hx⟩ : ∃ x, l[q]? = some x := ⟨_, List.getElem?_eq_getElem (by rw [← hn.out]; exact hqn)⟩
      have hs := trd_at hx
      rw [← ht.out] at hs
      have h1 := hb q
      have h2 := hb (q + 1)
      rw [← ht.out] at h1
      obtain ⟨c0, off, rfl, y0, y1, y2, y3⟩ := (hL.below br).get hx
      replace y0 : wr.cell? ⟨c0, off + q * 4, none⟩ = some (.int .i64 x.id) := y0
      obtain ⟨wa, hwa⟩ : ∃ wa, wa = wr.alloc (.cells (cFll x) 43) := ⟨_, rfl⟩
      have hbwa : Below w.heap.size w wa := by rw [hwa]; exact br.alloc br.size _
      obtain ⟨z0, z1, z2, z3⟩ := four_cells (T := 43) (show Blk wa wr.heap.size _ (cFll x) by rw [hwa]; exact Blk.new _ _ _)
      have hql : (q : Int) < (n : Int) := by omega
      replace hqj := Lib.hid hqj
      obtain ⟨xi, xp, xq, xg⟩ := x
      simp only at y0 y1 y2 y3 z0 z1 z2 z3 hs
      simp only [cFll] at hwa
      clear hx
      cases xg
      · simp only [Bool.false_eq_true, if_false] at hs
        have cA := fun w => fadd_any t xq ⟨by omega, by omega⟩ ⟨by omega, by omega⟩ w
        rw [fit_yes ⟨by omega, by omega⟩] at cA
        have hs' : Hid (t + xq = trd (l.take (q + 1))) := Lib.hid hs.symm
        clear hs h1 h2
        go_wp2_with (first
          | (rw [← hwa]; clear hwa)
          | (go_at_call 27; refine (cA _).mono ?_; rintro e w2 ⟨rfl, hb2⟩; clear cA)
          | fail)
        go_roundg (n - (q + 1))
        case measure => have := hqj.out; omega
        case rel => have := hlm.out; exact ⟨q + 1, _, by have := hqj.out; omega, rfl, by refine congrArg _ ?_; unfold RowKit.wrap64; omega, hs', hbwa.trans (hb2.mono hbwa.size)⟩
      · simp only [if_true] at hs
        have hs' : Hid (t = trd (l.take (q + 1))) := Lib.hid (by rw [hs]; omega)
        clear hs h1 h2
        go_wp2_with (first
          | (rw [← hwa]; clear hwa)
          | fail)
        go_roundg (n - (q + 1))
        case measure => have := hqj.out; omega
        case rel => have := hlm.out; exact ⟨q + 1, _, by have := hqj.out; omega, rfl, by refine congrArg _ ?_; unfold RowKit.wrap64; omega, hs', hbwa⟩
    · have e : q = n := by have := hqj; omega
      subst e
      have hqn : ¬ (q : Int) < (q : Int) := by omega
      have ht2 : t = trd l := by
        rw [ht.out]
        have := hall.out
        rw [← hn.out] at this
        exact this
      clear hall hn ht hb hL
      go_wp2_with fail
      go_ret
      exact ⟨by first | rfl | rw [ht2], br⟩
set_option maxRecDepth 8000 in
set_option maxHeartbeats 4000000 in
theorem execute_any (x : Fll) (hx : x.Fit) (h : PB W g S k b) (hk : k < 100000) : Calls Tryd.prog 29 #[.agg #[.pointer (some ⟨g, 0, none⟩)], vFll x] W fun e w' => e = .returned (.int .i64 (swx b x).1) ∧ (∃ S', PB w' g S' (k + 1) (swx b x).2 ∧ ∀ c, S' c → S c ∨ W.heap.size ≤ c) ∧ Frm S W w' := by
  obtain ⟨W1, hW1⟩ : ∃ W1, W1 = (W.alloc (.cells #[.pointer (some ⟨g, 0, none⟩)] 70)).alloc (.cells (cFll x) 43) := ⟨_, rfl⟩
  have m1 : Mem W [(W.heap.size + 1, 43, cFll x), (W.heap.size, 70, #[.pointer (some ⟨g, 0, none⟩)])] W1 := by
    rw [hW1]
    exact ((Mem.start W).new _ _).new' _ _ (by simp)
  have c0 := (m1.blk W.heap.size 70 #[.pointer (some ⟨g, 0, none⟩)] (by simp)).cell_eq 0 _ rfl
  obtain ⟨z0, z1, z2, z3⟩ := four_cells (m1.blk (W.heap.size + 1) 43 (cFll x) (by simp))
  have hbl := m1.below
  have h1 := h.below hbl
  have fin : ∀ (b' : Bk) (w2 : World) (ro : Ord), ((∃ S', PB w2 g S' (k + 1) b' ∧ ∀ c, S' c → S c ∨ W1.heap.size ≤ c) ∧ Frm S W1 w2) → (∃ S', PB (w2.alloc (.cells (cOrd ro) 45)) g S' (k + 1) b' ∧ ∀ c, S' c → S c ∨ W.heap.size ≤ c) ∧ Frm S W (w2.alloc (.cells (cOrd ro) 45)) := by
    rintro b' w2 ro ⟨⟨S', g1, g2⟩, g3⟩
    have hs := hbl.size
    exact ⟨⟨S', g1.below ((Below.refl _ _).alloc (Nat.le_refl _) _), fun c e => (g2 c e).imp id (fun e => by omega)⟩, ((Frm.of_below hbl).trans g3 (fun c e => .inl e)).alloc _⟩
  have cR := pb_rem x.id hx.id h1 hk
  have cD := pb_red x.id x.qty hx.id hx.qty h1 hk
  unfold swx
  clear m1 h h1 hx
  obtain ⟨xi, xp, xq, xg⟩ := x
  simp only at z0 z1 z2 z3 cR cD
  simp only [vFll, cFll] at hW1 ⊢
  cases xg
  · simp only [Bool.false_eq_true, if_false]
    have fin2 := fun w2 => fin (b.red xi xq) w2 (b.redF xi xq).1
    clear fin cR
    generalize b.red xi xq = b' at *
    generalize (b.redF xi xq).2 = f at *
    obtain ⟨o0, o1, o2, o3, o4, o5, o6⟩ := (b.redF xi xq).1
    simp only [vOrd, cOrd] at cD fin2
    replace fin2 := Lib.hid fin2
    go_enter Tryd.func29, Tryd.ntmps29
    go_wp2_with (first
      | (rw [← hW1]; clear hW1)
      | (go_at_call 53; refine cD.mono ?_; rintro e w2 ⟨rfl, hq⟩; clear cD; have hq' := Lib.hid (fin2.out _ hq); clear fin2 hq)
      | fail)
    go_ret
    exact ⟨rfl, hq'.out⟩
  · simp only [if_true]
    have fin2 := fun w2 => fin (b.rem xi) w2 (b.remF xi).1
    clear fin cD
    generalize b.rem xi = b' at *
    generalize (b.remF xi).2 = f at *
    obtain ⟨o0, o1, o2, o3, o4, o5, o6⟩ := (b.remF xi).1
    simp only [vOrd, cOrd] at cR fin2
    replace fin2 := Lib.hid fin2
    go_enter Tryd.func29, Tryd.ntmps29
    go_wp2_with (first
      | (rw [← hW1]; clear hW1)
      | (go_at_call 52; refine cR.mono ?_; rintro e w2 ⟨rfl, hq⟩; clear cR; have hq' := Lib.hid (fin2.out _ hq); clear fin2 hq)
      | fail)
    go_ret
    exact ⟨rfl, hq'.out⟩
set_option maxRecDepth 8000 in
set_option maxHeartbeats 4000000 in
theorem sw_apply {ao : Option Addr} {cap : Nat} {l : List Fll} (left stop : Int) (h : PB w g S k b) (hk : k + l.length ≤ 100000) (hL : Flls w ao cap l) (hF : ∀ x ∈ l, x.Fit) (hS : ∀ c off s, ao = some ⟨c, off, s⟩ → ¬ S c) : Calls Tryd.prog 14 #[.pointer (some ⟨g, 0, none⟩), .agg #[.slice ao l.length cap, .int .i64 left, .int .i64 stop]] w fun e w' => e = .returned (.int .i64 (swa b l).1) ∧ (∃ S', PB w' g S' (k + l.length) (swa b l).2 ∧ ∀ c, S' c → S c ∨ w.heap.size ≤ c) ∧ Frm S w w' := by
  obtain ⟨W1, hW1⟩ : ∃ W1, W1 = w.alloc (.cells #[.slice ao l.length cap, .int .i64 left, .int .i64 stop] 37) := ⟨_, rfl⟩
  have hb1 : Below w.heap.size w W1 := by rw [hW1]; exact (Below.refl _ _).alloc (Nat.le_refl _) _
  obtain ⟨p0, p1, p2⟩ := three_cells (T := 37) (show Blk W1 w.heap.size _ #[.slice ao l.length cap, .int .i64 left, .int .i64 stop] by rw [hW1]; exact Blk.new _ _ _)
  have h1 := h.below hb1
  have hlm : Hid (l.length ≤ 100000) := Lib.hid (by omega)
  have hpost : ∀ (f : Int) (b' : Bk) (wr : World) (q : Nat), q ≤ l.length → (∃ S', PB wr g S' (k + q) b' ∧ ∀ c, S' c → S c ∨ w.heap.size ≤ c) → Frm S w wr → swa b l = (f, b') → (Ending.returned (.int .i64 f) = .returned (.int .i64 (swa b l).1) ∧ (∃ S', PB wr g S' (k + l.length) (swa b l).2 ∧ ∀ c, S' c → S c ∨ w.heap.size ≤ c) ∧ Frm S w wr) := by
    rintro f b' wr q hq ⟨S', g1, g2⟩ g3 e
    rw [e]
    exact ⟨rfl, ⟨S', g1.mono (by omega), g2⟩, g3⟩
  obtain ⟨R, hR⟩ : ∃ R, R = swa b l := ⟨_, rfl⟩
  rw [← hR] at hpost ⊢
  have hst : swa b (l.drop 0) = R := by rw [hR]; rfl
  clear hR
  obtain ⟨n, hn⟩ : ∃ n, n = l.length := ⟨_, rfl⟩
  rw [← hn] at hW1 p0 hpost hk hlm ⊢
  replace hn := Lib.hid hn
  replace hpost := Lib.hid hpost
  have hsw := h.lt
  go_enter Tryd.func14, Tryd.ntmps14
  go_wp2_with (rw [← hW1]; clear hW1)
  go_loopg [15] n (fun j p15 wr => ∃ (q : Nat) (b' : Bk) (S' : Nat → Prop), q + j = n ∧ p15 = .int .i64 (q : Int) ∧ PB wr g S' (k + q) b' ∧ (∀ c, S' c → S c ∨ w.heap.size ≤ c) ∧ Frm S w wr ∧ Hid (swa b' (l.drop q) = R))
  case atStart => exact ⟨0, b, S, by omega, rfl, h1, fun c e => .inl e, Frm.of_below hb1, Lib.hid hst⟩
  case round =>
    clear hb1 p0 p1 p2 h1 hst
    obtain ⟨q, b', S', hqj, rfl, hP, hS', hf, hres⟩ := hrel
    by_cases hqn : q < n
    · obtain ⟨x, hx⟩ : ∃ x, l[q]? = some x := ⟨_, List.getElem?_eq_getElem (by rw [← hn.out]; exact hqn)⟩
      have hdr : l.drop q = x :: l.drop (q + 1) := by
        obtain ⟨hh, e⟩ := List.getElem?_eq_some_iff.1 hx
        rw [List.drop_eq_getElem_cons hh, e]
      have hsw2 := hres.out
      rw [hdr, swa_cons] at hsw2
      have hxf := hF x (List.mem_of_getElem? hx)
      obtain ⟨c0, off, rfl, y0, y1, y2, y3⟩ := (hL.frmS hf hS).get hx
      replace y0 : wr.cell? ⟨c0, off + q * 4, none⟩ = some (.int .i64 x.id) := y0
      obtain ⟨wa, hwa⟩ : ∃ wa, wa = wr.alloc (.cells (cFll x) 43) := ⟨_, rfl⟩
      have hba : Below wr.heap.size wr wa := by rw [hwa]; exact (Below.refl _ _).alloc (Nat.le_refl _) _
      obtain ⟨z0, z1, z2, z3⟩ := four_cells (T := 43) (show Blk wa wr.heap.size _ (cFll x) by rw [hwa]; exact Blk.new _ _ _)
      have cX := execute_any x hxf (hP.below hba) (by omega)
      have hql : (q : Int) < (n : Int) := by omega
      have hstep : ∀ w2, ((∃ S2, PB w2 g S2 (k + q + 1) (swx b' x).2 ∧ ∀ c, S2 c → S' c ∨ wa.heap.size ≤ c) ∧ Frm S' wa w2) → ∃ S2, PB w2 g S2 (k + (q + 1)) (swx b' x).2 ∧ (∀ c, S2 c → S c ∨ w.heap.size ≤ c) ∧ Frm S w w2 := by
        rintro w2 ⟨⟨S2, g1, g2⟩, g3⟩
        have e1 := hf.size
        have e2 := hba.size
        refine ⟨S2, g1, fun c e => ?_, (hf.trans (Frm.of_below (S := fun _ => False) hba) (fun c e => e.elim)).trans g3 (fun c e => hS' c e)⟩
        rcases g2 c e with e | e
        · exact hS' c e
        · right; omega
      replace hqj := Lib.hid hqj
      replace hstep := Lib.hid hstep
      clear hP hS' hres hdr hxf hL hF hS hba hx hf h hsw
      obtain ⟨f, hff⟩ : ∃ f, f = (swx b' x).1 := ⟨_, rfl⟩
      rw [← hff] at cX hsw2
      obtain ⟨b2, hb2⟩ : ∃ b2, b2 = (swx b' x).2 := ⟨_, rfl⟩
      rw [← hb2] at cX hsw2 hstep
      have hsx : swx b' x = (f, b2) := by rw [hff, hb2]
      rw [hsx] at hsw2
      clear hff hb2 hsx
      obtain ⟨xi, xp, xq, xg⟩ := x
      simp only at y0 y1 y2 y3 z0 z1 z2 z3
      simp only [vFll, cFll] at hwa cX
      by_cases hf0 : f = 0
      · rw [if_neg (by simpa using hf0)] at hsw2
        subst hf0
        have hsw3 := Lib.hid hsw2
        clear hsw2
        go_wp2_with (first
          | (rw [← hwa]; clear hwa)
          | (go_at_call 29; refine cX.mono ?_; rintro e w2 ⟨rfl, hq⟩; clear cX; obtain ⟨S2, g1, g2, g3⟩ := hstep.out _ hq; clear hstep hq)
          | fail)
        go_roundg (n - (q + 1))
        case measure => have := hqj.out; omega
        case rel => have := hlm.out; exact ⟨q + 1, b2, S2, by have := hqj.out; omega, by go_num, g1, g2, g3, hsw3⟩
      · rw [if_pos (by simpa using hf0)] at hsw2
        have df : (f != 0) = true := by simpa using hf0
        have hsw3 := Lib.hid hsw2
        clear hsw2 hf0
        go_wp2_with (first
          | (rw [← hwa]; clear hwa)
          | (go_at_call 29; refine cX.mono ?_; rintro e w2 ⟨rfl, hq⟩; clear cX; obtain ⟨S2, g1, g2, g3⟩ := hstep.out _ hq; clear hstep hq)
          | fail)
        go_ret
        exact hpost.out f b2 w2 (q + 1) (by omega) ⟨S2, g1, g2⟩ g3 hsw3.out.symm
    · have e : q = n := by omega
      subst e
      have hqn : ¬ (q : Int) < (q : Int) := by omega
      have hend : R = (0, b') := by
        have := hres.out
        rw [hn.out, List.drop_length] at this
        rw [← this]
        rfl
      have hfin := Lib.hid (hpost.out 0 b' wr q (Nat.le_refl _) ⟨S', hP, hS'⟩ hf hend)
      clear hP hS' hf hres hend hpost hL hF hS h hsw
      go_wp2_with fail
      go_ret
      exact hfin.out
end
end Go.Proofs.YtdpibjnlpdgdeaaDoor

