/-
  The program's book and the document's, side by side. (Written by gen/p_bbo.py, as XBbo was; parted by hand.)
  Books of stage 14's law: some orders laid into the program's book and the document's. Nothing else.
  alive of stage 16's law.
-/
import Derived.Test.YtpadjlhleaboaaaGreatDoorGZ
import Derived.Test.YtpadjlhleaboaaaGreatDoorGJ
import Derived.Test.YtpadjlhleaboaaaGreatDoorGC
import Derived.Deep.LoopGhost
import Derived.IntWalk
import Derived.WalkMore
import Derived.Test.YtpadjlhleaboaaaGreatDoorGCf
import Derived.Test.YtpadjlhleaboaaaGreatDoorCvnq
namespace Go.Proofs.YtpadjlhleaboaaaGreatDoor
open Go.RowKit
set_option linter.unusedSimpArgs false
structure Bb (w0 : World) (S0 : Nat → Prop) (g r k : Nat) (b t : Bk) (w : World) : Prop where
  s2 : 2 ≤ w0.heap.size ∧ ∀ c, S0 c → 2 ≤ c
  frm : Frm S0 w0 w
  both : ∃ Sp Sr, PB w g Sp k b ∧ RK w r Sr t ∧ (∀ c, Sp c → ¬ Sr c) ∧ ∀ c, Sp c ∨ Sr c → S0 c ∨ w0.heap.size ≤ c
section
variable {w0 w w' W : World} {S0 : Nat → Prop} {g r k : Nat} {b b' t t' : Bk}
theorem two_of {n : Nat} {c : Nat} (h : 2 ≤ n ∧ ∀ c, S0 c → 2 ≤ c) (hc : S0 c ∨ n ≤ c) : 2 ≤ c := by
  rcases hc with e | e
  · exact h.2 c e
  · have := h.1; omega
theorem Bb.below (h : Bb w0 S0 g r k b t w) (hb : Below w.heap.size w w') : Bb w0 S0 g r k b t w' := by
  obtain ⟨Sp, Sr, h1, h2, h3, h4⟩ := h.both
  exact ⟨h.s2, h.frm.trans (Frm.of_below (S := fun _ => False) hb) (fun _ f => f.elim), Sp, Sr, h1.below hb, h2.below hb, h3, h4⟩
theorem Bb.mono (h : Bb w0 S0 g r k b t w) {m : Nat} (hk : k ≤ m) : Bb w0 S0 g r m b t w := by
  obtain ⟨Sp, Sr, h1, h2, h3, h4⟩ := h.both
  exact ⟨h.s2, h.frm, Sp, Sr, h1.mono hk, h2, h3, h4⟩
theorem Bb.ok (h : Bb w0 S0 g r k b t w) : b.Ok := by
  obtain ⟨Sp, Sr, h1, -⟩ := h.both
  exact h1.ok
theorem Bb.stepG {Sp Sr : Nat → Prop} {m : Nat} (hs : 2 ≤ w0.heap.size ∧ ∀ c, S0 c → 2 ≤ c) (hf0 : Frm S0 w0 w) (h2 : RK w r Sr t) (h3 : ∀ c, Sp c → ¬ Sr c) (h4 : ∀ c, Sp c ∨ Sr c → S0 c ∨ w0.heap.size ≤ c) (ha : ∃ S', PB w' g S' m b' ∧ ∀ c, S' c → Sp c ∨ w.heap.size ≤ c) (hf : Frm Sp w w') : Bb w0 S0 g r m b' t w' := by
  obtain ⟨S', h5, h6⟩ := ha
  refine ⟨hs, hf0.trans hf (fun c e => h4 c (.inl e)), S', Sr, h5, h2.frm hf h3, fun c e hr => ?_, fun c e => ?_⟩
  · rcases h6 c e with e' | e'
    · exact h3 c e' hr
    · have := h2.lt c hr; omega
  · rcases e with e | e
    · rcases h6 c e with e | e
      · exact h4 c (.inl e)
      · have := hf0.size; exact .inr (by omega)
    · exact h4 c (.inr e)
theorem Bb.doc {Sp Sr : Nat → Prop} (hs : 2 ≤ w0.heap.size ∧ ∀ c, S0 c → 2 ≤ c) (hf0 : Frm S0 w0 w) (h1 : PB w g Sp k b) (h3 : ∀ c, Sp c → ¬ Sr c) (h4 : ∀ c, Sp c ∨ Sr c → S0 c ∨ w0.heap.size ≤ c) (ha : ∃ S', RK w' r S' t' ∧ ∀ c, S' c → Sr c ∨ w.heap.size ≤ c) (hf : Frm Sr w w') : Bb w0 S0 g r k b t' w' := by
  obtain ⟨S', h5, h6⟩ := ha
  refine ⟨hs, hf0.trans hf (fun c e => h4 c (.inr e)), Sp, S', h1.frm hf (fun c e hr => h3 c hr e) (fun c e => two_of hs (h4 c (.inr e))), h5, fun c e hr => ?_, fun c e => ?_⟩
  · rcases h6 c hr with e' | e'
    · exact h3 c e e'
    · have := h1.lt c e; omega
  · rcases e with e | e
    · exact h4 c (.inl e)
    · rcases h6 c e with e | e
      · exact h4 c (.inr e)
      · have := hf0.size; exact .inr (by omega)
/-- Seen from a later world. -/
theorem Bb.sub {W1 : World} {S : Nat → Prop} (hs : 2 ≤ w0.heap.size ∧ ∀ c, S0 c → 2 ≤ c) (h : Frm S0 w0 W1) (h5 : ∀ c, S c → S0 c ∨ w0.heap.size ≤ c) (q : Bb W1 S g r k b t w) : Bb w0 S0 g r k b t w := by
  obtain ⟨Sp, Sr, k1, k2, k3, k4⟩ := q.both
  refine ⟨hs, h.trans q.frm h5, Sp, Sr, k1, k2, k3, fun c e => ?_⟩
  rcases k4 c e with e | e
  · exact h5 c e
  · have := h.size; exact .inr (by omega)
theorem Bb.blk (h : Bb w0 S0 g r k b t w) {c : Nat} {T : TypeId} {cs : Array Value} (hb : Blk w0 c T cs) (h2 : ¬ S0 c) : Blk w c T cs := (h.frm.block c hb.lt h2).trans hb
/-- As they stand. -/
theorem Bb.here (h : Bb w0 S0 g r k b t w) : ∃ S, Bb w S g r k b t w ∧ (∀ c, S c → c < w.heap.size) ∧ ∀ c, S c → S0 c ∨ w0.heap.size ≤ c := by
  obtain ⟨Sp, Sr, h1, h2, h3, h4⟩ := h.both
  have hsz := h.frm.size
  have hs2 := h.s2.1
  exact ⟨fun c => Sp c ∨ Sr c, ⟨⟨by omega, fun c e => two_of h.s2 (h4 c e)⟩, Frm.refl _ _, Sp, Sr, h1, h2, h3, fun c e => .inl e⟩, fun c e => by rcases e with e | e; exact h1.lt c e; exact h2.lt c e, h4⟩
/-- A box that is laid behind them stays as it is, whatever they do. -/
theorem Bb.box (h : Bb w0 S0 g r k b t w) (T : TypeId) (cs : Array Value) : ∃ W3 S, W3 = w.alloc (.cells cs T) ∧ Bb W3 S g r k b t W3 ∧ ∀ k' b' t' w', Bb W3 S g r k' b' t' w' → Blk w' w.heap.size T cs ∧ Bb w0 S0 g r k' b' t' w' := by
  obtain ⟨S, h1, h2, h3⟩ := h.here
  have hb : Below w.heap.size w (w.alloc (.cells cs T)) := (Below.refl _ _).alloc (Nat.le_refl _) _
  obtain ⟨Sp, Sr, h4, h5, h6, h7⟩ := h1.both
  have hsz := hb.size
  have hs2 := h1.s2
  refine ⟨_, S, rfl, ⟨⟨by omega, hs2.2⟩, Frm.refl _ _, Sp, Sr, h4.below hb, h5.below hb, h6, fun c e => ?_⟩, fun k' b' t' w' q => ⟨q.blk (Blk.new _ _ _) (fun e => by have := h2 _ e; omega), ?_⟩⟩
  · rcases h7 c e with e' | e'
    · exact .inl e'
    · have : c < w.heap.size := by
        rcases e with e | e
        · exact h4.lt c e
        · exact h5.lt c e
      omega
  · exact Bb.sub h.s2 (h.frm.trans (Frm.of_below (S := fun _ => False) hb) (fun _ f => f.elim)) h3 q
theorem bqAdd (h : Bb w0 S0 g r k b t w) (hk : k < 100000) {o : Ord} (ho : o.Fit) : Calls Tryz.prog 23 #[.pointer (some ⟨g, 0, none⟩), vOrd o] w fun e w' => e = .returned (.int .i64 (b.addF o)) ∧ Bb w0 S0 g r (k + 1) (b.add o) t w' := by
  obtain ⟨Sp, Sr, h1, h2, h3, h4⟩ := h.both
  exact (pb_add o ho h1 hk).mono fun e w' ⟨he, ha, hf⟩ => ⟨he, Bb.stepG h.s2 h.frm h2 h3 h4 ha hf⟩
theorem bqAddR (h : Bb w0 S0 g r k b t w) (ht : t.Ok) (o : Ord) : Calls Tryz.prog 24 #[.pointer (some ⟨r, 0, none⟩), vOrd o] w fun e w' => e = .returned (.int .i64 (t.addF o)) ∧ Bb w0 S0 g r k b (t.add o) w' := by
  obtain ⟨Sp, Sr, h1, h2, h3, h4⟩ := h.both
  have h5 := ht.len
  have h6 := ht.s2
  exact (kadd_any o h2 (by omega) (by omega)).mono fun e w' ⟨he, ha, hf⟩ => ⟨he, Bb.doc h.s2 h.frm h1 h3 h4 ha hf⟩
theorem bqGet (h : Bb w0 S0 g r k b t w) {d : Int} (hd : In64 d) : Calls Tryz.prog 51 #[.pointer (some ⟨g, 0, none⟩), .int .i64 d] w fun e w' => e = .returned (.tuple #[vOrd ((b.get d).getD .zero), .bool (b.get d).isSome]) ∧ Bb w0 S0 g r k b t w' := by
  obtain ⟨Sp, Sr, h1, h2, h3, h4⟩ := h.both
  exact (pb_get d hd h1).mono fun e w' ⟨he, hb⟩ => ⟨he, h.below hb⟩
end
end Go.Proofs.YtpadjlhleaboaaaGreatDoor
namespace Go.Proofs.YtpadjlhleaboaaaGreatDoor
open Go.RowKit
set_option linter.unusedSimpArgs false
/-- The book of some orders. -/
def bks (l : List Ord) : Bk := l.foldl Bk.add (Bk.new 60 60)
theorem bks_snoc {l : List Ord} {q : Nat} {o : Ord} (h : l[q]? = some o) : bks (l.take (q + 1)) = (bks (l.take q)).add o := by
  unfold bks
  rw [List.take_add_one, h]
  simp
theorem bks_all (l : List Ord) : bks (l.take l.length) = bks l := by rw [List.take_length]
theorem bks_ok {l : List Ord} (hF : ∀ m ∈ l, m.Fit) : (bks l).Ok := by
  unfold bks
  have h0 : (Bk.new 60 60).Ok := Bk.Ok.new (by omega) (by omega) (by omega) (by omega)
  generalize Bk.new 60 60 = b at *
  induction l generalizing b with
  | nil => exact h0
  | cons o l ih => exact ih (fun m hm => hF m (List.mem_cons_of_mem _ hm)) _ (h0.add (hF o List.mem_cons_self))
set_option maxRecDepth 8000 in
set_option maxHeartbeats 4000000 in
theorem books_any (ao : Option Addr) (cap : Nat) (l : List Ord) (W : World) (hG : Gl W) (hL : Ords W ao cap l) (hF : ∀ m ∈ l, m.Fit) (h60 : l.length ≤ 60) :
    Calls Tryz.prog 8 #[.slice ao l.length cap] W fun e w' => ∃ g r, e = .returned (.tuple #[.pointer (some ⟨g, 0, none⟩), .pointer (some ⟨r, 0, none⟩)]) ∧ Bb W (fun _ => False) g r l.length (bks l) (bks l) w' := by
  have c1 : Calls Tryz.prog 21 #[.int .i64 60, .int .i64 60] W _ := pb_new 60 60 (by omega) (by omega) (by omega) (by omega) W hG
  have c2 : ∀ w, Calls Tryz.prog 22 #[.int .i64 60, .int .i64 60] w _ := fun w => knew_any 60 60 (by omega) (by omega) (by omega) (by omega) w
  have h0 : bks (l.take 0) = Bk.new 60 60 := rfl
  have hl1 := hL.len
  rw [← h0] at c1 c2
  have hsn := fun q o (h : l[q]? = some o) => Lib.hid (bks_snoc h)
  have hall := Lib.hid (bks_all l)
  go_enter Tryz.func8, Tryz.ntmps8
  go_wp2_with (first
    | (go_at_call 21; refine c1.mono ?_; rintro e w1 ⟨g, Sp, rfl, hP, hb1, hSp⟩; clear c1)
    | (go_at_call 22; refine (c2 w1).mono ?_; rintro e w2 ⟨r, Sr, rfl, hR, hb2, hSr⟩; clear c2)
    | fail)
  have hPl := hP.lt
  have k0 : Bb W (fun _ => False) g r 0 (bks (l.take 0)) (bks (l.take 0)) w2 := ⟨⟨hG.two, fun _ f => f.elim⟩, Frm.of_below (hb1.trans (hb2.mono hb1.size)), Sp, Sr, hP.below hb2, hR, (fun b e e' => by have := hSr b e'; have := hPl b e; omega), fun b e => by
    right
    rcases e with e | e
    · exact hSp b e
    · have := hSr b e; have := hb1.size; omega⟩
  clear hP hR hb1 hb2 hSp hSr hPl
  go_loopg [8] l.length (fun j p8 wr => ∃ (q : Nat), q + j = l.length ∧ p8 = .int .i64 (q : Int) ∧ Bb W (fun _ => False) g r q (bks (l.take q)) (bks (l.take q)) wr)
  case atStart => exact ⟨0, by omega, rfl, k0⟩
  case round =>
    clear k0
    obtain ⟨q, hqj, rfl, k⟩ := hrel
    by_cases hj : q < l.length
    · obtain ⟨o, ho⟩ : ∃ o, l[q]? = some o := ⟨_, List.getElem?_eq_getElem hj⟩
      have hfit := hF o (List.mem_of_getElem? ho)
      have hK : ∀ k b t w, Bb W (fun _ => False) g r k b t w → ∃ c off, ao = some ⟨c, off, none⟩ ∧ w.cell? ⟨c, off + q * 7, none⟩ = some (.int .i64 o.id) ∧ w.cell? ⟨c, off + q * 7 + 1, none⟩ = some (.int .i64 o.owner) ∧ w.cell? ⟨c, off + q * 7 + 2, none⟩ = some (.int .i64 o.side) ∧ w.cell? ⟨c, off + q * 7 + 3, none⟩ = some (.int .i64 o.price) ∧ w.cell? ⟨c, off + q * 7 + 4, none⟩ = some (.int .i64 o.qty) ∧ w.cell? ⟨c, off + q * 7 + 5, none⟩ = some (.int .i64 o.flags) ∧ w.cell? ⟨c, off + q * 7 + 6, none⟩ = some (.int .i64 o.seq) := by
        intro k b t w h
        obtain ⟨c, off, h1, y0, y⟩ := (hL.below (h.frm.below (Nat.le_refl _) (fun _ f => f.elim))).get ho
        exact ⟨c, off, h1, y0, y⟩
      obtain ⟨c, off, rfl, y0, y1, y2, y3, y4, y5, y6⟩ := hK _ _ _ _ k
      have cA := bqAdd k (by omega) hfit
      have hok := k.ok
      have cR : ∀ w k' b', Bb W (fun _ => False) g r k' b' (bks (l.take q)) w → Calls Tryz.prog 24 #[.pointer (some ⟨r, 0, none⟩), vOrd o] w fun e w' => e = .returned (.int .i64 ((bks (l.take q)).addF o)) ∧ Bb W (fun _ => False) g r k' b' ((bks (l.take q)).add o) w' := fun w k' b' h => bqAddR h hok o
      have hs := (hsn q o ho).out
      rw [← hs] at cA cR
      generalize (bks (l.take q)).addF o = f at *
      obtain ⟨b2, hb2⟩ : ∃ b2, bks (l.take (q + 1)) = b2 := ⟨_, rfl⟩
      rw [hb2] at cA cR
      replace hb2 := Lib.hid hb2
      generalize bks (l.take q) = b1 at *
      have hql : (q : Int) < (l.length : Int) := by omega
      have hK2 : ∀ k b t w, Bb W (fun _ => False) g r k b t w → w.cell? ⟨c, off + q * 7, none⟩ = some (.int .i64 o.id) ∧ w.cell? ⟨c, off + q * 7 + 1, none⟩ = some (.int .i64 o.owner) ∧ w.cell? ⟨c, off + q * 7 + 2, none⟩ = some (.int .i64 o.side) ∧ w.cell? ⟨c, off + q * 7 + 3, none⟩ = some (.int .i64 o.price) ∧ w.cell? ⟨c, off + q * 7 + 4, none⟩ = some (.int .i64 o.qty) ∧ w.cell? ⟨c, off + q * 7 + 5, none⟩ = some (.int .i64 o.flags) ∧ w.cell? ⟨c, off + q * 7 + 6, none⟩ = some (.int .i64 o.seq) := fun k b t w h => by
        obtain ⟨c', off', h1, y⟩ := hK k b t w h
        cases h1
        exact y
      clear hK hs hsn hall hok hF hL ho hfit
      simp only [vOrd] at cA cR
      go_wp2_with (first
        | (go_at_call 23; (with_reducible refine cA.mono ?_); rintro e w6 ⟨rfl, k6⟩; clear cA y0 y1 y2 y3 y4 y5 y6; obtain ⟨y0, y1, y2, y3, y4, y5, y6⟩ := hK2 _ _ _ _ k6)
        | (go_at_call 24; (with_reducible refine (cR _ _ _ k6).mono ?_); rintro e w7 ⟨rfl, k7⟩; clear cR)
        | fail)
      go_roundg (l.length - (q + 1))
      case measure => omega
      case rel => exact ⟨q + 1, by omega, by go_num, by rw [hb2.out]; exact k7⟩
    · have e : q = l.length := by omega
      subst e
      rw [hall.out] at k
      clear hsn hall
      have hql : ¬ (l.length : Int) < (l.length : Int) := by omega
      go_wp2_with fail
      go_ret2
      exact ⟨g, r, rfl, k⟩
end Go.Proofs.YtpadjlhleaboaaaGreatDoor
namespace Go.Proofs.YtpadjlhleaboaaaGreatDoor
open Go.RowKit
set_option linter.unusedSimpArgs false
theorem eqIn_Pnc (a b : Pnt) (w : World) : (Op.equalIn 10000 31 (vPnt a) (vPnt b)).run Tryz.prog w = .ok (eqPnt a b) w := by
  have hu := Tryz.underlying31
  have hf : Tryz.prog.underlying 31 = some (.struct (Tryz.prog.fieldsOf 31)) := by rw [Program.fieldsOf, hu]
  have uint64 := Tryz.underlying2
  rw [show (10000 : Nat) = 9999 + 1 from rfl, run_equalIn_agg w 9999 _ _ _ hf (by kernel_rfl), Program.fieldsOf, hu]
  simp only [Op.eqFields]
  unfold eqPnt
  simp [go_sem, part]
  clear hu hf uint64
  simp only [Bool.and_assoc]
  exact eqPnt_step _ _ w (eqPnt_step _ _ w (eqPnt_last _ w))
theorem eql_Pnc (a b : Pnt) (w : World) : (binOp .eql 31 (vPnt a) (vPnt b)).run Tryz.prog w = .ok (.bool (eqPnt a b)) w := by
  rw [run_eql_struct, eqIn_Pnc]; rfl
theorem neq_Pnc (a b : Pnt) (w : World) : (binOp .neq 31 (vPnt a) (vPnt b)).run Tryz.prog w = .ok (.bool (!eqPnt a b)) w := by
  rw [run_neq_struct, eqIn_Pnc]; rfl
def oc1 : Ord := ⟨1, 0, 0, 10, 3, 0, 0⟩
def oc2 : Ord := ⟨2, 0, 1, 9, 2, 0, 0⟩
theorem oc_fit : oc1.Fit ∧ oc2.Fit := by
  refine ⟨⟨?_, ?_, ?_, ?_, ?_, ?_, ?_⟩, ⟨?_, ?_, ?_, ?_, ?_, ?_, ?_⟩⟩ <;> (unfold In64; simp only [oc1, oc2]; omega)
theorem oc_ex : (bks [oc1, oc2]).L = [oc1, oc2] := rfl
/-- A book's curve. -/
theorem bbOf {w0 w : World} {S0 : Nat → Prop} {g r k : Nat} {b t : Bk} (h : Bb w0 S0 g r k b t w) : Calls Tryz.prog 9 #[.pointer (some ⟨g, 0, none⟩)] w fun e w' => ∃ p, e = .returned (.pointer p) ∧ CvP w.heap.size w' p b.L ∧ Bb w0 S0 g r k b t w' ∧ Below w.heap.size w w' := by
  obtain ⟨Sp, Sr, h1, h2, -⟩ := h.both
  refine (cv_of h1).mono ?_
  rintro e w' ⟨p, he, hc, hb⟩
  exact ⟨p, he, hc, h.below hb, hb⟩
set_option maxRecDepth 8000 in
set_option maxHeartbeats 4000000 in
theorem alive16_any (W : World) (hG : Gl W) : Calls Tryz.prog 7 #[] W fun e w' => e = .returned (.bool true) ∧ Below W.heap.size W w' := by
  obtain ⟨f1, f2⟩ := oc_fit
  obtain ⟨W1, hW1⟩ : ∃ W1, W1 = W.alloc (.cells #[.int .i64 1, .int .i64 0, .int .i64 0, .int .i64 10, .int .i64 3, .int .i64 0, .int .i64 0, .int .i64 2, .int .i64 0, .int .i64 1, .int .i64 9, .int .i64 2, .int .i64 0, .int .i64 0] 50) := ⟨_, rfl⟩
  have hb1 : Below W.heap.size W W1 := by rw [hW1]; exact (Below.refl _ _).alloc (Nat.le_refl _) _
  have hB1 : Blk W1 W.heap.size 50 #[.int .i64 1, .int .i64 0, .int .i64 0, .int .i64 10, .int .i64 3, .int .i64 0, .int .i64 0, .int .i64 2, .int .i64 0, .int .i64 1, .int .i64 9, .int .i64 2, .int .i64 0, .int .i64 0] := by rw [hW1]; exact Blk.new _ _ _
  have hL : Ords W1 (some ⟨W.heap.size, 0, none⟩) 2 [oc1, oc2] := by
    refine ⟨by simp, by simp [maxLen], .inr ⟨_, _, rfl, fun i m hi j v hj => ?_⟩⟩
    rcases i with _ | _ | i
    · cases hi
      have hlt : j < 7 := (Array.getElem?_eq_some_iff.1 hj).1
      refine hB1.cell_eq _ _ ?_
      rcases j with _ | _ | _ | _ | _ | _ | _ | j <;> first | exact hj | omega
    · cases hi
      have hlt : j < 7 := (Array.getElem?_eq_some_iff.1 hj).1
      refine hB1.cell_eq _ _ ?_
      rcases j with _ | _ | _ | _ | _ | _ | _ | j <;> first | exact hj | omega
    · simp at hi
  have hFF : ∀ m ∈ [oc1, oc2], m.Fit := by
    intro m hm
    simp only [List.mem_cons, List.not_mem_nil, or_false] at hm
    rcases hm with rfl | rfl
    · exact f1
    · exact f2
  have cB : Calls Tryz.prog 8 #[.slice (some ⟨W.heap.size, 0, none⟩) 2 2] W1 _ := books_any _ _ [oc1, oc2] W1 (hG.below hb1) hL hFF (by simp)
  have cO : ∀ g r w, Bb W1 (fun _ => False) g r 2 (bks [oc1, oc2]) (bks [oc1, oc2]) w → Calls Tryz.prog 9 #[.pointer (some ⟨g, 0, none⟩)] w fun e w' => ∃ p, e = .returned (.pointer p) ∧ CvP w.heap.size w' p [oc1, oc2] ∧ Below W.heap.size W w' := by
    intro g r w h
    refine (bbOf h).mono ?_
    rintro e w' ⟨p, he, hc, h', -⟩
    exact ⟨p, he, hc, hb1.trans ((h'.frm.below (Nat.le_refl _) (fun _ f => f.elim)).mono hb1.size)⟩
  have cA := fun (x : Int) (B : Nat) (p : Option Addr) (w : World) (h : CvP B w p [oc1, oc2]) => cv_at x h
  have e9 : catL [oc1, oc2] 9 = ⟨9, 3, 2⟩ := rfl
  have e10 : catL [oc1, oc2] 10 = ⟨10, 3, 2⟩ := rfl
  have cA9 := cA 9
  have cA10 := cA 10
  rw [e9] at cA9
  rw [e10] at cA10
  have q9 := fun w => eql_Pnc ⟨9, 3, 2⟩ ⟨9, 3, 2⟩ w
  have q10 := fun w => eql_Pnc ⟨10, 3, 2⟩ ⟨10, 3, 2⟩ w
  rw [eqPnt_self] at q9 q10
  simp only [vPnt, cPnt] at q9 q10 cA9 cA10
  clear hB1 hL hFF f1 f2 cA e9 e10
  go_enter Tryz.func7, Tryz.ntmps7
  go_wp2_with (first
    | (go_at_call 8; rw [← hW1]; refine cB.mono ?_; rintro e w2 ⟨g, r, rfl, k2⟩; clear cB hW1; have cO2 := cO _ _ _ k2; clear cO)
    | (go_at_call 9; refine cO2.mono ?_; rintro e w3 ⟨p, rfl, hc3, hb3⟩; clear cO2)
    | (go_at_call 10; (with_reducible refine (cA9 _ _ _ hc3).mono ?_); rintro e w4 ⟨rfl, hb4⟩; clear cA9; have hc4 := hc3.below hb4; replace hb3 := hb3.trans (hb4.mono hb3.size))
    | (go_at_call 10; (with_reducible refine (cA10 _ _ _ hc4).mono ?_); rintro e w5 ⟨rfl, hb5⟩; clear cA10; replace hb3 := hb3.trans (hb5.mono hb3.size))
    | fail)
  go_ret
  exact ⟨rfl, hb3⟩
end Go.Proofs.YtpadjlhleaboaaaGreatDoor
