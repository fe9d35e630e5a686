/-
  The program's book and the document's, side by side. (Written by gen/p_bbo.py, as XBbo was; parted by hand.)
  Books of stage 14's law: some orders laid into the program's book and the document's. Nothing else.
-/
import Derived.Test.YtdmjcjheanedgaaDoorGZ
import Derived.Test.YtdmjcjheanedgaaDoorGJ
import Derived.Test.YtdmjcjheanedgaaDoorGC
import Derived.Deep.LoopGhost
import Derived.IntWalk
import Derived.WalkMore
namespace Go.Proofs.YtdmjcjheanedgaaDoor
open Go.RowKit
set_option linter.unusedSimpArgs false
structure Bb (w0 : World) (S0 : Nat → Prop) (g r k : Nat) (b t : Bk) (w : World) : Prop where
  s2 : 2 ≤ w0.heap.size ∧ ∀ c, S0 c → 2 ≤ c
  frm : Frm S0 w0 w
  both : ∃ Sp Sr, PB w g Sp k b ∧ RK w r Sr t ∧ (∀ c, Sp c → ¬ Sr c) ∧ ∀ c, Sp c ∨ Sr c → S0 c ∨ w0.heap.size ≤ c
section
variable {w0 w w' W : World} {S0 : Nat → Prop} {g r k : Nat} {b b' t t' : Bk}
theorem two_of {n : Nat} {c : Nat} (h : 2 ≤ n ∧ ∀ c, S0 c → 2 ≤ c) (hc : S0 c ∨ n ≤ c) : 2 ≤ c := by
  rcases hc with e | e
  · exact h.2 c e
  · have := h.1; omega
theorem Bb.below (h : Bb w0 S0 g r k b t w) (hb : Below w.heap.size w w') : Bb w0 S0 g r k b t w' := by
  obtain ⟨Sp, Sr, h1, h2, h3, h4⟩ := h.both
  exact ⟨h.s2, h.frm.trans (Frm.of_below (S := fun _ => False) hb) (fun _ f => f.elim), Sp, Sr, h1.below hb, h2.below hb, h3, h4⟩
theorem Bb.mono (h : Bb w0 S0 g r k b t w) {m : Nat} (hk : k ≤ m) : Bb w0 S0 g r m b t w := by
  obtain ⟨Sp, Sr, h1, h2, h3, h4⟩ := h.both
  exact ⟨h.s2, h.frm, Sp, Sr, h1.mono hk, h2, h3, h4⟩
theorem Bb.ok (h : Bb w0 S0 g r k b t w) : b.Ok := by
  obtain ⟨Sp, Sr, h1, -⟩ := h.both
  exact h1.ok
theorem Bb.stepG {Sp Sr : Nat → Prop} {m : Nat} (hs : 2 ≤ w0.heap.size ∧ ∀ c, S0 c → 2 ≤ c) (hf0 : Frm S0 w0 w) (h2 : RK w r Sr t) (h3 : ∀ c, Sp c → ¬ Sr c) (h4 : ∀ c, Sp c ∨ Sr c → S0 c ∨ w0.heap.size ≤ c) (ha : ∃ S', PB w' g S' m b' ∧ ∀ c, S' c → Sp c ∨ w.heap.size ≤ c) (hf : Frm Sp w w') : Bb w0 S0 g r m b' t w' := by
  obtain ⟨S', h5, h6⟩ := ha
  refine ⟨hs, hf0.trans hf (fun c e => h4 c (.inl e)), S', Sr, h5, h2.frm hf h3, fun c e hr => ?_, fun c e => ?_⟩
  · rcases h6 c e with e' | e'
    · exact h3 c e' hr
    · have := h2.lt c hr; omega
  · rcases e with e | e
    · rcases h6 c e with e | e
      · exact h4 c (.inl e)
      · have := hf0.size; exact .inr (by omega)
    · exact h4 c (.inr e)
theorem Bb.doc {Sp Sr : Nat → Prop} (hs : 2 ≤ w0.heap.size ∧ ∀ c, S0 c → 2 ≤ c) (hf0 : Frm S0 w0 w) (h1 : PB w g Sp k b) (h3 : ∀ c, Sp c → ¬ Sr c) (h4 : ∀ c, Sp c ∨ Sr c → S0 c ∨ w0.heap.size ≤ c) (ha : ∃ S', RK w' r S' t' ∧ ∀ c, S' c → Sr c ∨ w.heap.size ≤ c) (hf : Frm Sr w w') : Bb w0 S0 g r k b t' w' := by
  obtain ⟨S', h5, h6⟩ := ha
  refine ⟨hs, hf0.trans hf (fun c e => h4 c (.inr e)), Sp, S', h1.frm hf (fun c e hr => h3 c hr e) (fun c e => two_of hs (h4 c (.inr e))), h5, fun c e hr => ?_, fun c e => ?_⟩
  · rcases h6 c hr with e' | e'
    · exact h3 c e e'
    · have := h1.lt c e; omega
  · rcases e with e | e
    · exact h4 c (.inl e)
    · rcases h6 c e with e | e
      · exact h4 c (.inr e)
      · have := hf0.size; exact .inr (by omega)
/-- Seen from a later world. -/
theorem Bb.sub {W1 : World} {S : Nat → Prop} (hs : 2 ≤ w0.heap.size ∧ ∀ c, S0 c → 2 ≤ c) (h : Frm S0 w0 W1) (h5 : ∀ c, S c → S0 c ∨ w0.heap.size ≤ c) (q : Bb W1 S g r k b t w) : Bb w0 S0 g r k b t w := by
  obtain ⟨Sp, Sr, k1, k2, k3, k4⟩ := q.both
  refine ⟨hs, h.trans q.frm h5, Sp, Sr, k1, k2, k3, fun c e => ?_⟩
  rcases k4 c e with e | e
  · exact h5 c e
  · have := h.size; exact .inr (by omega)
theorem Bb.blk (h : Bb w0 S0 g r k b t w) {c : Nat} {T : TypeId} {cs : Array Value} (hb : Blk w0 c T cs) (h2 : ¬ S0 c) : Blk w c T cs := (h.frm.block c hb.lt h2).trans hb
/-- As they stand. -/
theorem Bb.here (h : Bb w0 S0 g r k b t w) : ∃ S, Bb w S g r k b t w ∧ (∀ c, S c → c < w.heap.size) ∧ ∀ c, S c → S0 c ∨ w0.heap.size ≤ c := by
  obtain ⟨Sp, Sr, h1, h2, h3, h4⟩ := h.both
  have hsz := h.frm.size
  have hs2 := h.s2.1
  exact ⟨fun c => Sp c ∨ Sr c, ⟨⟨by omega, fun c e => two_of h.s2 (h4 c e)⟩, Frm.refl _ _, Sp, Sr, h1, h2, h3, fun c e => .inl e⟩, fun c e => by rcases e with e | e; exact h1.lt c e; exact h2.lt c e, h4⟩
/-- A box that is laid behind them stays as it is, whatever they do. -/
theorem Bb.box (h : Bb w0 S0 g r k b t w) (T : TypeId) (cs : Array Value) : ∃ W3 S, W3 = w.alloc (.cells cs T) ∧ Bb W3 S g r k b t W3 ∧ ∀ k' b' t' w', Bb W3 S g r k' b' t' w' → Blk w' w.heap.size T cs ∧ Bb w0 S0 g r k' b' t' w' := by
  obtain ⟨S, h1, h2, h3⟩ := h.here
  have hb : Below w.heap.size w (w.alloc (.cells cs T)) := (Below.refl _ _).alloc (Nat.le_refl _) _
  obtain ⟨Sp, Sr, h4, h5, h6, h7⟩ := h1.both
  have hsz := hb.size
  have hs2 := h1.s2
  refine ⟨_, S, rfl, ⟨⟨by omega, hs2.2⟩, Frm.refl _ _, Sp, Sr, h4.below hb, h5.below hb, h6, fun c e => ?_⟩, fun k' b' t' w' q => ⟨q.blk (Blk.new _ _ _) (fun e => by have := h2 _ e; omega), ?_⟩⟩
  · rcases h7 c e with e' | e'
    · exact .inl e'
    · have : c < w.heap.size := by
        rcases e with e | e
        · exact h4.lt c e
        · exact h5.lt c e
      omega
  · exact Bb.sub h.s2 (h.frm.trans (Frm.of_below (S := fun _ => False) hb) (fun _ f => f.elim)) h3 q
theorem bqAdd (h : Bb w0 S0 g r k b t w) (hk : k < 100000) {o : Ord} (ho : o.Fit) : Calls Tryd.prog 21 #[.pointer (some ⟨g, 0, none⟩), vOrd o] w fun e w' => e = .returned (.int .i64 (b.addF o)) ∧ Bb w0 S0 g r (k + 1) (b.add o) t w' := by
  obtain ⟨Sp, Sr, h1, h2, h3, h4⟩ := h.both
  exact (pb_add o ho h1 hk).mono fun e w' ⟨he, ha, hf⟩ => ⟨he, Bb.stepG h.s2 h.frm h2 h3 h4 ha hf⟩
theorem bqAddR (h : Bb w0 S0 g r k b t w) (ht : t.Ok) (o : Ord) : Calls Tryd.prog 22 #[.pointer (some ⟨r, 0, none⟩), vOrd o] w fun e w' => e = .returned (.int .i64 (t.addF o)) ∧ Bb w0 S0 g r k b (t.add o) w' := by
  obtain ⟨Sp, Sr, h1, h2, h3, h4⟩ := h.both
  have h5 := ht.len
  have h6 := ht.s2
  exact (kadd_any o h2 (by omega) (by omega)).mono fun e w' ⟨he, ha, hf⟩ => ⟨he, Bb.doc h.s2 h.frm h1 h3 h4 ha hf⟩
end
end Go.Proofs.YtdmjcjheanedgaaDoor
namespace Go.Proofs.YtdmjcjheanedgaaDoor
open Go.RowKit
set_option linter.unusedSimpArgs false
/-- The book of some orders. -/
def bks (l : List Ord) : Bk := l.foldl Bk.add (Bk.new 60 60)
theorem bks_snoc {l : List Ord} {q : Nat} {o : Ord} (h : l[q]? = some o) : bks (l.take (q + 1)) = (bks (l.take q)).add o := by
  unfold bks
  rw [List.take_add_one, h]
  simp
theorem bks_all (l : List Ord) : bks (l.take l.length) = bks l := by rw [List.take_length]
theorem bks_ok {l : List Ord} (hF : ∀ m ∈ l, m.Fit) : (bks l).Ok := by
  unfold bks
  have h0 : (Bk.new 60 60).Ok := Bk.Ok.new (by omega) (by omega) (by omega) (by omega)
  generalize Bk.new 60 60 = b at *
  induction l generalizing b with
  | nil => exact h0
  | cons o l ih => exact ih (fun m hm => hF m (List.mem_cons_of_mem _ hm)) _ (h0.add (hF o List.mem_cons_self))
set_option maxRecDepth 8000 in
set_option maxHeartbeats 4000000 in
theorem books_any (ao : Option Addr) (cap : Nat) (l : List Ord) (W : World) (hG : Gl W) (hL : Ords W ao cap l) (hF : ∀ m ∈ l, m.Fit) (h60 : l.length ≤ 60) :
    Calls Tryd.prog 7 #[.slice ao l.length cap] W fun e w' => ∃ g r, e = .returned (.tuple #[.pointer (some ⟨g, 0, none⟩), .pointer (some ⟨r, 0, none⟩)]) ∧ Bb W (fun _ => False) g r l.length (bks l) (bks l) w' := by
  have c1 : Calls Tryd.prog 19 #[.int .i64 60, .int .i64 60] W _ := pb_new 60 60 (by omega) (by omega) (by omega) (by omega) W hG
  have c2 : ∀ w, Calls Tryd.prog 20 #[.int .i64 60, .int .i64 60] w _ := fun w => knew_any 60 60 (by omega) (by omega) (by omega) (by omega) w
  have h0 : bks (l.take 0) = Bk.new 60 60 := rfl
  have hl1 := hL.len
  rw [← h0] at c1 c2
  have hsn := fun q o (h : l[q]? = some o) => Lib.hid (bks_snoc h)
  have hall := Lib.hid (bks_all l)
  go_enter Tryd.func7, Tryd.ntmps7
  go_wp2_with (first
    | (go_at_call 19; refine c1.mono ?_; rintro e w1 ⟨g, Sp, rfl, hP, hb1, hSp⟩; clear c1)
    | (go_at_call 20; refine (c2 w1).mono ?_; rintro e w2 ⟨r, Sr, rfl, hR, hb2, hSr⟩; clear c2)
    | fail)
  have hPl := hP.lt
  have k0 : Bb W (fun _ => False) g r 0 (bks (l.take 0)) (bks (l.take 0)) w2 := ⟨⟨hG.two, fun _ f => f.elim⟩, Frm.of_below (hb1.trans (hb2.mono hb1.size)), Sp, Sr, hP.below hb2, hR, (fun b e e' => by have := hSr b e'; have := hPl b e; omega), fun b e => by
    right
    rcases e with e | e
    · exact hSp b e
    · have := hSr b e; have := hb1.size; omega⟩
  clear hP hR hb1 hb2 hSp hSr hPl
  go_loopg [8] l.length (fun j p8 wr => ∃ (q : Nat), q + j = l.length ∧ p8 = .int .i64 (q : Int) ∧ Bb W (fun _ => False) g r q (bks (l.take q)) (bks (l.take q)) wr)
  case atStart => exact ⟨0, by omega, rfl, k0⟩
  case round =>
    clear k0
    obtain ⟨q, hqj, rfl, k⟩ := hrel
    by_cases hj : q < l.length
    · obtain ⟨o, ho⟩ : ∃ o, l[q]? = some o := ⟨_, List.getElem?_eq_getElem hj⟩
      have hfit := hF o (List.mem_of_getElem? ho)
      have hK : ∀ k b t w, Bb W (fun _ => False) g r k b t w → ∃ c off, ao = some ⟨c, off, none⟩ ∧ w.cell? ⟨c, off + q * 7, none⟩ = some (.int .i64 o.id) ∧ w.cell? ⟨c, off + q * 7 + 1, none⟩ = some (.int .i64 o.owner) ∧ w.cell? ⟨c, off + q * 7 + 2, none⟩ = some (.int .i64 o.side) ∧ w.cell? ⟨c, off + q * 7 + 3, none⟩ = some (.int .i64 o.price) ∧ w.cell? ⟨c, off + q * 7 + 4, none⟩ = some (.int .i64 o.qty) ∧ w.cell? ⟨c, off + q * 7 + 5, none⟩ = some (.int .i64 o.flags) ∧ w.cell? ⟨c, off + q * 7 + 6, none⟩ = some (.int .i64 o.seq) := by
        intro k b t w h
        obtain ⟨c, off, h1, y0, y⟩ := (hL.below (h.frm.below (Nat.le_refl _) (fun _ f => f.elim))).get ho
        exact ⟨c, off, h1, y0, y⟩
      obtain ⟨c, off, rfl, y0, y1, y2, y3, y4, y5, y6⟩ := hK _ _ _ _ k
      have cA := bqAdd k (by omega) hfit
      have hok := k.ok
      have cR : ∀ w k' b', Bb W (fun _ => False) g r k' b' (bks (l.take q)) w → Calls Tryd.prog 22 #[.pointer (some ⟨r, 0, none⟩), vOrd o] w fun e w' => e = .returned (.int .i64 ((bks (l.take q)).addF o)) ∧ Bb W (fun _ => False) g r k' b' ((bks (l.take q)).add o) w' := fun w k' b' h => bqAddR h hok o
      have hs := (hsn q o ho).out
      rw [← hs] at cA cR
      generalize (bks (l.take q)).addF o = f at *
      obtain ⟨b2, hb2⟩ : ∃ b2, bks (l.take (q + 1)) = b2 := ⟨_, rfl⟩
      rw [hb2] at cA cR
      replace hb2 := Lib.hid hb2
      generalize bks (l.take q) = b1 at *
      have hql : (q : Int) < (l.length : Int) := by omega
      have hK2 : ∀ k b t w, Bb W (fun _ => False) g r k b t w → w.cell? ⟨c, off + q * 7, none⟩ = some (.int .i64 o.id) ∧ w.cell? ⟨c, off + q * 7 + 1, none⟩ = some (.int .i64 o.owner) ∧ w.cell? ⟨c, off + q * 7 + 2, none⟩ = some (.int .i64 o.side) ∧ w.cell? ⟨c, off + q * 7 + 3, none⟩ = some (.int .i64 o.price) ∧ w.cell? ⟨c, off + q * 7 + 4, none⟩ = some (.int .i64 o.qty) ∧ w.cell? ⟨c, off + q * 7 + 5, none⟩ = some (.int .i64 o.flags) ∧ w.cell? ⟨c, off + q * 7 + 6, none⟩ = some (.int .i64 o.seq) := fun k b t w h => by
        obtain ⟨c', off', h1, y⟩ := hK k b t w h
        cases h1
        exact y
      clear hK hs hsn hall hok hF hL ho hfit
      simp only [vOrd] at cA cR
      go_wp2_with (first
        | (go_at_call 21; (with_reducible refine cA.mono ?_); rintro e w6 ⟨rfl, k6⟩; clear cA y0 y1 y2 y3 y4 y5 y6; obtain ⟨y0, y1, y2, y3, y4, y5, y6⟩ := hK2 _ _ _ _ k6)
        | (go_at_call 22; (with_reducible refine (cR _ _ _ k6).mono ?_); rintro e w7 ⟨rfl, k7⟩; clear cR)
        | fail)
      go_roundg (l.length - (q + 1))
      case measure => omega
      case rel => exact ⟨q + 1, by omega, by go_num, by rw [hb2.out]; exact k7⟩
    · have e : q = l.length := by omega
      subst e
      rw [hall.out] at k
      clear hsn hall
      have hql : ¬ (l.length : Int) < (l.length : Int) := by omega
      go_wp2_with fail
      go_ret2
      exact ⟨g, r, rfl, k⟩
end Go.Proofs.YtdmjcjheanedgaaDoor
