/-
  Books of stage 14's law: some orders laid into the program's book and the document's. Nothing else.
-/
import Derived.Test.YtdpibjnlpdgdeaaDoorBbsq
import Derived.Deep.LoopGhost
import Derived.IntWalk
import Derived.WalkMore
namespace Go.Proofs.YtdpibjnlpdgdeaaDoor
open Go.RowKit
set_option linter.unusedSimpArgs false
/-- The book of some orders. -/
def bks (l : List Ord) : Bk := l.foldl Bk.add (Bk.new 60 60)
theorem bks_snoc {l : List Ord} {q : Nat} {o : Ord} (h : l[q]? = some o) : bks (l.take (q + 1)) = (bks (l.take q)).add o := by
  unfold bks
  rw [List.take_add_one, h]
  simp
theorem bks_all (l : List Ord) : bks (l.take l.length) = bks l := by rw [List.take_length]
theorem bks_ok {l : List Ord} (hF : ∀ m ∈ l, m.Fit) : (bks l).Ok := by
  unfold bks
  have h0 : (Bk.new 60 60).Ok := Bk.Ok.new (by omega) (by omega) (by omega) (by omega)
  generalize Bk.new 60 60 = b at *
  induction l generalizing b with
  | nil => exact h0
  | cons o l ih => exact ih (fun m hm => hF m (List.mem_cons_of_mem _ hm)) _ (h0.add (hF o List.mem_cons_self))
set_option maxRecDepth 8000 in
set_option maxHeartbeats 4000000 in
theorem books_any (ao : Option Addr) (cap : Nat) (l : List Ord) (W : World) (hG : Gl W) (hL : Ords W ao cap l) (hF : ∀ m ∈ l, m.Fit) (h60 : l.length ≤ 60) :
    Calls Tryd.prog 6 #[.slice ao l.length cap] W fun e w' => ∃ g r, e = .returned (.tuple #[.pointer (some ⟨g, 0, none⟩), .pointer (some ⟨r, 0, none⟩)]) ∧ Bb W (fun _ => False) g r l.length (bks l) (bks l) w' := by
  have c1 : Calls Tryd.prog 15 #[.int .i64 60, .int .i64 60] W _ := pb_new 60 60 (by omega) (by omega) (by omega) (by omega) W hG
  have c2 : ∀ w, Calls Tryd.prog 16 #[.int .i64 60, .int .i64 60] w _ := fun w => knew_any 60 60 (by omega) (by omega) (by omega) (by omega) w
  have h0 : bks (l.take 0) = Bk.new 60 60 := rfl
  have hl1 := hL.len
  rw [← h0] at c1 c2
  have hsn := fun q o (h : l[q]? = some o) => Lib.hid (bks_snoc h)
  have hall := Lib.hid (bks_all l)
  go_enter Tryd.func6, Tryd.ntmps6
  go_wp2_with (first
    | (go_at_call 15; refine c1.mono ?_; rintro e w1 ⟨g, Sp, rfl, hP, hb1, hSp⟩; clear c1)
    | (go_at_call 16; refine (c2 w1).mono ?_; rintro e w2 ⟨r, Sr, rfl, hR, hb2, hSr⟩; clear c2)
    | fail)
  have hPl := hP.lt
  have k0 : Bb W (fun _ => False) g r 0 (bks (l.take 0)) (bks (l.take 0)) w2 := ⟨⟨hG.two, fun _ f => f.elim⟩, Frm.of_below (hb1.trans (hb2.mono hb1.size)), Sp, Sr, hP.below hb2, hR, (fun b e e' => by have := hSr b e'; have := hPl b e; omega), fun b e => by
    right
    rcases e with e | e
    · exact hSp b e
    · have := hSr b e; have := hb1.size; omega⟩
  clear hP hR hb1 hb2 hSp hSr hPl
  go_loopg [8] l.length (fun j p8 wr => ∃ (q : Nat), q + j = l.length ∧ p8 = .int .i64 (q : Int) ∧ Bb W (fun _ => False) g r q (bks (l.take q)) (bks (l.take q)) wr)
  case atStart => exact ⟨0, by omega, rfl, k0⟩
  case round =>
    clear k0
    obtain ⟨q, hqj, rfl, k⟩ := hrel
    by_cases hj : q < l.length
    · obtain ⟨o, ho⟩ : ∃ o, l[q]? = some o := ⟨_, List.getElem?_eq_getElem hj⟩
      have hfit := hF o (List.mem_of_getElem? ho)
      have hK : ∀ k b t w, Bb W (fun _ => False) g r k b t w → ∃ c off, ao = some ⟨c, off, none⟩ ∧ w.cell? ⟨c, off + q * 7, none⟩ = some (.int .i64 o.id) ∧ w.cell? ⟨c, off + q * 7 + 1, none⟩ = some (.int .i64 o.owner) ∧ w.cell? ⟨c, off + q * 7 + 2, none⟩ = some (.int .i64 o.side) ∧ w.cell? ⟨c, off + q * 7 + 3, none⟩ = some (.int .i64 o.price) ∧ w.cell? ⟨c, off + q * 7 + 4, none⟩ = some (.int .i64 o.qty) ∧ w.cell? ⟨c, off + q * 7 + 5, none⟩ = some (.int .i64 o.flags) ∧ w.cell? ⟨c, off + q * 7 + 6, none⟩ = some (.int .i64 o.seq) := by
        intro k b t w h
        obtain ⟨c, off, h1, y0, y⟩ := (hL.below (h.frm.below (Nat.le_refl _) (fun _ f => f.elim))).get ho
        exact ⟨c, off, h1, y0, y⟩
      obtain ⟨c, off, rfl, y0, y1, y2, y3, y4, y5, y6⟩ := hK _ _ _ _ k
      have cA := bqAdd k (by omega) hfit
      have hok := k.ok
      have cR : ∀ w k' b', Bb W (fun _ => False) g r k' b' (bks (l.take q)) w → Calls Tryd.prog 18 #[.pointer (some ⟨r, 0, none⟩), vOrd o] w fun e w' => e = .returned (.int .i64 ((bks (l.take q)).addF o)) ∧ Bb W (fun _ => False) g r k' b' ((bks (l.take q)).add o) w' := fun w k' b' h => bqAddR h hok o
      have hs := (hsn q o ho).out
      rw [← hs] at cA cR
      generalize (bks (l.take q)).addF o = f at *
      obtain ⟨b2, hb2⟩ : ∃ b2, bks (l.take (q + 1)) = b2 := ⟨_, rfl⟩
      rw [hb2] at cA cR
      replace hb2 := Lib.hid hb2
      generalize bks (l.take q) = b1 at *
      have hql : (q : Int) < (l.length : Int) := by omega
      have hK2 : ∀ k b t w, Bb W (fun _ => False) g r k b t w → w.cell? ⟨c, off + q * 7, none⟩ = some (.int .i64 o.id) ∧ w.cell? ⟨c, off + q * 7 + 1, none⟩ = some (.int .i64 o.owner) ∧ w.cell? ⟨c, off + q * 7 + 2, none⟩ = some (.int .i64 o.side) ∧ w.cell? ⟨c, off + q * 7 + 3, none⟩ = some (.int .i64 o.price) ∧ w.cell? ⟨c, off + q * 7 + 4, none⟩ = some (.int .i64 o.qty) ∧ w.cell? ⟨c, off + q * 7 + 5, none⟩ = some (.int .i64 o.flags) ∧ w.cell? ⟨c, off + q * 7 + 6, none⟩ = some (.int .i64 o.seq) := fun k b t w h => by
        obtain ⟨c', off', h1, y⟩ := hK k b t w h
        cases h1
        exact y
      clear hK hs hsn hall hok hF hL ho hfit
      simp only [vOrd] at cA cR
      go_wp2_with (first
        | (go_at_call 17; (with_reducible refine cA.mono ?_); rintro e w6 ⟨rfl, k6⟩; clear cA y0 y1 y2 y3 y4 y5 y6; obtain ⟨y0, y1, y2, y3, y4, y5, y6⟩ := hK2 _ _ _ _ k6)
        | (go_at_call 18; (with_reducible refine (cR _ _ _ k6).mono ?_); rintro e w7 ⟨rfl, k7⟩; clear cR)
        | fail)
      go_roundg (l.length - (q + 1))
      case measure => omega
      case rel => exact ⟨q + 1, by omega, by go_num, by rw [hb2.out]; exact k7⟩
    · have e : q = l.length := by omega
      subst e
      rw [hall.out] at k
      clear hsn hall
      have hql : ¬ (l.length : Int) < (l.length : Int) := by omega
      go_wp2_with fail
      go_ret2
      exact ⟨g, r, rfl, k⟩
end Go.Proofs.YtdpibjnlpdgdeaaDoor
