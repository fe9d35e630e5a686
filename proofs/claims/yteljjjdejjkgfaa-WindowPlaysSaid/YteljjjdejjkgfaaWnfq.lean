/-
  The program's window and the document's, side by side (for stage 19's act and WindowPlays). (Written by gen/p_wnf.py.)
-/
import Derived.Test.YteljjjdejjkgfaaGI
import Derived.Test.YteljjjdejjkgfaaWntq
import Derived.Test.YteljjjdejjkgfaaWatVq
namespace Go.Proofs.Yteljjjdejjkgfaa
open Go.RowKit
theorem RW.lt {w : World} {r : Nat} {S : Nat → Prop} {m : Wn} (h : RW w r S m) : ∀ c, S c → c < w.heap.size := by
  obtain ⟨ko, ao, cap, h⟩ := h
  exact h.lt
/-- Both, apart; of what there was at W only blocks of S1 have turned. -/
def Wk (W : World) (S1 : Nat → Prop) (w : World) (g r : Nat) (mp mr : Wn) : Prop := ∃ Sp Sr, WP w g Sp mp ∧ RW w r Sr mr ∧ Frm S1 W w ∧ (∀ c, Sp c → S1 c ∨ W.heap.size ≤ c) ∧ (∀ c, Sr c → S1 c ∨ W.heap.size ≤ c) ∧ ∀ c, Sp c → ¬ Sr c
section
variable {W w w' : World} {S1 : Nat → Prop} {g r : Nat} {m mp mr m' : Wn}
theorem Wk.keep (h : Wk W S1 w g r mp mr) (hb : Below w.heap.size w w') : Wk W S1 w' g r mp mr := by
  obtain ⟨Sp, Sr, h1, h2, h3, h4, h5, h6⟩ := h
  exact ⟨Sp, Sr, h1.below hb, h2.below hb, h3.trans (Frm.of_below (S := fun _ => False) hb) (fun _ f => f.elim), h4, h5, h6⟩
/-- The program's turns. -/
theorem Wk.turnP {Sp Sr : Nat → Prop} (hr : RW w r Sr mr) (hf : Frm S1 W w) (h1 : ∀ c, Sp c → S1 c ∨ W.heap.size ≤ c) (h2 : ∀ c, Sr c → S1 c ∨ W.heap.size ≤ c) (h3 : ∀ c, Sp c → ¬ Sr c) (h : Tp w g Sp m' w') : Wk W S1 w' g r m' mr := by
  obtain ⟨S', k1, k2, k3⟩ := h
  have hs := hf.size
  refine ⟨S', Sr, k1, hr.frm k2 (fun c e => h3 c e), hf.trans k2 (fun c e => h1 c e), fun c e => ?_, h2, fun c e => ?_⟩
  · rcases k3 c e with e | e
    · exact h1 c e
    · exact .inr (Nat.le_trans hs e)
  · rcases k3 c e with e | e
    · exact h3 c e
    · intro g
      have := hr.lt c g
      omega
/-- The document's turns. -/
theorem Wk.turnR {Sp Sr : Nat → Prop} (hp : WP w g Sp mp) (hf : Frm S1 W w) (h1 : ∀ c, Sp c → S1 c ∨ W.heap.size ≤ c) (h2 : ∀ c, Sr c → S1 c ∨ W.heap.size ≤ c) (h3 : ∀ c, Sp c → ¬ Sr c) (h : Tw w r Sr m' w') : Wk W S1 w' g r mp m' := by
  obtain ⟨S', k1, k2, k3⟩ := h
  have hs := hf.size
  refine ⟨Sp, S', hp.frm k2 (fun c e e' => h3 c e' e), k1, hf.trans k2 (fun c e => h2 c e), h1, fun c e => ?_, fun c e e' => ?_⟩
  · rcases k3 c e with e | e
    · exact h2 c e
    · exact .inr (Nat.le_trans hs e)
  · rcases k3 c e' with e' | e'
    · exact h3 c e e'
    · have := hp.lt c e
      omega
/-- A box laid behind both stays as it is. -/
theorem Wk.box (h : Wk W S1 w g r mp mr) (cs : Array Value) (T : TypeId) : ∃ S2, Wk (w.alloc (.cells cs T)) S2 (w.alloc (.cells cs T)) g r mp mr ∧ ∀ w' mp' mr', Wk (w.alloc (.cells cs T)) S2 w' g r mp' mr' → Blk w' w.heap.size T cs ∧ Wk W S1 w' g r mp' mr' := by
  obtain ⟨Sp, Sr, h1, h2, h3, h4, h5, h6⟩ := h
  have hb : Below w.heap.size w (w.alloc (.cells cs T)) := (Below.refl _ _).alloc (Nat.le_refl _) _
  have hs : (w.alloc (.cells cs T)).heap.size = w.heap.size + 1 := by simp
  have hsz := h3.size
  refine ⟨fun c => Sp c ∨ Sr c, ⟨Sp, Sr, h1.below hb, h2.below hb, Frm.refl _ _, fun c e => .inl (.inl e), fun c e => .inl (.inr e), h6⟩, ?_⟩
  rintro w' mp' mr' ⟨Sp', Sr', k1, k2, k3, k4, k5, k6⟩
  have hlt : ∀ c, Sp c ∨ Sr c → c < w.heap.size := fun c e => e.elim (h1.lt c) (h2.lt c)
  have hin : ∀ c, Sp c ∨ Sr c → S1 c ∨ W.heap.size ≤ c := fun c e => e.elim (h4 c) (h5 c)
  refine ⟨(k3.block w.heap.size (by omega) (fun e => by have := hlt _ e; omega)).trans (Blk.new w T cs), Sp', Sr', k1, k2, (h3.trans (Frm.of_below (S := fun _ => False) hb) (fun _ f => f.elim)).trans k3 hin, fun c e => ?_, fun c e => ?_, k6⟩
  · rcases k4 c e with e | e
    · exact hin c e
    · exact .inr (by omega)
  · rcases k5 c e with e | e
    · exact hin c e
    · exact .inr (by omega)
theorem Wk.addP (t p q : Int) (ht : In64 t) (hp : In64 p) (hq : In64 q) (hlen : mp.L.length ≤ 1000000) (h : Wk W S1 w g r mp mr) : Calls Try.prog 15 #[.pointer (some ⟨g, 0, none⟩), .int .i64 t, .int .i64 p, .int .i64 q] w fun e w' => e = .returned (.int .i64 (mp.add t p q).1) ∧ Wk W S1 w' g r (mp.add t p q).2 mr := by
  obtain ⟨Sp, Sr, h1, h2, h3, h4, h5, h6⟩ := h
  exact (wp_add t p q ht hp hq hlen h1).mono fun e w' k => ⟨k.1, Wk.turnP h2 h3 h4 h5 h6 k.2⟩
theorem Wk.addR (t p q : Int) (hlen : mr.L.length ≤ 1000000) (h : Wk W S1 w g r mp mr) : Calls Try.prog 21 #[.pointer (some ⟨r, 0, none⟩), .int .i64 t, .int .i64 p, .int .i64 q] w fun e w' => e = .returned (.int .i64 (mr.add t p q).1) ∧ Wk W S1 w' g r mp (mr.add t p q).2 := by
  obtain ⟨Sp, Sr, h1, h2, h3, h4, h5, h6⟩ := h
  exact (rwadd_any t p q hlen h2).mono fun e w' k => ⟨k.1, Wk.turnR h1 h3 h4 h5 h6 k.2⟩
theorem Wk.meanP (t : Int) (ht : In64 t) (hlen : mp.L.length ≤ 1000000) (h : Wk W S1 w g r mp mr) : Calls Try.prog 16 #[.pointer (some ⟨g, 0, none⟩), .int .i64 t] w fun e w' => e = .returned (.tuple #[.int .i64 (mp.mean t).1.1, .bool (mp.mean t).1.2]) ∧ Wk W S1 w' g r (mp.mean t).2 mr := by
  obtain ⟨Sp, Sr, h1, h2, h3, h4, h5, h6⟩ := h
  exact (wp_mean t ht hlen h1).mono fun e w' k => ⟨k.1, Wk.turnP h2 h3 h4 h5 h6 k.2⟩
theorem Wk.meanR (t : Int) (ht : In64 t) (hok : mr.Ok) (hlen : mr.L.length ≤ 1000000) (h : Wk W S1 w g r mp mr) : Calls Try.prog 22 #[.pointer (some ⟨r, 0, none⟩), .int .i64 t] w fun e w' => e = .returned (.tuple #[.int .i64 (mr.mean t).1.1, .bool (mr.mean t).1.2]) ∧ Wk W S1 w' g r mp (mr.mean t).2 := by
  obtain ⟨Sp, Sr, h1, h2, h3, h4, h5, h6⟩ := h
  exact (rwmean_any t ht hok hlen h2).mono fun e w' k => ⟨k.1, Wk.turnR h1 h3 h4 h5 h6 k.2⟩
theorem Wk.rollP (t n : Int) (ht : In64 t) (hn : In64 n) (hlen : mp.L.length ≤ 1000000) (h : Wk W S1 w g r mp mr) : Calls Try.prog 17 #[.pointer (some ⟨g, 0, none⟩), .int .i64 t, .int .i64 n] w fun e w' => e = .returned (.tuple #[.int .i64 (mp.roll t n).1.1, .bool (mp.roll t n).1.2]) ∧ Wk W S1 w' g r (mp.roll t n).2 mr := by
  obtain ⟨Sp, Sr, h1, h2, h3, h4, h5, h6⟩ := h
  exact (wp_roll t n ht hn hlen h1).mono fun e w' k => ⟨k.1, Wk.turnP h2 h3 h4 h5 h6 k.2⟩
theorem Wk.rollR (t n : Int) (ht : In64 t) (hok : mr.Ok) (hlen : mr.L.length ≤ 1000000) (h : Wk W S1 w g r mp mr) : Calls Try.prog 23 #[.pointer (some ⟨r, 0, none⟩), .int .i64 t, .int .i64 n] w fun e w' => e = .returned (.tuple #[.int .i64 (mr.roll t n).1.1, .bool (mr.roll t n).1.2]) ∧ Wk W S1 w' g r mp (mr.roll t n).2 := by
  obtain ⟨Sp, Sr, h1, h2, h3, h4, h5, h6⟩ := h
  exact (rwroll_any t n ht hok hlen h2).mono fun e w' k => ⟨k.1, Wk.turnR h1 h3 h4 h5 h6 k.2⟩
theorem Wk.resetP (p : Int) (hp : In64 p) (h : Wk W S1 w g r mp mr) : Calls Try.prog 18 #[.pointer (some ⟨g, 0, none⟩), .int .i64 p] w fun e w' => e = .returned (.int .i64 (mp.reset p).1) ∧ Wk W S1 w' g r (mp.reset p).2 mr := by
  obtain ⟨Sp, Sr, h1, h2, h3, h4, h5, h6⟩ := h
  exact (wp_reset p hp h1).mono fun e w' k => ⟨k.1, Wk.turnP h2 h3 h4 h5 h6 k.2⟩
theorem Wk.resetR (p : Int) (hp : In64 p) (hok : mr.Ok) (h : Wk W S1 w g r mp mr) : Calls Try.prog 24 #[.pointer (some ⟨r, 0, none⟩), .int .i64 p] w fun e w' => e = .returned (.int .i64 (mr.reset p).1) ∧ Wk W S1 w' g r mp (mr.reset p).2 := by
  obtain ⟨Sp, Sr, h1, h2, h3, h4, h5, h6⟩ := h
  exact (rwreset_any p hp hok h2).mono fun e w' k => ⟨k.1, Wk.turnR h1 h3 h4 h5 h6 k.2⟩
end
end Go.Proofs.Yteljjjdejjkgfaa
