/-
  A function value that is called with one number after another: its state, its blocks, what it answers; a block that is turned beside it, and blocks that are not.
-/
import Derived.Test.YtbkiipeoabbiiaaCfgP
import Derived.Test.YtbkiipeoabbiiaaChain
namespace Go.Proofs.Ytbkiipeoabbiiaa
open Go.RowKit
structure Nm (σ : Type) (gn : Nat) (gc : Array Value) (I : σ → (Nat → Prop) → World → Prop) (ok : Int → Prop) (ans : σ → Int → Int) (nx : σ → Int → σ) (fu : σ → Nat) : Prop where
  goes : Enters gn
  size : ∀ s S w, I s S w → ∀ b, S b → b < w.heap.size
  keep : ∀ s S w w' T, I s S w → Frm T w w' → (∀ b, T b → ¬ S b) → I s S w'
  runs : ∀ s S w n, I s S w → ok n → 0 < fu s → Calls Try.prog gn (#[.int .i64 n] ++ gc) w fun e w' => e = .returned (.int .i64 (ans s n)) ∧ ∃ S', I (nx s n) S' w' ∧ Frm S w w' ∧ ∀ b, S' b → S b ∨ w.heap.size ≤ b
  fuel : ∀ s n, fu s ≤ fu (nx s n) + 1
/-- The state, a block bs that turns, and blocks that do not. -/
def PJ {σ : Type} (I : σ → (Nat → Prop) → World → Prop) (W : World) (S0 : Nat → Prop) (bs : Nat) (T : TypeId) (ob : List (Nat × TypeId × Array Value)) (s : σ) (cs : Array Value) (w : World) : Prop :=
  ∃ S, I s S w ∧ Blk w bs T cs ∧ Frm (fun b => S0 b ∨ b = bs) W w ∧ (∀ b, S b → S0 b ∨ W.heap.size ≤ b) ∧ ¬ S bs ∧ ∀ p ∈ ob, Blk w p.1 p.2.1 p.2.2 ∧ ¬ S p.1 ∧ p.1 ≠ bs
section
variable {σ : Type} {gn : Nat} {gc : Array Value} {I : σ → (Nat → Prop) → World → Prop} {ok : Int → Prop} {ans : σ → Int → Int} {nx : σ → Int → σ} {fu : σ → Nat}
variable {W w w' : World} {S0 : Nat → Prop} {bs : Nat} {T : TypeId} {ob : List (Nat × TypeId × Array Value)} {s : σ} {cs : Array Value}
theorem PJ.below (hN : Nm σ gn gc I ok ans nx fu) (h : PJ I W S0 bs T ob s cs w) (hb : Below w.heap.size w w') : PJ I W S0 bs T ob s cs w' := by
  obtain ⟨S, hI, hB, hF, hS, hn, ho⟩ := h
  exact ⟨S, hN.keep _ _ _ _ (fun _ => False) hI (Frm.of_below hb) (fun _ f => f.elim), hB.below hb hB.lt, hF.trans (Frm.of_below (S := fun _ => False) hb) (fun _ f => f.elim), hS, hn, fun p hp => ⟨(ho p hp).1.below hb (ho p hp).1.lt, (ho p hp).2⟩⟩
theorem PJ.alloc (hN : Nm σ gn gc I ok ans nx fu) (h : PJ I W S0 bs T ob s cs w) (o : Obj) : PJ I W S0 bs T ob s cs (w.alloc o) := h.below hN ((Below.refl _ _).alloc (Nat.le_refl _) o)
theorem PJ.drew (hN : Nm σ gn gc I ok ans nx fu) (h : PJ I W S0 bs T ob s cs w) : PJ I W S0 bs T ob s cs w.drew := h.below hN (Below.refl _ _).drew
theorem PJ.new (hN : Nm σ gn gc I ok ans nx fu) (h : PJ I W S0 bs T ob s cs w) (t : TypeId) (c : Array Value) : PJ I W S0 bs T ((w.heap.size, t, c) :: ob) s cs (w.alloc (.cells c t)) := by
  obtain ⟨S, hI, hB, hF, hS, hn, ho⟩ := h.alloc hN (.cells c t)
  have hlt : bs < w.heap.size := by
    obtain ⟨S', -, hB', -⟩ := h
    exact hB'.lt
  obtain ⟨S', hI', hB', hF', hS', hn', ho'⟩ := h
  have hb : Below w.heap.size w (w.alloc (.cells c t)) := (Below.refl _ _).alloc (Nat.le_refl _) _
  refine ⟨S', hN.keep _ _ _ _ (fun _ => False) hI' (Frm.of_below hb) (fun _ f => f.elim), hB, hF, hS', hn', fun p hp => ?_⟩
  rcases List.mem_cons.1 hp with rfl | hp
  · exact ⟨Blk.new _ _ _, fun h => by have := hN.size _ _ _ hI' _ h; simp only at this; omega, fun e => by simp only at e; omega⟩
  · exact ⟨(ho' p hp).1.alloc _, (ho' p hp).2⟩
theorem PJ.newRow (hN : Nm σ gn gc I ok ans nx fu) (h : PJ I W S0 bs T ob s cs w) (t : TypeId) (z c : Array Value) : PJ I W S0 bs T ((w.heap.size, t, c) :: ob) s cs ((w.alloc (.cells z t)).setRow w.heap.size c) := by
  have hlt : bs < w.heap.size := by
    obtain ⟨S', -, hB', -⟩ := h
    exact hB'.lt
  have hb : Below w.heap.size w ((w.alloc (.cells z t)).setRow w.heap.size c) := below_setRow ((Below.refl _ _).alloc (Nat.le_refl _) _) (Nat.le_refl _) _
  obtain ⟨S', hI', hB', hF', hS', hn', ho'⟩ := h.below hN hb
  obtain ⟨S, hI, hB, hF, hS, hn, ho⟩ := h
  refine ⟨S, hN.keep _ _ _ _ (fun _ => False) hI (Frm.of_below hb) (fun _ f => f.elim), hB', hF', hS, hn, fun p hp => ?_⟩
  rcases List.mem_cons.1 hp with rfl | hp
  · exact ⟨(Blk.new' rfl).setRow _, fun h => by have := hN.size _ _ _ hI _ h; simp only at this; omega, fun e => by simp only at e; omega⟩
  · exact ⟨(ho p hp).1.below hb (ho p hp).1.lt, (ho p hp).2⟩
theorem PJ.frm (h : PJ I W S0 bs T ob s cs w) : Frm (fun b => S0 b ∨ b = bs) W w := by
  obtain ⟨S, hI, hB, hF, -⟩ := h
  exact hF
theorem PJ.drop {p : Nat × TypeId × Array Value} (h : PJ I W S0 bs T (p :: ob) s cs w) : PJ I W S0 bs T ob s cs w := by
  obtain ⟨S, hI, hB, hF, hS, hn, ho⟩ := h
  exact ⟨S, hI, hB, hF, hS, hn, fun q hq => ho q (List.mem_cons_of_mem _ hq)⟩
theorem PJ.blk (h : PJ I W S0 bs T ob s cs w) : Blk w bs T cs := by
  obtain ⟨S, hI, hB, -⟩ := h
  exact hB
theorem PJ.get (h : PJ I W S0 bs T ob s cs w) (b : Nat) (t : TypeId) (c : Array Value) (hp : (b, t, c) ∈ ob) : Blk w b t c := by
  obtain ⟨S, hI, hB, hF, hS, hn, ho⟩ := h
  exact (ho _ hp).1
theorem PJ.call2 (hN : Nm σ gn gc I ok ans nx fu) (h : PJ I W S0 bs T ob s cs w) {n : Int} (hn : ok n) (hfu : 0 < fu s) : Calls Try.prog gn (#[.int .i64 n] ++ gc) w fun e w' => e = .returned (.int .i64 (ans s n)) ∧ PJ I W S0 bs T ob (nx s n) cs w' ∧ w.heap.size ≤ w'.heap.size := by
  obtain ⟨S, hI, hB, hF, hS, hn', ho⟩ := h
  refine (hN.runs s S w n hI hn hfu).mono fun e w' h => ?_
  obtain ⟨he, S', hI', hF', hS'⟩ := h
  have hbig : ∀ b, b < w.heap.size → ¬ S b → ¬ S' b := fun b hb hnb h => (hS' b h).elim hnb (fun g => by omega)
  refine ⟨he, ⟨S', hI', hB.frm hF' hn', hF.trans hF' (fun b hb => (hS b hb).elim (fun g => .inl (.inl g)) .inr), fun b hb => ?_, hbig _ hB.lt hn', fun p hp => ⟨(ho p hp).1.frm hF' (ho p hp).2.1, hbig _ (ho p hp).1.lt (ho p hp).2.1, (ho p hp).2.2⟩⟩, hF'.size⟩
  rcases hS' b hb with g | g
  · exact hS b g
  · exact .inr (Nat.le_trans hF.size g)
theorem PJ.call (hN : Nm σ gn gc I ok ans nx fu) (h : PJ I W S0 bs T ob s cs w) {n : Int} (hn : ok n) (hfu : 0 < fu s) : Calls Try.prog gn (#[.int .i64 n] ++ gc) w fun e w' => e = .returned (.int .i64 (ans s n)) ∧ PJ I W S0 bs T ob (nx s n) cs w' :=
  (h.call2 hN hn hfu).mono fun _ _ g => ⟨g.1, g.2.1⟩
theorem PJ.set (hN : Nm σ gn gc I ok ans nx fu) (h : PJ I W S0 bs T ob s cs w) (i : Nat) (v : Value) : PJ I W S0 bs T ob s (cs.setIfInBounds i v) (w.setCell ⟨bs, i, none⟩ v) := by
  obtain ⟨S, hI, hB, hF, hS, hn, ho⟩ := h
  have hf : Frm (fun b => b = bs) w (w.setCell ⟨bs, i, none⟩ v) := (Frm.refl _ w).setCell _ _ (.inl rfl)
  exact ⟨S, hN.keep _ _ _ _ _ hI hf (fun b hb => by rw [hb]; exact hn), hB.set i v, hF.trans hf (fun b hb => .inl (.inr hb)), hS, hn, fun p hp => ⟨(ho p hp).1.frm hf (ho p hp).2.2, (ho p hp).2⟩⟩
theorem PJ.sub {ob' : List (Nat × TypeId × Array Value)} (h : PJ I W S0 bs T ob s cs w) (hs : ∀ p ∈ ob', p ∈ ob) : PJ I W S0 bs T ob' s cs w := by
  obtain ⟨S, hI, hB, hF, hS, hn, ho⟩ := h
  exact ⟨S, hI, hB, hF, hS, hn, fun p hp => ho p (hs p hp)⟩
/-- Another block turns for a while. -/
theorem PJ.turn {g : Nat} {t : TypeId} {c : Array Value} (h : PJ I W S0 bs T ((g, t, c) :: ob) s cs w) (hg : W.heap.size ≤ g) (hd : ∀ p ∈ ob, p.1 ≠ g) :
    ∃ S, PJ I w S g t ((bs, T, cs) :: ob) s c w ∧ ∀ w' s' c', PJ I w S g t ((bs, T, cs) :: ob) s' c' w' → PJ I W S0 bs T ((g, t, c') :: ob) s' cs w' := by
  obtain ⟨S, hI, hB, hF, hS, hn, ho⟩ := h
  obtain ⟨hg1, hg2, hg3⟩ := ho _ (by simp : (g, t, c) ∈ (g, t, c) :: ob)
  simp only at hg1 hg2 hg3
  refine ⟨S, ⟨S, hI, hg1, Frm.refl _ _, fun b hb => .inl hb, hg2, fun p hp => ?_⟩, fun w' s' c' h' => ?_⟩
  · rcases List.mem_cons.1 hp with rfl | hp
    · exact ⟨hB, hn, fun e => hg3 e.symm⟩
    · have h1 := ho p (List.mem_cons_of_mem _ hp)
      exact ⟨h1.1, h1.2.1, hd p hp⟩
  · obtain ⟨S', hI', hB', hF', hS', hn', ho'⟩ := h'
    obtain ⟨k1, k2, k3⟩ := ho' _ (by simp : (bs, T, cs) ∈ (bs, T, cs) :: ob)
    simp only at k1 k2 k3
    refine ⟨S', hI', k1, hF.trans hF' (fun b hb => ?_), fun b hb => ?_, k2, fun p hp => ?_⟩
    · rcases hb with hb | hb
      · exact (hS b hb).elim (fun g => .inl (.inl g)) .inr
      · exact .inr (by rw [hb]; exact hg)
    · rcases hS' b hb with hb | hb
      · exact hS b hb
      · exact .inr (Nat.le_trans hF.size hb)
    · rcases List.mem_cons.1 hp with rfl | hp
      · exact ⟨hB', hn', fun e => k3 e.symm⟩
      · have h1 := ho' p (List.mem_cons_of_mem _ hp)
        exact ⟨h1.1, h1.2.1, (ho p (List.mem_cons_of_mem _ hp)).2.2⟩
end
end Go.Proofs.Ytbkiipeoabbiiaa
