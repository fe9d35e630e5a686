/-
  The document's levels: Put of a price that has a level.
-/
import Derived.Test.YthlpnlmjpdcbiaaRlb
import Derived.Test.YthlpnlmjpdcbiaaRlc
namespace Go.Proofs.Ythlpnlmjpdcbiaa
open Go.RowKit
/-- One cell of what is owned turned. -/
theorem OwG.setc {E : TypeId} {sz : Nat} {w : World} {k : Nat} {ao : Option Addr} {cap n : Nat} {cs : List Value} (h : OwG E sz w (some k) ao cap n cs) (j : Nat) (v : Value) : OwG E sz (w.setCell ⟨k, j, none⟩ v) (some k) ao cap n (cs.set j v) := by
  refine ⟨by rw [List.length_set]; exact h.cells, h.len, h.top, ?_⟩
  rcases h.at' with ⟨h0, _⟩ | ⟨k', cur, h1, h2, h3, h4, h5⟩
  · cases h0
  · cases h1
    have hb : Blk w k E cur := h3
    refine .inr ⟨k, _, rfl, h2, hb.set j v, by simpa using h4, ?_⟩
    rw [← h5, Array.toList_setIfInBounds, List.take_set]
theorem heap_oth (w : World) (p : Addr) (v : Value) {b : Nat} (h : b ≠ p.block) : (w.setCell p v).heap[b]? = w.heap[b]? := by
  simp only [World.setCell, Array.getElem?_modify, if_neg (Ne.symm h)]
theorem lcs_len (L : List Lvl) : (lcs L).length = L.length * 4 := by
  induction L with
  | nil => rfl
  | cons x t ih => simp only [List.flatMap_cons, List.length_append, ih, List.length_cons]; simp; omega
theorem lcs_set (y : Lvl) : ∀ (L : List Lvl) (i : Nat) (x : Lvl), L[i]? = some x → y.price = x.price → y.queue = x.queue →
    lcs (L.set i y) = ((lcs L).set (i * 4 + 1) (.int .i64 y.qty)).set (i * 4 + 2) (.int .i64 y.orders)
  | [], i, x, h, _, _ => by cases h
  | z :: t, 0, x, h, e1, e2 => by
    cases h
    simp [e1, e2]
  | z :: t, i + 1, x, h, e1, e2 => by
    have := lcs_set y t i x h e1 e2
    have e3 : (i + 1) * 4 + 1 = (i * 4 + 1) + 4 := by omega
    have e4 : (i + 1) * 4 + 2 = (i * 4 + 2) + 4 := by omega
    rw [e3, e4]
    simp [this]
section
variable {w w' W : World} {r : Nat} {S T : Nat → Prop} {s : Ld} {ko : Option Nat} {ao : Option Addr} {cap : Nat}
/-- Two cells of a level turned. -/
theorem RlB.turn (h : RlB w r S ko ao cap s) {i : Nat} {x y : Lvl} (hx : s.L[i]? = some x) (e1 : y.price = x.price) (e2 : y.queue = x.queue) :
    ∃ k, ko = some k ∧ ao = some ⟨k, 0, none⟩ ∧ k ≠ r ∧ S k ∧ RlB ((w.setCell ⟨k, i * 4 + 1, none⟩ (.int .i64 y.qty)).setCell ⟨k, i * 4 + 2, none⟩ (.int .i64 y.orders)) r S ko ao cap ⟨s.buy, s.most, s.L.set i y⟩ := by
  have hL := lcs_len s.L
  have hi := (List.getElem?_eq_some_iff.1 hx).1
  obtain ⟨v, hv⟩ : ∃ v, (lcs s.L)[0]? = some v := ⟨_, List.getElem?_eq_getElem (by omega)⟩
  obtain ⟨k, rfl, rfl, -, -⟩ := h.how.cell 0 v hv
  obtain ⟨hk, hkr⟩ := h.sk k rfl
  refine ⟨k, rfl, rfl, hkr, hk, h.most, by simpa using h.len, ?_, ?_, h.sr, h.sk, ?_⟩
  · have e := h.hr
    unfold Blk at e ⊢
    rw [List.length_set, heap_oth _ _ _ (Ne.symm hkr), heap_oth _ _ _ (Ne.symm hkr)]
    exact e
  · rw [lcs_set y s.L i x hx e1 e2, List.length_set]
    exact (h.how.setc _ _).setc _ _
  · intro b hb
    have := h.lt b hb
    simpa [World.setCell] using this
theorem RlB.row (h : RlB w r S ko ao cap s) {i : Nat} {x : Lvl} (hx : s.L[i]? = some x) : ∃ k, ko = some k ∧ ao = some ⟨k, 0, none⟩ ∧ (∀ j v, (lcs s.L)[j]? = some v → w.cell? ⟨k, j, none⟩ = some v ∧ w.frozen? ⟨k, j, none⟩ = false) := by
  have hL := lcs_len s.L
  have hi := (List.getElem?_eq_some_iff.1 hx).1
  obtain ⟨v, hv⟩ : ∃ v, (lcs s.L)[0]? = some v := ⟨_, List.getElem?_eq_getElem (by omega)⟩
  obtain ⟨k, rfl, rfl, -, -⟩ := h.how.cell 0 v hv
  refine ⟨k, rfl, rfl, fun j v hj => ?_⟩
  obtain ⟨k', h1, -, h2, h3⟩ := h.how.cell j v hj
  cases h1
  exact ⟨h2, h3⟩
theorem lcs_get {L : List Lvl} : ∀ {i : Nat} {x : Lvl}, L[i]? = some x → ∀ (j : Nat) (v : Value), (cLvl x)[j]? = some v → (lcs L)[i * 4 + j]? = some v := by
  induction L with
  | nil => intro i x hx; cases hx
  | cons z t ih =>
    intro i x hx j v hj
    have hlt : j < 4 := by
      have := (Array.getElem?_eq_some_iff.1 hj).1
      simpa using this
    cases i with
    | zero =>
      cases hx
      show ((cLvl z).toList ++ lcs t)[0 * 4 + j]? = some v
      rw [List.getElem?_append_left (by simp; omega), Nat.zero_mul, Nat.zero_add]
      simpa using hj
    | succ i =>
      have e : (i + 1) * 4 + j - 4 = i * 4 + j := by omega
      show ((cLvl z).toList ++ lcs t)[(i + 1) * 4 + j]? = some v
      rw [List.getElem?_append_right (by simp; omega)]
      have := ih (i := i) (by simpa using hx) j v hj
      simpa [e] using this
set_option maxRecDepth 8000 in
set_option maxHeartbeats 1000000 in
theorem lputRange_any (p q : Int) (hpq : p < 1 ∨ q < 1) (W : World) :
    Calls Try.prog 24 #[.pointer (some ⟨r, 0, none⟩), .int .i64 p, .int .i64 q] W fun e w' => e = .returned (.tuple #[.int .i64 0, .int .i64 9]) ∧ w' = W := by
  by_cases hp : p < 1
  · go_enter Try.func24, Try.ntmps24
    go_wp2_with fail
    all_goals go_ret2
    all_goals exact ⟨rfl, rfl⟩
  · have hp' : decide (p < 1) = false := decide_eq_false hp
    have hq : q < 1 := by omega
    clear hpq hp
    go_enter Try.func24, Try.ntmps24
    go_wp2_with fail
    all_goals go_ret2
    all_goals exact ⟨rfl, rfl⟩
set_option maxRecDepth 8000 in
set_option maxHeartbeats 1000000 in
/-- A sum that no int64 holds. -/
theorem lputOver_any (p q : Int) (h : RlB W r S ko ao cap s) (hp : 1 ≤ p) (hq : 1 ≤ q) {i : Nat} {x : Lvl} (hf : s.find p = some i) (hx : s.L[i]? = some x)
    (cO : ∀ (V : World), Calls Try.prog 38 #[.int .i64 x.qty, .int .i64 q] V fun e w' => e = .returned (.tuple #[.int .i64 0, .bool false]) ∧ Below V.heap.size V w') :
    Calls Try.prog 24 #[.pointer (some ⟨r, 0, none⟩), .int .i64 p, .int .i64 q] W fun e w' => e = .returned (.tuple #[.int .i64 0, .int .i64 2]) ∧ Below W.heap.size W w' := by
  have cF := lfind_any p h
  simp only [Ld.fI, hf] at cF
  have hm := h.most
  have hl := h.len
  have hi := (List.getElem?_eq_some_iff.1 hx).1
  have c2 := h.c2
  obtain ⟨k, rfl, rfl, hc⟩ := h.row hx
  obtain ⟨y1, -⟩ := hc _ _ (lcs_get hx 1 (.int .i64 x.qty) rfl)
  have hi2 : (i : Int) < (s.L.length : Int) := by omega
  have hp' : decide (p < 1) = false := decide_eq_false (by omega)
  have hq' : decide (q < 1) = false := decide_eq_false (by omega)
  have hi0 : ¬ (i : Int) < 0 := by omega
  have hd0 : decide ((i : Int) < 0) = false := decide_eq_false hi0
  clear h hf hx hc
  go_enter Try.func24, Try.ntmps24
  go_wp2_with (first
    | (go_at_call 36; refine cF.mono ?_; rintro e w1 ⟨rfl, rfl⟩; clear cF)
    | (go_at_call 38; refine (cO _).mono ?_; rintro e w1 ⟨rfl, hb1⟩)
    | fail)
  all_goals go_ret2
  all_goals exact ⟨rfl, hb1⟩
set_option maxRecDepth 8000 in
set_option maxHeartbeats 1000000 in
/-- One more order at a level. -/
theorem lputOld_any (p q : Int) (h : RlB W r S ko ao cap s) (hp : 1 ≤ p) (hq : 1 ≤ q) {i : Nat} {x : Lvl} (hf : s.find p = some i) (hx : s.L[i]? = some x) (ho : 0 ≤ x.orders ∧ x.orders ≤ 1000000)
    (cA : ∀ (V : World), Calls Try.prog 38 #[.int .i64 x.qty, .int .i64 q] V fun e w' => e = .returned (.tuple #[.int .i64 (x.qty + q), .bool true]) ∧ Below V.heap.size V w') :
    Calls Try.prog 24 #[.pointer (some ⟨r, 0, none⟩), .int .i64 p, .int .i64 q] W fun e w' => e = .returned (.tuple #[.int .i64 x.queue, .int .i64 0]) ∧ RlB w' r S ko ao cap ⟨s.buy, s.most, s.L.set i (x.add q)⟩ ∧ Frm S W w' := by
  have cF := lfind_any p h
  simp only [Ld.fI, hf] at cF
  have hm := h.most
  have hl := h.len
  have hi := (List.getElem?_eq_some_iff.1 hx).1
  have c2 := h.c2
  obtain ⟨k, rfl, rfl, hkr, hkS, -⟩ := h.turn (y := x.add q) hx rfl rfl
  have hfacts : ∀ w1, Below W.heap.size W w1 → w1.cell? ⟨r, 2, none⟩ = some (.slice (some ⟨k, 0, none⟩) s.L.length cap) ∧ (w1.cell? ⟨k, i * 4 + 1, none⟩ = some (.int .i64 x.qty) ∧ w1.frozen? ⟨k, i * 4 + 1, none⟩ = false) ∧ (w1.cell? ⟨k, i * 4 + 2, none⟩ = some (.int .i64 x.orders) ∧ w1.frozen? ⟨k, i * 4 + 2, none⟩ = false) ∧ w1.cell? ⟨k, i * 4 + 3, none⟩ = some (.int .i64 x.queue) := by
    intro w1 hb
    have h1 := h.below hb
    obtain ⟨k', e1, -, hc⟩ := h1.row hx
    cases e1
    exact ⟨h1.c2, hc _ _ (lcs_get hx 1 _ rfl), hc _ _ (lcs_get hx 2 _ rfl), (hc _ _ (lcs_get hx 3 _ rfl)).1⟩
  obtain ⟨-, ⟨y1, -⟩, -⟩ := hfacts W (Below.refl _ _)
  have hend : ∀ w1, Below W.heap.size W w1 → RlB ((w1.setCell ⟨k, i * 4 + 1, none⟩ (.int .i64 (x.qty + q))).setCell ⟨k, i * 4 + 2, none⟩ (.int .i64 (x.orders + 1))) r S (some k) (some ⟨k, 0, none⟩) cap ⟨s.buy, s.most, s.L.set i (x.add q)⟩ ∧ Frm S W ((w1.setCell ⟨k, i * 4 + 1, none⟩ (.int .i64 (x.qty + q))).setCell ⟨k, i * 4 + 2, none⟩ (.int .i64 (x.orders + 1))) := by
    intro w1 hb
    obtain ⟨k', e1, -, -, -, h3⟩ := (h.below hb).turn (y := x.add q) hx rfl rfl
    cases e1
    exact ⟨h3, ((Frm.of_below hb).setCell _ _ (.inl hkS)).setCell _ _ (.inl hkS)⟩
  have hi2 : (i : Int) < (s.L.length : Int) := by omega
  have hp' : decide (p < 1) = false := decide_eq_false (by omega)
  have hq' : decide (q < 1) = false := decide_eq_false (by omega)
  have hi0 : ¬ (i : Int) < 0 := by omega
  have hd0 : decide ((i : Int) < 0) = false := decide_eq_false hi0
  have hrk : r ≠ k := Ne.symm hkr
  replace hend := Lib.hid hend
  replace hfacts := Lib.hid hfacts
  clear h hf hx hkS
  go_enter Try.func24, Try.ntmps24
  go_wp2_with (first
    | (go_at_call 36; refine cF.mono ?_; rintro e w1 ⟨rfl, rfl⟩; clear cF)
    | (go_at_call 38; refine (cA _).mono ?_; rintro e w1 ⟨rfl, hb1⟩; clear cA y1 c2; obtain ⟨d2, ⟨z1, f1⟩, ⟨z2, f2⟩, z3⟩ := hfacts.out _ hb1)
    | fail)
  all_goals go_ret2
  all_goals exact ⟨rfl, hend.out _ hb1⟩
end
end Go.Proofs.Ythlpnlmjpdcbiaa
