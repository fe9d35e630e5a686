/-
  The program's levels in memory; the contracts of better, Len, flip.
-/
import Derived.Test.YtdmjcjheanedgaaDoorGG
import Derived.Test.YtdmjcjheanedgaaDoorRldq
import Derived.StillTailTactics
import Derived.Laws.Bits64
import Derived.Laws.Bits64b
namespace Go.Proofs.YtdmjcjheanedgaaDoor
open Go.RowKit
/-- The struct's cells. -/
def cPl (buy : Bool) (ao : Option Addr) (n cap : Nat) (F : List Nat) : Array Value := (.int .i64 (sdI buy) :: .slice ao n cap :: F.map fun (x : Nat) => Value.int .u64 (x : Int)).toArray
theorem cPl_get {buy : Bool} {ao : Option Addr} {n cap : Nat} {F : List Nat} {i : Nat} {x : Nat} (h : F[i]? = some x) : (cPl buy ao n cap F)[2 + i]? = some (.int .u64 (x : Int)) := by
  have e : 2 + i = i + 1 + 1 := by omega
  simp [cPl, e, h]
theorem cPl_set (buy : Bool) (ao : Option Addr) (n cap : Nat) (F : List Nat) (i y : Nat) : (cPl buy ao n cap F).setIfInBounds (2 + i) (.int .u64 (y : Int)) = cPl buy ao n cap (F.set i y) := by
  have e : 2 + i = i + 1 + 1 := by omega
  simp [cPl, e, List.map_set]
theorem cPl_row (buy : Bool) (ao ao' : Option Addr) (n cap n' cap' : Nat) (F : List Nat) : (cPl buy ao n cap F).setIfInBounds 1 (.slice ao' n' cap') = cPl buy ao' n' cap' F := by simp [cPl]
/-- The struct in block g, its row owned; S: the blocks on which it hangs. -/
structure PmB (w : World) (g : Nat) (S : Nat → Prop) (ko : Option Nat) (ao : Option Addr) (cap : Nat) (buy : Bool) (P : List Lvl) (F : List Nat) : Prop where
  len : P.length ≤ 200
  fl : F.length = 4
  hg : Blk w g 126 (cPl buy ao P.length cap F)
  how : OwG 133 4 w ko ao cap P.length (lcs P)
  sg : S g
  sk : ∀ k, ko = some k → S k ∧ k ≠ g
  lt : ∀ b, S b → b < w.heap.size
section
variable {w w' W : World} {g : Nat} {S T : Nat → Prop} {ko : Option Nat} {ao : Option Addr} {cap : Nat} {buy : Bool} {P : List Lvl} {F : List Nat}
theorem PmB.keep (h : PmB w g S ko ao cap buy P F) (k : ∀ b, S b → w'.heap[b]? = w.heap[b]?) (hs : w.heap.size ≤ w'.heap.size) : PmB w' g S ko ao cap buy P F :=
  ⟨h.len, h.fl, (k _ h.sg).trans h.hg, h.how.keep (fun b e => k b (h.sk b e).1), h.sg, h.sk, fun b hb => Nat.lt_of_lt_of_le (h.lt b hb) hs⟩
theorem PmB.frm (h : PmB w g S ko ao cap buy P F) (hf : Frm T w w') (hT : ∀ b, T b → ¬ S b) : PmB w' g S ko ao cap buy P F :=
  h.keep (fun b hb => hf.block b (h.lt b hb) (fun ht => hT b ht hb)) hf.size
theorem PmB.below (h : PmB w g S ko ao cap buy P F) (hb : Below w.heap.size w w') : PmB w' g S ko ao cap buy P F := h.frm (Frm.of_below (S := fun _ => False) hb) (fun _ f => f.elim)
theorem PmB.drewN (h : PmB w g S ko ao cap buy P F) (n : Nat) : PmB (w.drewN n) g S ko ao cap buy P F := h.keep (fun _ _ => rfl) (Nat.le_refl _)
theorem PmB.drew (h : PmB w g S ko ao cap buy P F) : PmB w.drew g S ko ao cap buy P F := h.keep (fun _ _ => rfl) (Nat.le_refl _)
theorem PmB.c0 (h : PmB w g S ko ao cap buy P F) : w.cell? ⟨g, 0, none⟩ = some (.int .i64 (sdI buy)) := h.hg.cell_eq 0 _ (by simp [cPl])
theorem PmB.c1 (h : PmB w g S ko ao cap buy P F) : w.cell? ⟨g, 1, none⟩ = some (.slice ao P.length cap) := h.hg.cell_eq 1 _ (by simp [cPl])
theorem PmB.cw (h : PmB w g S ko ao cap buy P F) {i x : Nat} (hi : F[i]? = some x) : w.cell? ⟨g, 2 + i, none⟩ = some (.int .u64 (x : Int)) := h.hg.cell_eq (2 + i) _ (cPl_get hi)
theorem PmB.lvls (h : PmB w g S ko ao cap buy P F) : Lvls w ao cap P := Lvls.of_own h.how
theorem PmB.row (h : PmB w g S ko ao cap buy P F) {i : Nat} {x : Lvl} (hx : P[i]? = some x) : ∃ k, ko = some k ∧ ao = some ⟨k, 0, none⟩ ∧ (∀ j v, (lcs P)[j]? = some v → w.cell? ⟨k, j, none⟩ = some v ∧ w.frozen? ⟨k, j, none⟩ = false) := by
  have hL := lcs_len P
  have hi := (List.getElem?_eq_some_iff.1 hx).1
  obtain ⟨v, hv⟩ : ∃ v, (lcs P)[0]? = some v := ⟨_, List.getElem?_eq_getElem (by omega)⟩
  obtain ⟨k, rfl, rfl, -, -⟩ := h.how.cell 0 v hv
  refine ⟨k, rfl, rfl, fun j v hj => ?_⟩
  obtain ⟨k', h1, -, h2, h3⟩ := h.how.cell j v hj
  cases h1
  exact ⟨h2, h3⟩
/-- The row's slice turned to another one. -/
theorem PmB.lay (h : PmB W g S ko ao cap buy P F) {w2 : World} (hf : Frm S W w2) (hg2 : Blk w2 g 126 (cPl buy ao P.length cap F)) {L : List Lvl} (hL : L.length ≤ 200) {ko2 : Option Nat} {ao2 : Option Addr} {cap2 : Nat}
    (ho : OwG 133 4 w2 ko2 ao2 cap2 L.length (lcs L)) (hk : ∀ k, ko2 = some k → (S k ∧ k ≠ g) ∨ W.heap.size ≤ k) :
    PmB (w2.setCell ⟨g, 1, none⟩ (.slice ao2 L.length cap2)) g (fun b => S b ∨ (W.heap.size ≤ b ∧ b < w2.heap.size)) ko2 ao2 cap2 buy L F ∧ Frm S W (w2.setCell ⟨g, 1, none⟩ (.slice ao2 L.length cap2)) := by
  have hr := h.lt g h.sg
  have hsz : (w2.setCell ⟨g, 1, none⟩ (.slice ao2 L.length cap2)).heap.size = w2.heap.size := by simp [World.setCell]
  have hkr : ∀ k, ko2 = some k → k ≠ g := fun k e => by rcases hk k e with h1 | h1; exact h1.2; omega
  refine ⟨⟨hL, h.fl, ?_, ?_, .inl h.sg, fun k e => ⟨?_, hkr k e⟩, ?_⟩, hf.setCell _ _ (.inl h.sg)⟩
  · have := hg2.set 1 (.slice ao2 L.length cap2)
    rwa [cPl_row] at this
  · exact ho.keep fun k e => heap_oth _ _ _ (hkr k e)
  · rcases hk k e with h1 | h1
    · exact .inl h1.1
    · subst e; exact .inr ⟨h1, ho.lt⟩
  · intro b hb'
    rw [hsz]
    have := hf.size
    rcases hb' with k | k
    · have := h.lt b k; omega
    · exact k.2
/-- Two cells of a level turned. -/
theorem PmB.turn (h : PmB w g S ko ao cap buy P F) {i : Nat} {x y : Lvl} (hx : P[i]? = some x) (e1 : y.price = x.price) (e2 : y.queue = x.queue) :
    ∃ k, ko = some k ∧ ao = some ⟨k, 0, none⟩ ∧ k ≠ g ∧ S k ∧ PmB ((w.setCell ⟨k, i * 4 + 1, none⟩ (.int .i64 y.qty)).setCell ⟨k, i * 4 + 2, none⟩ (.int .i64 y.orders)) g S ko ao cap buy (P.set i y) F := by
  have hL := lcs_len P
  have hi := (List.getElem?_eq_some_iff.1 hx).1
  obtain ⟨v, hv⟩ : ∃ v, (lcs P)[0]? = some v := ⟨_, List.getElem?_eq_getElem (by omega)⟩
  obtain ⟨k, rfl, rfl, -, -⟩ := h.how.cell 0 v hv
  obtain ⟨hk, hkr⟩ := h.sk k rfl
  refine ⟨k, rfl, rfl, hkr, hk, by simpa using h.len, h.fl, ?_, ?_, h.sg, h.sk, ?_⟩
  · have e := h.hg
    unfold Blk at e ⊢
    rw [List.length_set, heap_oth _ _ _ (Ne.symm hkr), heap_oth _ _ _ (Ne.symm hkr)]
    exact e
  · rw [lcs_set y P i x hx e1 e2, List.length_set]
    exact (h.how.setc _ _).setc _ _
  · intro b hb
    have := h.lt b hb
    simpa [World.setCell] using this
theorem pbetter_any (a b : Int) (h : PmB W g S ko ao cap buy P F) :
    Calls Tryd.prog 76 #[.pointer (some ⟨g, 0, none⟩), .int .i64 a, .int .i64 b] W fun e w' => e = .returned (.bool (btr buy a b)) ∧ w' = W := by
  have c0 := h.c0
  clear h
  cases buy
  all_goals
    simp only [sdI, btr, if_true, Bool.false_eq_true, if_false] at c0 ⊢
    go_enter Tryd.func76, Tryd.ntmps76
    go_wp2_with fail
    all_goals go_ret
    all_goals exact ⟨rfl, rfl⟩
set_option maxRecDepth 8000 in
set_option maxHeartbeats 1000000 in
theorem pflip_any (q : Nat) (hq : q < 256) (hF : ∀ x ∈ F, x < 18446744073709551616) (h : PmB W g S ko ao cap buy P F) :
    Calls Tryd.prog 53 #[.pointer (some ⟨g, 0, none⟩), .int .i64 (q : Int)] W fun e w' => e = .returned undef ∧ PmB w' g S ko ao cap buy P (flp F q) ∧ Frm (fun b => b = g) W w' := by
  have hl := h.fl
  obtain ⟨x, hx⟩ : ∃ x, F[q / 64]? = some x := ⟨_, List.getElem?_eq_getElem (by omega)⟩
  have e0 : flp F q = F.set (q / 64) (x ^^^ 2 ^ (q % 64)) := by unfold flp; rw [hx]; rfl
  have cw := h.cw hx
  have fz := h.hg.free (2 + q / 64)
  have hend : PmB (W.drew.setCell ⟨g, 2 + q / 64, none⟩ (.int .u64 ((x ^^^ 2 ^ (q % 64) : Nat) : Int))) g S ko ao cap buy P (flp F q) ∧ Frm (fun b => b = g) W (W.drew.setCell ⟨g, 2 + q / 64, none⟩ (.int .u64 ((x ^^^ 2 ^ (q % 64) : Nat) : Int))) := by
    refine ⟨⟨h.len, by rw [e0, List.length_set]; exact hl, ?_, ?_, h.sg, h.sk, ?_⟩, ((Frm.refl _ W).drew).setCell _ _ (.inl rfl)⟩
    · have := (h.drew.hg).set (2 + q / 64) (.int .u64 ((x ^^^ 2 ^ (q % 64) : Nat) : Int))
      rwa [cPl_set, ← e0] at this
    · exact h.how.keep fun k e => heap_oth _ _ _ (h.sk k e).2
    · intro b hb
      have := h.lt b hb
      simpa [World.setCell] using this
  have hend' := Lib.hid hend
  have hx64 : x < 18446744073709551616 := hF x (List.mem_of_getElem? hx)
  have h64 : (2 : Nat) ^ (q % 64) < 2 ^ 64 := Nat.pow_lt_pow_right (by omega) (by omega)
  have ed : ((q : Int) / 64) = ((q / 64 : Nat) : Int) := by omega
  have em : ((q : Int).tmod 64) = ((q % 64 : Nat) : Int) := by rw [Int.tmod_eq_emod_of_nonneg (by omega)]; omega
  have hd4 : q / 64 < 4 := by omega
  have hm64 : q % 64 < 64 := by omega
  generalize q / 64 = d at *
  generalize q % 64 = m at *
  obtain ⟨r, hr⟩ : ∃ r, r = x ^^^ 2 ^ m := ⟨_, rfl⟩
  rw [← hr] at hend'
  have hb : bits .xor .u64 (x : Int) (IntKind.u64.wrap (2 ^ m)) = (r : Int) := by
    have e : ((2 : Int) ^ m) = ((2 ^ m : Nat) : Int) := by simp
    have h1 : IntKind.u64.wrap (2 ^ m) = ((2 ^ m : Nat) : Int) := by
      rw [e, IntKind.wrap_u64]
      generalize 2 ^ m = y at *
      omega
    rw [h1, bits_xor_u64_nat x (2 ^ m) hx64 h64, hr]
  clear h hend hF hx hx64 h64 e0 hr
  have hw1 : IntKind.i64.wrap (d : Int) = (d : Int) := by rw [IntKind.wrap_i64]; omega
  have hw2 : IntKind.i64.wrap (m : Int) = (m : Int) := by rw [IntKind.wrap_i64]; omega
  have hi1 : (d : Int) < 4 := by omega
  have hi2 : (m : Int) < 64 := by omega
  go_enter Tryd.func53, Tryd.ntmps53
  go_still_tail 14, (by kernel_rfl)
  change wpList _ _ _ _ _ (World.drew _)
  try rw [hb]
  clear hb hw1 hw2
  have fz' : W.drew.frozen? ⟨g, 2 + d, none⟩ = false := fz
  have cw' : W.drew.cell? ⟨g, 2 + d, none⟩ = some (.int .u64 (x : Int)) := cw
  go_wp2_with fail
  all_goals go_end0
  all_goals exact ⟨rfl, hend'.out⟩
end
end Go.Proofs.YtdmjcjheanedgaaDoor
