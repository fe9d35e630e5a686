/-
  The document's window as Go's: RW; ticks, priced, New, Reset.
  Add of the document's window.
-/
import Derived.Test.YteljjjdejjkgfaaWnbq
import Derived.Test.YteljjjdejjkgfaaTrdVq
import Derived.Test.YteljjjdejjkgfaaGrowq
namespace Go.Proofs.Yteljjjdejjkgfaa
open Go.RowKit
set_option linter.unusedSimpArgs false
abbrev tcs (l : List Trd) : List Value := l.flatMap fun x => (cTrd x).toList
theorem cTrd_one (x : Trd) : ∀ u ∈ (cTrd x).toList, u.oneCell' = true := by
  intro u hu
  simp at hu
  rcases hu with rfl | rfl | rfl <;> rfl
theorem tcs_one (l : List Trd) : ∀ u ∈ tcs l, u.oneCell' = true := by
  intro u hu
  obtain ⟨x, -, hx⟩ := List.mem_flatMap.1 hu
  exact cTrd_one x u hx
theorem infoTrd : (Try.prog.info? 68).map (fun i => (i.zero, i.size, i.bytes)) = some (some (vTrd Trd.zero), 3, 24) := by kernel_rfl
structure RwB (w : World) (r : Nat) (S : Nat → Prop) (ko : Option Nat) (ao : Option Addr) (cap : Nat) (m : Wn) : Prop where
  hr : Blk w r 37 #[.int .i64 m.span, .int .i64 m.grid, .int .i64 m.ref, .int .i64 m.last, .slice ao m.L.length cap]
  how : OwG 68 3 w ko ao cap m.L.length (tcs m.L)
  sr : S r
  sk : ∀ k, ko = some k → S k ∧ k ≠ r
  lt : ∀ c, S c → c < w.heap.size
/-- The document's window at r; it has the blocks S. -/
def RW (w : World) (r : Nat) (S : Nat → Prop) (m : Wn) : Prop := ∃ ko ao cap, RwB w r S ko ao cap m
section
variable {w w' W : World} {r : Nat} {S T : Nat → Prop} {m : Wn} {ko : Option Nat} {ao : Option Addr} {cap : Nat}
theorem RwB.frm (h : RwB w r S ko ao cap m) (hf : Frm T w w') (hT : ∀ c, T c → ¬ S c) : RwB w' r S ko ao cap m := by
  have k : ∀ c, S c → w'.heap[c]? = w.heap[c]? := fun c hc => hf.block c (h.lt c hc) (fun ht => hT c ht hc)
  exact ⟨(k _ h.sr).trans h.hr, h.how.keep (fun c e => k c (h.sk c e).1), h.sr, h.sk, fun c hc => Nat.lt_of_lt_of_le (h.lt c hc) hf.size⟩
theorem RW.frm (h : RW w r S m) (hf : Frm T w w') (hT : ∀ c, T c → ¬ S c) : RW w' r S m := by
  obtain ⟨ko, ao, cap, h⟩ := h
  exact ⟨ko, ao, cap, h.frm hf hT⟩
theorem RW.below (h : RW w r S m) (hb : Below w.heap.size w w') : RW w' r S m := h.frm (Frm.of_below (S := fun _ => False) hb) (fun _ f => f.elim)
theorem RwB.rows (h : RwB w r S ko ao cap m) : Trds w ao cap m.L := Trds.of_own h.how
/-- It has turned, and nothing else. -/
def Tw (W : World) (r : Nat) (S : Nat → Prop) (m : Wn) (w' : World) : Prop := ∃ S', RW w' r S' m ∧ Frm S W w' ∧ ∀ c, S' c → S c ∨ W.heap.size ≤ c
theorem Tw.refl (h : RW W r S m) : Tw W r S m W := ⟨S, h, Frm.refl _ _, fun _ h => .inl h⟩
theorem Tw.below (h : RW W r S m) (hb : Below W.heap.size W w') : Tw W r S m w' := ⟨S, h.below hb, Frm.of_below hb, fun _ h => .inl h⟩
/-- One that is laid anew. -/
theorem RW.fresh (W : World) (span grid ref : Int) : ∃ W1, W1 = W.alloc (.cells #[.int .i64 span, .int .i64 grid, .int .i64 ref, .int .i64 0, .slice none 0 0] 37) ∧ RW W1 W.heap.size (fun c => c = W.heap.size) ⟨span, grid, ref, 0, []⟩ ∧ Below W.heap.size W W1 :=
  ⟨_, rfl, ⟨none, none, 0, Blk.new _ _ _, OwG.nil _ _ _, rfl, (fun k e => by cases e), (fun c hc => by subst hc; simp)⟩, (Below.refl _ _).alloc (Nat.le_refl _) _⟩
set_option maxRecDepth 8000 in
theorem rticks_any (t : Int) (h : RW W r S m) : Calls Try.prog 36 #[.pointer (some ⟨r, 0, none⟩), .int .i64 t] W fun e w' => e = .returned (.bool (decide (tickOk m.last t))) ∧ Below W.heap.size W w' := by
  obtain ⟨ko, ao, cap, h⟩ := h
  have c3 := h.hr.cell_eq 3 _ rfl
  clear h
  have key : (decide (tickOk m.last t) = false ∧ (decide (0 ≤ t) = false ∨ (decide (0 ≤ t) = true ∧ (decide (t ≤ 1152921504606846976) = false ∨ (decide (t ≤ 1152921504606846976) = true ∧ decide (m.last ≤ t) = false))))) ∨ (decide (tickOk m.last t) = true ∧ decide (0 ≤ t) = true ∧ decide (t ≤ 1152921504606846976) = true ∧ decide (m.last ≤ t) = true) := by
    unfold tickOk
    simp only [decide_eq_true_eq, decide_eq_false_iff_not]
    omega
  generalize decide (tickOk m.last t) = v at *
  generalize m.last = a at *
  rcases key with ⟨rfl, k1 | ⟨k1, k2 | ⟨k2, k3⟩⟩⟩ | ⟨rfl, k1, k2, k3⟩
  all_goals
    go_enter Try.func36, Try.ntmps36
    go_wp2_with fail
    go_ret
    exact ⟨rfl, Below.refl _ _⟩
set_option maxRecDepth 8000 in
theorem rpriced_any (p g : Int) (hp : In64 p) (hg : 1 ≤ g ∧ g ≤ 1099511627776) (W : World) : Calls Try.prog 20 #[.int .i64 p, .int .i64 g] W fun e w' => e = .returned (.bool (decide (refOk p g))) ∧ Below W.heap.size W w' := by
  have cP := rprice_any p g hp (by unfold In64; omega) W
  have hv : decide (refOk p g) = (priceV p g == 0) := by
    unfold priceV refOk
    rw [if_neg (by omega)]
    by_cases h : p < 1 ∨ 1099511627776 < p
    · rw [if_pos h, decide_eq_false (by omega)]; rfl
    · rw [if_neg h]
      by_cases h2 : p % g = 0
      · rw [if_pos h2, decide_eq_true ⟨by omega, by omega, h2⟩]; rfl
      · rw [if_neg h2, decide_eq_false (by omega)]; rfl
  rw [hv]
  clear hv
  generalize priceV p g = x at *
  go_enter Try.func20, Try.ntmps20
  go_wp2_with (first
    | (go_at_call 35; refine cP.mono ?_; rintro e w2 ⟨rfl, hb⟩; clear cP)
    | fail)
  go_ret
  exact ⟨rfl, hb⟩
set_option maxRecDepth 8000 in
theorem rwnew_any (span grid ref : Int) (hr : In64 ref) (W : World) : Calls Try.prog 9 #[.int .i64 span, .int .i64 grid, .int .i64 ref] W fun e w' => (wnNew span grid ref = none ∧ e = .returned (.tuple #[.pointer none, .int .i64 9]) ∧ Below W.heap.size W w') ∨ ∃ r m S, wnNew span grid ref = some m ∧ e = .returned (.tuple #[.pointer (some ⟨r, 0, none⟩), .int .i64 0]) ∧ RW w' r S m ∧ Below W.heap.size W w' ∧ ∀ c, S c → W.heap.size ≤ c := by
  have key : (wnNew span grid ref = none ∧ (decide (span < 1) = true ∨ (decide (span < 1) = false ∧ (decide (1099511627776 < span) = true ∨ (decide (1099511627776 < span) = false ∧ (decide (grid < 1) = true ∨ (decide (grid < 1) = false ∧ decide (1099511627776 < grid) = true))))))) ∨ (decide (span < 1) = false ∧ decide (1099511627776 < span) = false ∧ decide (grid < 1) = false ∧ decide (1099511627776 < grid) = false ∧ 1 ≤ grid ∧ grid ≤ 1099511627776 ∧ 1 ≤ span ∧ span ≤ 1099511627776) := by
    by_cases h : 1 ≤ span ∧ span ≤ 1099511627776 ∧ 1 ≤ grid ∧ grid ≤ 1099511627776
    · refine .inr ?_
      simp only [decide_eq_false_iff_not]
      omega
    · refine .inl ⟨?_, ?_⟩
      · unfold wnNew
        rw [if_neg (by omega)]
      · simp only [decide_eq_true_eq, decide_eq_false_iff_not]
        omega
  rcases key with ⟨e, k⟩ | ⟨k1, k2, k3, k4, h1, h2, h3, h4⟩
  · rw [e]
    rcases k with k1 | ⟨k1, k2 | ⟨k2, k3 | ⟨k3, k4⟩⟩⟩
    all_goals
      go_enter Try.func9, Try.ntmps9
      go_wp2_with fail
      refine bodyPost_ret (v := .tuple #[.pointer none, .int .i64 9]) ?_ rfl ?_
      rotate_left
      · exact .inl ⟨by trivial, rfl, Below.refl _ _⟩
      simp [results, Try.results9, go_sem]
  · have cP := rpriced_any ref grid hr ⟨h1, h2⟩ W
    by_cases hp : refOk ref grid
    · rw [decide_eq_true hp] at cP
      have e : wnNew span grid ref = some ⟨span, grid, ref, 0, []⟩ := by unfold wnNew; rw [if_pos ⟨h3, h4, h1, h2, hp⟩]
      rw [e]
      clear hp e h1 h2 h3 h4
      go_enter Try.func9, Try.ntmps9
      go_wp2_with (first
        | (go_at_call 20; refine cP.mono ?_; rintro e w2 ⟨rfl, hb⟩; clear cP)
        | fail)
      obtain ⟨W1, hW1, hR, hb1⟩ := RW.fresh w2 span grid ref
      refine bodyPost_ret (v := .tuple #[.pointer (some ⟨w2.heap.size, 0, none⟩), .int .i64 0]) ?_ rfl ?_
      rotate_left
      · refine .inr ⟨w2.heap.size, _, fun c => c = w2.heap.size, rfl, rfl, ?_, ?_, ?_⟩
        · rw [← hW1]; exact hR
        · rw [← hW1]; exact hb.trans (hb1.mono hb.size)
        · intro c hc; subst hc; exact hb.size
      simp [results, Try.results9, go_sem]
    · rw [decide_eq_false hp] at cP
      have e : wnNew span grid ref = none := by unfold wnNew; rw [if_neg (fun h => hp h.2.2.2.2)]
      rw [e]
      clear hp e h1 h2 h3 h4
      go_enter Try.func9, Try.ntmps9
      go_wp2_with (first
        | (go_at_call 20; refine cP.mono ?_; rintro e w2 ⟨rfl, hb⟩; clear cP)
        | fail)
      refine bodyPost_ret (v := .tuple #[.pointer none, .int .i64 9]) ?_ rfl ?_
      rotate_left
      · exact .inl ⟨by trivial, rfl, hb⟩
      simp [results, Try.results9, go_sem]
set_option maxRecDepth 8000 in
theorem rwreset_any (p : Int) (hp : In64 p) (hok : m.Ok) (h : RW W r S m) : Calls Try.prog 24 #[.pointer (some ⟨r, 0, none⟩), .int .i64 p] W fun e w' => e = .returned (.int .i64 (m.reset p).1) ∧ Tw W r S (m.reset p).2 w' := by
  have cP := rpriced_any p m.grid hp hok.g W
  obtain ⟨ko, ao, cap, h⟩ := h
  have c1 := h.hr.cell_eq 1 _ rfl
  unfold Wn.reset
  by_cases hq : refOk p m.grid
  · rw [decide_eq_true hq] at cP
    rw [if_pos hq]
    clear hq hp hok
    have hk : ∀ w, Below W.heap.size W w → w.cell? ⟨r, 2, none⟩ = some (.int .i64 m.ref) ∧ w.cell? ⟨r, 4, none⟩ = some (.slice ao m.L.length cap) ∧ (∀ i, w.frozen? ⟨r, i, none⟩ = false) ∧ Tw W r S { m with ref := p, L := [] } ((w.setCell ⟨r, 2, none⟩ (.int .i64 p)).setCell ⟨r, 4, none⟩ (.slice none 0 0)) := fun w hb => by
      have h0 := h.frm (Frm.of_below (S := fun _ => False) hb) (fun _ f => f.elim)
      have h1 : Blk (w.setCell ⟨r, 2, none⟩ (.int .i64 p)) r 37 #[.int .i64 m.span, .int .i64 m.grid, .int .i64 p, .int .i64 m.last, .slice ao m.L.length cap] := h0.hr.set 2 _
      have h2 : Blk ((w.setCell ⟨r, 2, none⟩ (.int .i64 p)).setCell ⟨r, 4, none⟩ (.slice none 0 0)) r 37 #[.int .i64 m.span, .int .i64 m.grid, .int .i64 p, .int .i64 m.last, .slice none 0 0] := h1.set 4 _
      have hf : Frm S W ((w.setCell ⟨r, 2, none⟩ (.int .i64 p)).setCell ⟨r, 4, none⟩ (.slice none 0 0)) := ((Frm.of_below hb).setCell ⟨r, 2, none⟩ _ (.inl h.sr)).setCell ⟨r, 4, none⟩ _ (.inl h.sr)
      exact ⟨h0.hr.cell_eq 2 _ rfl, h0.hr.cell_eq 4 _ rfl, h0.hr.free, S, ⟨none, none, 0, h2, OwG.nil _ _ _, h.sr, (fun k e => by cases e), fun c hc => Nat.lt_of_lt_of_le (h.lt c hc) hf.size⟩, hf, fun c hc => .inl hc⟩
    clear h
    generalize m.grid = g at *
    go_enter Try.func24, Try.ntmps24
    go_wp2_with (first
      | (go_at_call 20; refine cP.mono ?_; rintro e w ⟨rfl, hb⟩; clear cP c1; obtain ⟨c2, c4, fr, ht⟩ := hk w hb; clear hk)
      | fail)
    go_ret
    exact ⟨rfl, ht⟩
  · rw [decide_eq_false hq] at cP
    rw [if_neg hq]
    clear hq hp hok
    have hk : ∀ w, Below W.heap.size W w → Tw W r S m w := fun w hb => Tw.below ⟨ko, ao, cap, h⟩ hb
    clear h
    generalize m.grid = g at *
    go_enter Try.func24, Try.ntmps24
    go_wp2_with (first
      | (go_at_call 20; refine cP.mono ?_; rintro e w ⟨rfl, hb⟩; clear cP)
      | fail)
    go_ret
    exact ⟨rfl, hk _ hb⟩
end
end Go.Proofs.Yteljjjdejjkgfaa
namespace Go.Proofs.Yteljjjdejjkgfaa
open Go.RowKit
set_option linter.unusedSimpArgs false
theorem heap_oth (w : World) (p : Addr) (v : Value) {b : Nat} (h : b ≠ p.block) : (w.setCell p v).heap[b]? = w.heap[b]? := Below.heap_setCell _ _ _ _ h
theorem app_new {B : Nat} {W w w' : World} {ko ko' : Option Nat} (hb : Below B W w) (hB : B ≤ w.heap.size) (hk : ∀ k, ko = some k → B ≤ k) (hf : Frm (fun b => ko = some b) w w') (hm : Moved w ko ko') : Below B W w' ∧ ∀ k, ko' = some k → B ≤ k := by
  refine ⟨hb.trans (hf.below hB hk), fun k e => ?_⟩
  rcases hm with g | g | ⟨k', g, h'⟩
  · rw [g] at e; cases e
  · exact hk k (g ▸ e)
  · rw [g] at e; cases e; omega
theorem OwG.emptyW (E : TypeId) (sz : Nat) (w : World) : OwG E sz (w.alloc (.cells #[] E)) (some w.heap.size) (some ⟨w.heap.size, 0, none⟩) 0 0 [] :=
  ⟨by simp, Nat.le_refl _, Nat.zero_le _, .inr ⟨_, #[], rfl, rfl, heap_alloc_last w _, by simp, by simp⟩⟩
section
variable {w w' W : World} {r : Nat} {S T : Nat → Prop} {m : Wn} {ko : Option Nat} {ao : Option Addr} {cap : Nat}
set_option maxRecDepth 8000 in
set_option maxHeartbeats 4000000 in
theorem rwadd_any (t p q : Int) (hlen : m.L.length ≤ 1000000) (h : RW W r S m) : Calls Try.prog 21 #[.pointer (some ⟨r, 0, none⟩), .int .i64 t, .int .i64 p, .int .i64 q] W fun e w' => e = .returned (.int .i64 (m.add t p q).1) ∧ Tw W r S (m.add t p q).2 w' := by
  have cK := rticks_any t h
  have key : (m.add t p q = (9, m) ∧ (decide (tickOk m.last t) = false ∨ (decide (tickOk m.last t) = true ∧ (decide (p < 1) = true ∨ (decide (p < 1) = false ∧ (decide (1099511627776 < p) = true ∨ (decide (1099511627776 < p) = false ∧ (decide (q < 1) = true ∨ (decide (q < 1) = false ∧ decide (4294967296 < q) = true))))))))) ∨ (m.add t p q = (0, { m with last := t, L := m.L ++ [⟨t, p, q⟩] }) ∧ decide (tickOk m.last t) = true ∧ decide (p < 1) = false ∧ decide (1099511627776 < p) = false ∧ decide (q < 1) = false ∧ decide (4294967296 < q) = false) := by
    unfold Wn.add
    by_cases h : tickOk m.last t ∧ tradeOk p q
    · refine .inr ⟨if_pos h, decide_eq_true h.1, ?_⟩
      obtain ⟨-, h⟩ := h
      unfold tradeOk at h
      simp only [decide_eq_false_iff_not]
      omega
    · refine .inl ⟨if_neg h, ?_⟩
      by_cases h1 : tickOk m.last t
      · refine .inr ⟨decide_eq_true h1, ?_⟩
        have h2 : ¬ tradeOk p q := fun g => h ⟨h1, g⟩
        unfold tradeOk at h2
        simp only [decide_eq_true_eq, decide_eq_false_iff_not]
        omega
      · exact .inl (decide_eq_false h1)
  rcases key with ⟨e, k⟩ | ⟨e, k0, k1, k2, k3, k4⟩
  · rw [e]
    have hk : ∀ w, Below W.heap.size W w → Tw W r S m w := fun w hb => Tw.below h hb
    clear e h
    generalize decide (tickOk m.last t) = v at *
    rcases k with rfl | ⟨rfl, k1 | ⟨k1, k2 | ⟨k2, k3 | ⟨k3, k4⟩⟩⟩⟩
    all_goals
      go_enter Try.func21, Try.ntmps21
      go_wp2_with (first
        | (go_at_call 36; refine cK.mono ?_; rintro e w ⟨rfl, hb⟩; clear cK)
        | fail)
      go_ret
      exact ⟨rfl, hk _ hb⟩
  · rw [e]
    rw [k0] at cK
    obtain ⟨i1, hi1, e1⟩ := Option.map_eq_some_iff.1 infoTrd
    simp only [Prod.mk.injEq] at e1
    obtain ⟨hz1, hs1, hb1⟩ := e1
    obtain ⟨ko, ao, cap, h⟩ := h
    have hk : ∀ w, Below W.heap.size W w → w.cell? ⟨r, 3, none⟩ = some (.int .i64 m.last) ∧ w.cell? ⟨r, 4, none⟩ = some (.slice ao m.L.length cap) ∧ (∀ i, w.frozen? ⟨r, i, none⟩ = false) ∧ RwB (w.setCell ⟨r, 3, none⟩ (.int .i64 t)) r S ko ao cap { m with last := t } ∧ Frm S W (w.setCell ⟨r, 3, none⟩ (.int .i64 t)) := fun w hb => by
      have h0 := h.frm (Frm.of_below (S := fun _ => False) hb) (fun _ f => f.elim)
      have hs : (w.setCell ⟨r, 3, none⟩ (.int .i64 t)).heap.size = w.heap.size := by simp
      exact ⟨h0.hr.cell_eq 3 _ rfl, h0.hr.cell_eq 4 _ rfl, h0.hr.free, ⟨h0.hr.set 3 _, h0.how.keep fun k e => heap_oth _ _ _ (h0.sk k e).2, h0.sr, h0.sk, fun c hc => by rw [hs]; exact h0.lt c hc⟩, (Frm.of_below hb).setCell ⟨r, 3, none⟩ _ (.inl h.sr)⟩
    obtain ⟨z, hz⟩ : ∃ z : Trd, z = ⟨t, p, q⟩ := ⟨_, rfl⟩
    have hfin : ∀ w3, RwB w3 r S ko ao cap { m with last := t } → Frm S W w3 → ∀ w5 ao2 cap2 ko2, Below w3.heap.size w3 w5 → (∀ k, ko2 = some k → w3.heap.size ≤ k) → OwG 68 3 w5 ko2 ao2 cap2 (m.L.length + 1) (tcs m.L ++ (cTrd z).toList) → w5.cell? ⟨r, 4, none⟩ = some (.slice ao m.L.length cap) ∧ (∀ i, w5.frozen? ⟨r, i, none⟩ = false) ∧ Tw W r S { m with last := t, L := m.L ++ [z] } (w5.setCell ⟨r, 4, none⟩ (.slice ao2 (m.L.length + 1) cap2)) := fun w3 h3 hf3 w5 ao2 cap2 ko2 hb5 hk2 ho2 => by
      have hB5 := h3.hr.below hb5 (h3.lt r h3.sr)
      have hs5 := hb5.size
      have hs3 := hf3.size
      have hrl := h3.lt r h3.sr
      have hs : (w5.setCell ⟨r, 4, none⟩ (.slice ao2 (m.L.length + 1) cap2)).heap.size = w5.heap.size := by simp
      refine ⟨hB5.cell_eq 4 _ rfl, hB5.free, fun c => c = r ∨ ko2 = some c, ⟨ko2, ao2, cap2, ⟨?_, ?_, .inl rfl, fun k e => ⟨.inr e, by have := hk2 k e; omega⟩, ?_⟩⟩, ?_, ?_⟩
      · have := hB5.set 4 (.slice ao2 (m.L.length + 1) cap2)
        simp only [List.length_append, List.length_singleton]
        exact this
      · have h5 := ho2.keep (w' := w5.setCell ⟨r, 4, none⟩ (.slice ao2 (m.L.length + 1) cap2)) fun k e => heap_oth _ _ _ (show k ≠ r by have := hk2 k e; omega)
        simp only [List.length_append, List.length_singleton, tcs, List.flatMap_append, List.flatMap_cons, List.flatMap_nil, List.append_nil]
        exact h5
      · rintro c (rfl | e)
        · rw [hs]; omega
        · rw [hs]; subst e; exact ho2.lt
      · exact (hf3.trans (Frm.of_below (S := fun _ => False) hb5) (fun _ f => f.elim)).setCell ⟨r, 4, none⟩ _ (.inl h.sr)
      · rintro c (rfl | e)
        · exact .inl h.sr
        · exact .inr (Nat.le_trans hs3 (hk2 c e))
    have hone := cTrd_one z
    rw [← hz]
    clear e h k0
    replace hfin := Lib.hid hfin
    generalize m.last = ml at *
    obtain ⟨n, hn⟩ : ∃ n, n = m.L.length := ⟨_, rfl⟩
    go_enter Try.func21, Try.ntmps21
    go_wp2_with (first
      | (go_at_call 36; refine cK.mono ?_; rintro e w ⟨rfl, hb⟩; clear cK; obtain ⟨c3, c4, fr, h3, hf3⟩ := hk w hb; clear hk; have hf5 := hfin.out _ h3 hf3; clear hfin; have hsrc := fun w' (hb' : Below _ _ w') => (h3.frm (Frm.of_below (S := fun _ => False) hb') (fun _ f => f.elim)).how.src (tcs_one _); have a1 := (Below.refl (w.setCell ⟨r, 3, none⟩ (.int .i64 t)).heap.size (w.setCell ⟨r, 3, none⟩ (.int .i64 t))).alloc (Nat.le_refl _) (.cells #[] 68); have c46 := (h3.hr.below a1 (h3.lt r h3.sr)).cell_eq 4 _ rfl; have hrw : r < w.heap.size := (by have := h3.lt r h3.sr; simpa using this); have hE : OwG 68 3 ((w.setCell ⟨r, 3, none⟩ (.int .i64 t)).alloc (.cells #[] 68)) (some w.heap.size) (some ⟨w.heap.size, 0, none⟩) 0 0 [] := (by have := OwG.emptyW 68 3 (w.setCell ⟨r, 3, none⟩ (.int .i64 t)); rwa [show (w.setCell ⟨r, 3, none⟩ (.int .i64 t)).heap.size = w.heap.size by simp] at this); clear h3)
      | (at_builtin; refine wpList_appG rfl (.tmp 34) (.tmp 38) 35 68 i1 _ 3 24 Try.underlying35 hi1 hz1 hs1 hb1 rfl (by decide) rfl hE (hsrc _ a1) rfl rfl (by omega) (by omega) ?_; intro ao1 cap1 ko1 w4 ho1 hf1 hm1; rw [Nat.zero_add, List.nil_append] at ho1; obtain ⟨a2, hk1⟩ := app_new a1 (by simp) (fun k e => by cases e; simp) hf1 hm1; clear hf1 hm1 hsrc a1; try simp only [Nat.zero_add])
      | (at_builtin; refine wpList_appG rfl (.tmp 39) (.tmp 44) 35 68 i1 _ 3 24 Try.underlying35 hi1 hz1 hs1 hb1 rfl (by decide) rfl (ho1.alloc _) (SrcG.row (cs := cTrd z) (by rw [hz]; exact Blk.new _ _ _) rfl hone) rfl rfl (by omega) (by omega) ?_; intro ao2 cap2 ko2 w5 ho2 hf2 hm2; obtain ⟨a3, hk2⟩ := app_new (a2.alloc a2.size _) (by have := a2.size; simp at this ⊢; omega) hk1 hf2 hm2; obtain ⟨c45, fr5, htw⟩ := hf5 _ _ _ _ a3 hk2 ho2; clear hf2 hm2)
      | fail)
    go_ret
    exact ⟨rfl, by rw [hz] at htw; exact htw⟩
end
end Go.Proofs.Yteljjjdejjkgfaa
