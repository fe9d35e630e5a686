/-
  The walk of ArenaEach. (Written by gen/p_area.py from gen/area_head.txt.)
-/
import Derived.Test.YtbkdakabpmpiiaaArk
import Derived.Test.YtbkdakabpmpiiaaArw
import Derived.Test.YtbkdakabpmpiiaaEnt
import Derived.Test.YtbkdakabpmpiiaaRangeb
import Derived.Test.YtbkdakabpmpiiaaQround
import Derived.RangeFuncCalls
import Derived.Shelf.RegionOpen
namespace Go.Proofs.Ytbkdakabpmpiiaa
open Go.RowKit
attribute [local go_sem] Oper.semAt_some
attribute [local go_sem] wide_fn
theorem goodE_put (s : Ar) (pre : List (Nat × Ord)) (x : Nat × Ord) (A : World) (l : Nat) (o o' : Obj) (h : goodE s pre x A) (_ : A.heap[l]? = some o) (_ : o.isCells = false) : goodE s pre x (A.putObj l o') := h
/-- The number of the last one that was handed out. -/
def Ar.lastI (s : Ar) : Nat → Int
  | 0 => -1
  | q + 1 => match s.lst[q]? with
    | some x => (x.1 : Int)
    | none => -1
theorem Ar.lastI_lt {s : Ar} {q : Nat} {x : Nat × Ord} (h : s.lst[q]? = some x) : s.lastI q < (x.1 : Int) := by
  cases q with
  | zero => show (-1 : Int) < x.1; omega
  | succ q =>
    have hq : q < s.lst.length := by have := (List.getElem?_eq_some_iff.1 h).1; omega
    obtain ⟨y, hy⟩ : ∃ y, s.lst[q]? = some y := ⟨s.lst[q], List.getElem?_eq_getElem hq⟩
    unfold Ar.lastI
    simp only [hy]
    obtain ⟨-, -, -, h1⟩ := s.lstN_at _ _ _ h
    obtain ⟨-, -, -, h2⟩ := s.lstN_at _ _ _ hy
    rcases Nat.lt_or_ge y.1 x.1 with h3 | h3
    · omega
    · obtain ⟨t, ht⟩ := s.lstN_mono h3
      rw [ht, List.length_append] at h2
      omega
theorem Ar.lastI_succ {s : Ar} {q : Nat} {x : Nat × Ord} (h : s.lst[q]? = some x) : s.lastI (q + 1) = (x.1 : Int) := by
  unfold Ar.lastI
  simp only [h]
/-- How far the acts have come, in a region. -/
def J3 (W4 : World) (S : Nat → Prop) (g r : Nat) (s s' : Ar) (a _b : Bool) (w : World) : Prop := Bo W4 S g r (bif a then s' else s) (bif a then s' else s) w
/-- The order of a slot, as the document's arena keeps it. -/
theorem RaB.orders {w : World} {r : Nat} {S : Nat → Prop} {s : Ar} {bo bt : Nat} {cO cT : Array Value} {ad : Option Addr} {cd : Nat} (h : RaB w r S s bo bt cO cT ad cd) {i : Nat} {o : Ord} (ho : s.O[i]? = some o) :
    w.cell? ⟨bo, i * 7, none⟩ = some (.int .i64 o.id) ∧ w.cell? ⟨bo, i * 7 + 1, none⟩ = some (.int .i64 o.owner) ∧ w.cell? ⟨bo, i * 7 + 2, none⟩ = some (.int .i64 o.side) ∧ w.cell? ⟨bo, i * 7 + 3, none⟩ = some (.int .i64 o.price) ∧ w.cell? ⟨bo, i * 7 + 4, none⟩ = some (.int .i64 o.qty) ∧ w.cell? ⟨bo, i * 7 + 5, none⟩ = some (.int .i64 o.flags) ∧ w.cell? ⟨bo, i * 7 + 6, none⟩ = some (.int .i64 o.seq) := by
  have e := fun j v hv => h.ho.cell_eq _ _ (h.fo.at' i o ho j v hv)
  exact ⟨e 0 _ rfl, e 1 _ rfl, e 2 _ rfl, e 3 _ rfl, e 4 _ rfl, e 5 _ rfl, e 6 _ rfl⟩
set_option maxRecDepth 100000 in
set_option maxHeartbeats 4000000 in
theorem aeach_any (x : Int) (ao : Option Addr) (cap : Nat) (l : List Act) (stop : Int) (W : World) (hL : Acts W ao cap l) :
    Calls Try.prog 4 #[.int .i64 x, .slice ao l.length cap, .int .i64 stop] W fun e w' => e = .returned (.bool true) ∧ Below W.heap.size W w' := by
  have hl1 := hL.len
  have hl2 := hL.top
  unfold maxLen at hl2
  obtain ⟨W1, hW1⟩ : ∃ W1, W1 = (W.alloc (.cells #[.int .i64 stop] 3)).alloc (.cells #[.bool false] 4) := ⟨_, rfl⟩
  have m1 : Mem W [(W.heap.size + 1, 4, #[.bool false]), (W.heap.size, 3, #[.int .i64 stop])] W1 := by
    rw [hW1]
    exact ((Mem.start W).new _ _).new' _ _ (by simp)
  refine (callsIn_wide (n := 6)).1 ?_
  refine callsIn_of_wp_marks Try.func4 rfl trivial ?_ rfl
  simp only [Try.ntmps4, List.size_toArray, List.length_cons, List.length_nil, Nat.reduceAdd, Nat.reduceSub, Array.replicate_succ, Array.replicate_zero, List.push_toArray, List.append_toArray, List.nil_append, List.cons_append]
  refine wpIn_wide.2 ?_
  by_cases hx : x < 1 ∨ 500 < x ∨ 200 < l.length
  · go_wp2_with (go_at_call 7; rw [← hW1]; refine (alive9_any W1).mono ?_; rintro e w2 ⟨rfl, hb2⟩; have m2 := m1.keep hb2; have h2 := m2.blk (W.heap.size + 1) 4 #[.bool false] (by simp); have c2 : w2.cell? ⟨W.heap.size + 1, 0, none⟩ = some (.bool false) := h2.cell_eq 0 _ rfl; have c3 := h2.free 0; clear m1 hW1 hb2)
    all_goals first
      | (exfalso; omega)
      | skip
    all_goals
      have hcr : (w2.setCell ⟨W.heap.size + 1, 0, none⟩ (.bool true)).cell? ⟨W.heap.size + 1, 0, none⟩ = some (.bool true) := (h2.set 0 (.bool true)).cell_eq 0 _ rfl
      refine ⟨.bool true, ?_, rfl, m2.below.setCell (p := ⟨W.heap.size + 1, 0, none⟩) (by simp) _⟩
      simp [results, Try.results4, go_sem, hcr]
  · obtain ⟨n, rfl, hn1, hn2⟩ : ∃ n : Nat, x = (n : Int) ∧ 1 ≤ n ∧ n ≤ 500 := ⟨x.toNat, by omega, by omega, by omega⟩
    have hlen : l.length ≤ 200 := by omega
    clear hx
    have c1 := fun w => new_any n hn1 hn2 w
    have c2 := fun w => rnew_any n hn1 hn2 w
    obtain ⟨s0, h0⟩ : ∃ s0, s0 = Ar.new n := ⟨_, rfl⟩
    have hs0 : s0.n = n := by rw [h0]; rfl
    rw [← h0] at c1 c2
    clear h0
    go_wp2_with (first
      | (go_at_call 7; rw [← hW1]; refine (alive9_any W1).mono ?_; rintro e w2 ⟨rfl, hb2⟩; have m2 := m1.keep hb2; clear m1 hW1 hb2)
      | (go_at_call 8; refine (c1 w2).mono ?_; rintro e w3 ⟨rfl, hb3, c, hB3, hA3⟩; have m3 := m2.keep hb3; clear c1)
      | (go_at_call 9; refine (c2 w3).mono ?_; rintro e w4 ⟨rfl, hb4, hR4⟩; have m4 := m3.keep hb4; have hB4 := hB3.below hb4 hB3.lt; clear c2))
    have hz2 : W.heap.size + 1 < w2.heap.size := (m2.blk (W.heap.size + 1) 4 #[.bool false] (by simp)).lt
    have hz3 := hB3.lt
    have hz4 := hR4.lt (w3.heap.size + 2) (by omega)
    obtain ⟨W4, hW4⟩ : ∃ W4, W4 = w4.alloc (.cells #[.pointer (some ⟨w3.heap.size + 1 + 1, 0, none⟩)] 28) := ⟨_, rfl⟩
    have hb4' : Below w4.heap.size w4 W4 := by rw [hW4]; exact (Below.refl _ _).alloc (Nat.le_refl _) _
    have m5 : Mem W ((w4.heap.size, 28, #[.pointer (some ⟨w3.heap.size + 1 + 1, 0, none⟩)]) :: [(W.heap.size + 1, 4, #[.bool false]), (W.heap.size, 3, #[.int .i64 stop])]) W4 := by rw [hW4]; exact m4.new _ _
    obtain ⟨S, hS⟩ : ∃ S : Nat → Prop, S = fun b => w3.heap.size ≤ b ∧ b < w3.heap.size + 3 := ⟨_, rfl⟩
    have hS1 : ∀ b, S b → W.heap.size + 2 ≤ b ∧ b < w4.heap.size := fun b hb => by rw [hS] at hb; omega
    have k0 : Bo W4 S w2.heap.size (w3.heap.size + 1 + 1) s0 s0 W4 :=
      ⟨Frm.refl _ _, ⟨c, hB4.below hb4' hB4.lt, hA3⟩, S, by rw [hS]; exact hR4.below hb4', fun e => by rw [hS] at e; omega, fun b hb => .inl hb⟩
    rw [← hW4]
    clear hS hW4 hb4' hB4 hR4 hA3 hB3 m4 m3 m2 hb3 hb4
    generalize w3.heap.size + 1 + 1 = r at k0 m5 ⊢
    have hg : W.heap.size + 2 ≤ w2.heap.size ∧ w2.heap.size < w4.heap.size := by omega
    clear hz2 hz3 hz4
    generalize w2.heap.size = g at k0 hg ⊢
    generalize w4.heap.size = b9 at k0 hg m5 hS1 ⊢
    have hF : ∀ s t w, Bo W4 S g r s t w → Blk w b9 28 #[.pointer (some ⟨r, 0, none⟩)] ∧ Blk w (W.heap.size + 1) 4 #[.bool false] ∧ Blk w W.heap.size 3 #[.int .i64 stop] ∧ Below W.heap.size W w := fun s t w k =>
      ⟨k.blk (m5.blk b9 28 #[.pointer (some ⟨r, 0, none⟩)] (by simp)) (by omega) (fun e => by have := hS1 _ e; omega),
       k.blk (m5.blk (W.heap.size + 1) 4 #[.bool false] (by simp)) (by omega) (fun e => by have := hS1 _ e; omega),
       k.blk (m5.blk W.heap.size 3 #[.int .i64 stop] (by simp)) (by omega) (fun e => by have := hS1 _ e; omega),
       m5.below.trans (k.frm.below m5.below.size (fun b hb => by rcases hb with hb | hb; exact (by omega); have := hS1 _ hb; omega))⟩
    have hb9f := fun s t w k => (hF s t w k).1.cell_eq 0 _ rfl
    have hbelf := fun s t w k => (hF s t w k).2.2.2
    go_loopg [11] l.length (fun j p11 wr => ∃ (q : Nat) (s : Ar), q + j = l.length ∧ p11 = .int .i64 (q : Int) ∧ s.n = n ∧ Bo W4 S g r s s wr)
    case atStart => exact ⟨0, s0, by omega, rfl, hs0, k0⟩
    case round =>
      clear k0 hs0
      obtain ⟨q, s, hq, rfl, hs, k⟩ := hrel
      by_cases hj : q < l.length
      · obtain ⟨m, hm⟩ : ∃ m, l[q]? = some m := ⟨l[q], List.getElem?_eq_getElem hj⟩
        obtain ⟨lb, off, rfl, -⟩ := hL.get hm
        have hY : ∀ s t w, Bo W4 S g r s t w → w.cell? ⟨lb, off + q * 9, none⟩ = some (.int .i64 m.kind) ∧ w.cell? ⟨lb, off + q * 9 + 1, none⟩ = some (.int .i64 m.slot) ∧ w.cell? ⟨lb, off + q * 9 + 2, none⟩ = some (.int .i64 m.o.id) ∧ w.cell? ⟨lb, off + q * 9 + 3, none⟩ = some (.int .i64 m.o.owner) ∧ w.cell? ⟨lb, off + q * 9 + 4, none⟩ = some (.int .i64 m.o.side) ∧ w.cell? ⟨lb, off + q * 9 + 5, none⟩ = some (.int .i64 m.o.price) ∧ w.cell? ⟨lb, off + q * 9 + 6, none⟩ = some (.int .i64 m.o.qty) ∧ w.cell? ⟨lb, off + q * 9 + 7, none⟩ = some (.int .i64 m.o.flags) ∧ w.cell? ⟨lb, off + q * 9 + 8, none⟩ = some (.int .i64 m.o.seq) := fun s t w k => by
          obtain ⟨b', off', e, h⟩ := (hL.below (hbelf s t w k)).get hm
          cases e
          exact h
        obtain ⟨s', hs'⟩ : ∃ s', s' = s.act m := ⟨_, rfl⟩
        have hs2 : s'.n = n := by rw [hs', s.act_n]; exact hs
        have cX := fun w (k : Bo W4 S g r s s w) => act_any k m
        rw [← hs'] at cX
        have hJ : J3 W4 S g r s s' false false wr.drew := k.below ((Below.refl _ _).drew)
        clear hs' hm hs k hL
        obtain ⟨kind, slot, a1, a2, a3, a4, a5, a6, a7⟩ := m
        simp only at hY
        go_wp2_with fail
        refine wp_region_S (S := fun L w' => Duo 8 6 100 (J3 W4 S g r s s') L w') (by kernel_rfl) (Duo.start 8 6 100 hJ) ?_
        refine AllS.next (v := ?_) rfl rfl rfl (by kernel_rfl) ?_ ?_
        rotate_left
        · refine yieldsS_run (fun _ _ h => h.other (by decide) (by decide)) (by rfl) ?_
          intro L wx hS
          go_simp
          try with_reducible rfl
        simp only [Act.put, List.setIfInBounds_toArray, List.set_cons_zero, List.set_cons_succ, List.getElem_toArray, List.getElem_cons_zero]
        refine AllS.next (v := ?_) rfl rfl rfl (by kernel_rfl) ?_ ?_
        rotate_left
        · refine yieldsS_run (fun _ _ h => h.other (by decide) (by decide)) (by rfl) ?_
          intro L wx hS
          have c9 := hb9f _ _ _ hS.at'
          go_simp
          try with_reducible rfl
        simp only [Act.put, List.setIfInBounds_toArray, List.set_cons_zero, List.set_cons_succ, List.getElem_toArray, List.getElem_cons_zero, List.getElem_cons_succ]
        refine AllS.next (v := ?_) rfl rfl rfl (by kernel_rfl) ?_ ?_
        rotate_left
        · refine yieldsS_run (fun _ _ h => h.other (by decide) (by decide)) (by rfl) ?_
          intro L wx hS
          go_simp
          try with_reducible rfl
        simp only [Act.put, List.setIfInBounds_toArray, List.set_cons_zero, List.set_cons_succ, List.getElem_toArray, List.getElem_cons_zero, List.getElem_cons_succ]
        refine AllS.next (v := ?_) rfl rfl rfl (by kernel_rfl) ?_ ?_
        rotate_left
        · refine yieldsS_run (fun _ _ h => h.other (by decide) (by decide)) (by rfl) ?_
          intro L wx hS
          go_simp
          try with_reducible rfl
        simp only [Act.put, List.setIfInBounds_toArray, List.set_cons_zero, List.set_cons_succ, List.getElem_toArray, List.getElem_cons_zero, List.getElem_cons_succ]
        refine AllS.next (v := ?_) rfl rfl rfl (by kernel_rfl) ?_ ?_
        rotate_left
        · refine yieldsS_run (fun _ _ h => h.other (by decide) (by decide)) (by rfl) ?_
          intro L wx hS
          go_simp
          try with_reducible rfl
        simp only [Act.put, List.setIfInBounds_toArray, List.set_cons_zero, List.set_cons_succ, List.getElem_toArray, List.getElem_cons_zero, List.getElem_cons_succ]
        refine AllS.next (v := ?_) rfl rfl rfl (by kernel_rfl) ?_ ?_
        rotate_left
        · refine yieldsS_run (fun _ _ h => h.other (by decide) (by decide)) (by rfl) ?_
          intro L wx hS
          obtain ⟨y0, y1, y2, y3, y4, y5, y6, y7, y8⟩ := hY _ _ _ hS.at'
          go_simp
          try with_reducible rfl
        simp only [Act.put, List.setIfInBounds_toArray, List.set_cons_zero, List.set_cons_succ, List.getElem_toArray, List.getElem_cons_zero, List.getElem_cons_succ]
        refine AllS.next (v := .bool true) rfl rfl rfl (by kernel_rfl) ?_ ?_
        · refine yieldsS_callq (f := 10) (args := #[.pointer (some ⟨g, 0, none⟩), .pointer (some ⟨r, 0, none⟩), vAct ⟨kind, slot, ⟨a1, a2, a3, a4, a5, a6, a7⟩⟩]) (by rfl) ?_ ?_
          · intro wx
            go_simp
            try with_reducible rfl
          · intro L wx hL hS
            exact hS.fst hL (by decide) (by decide) (fun b w h => (cX w h).mono fun e w' h' => ⟨h'.1, h'.2⟩)
        simp only [Act.put, List.setIfInBounds_toArray, List.set_cons_zero, List.set_cons_succ, List.getElem_toArray, List.getElem_cons_zero, List.getElem_cons_succ]
        refine AllS.next (v := ?_) rfl rfl rfl (by kernel_rfl) ?_ ?_
        rotate_left
        · refine yieldsS_run (fun _ _ h => h.other (by decide) (by decide)) (by rfl) ?_
          intro L wx hS
          go_simp
          try with_reducible rfl
        simp only [Act.put, List.setIfInBounds_toArray, List.set_cons_zero, List.set_cons_succ, List.getElem_toArray, List.getElem_cons_zero, List.getElem_cons_succ]
        refine AllS.done rfl ?_
        intro w9 hS9
        have k9 : Bo W4 S g r s' s' w9 := by
          have h9 := hS9.at'
          exact h9
        go_wp2_with fail
        go_roundg (l.length - (q + 1))
        case measure => omega
        case rel => exact ⟨q + 1, s', by omega, by go_num, hs2, k9⟩
      · clear hb9f hL
        have hbel := hbelf _ _ _ k
        clear hbelf
        obtain ⟨c, hBg, hAg⟩ := k.arn
        obtain ⟨S', hR, hng, hS'⟩ := k.ref
        have hRl := hR.lt
        have hgl := hBg.lt
        have h9l := (hF _ _ _ k).1.lt
        obtain ⟨h9, hres, hstp, -⟩ := hF _ _ _ k
        clear k hF hS1 m5
        obtain ⟨W7, hW7⟩ : ∃ W7, W7 = (wr.alloc (.cells #[.int .i64 0] 3)).alloc (.cells #[.int .i64 (-1)] 3) := ⟨_, rfl⟩
        have m7 : Mem wr [(wr.heap.size + 1, 3, #[.int .i64 (-1)]), (wr.heap.size, 3, #[.int .i64 0])] W7 := by
          rw [hW7]
          exact ((Mem.start wr).new _ _).new' _ _ (by simp)
        have hs7h : Hid (W7.heap.size = wr.heap.size + 1 + 1) := Lib.hid (by rw [hW7]; simp)
        go_wp2_with (go_at_call 14; rw [← hW7]; refine (each_any (some ⟨g, 0, none⟩) W7).mono ?_; rintro e w8 ⟨rfl, hb8, T1, T3, hB1, hB3⟩; have m8 := m7.keep hb8; clear m7 hW7)
        have hs7 := hs7h.out
        clear hs7h
        refine (wpIn_wide (n := 6)).1 ?_
        have hs8 := hB3.lt
        have hbw : Below wr.heap.size wr w8 := m8.below
        have hb12 := m8.blk wr.heap.size 3 #[.int .i64 0] (by simp)
        have hb13 := m8.blk (wr.heap.size + 1) 3 #[.int .i64 (-1)] (by simp)
        replace hBg := hBg.below hbw hgl
        replace hR := hR.below hbw
        replace h9 := h9.below hbw h9l
        replace hres := hres.below hbw hres.lt
        replace hstp := hstp.below hbw hstp.lt
        replace hbel := hbel.trans (hbw.mono hbel.size)
        clear m8 hb8
        obtain ⟨b12, hb12e⟩ : ∃ b12, b12 = wr.heap.size := ⟨_, rfl⟩
        rw [← hb12e] at hb12 hb13 hs7 hRl hgl h9l ⊢
        have hgWb : W.heap.size + 2 ≤ g := hg.1
        have h9W : W.heap.size + 2 < b9 := by omega
        clear hb12e hbw
        generalize W7.heap.size = B7 at hB1 hB3 hs7 hs8 ⊢
        have h12s : b12 + 1 < w8.heap.size := by omega
        have hused : s.lst.length = s.used := Ar.lst_used hAg.wf
        have hsml : s.n ≤ 500 := hAg.small
        have hule : s.used ≤ s.n := hAg.used_le
        refine range_law3 (F := Fence.wide) rfl (by omega) (gf := 24) (lb := #[.pointer (some ⟨B7, 0, none⟩), .pointer (some ⟨B7 + 1, 0, none⟩)]) rfl trivial (goes_of Try.func24 (by kernel_rfl) rfl) (enc := encE) (fun _ => rfl) (fun q => q = b12 ∨ q = b12 + 1) (fun q e => .inl (by omega)) (G := goodE s) (goodE_put s)
          (each_seqs Fence.wide rfl (6 - 1) (by omega) g B7 (B7 + 1) T1 T3 c s w8 (fun q => q = b12 ∨ q = b12 + 1) hB1 hB3 hBg hAg (by omega) (by omega) (by omega))
          (fun pre A => Blk A b12 3 #[.int .i64 (pre.length : Int)] ∧ Blk A (b12 + 1) 3 #[.int .i64 (s.lastI pre.length)] ∧ Frm (fun q => (q = b12 ∨ q = b12 + 1) ∨ w8.heap.size ≤ q) w8 A ∧ (0 < stop → (pre.length : Int) < stop))
          (fun c pre A => (c = .exit 2 ∧ 0 < pre.length) ∧ Blk A b12 3 #[.int .i64 (pre.length : Int)] ∧ Blk A (b12 + 1) 3 #[.int .i64 (s.lastI pre.length)] ∧ Frm (fun q => (q = b12 ∨ q = b12 + 1) ∨ w8.heap.size ≤ q) w8 A ∧ (pre.length : Int) = stop)
          (fun pre A B ⟨h1, h2, h3, h4⟩ hf => ⟨blk_frm h1 hf (by omega), blk_frm h2 hf (by omega), h3.trans hf (fun q h => .inl (.inr (by omega))), h4⟩)
          (fun c pre A B ⟨h0, h1, h2, h3, h4⟩ hf => ⟨h0, blk_frm h1 hf (by omega), blk_frm h2 hf (by omega), h3.trans hf (fun q h => .inl (.inr (by omega))), h4⟩)
          ⟨hb12, hb13, Frm.refl _ _, fun h => h⟩
          ?a1 (fun x A => A.alloc (.cells (cOrd x.2) 33)) (fun x A => (Below.refl _ _).alloc (Nat.le_refl _) _) (fun _ _ _ h => h) ?assign ?body ?done ?stop
        case assign =>
          intro l x V K hK
          simp only [encE]
          gi_wp2
          exact hK
        case body =>
          rintro lb pre x A0 A ⟨h1, h2, h3, h4⟩ hgood hlen hl0 hfA
          obtain ⟨k, o⟩ := x
          obtain ⟨hkn, hkh, hko, -⟩ := s.lstN_at _ _ _ hgood
          have hll := s.lastI_lt hgood
          have hls := s.lastI_succ hgood
          simp only at hkn hkh hko hll hls hfA
          obtain ⟨o', ho⟩ := Ar.get_some hAg.wf hkn
          rw [ho] at hko
          obtain rfl : o = o' := hko
          have hRA := hR.frm h3 (fun b hb hS => by have := hRl b hS; omega)
          have cH := fun m => rhas_any r S' s (k : Int) (A.drewN m) (hRA.below (below_drewN (Below.refl _ _) m))
          rw [s.hasI_nat, hkh] at cH
          obtain ⟨bo, bt, cO, cT, ad, cd, hB⟩ := hRA
          have c0 : A.cell? ⟨r, 0, none⟩ = some (.slice (some ⟨bo, 0, none⟩) s.n s.n) := hB.hr.cell_eq 0 _ rfl
          obtain ⟨y0, y1, y2, y3, y4, y5, y6⟩ := hB.orders ho
          have c9 : A.cell? ⟨b9, 0, none⟩ = some (.pointer (some ⟨r, 0, none⟩)) := (blk_frm h9 h3 (by omega)).cell_eq 0 _ rfl
          have cs : A.cell? ⟨W.heap.size, 0, none⟩ = some (.int .i64 stop) := (blk_frm hstp h3 (by omega)).cell_eq 0 _ rfl
          have c12 : A.cell? ⟨b12, 0, none⟩ = some (.int .i64 (pre.length : Int)) := h1.cell_eq 0 _ rfl
          have c13 : A.cell? ⟨b12 + 1, 0, none⟩ = some (.int .i64 (s.lastI pre.length)) := h2.cell_eq 0 _ rfl
          have f12 := h1.free 0
          have f13 := h2.free 0
          obtain ⟨z0, z1, z2, z3, z4, z5, z6⟩ := Ord.cells (blk_frm (Blk.new A0 33 (cOrd o)) hfA (by omega))
          have hE := fun w => neq_Ord o o w
          rw [eqOrd_self] at hE
          have hle : decide ((k : Int) ≤ s.lastI pre.length) = false := decide_eq_false (by omega)
          have hlp : (pre ++ [(k, o)]).length = pre.length + 1 := by simp
          clear hgood hkh hB ho hfA hB1 hB3 hBg hR h9 hres hbel hAg hng hS' hRl
          generalize s.lastI pre.length = lp at c13 hle h2 hll
          rw [hs] at hkn c0
          obtain ⟨a1, a2, a3, a4, a5, a6, a7⟩ := o
          simp only at z0 z1 z2 z3 z4 z5 z6 y0 y1 y2 y3 y4 y5 y6
          gi_wp2
          refine wpIn_region_quiet_round (F := Fence.wide) rfl (by kernel_rfl) (by kernel_rfl) (by kernel_rfl) ?_
          repeat (quiet_step_in ((gi_at_call 15; exact CallsIn.quiet_of_same (callsIn_wide.2 (cH _)))))
          refine wpQuietIn_nil ?_
          rintro _ ⟨nq, rfl⟩
          have hdq : Frm (fun q => q = b12 ∨ q = b12 + 1) A (A.drewN nq) := Frm.of_below (below_drewN (Below.refl _ _) nq)
          have g1 : Blk (A.drewN nq) b12 3 #[.int .i64 (pre.length : Int)] := h1.below (below_drewN (Below.refl _ _) nq) h1.lt
          have g2 : Blk (A.drewN nq) (b12 + 1) 3 #[.int .i64 lp] := h2.below (below_drewN (Below.refl _ _) nq) h2.lt
          have hX1 := (g1.other (a := ⟨b12 + 1, 0, none⟩) (by show b12 + 1 ≠ b12; omega) (.int .i64 (k : Int))).set 0 (.int .i64 ((pre.length : Int) + 1))
          have hX2 := (g2.set 0 (.int .i64 (k : Int))).other (a := ⟨b12, 0, none⟩) (by show b12 ≠ b12 + 1; omega) (.int .i64 ((pre.length : Int) + 1))
          have hXf := (hdq.setCell ⟨b12 + 1, 0, none⟩ (.int .i64 (k : Int)) (.inl (.inr rfl))).setCell ⟨b12, 0, none⟩ (.int .i64 ((pre.length : Int) + 1)) (.inl (.inl rfl))
          have hXw := h3.trans hXf (fun q h => .inl (.inl h))
          have hcast : (((pre ++ [(k, (⟨a1, a2, a3, a4, a5, a6, a7⟩ : Ord))]).length : Nat) : Int) = (pre.length : Int) + 1 := by rw [hlp]; omega
          have hlsh := Lib.hid hls
          clear hls
          clear g1 g2 hdq y0 y1 y2 y3 y4 y5 y6 z0 z1 z2 z3 z4 z5 z6 cH hE hle
          have q1 : Blk (((A.drewN nq).setCell ⟨b12 + 1, 0, none⟩ (.int .i64 (k : Int))).setCell ⟨b12, 0, none⟩ (.int .i64 ((pre.length : Int) + 1))) b12 3 #[.int .i64 (((pre ++ [(k, (⟨a1, a2, a3, a4, a5, a6, a7⟩ : Ord))]).length : Nat) : Int)] := by rw [hcast]; exact hX1
          have q2 : Blk (((A.drewN nq).setCell ⟨b12 + 1, 0, none⟩ (.int .i64 (k : Int))).setCell ⟨b12, 0, none⟩ (.int .i64 ((pre.length : Int) + 1))) (b12 + 1) 3 #[.int .i64 (s.lastI (pre ++ [(k, (⟨a1, a2, a3, a4, a5, a6, a7⟩ : Ord))]).length)] := by rw [hlp, hlsh.out]; exact hX2
          by_cases hx : (pre.length : Int) + 1 = stop
          · have hd : ((pre.length : Int) + 1 == stop) = true := by simpa using hx
            have q5 : (((pre ++ [(k, (⟨a1, a2, a3, a4, a5, a6, a7⟩ : Ord))]).length : Nat) : Int) = stop := by rw [hcast]; exact hx
            have q6 : 0 < (pre ++ [(k, (⟨a1, a2, a3, a4, a5, a6, a7⟩ : Ord))]).length := by omega
            have H := Lib.hid (And.intro hXf (And.intro q6 (And.intro q1 (And.intro q2 (And.intro hXw q5)))))
            clear hX1 hX2 hXf hXw q1 q2 q5 q6 hlsh hcast hx
            gi_wp2
            obtain ⟨r1, r2, r3⟩ := H.out
            exact ⟨r1, ⟨rfl, r2⟩, r3⟩
          · have hd : ((pre.length : Int) + 1 == stop) = false := by simpa using hx
            have q5 : 0 < stop → (((pre ++ [(k, (⟨a1, a2, a3, a4, a5, a6, a7⟩ : Ord))]).length : Nat) : Int) < stop := fun h => by have := h4 h; rw [hcast]; omega
            have H := Lib.hid (And.intro hXf (And.intro q1 (And.intro q2 (And.intro hXw q5))))
            clear hX1 hX2 hXf hXw q1 q2 q5 hlsh hcast hx
            gi_wp2
            exact H.out
        case done =>
          rintro D ys V hD hys ⟨h1, h2, h3, h4⟩ hK
          rw [hys, hused] at h1 h4
          have c12 : V.cell? ⟨b12, 0, none⟩ = some (.int .i64 (s.used : Int)) := h1.cell_eq 0 _ rfl
          have hRA := hR.frm h3 (fun b hb hS => by have := hRl b hS; omega)
          have cU := rused_any r S' s V hRA
          have h9V := blk_frm h9 h3 (by omega)
          have hsV := blk_frm hstp h3 (by omega)
          have hrV := blk_frm hres h3 (by omega)
          have hbV : Below W.heap.size W V := hbel.trans (h3.below hbel.size (fun q h => by omega))
          have c9 : V.cell? ⟨b9, 0, none⟩ = some (.pointer (some ⟨r, 0, none⟩)) := h9V.cell_eq 0 _ rfl
          have cs : V.cell? ⟨W.heap.size, 0, none⟩ = some (.int .i64 stop) := hsV.cell_eq 0 _ rfl
          have c2 : V.cell? ⟨W.heap.size + 1, 0, none⟩ = some (.bool false) := hrV.cell_eq 0 _ rfl
          have c3 := hrV.free 0
          obtain ⟨V2, hV2⟩ : ∃ V2, V2 = V.setCell ⟨W.heap.size + 1, 0, none⟩ (.bool true) := ⟨_, rfl⟩
          have hK' : V2.heap[D]? = some (.deferred (some [])) := by rw [hV2]; exact (Below.heap_setCell _ _ _ _ (by show D ≠ W.heap.size + 1; omega)).trans hK
          have hfin : Below W.heap.size W (V2.putObj D (.deferred none)) := by
            have g2 : Below W.heap.size W V2 := by rw [hV2]; exact hbV.setCell (p := ⟨W.heap.size + 1, 0, none⟩) (by simp) _
            exact g2.trans ((Frm.put (S := fun q => q = D) V2 D (.deferred none) rfl).below g2.size (fun q h => by omega))
          have hcr : (V2.putObj D (.deferred none)).cell? ⟨W.heap.size + 1, 0, none⟩ = some (.bool true) := by
            refine (World.cell?_of_block (a := ⟨W.heap.size + 1, 0, none⟩) (World.putObj_heap_other (by show W.heap.size + 1 ≠ D; omega))).trans ?_
            rw [hV2]
            exact (hrV.set 0 (.bool true)).cell_eq 0 _ rfl
          generalize s.used = u at c12 h4 cU
          have H4 := Lib.hid h4
          clear h1 h2 h3 h4 hRA h9V hsV hbV hB1 hB3 hBg hR h9 hres hbel hAg hng hS' hRl hused hule hys
          have d2 : decide ((0 : Int) < stop) = false ∨ (decide ((0 : Int) < stop) = true ∧ decide (stop < (u : Int)) = false) := by
            by_cases hp : 0 < stop
            · have := H4.out hp
              exact .inr ⟨decide_eq_true hp, decide_eq_false (by omega)⟩
            · exact .inl (decide_eq_false hp)
          clear H4
          rcases d2 with d2 | ⟨d2, d3⟩
          all_goals go_wp2_with (go_at_call 12; refine cU.mono ?_; rintro e w9 ⟨rfl, rfl⟩; clear cU)
          all_goals
            rw [← hV2]
            refine ⟨by simp, .inl ⟨_, _, rfl, run_takeDeferred hK', ?_⟩⟩
            refine ⟨.bool true, ?_, rfl, hfin⟩
            simp [results, Try.results4, go_sem, hcr]
        case stop =>
          rintro D c' pre V hD hsp ⟨⟨rfl, hpos⟩, h1, h2, h3, h4⟩ hK
          rw [h4] at h1
          rw [hused] at hsp
          have c12 : V.cell? ⟨b12, 0, none⟩ = some (.int .i64 stop) := h1.cell_eq 0 _ rfl
          have hRA := hR.frm h3 (fun b hb hS => by have := hRl b hS; omega)
          have cU := rused_any r S' s V hRA
          have h9V := blk_frm h9 h3 (by omega)
          have hsV := blk_frm hstp h3 (by omega)
          have hrV := blk_frm hres h3 (by omega)
          have hbV : Below W.heap.size W V := hbel.trans (h3.below hbel.size (fun q h => by omega))
          have c9 : V.cell? ⟨b9, 0, none⟩ = some (.pointer (some ⟨r, 0, none⟩)) := h9V.cell_eq 0 _ rfl
          have cs : V.cell? ⟨W.heap.size, 0, none⟩ = some (.int .i64 stop) := hsV.cell_eq 0 _ rfl
          have c2 : V.cell? ⟨W.heap.size + 1, 0, none⟩ = some (.bool false) := hrV.cell_eq 0 _ rfl
          have c3 := hrV.free 0
          obtain ⟨V2, hV2⟩ : ∃ V2, V2 = V.setCell ⟨W.heap.size + 1, 0, none⟩ (.bool true) := ⟨_, rfl⟩
          have hK' : V2.heap[D]? = some (.deferred (some [])) := by rw [hV2]; exact (Below.heap_setCell _ _ _ _ (by show D ≠ W.heap.size + 1; omega)).trans hK
          have hfin : Below W.heap.size W (V2.putObj D (.deferred none)) := by
            have g2 : Below W.heap.size W V2 := by rw [hV2]; exact hbV.setCell (p := ⟨W.heap.size + 1, 0, none⟩) (by simp) _
            exact g2.trans ((Frm.put (S := fun q => q = D) V2 D (.deferred none) rfl).below g2.size (fun q h => by omega))
          have hcr : (V2.putObj D (.deferred none)).cell? ⟨W.heap.size + 1, 0, none⟩ = some (.bool true) := by
            refine (World.cell?_of_block (a := ⟨W.heap.size + 1, 0, none⟩) (World.putObj_heap_other (by show W.heap.size + 1 ≠ D; omega))).trans ?_
            rw [hV2]
            exact (hrV.set 0 (.bool true)).cell_eq 0 _ rfl
          have d1 : decide ((0 : Int) < stop) = true := decide_eq_true (by omega)
          have d2 : decide (stop < (s.used : Int)) = true ∨ (decide (stop < (s.used : Int)) = false ∧ (stop == (s.used : Int)) = true) := by
            by_cases hp : stop < (s.used : Int)
            · exact .inl (decide_eq_true hp)
            · exact .inr ⟨decide_eq_false hp, by simp; omega⟩
          generalize s.used = u at d2 cU
          clear h1 h2 h3 h4 hRA h9V hsV hbV hB1 hB3 hBg hR h9 hres hbel hAg hng hS' hRl hused hule hpos hsp
          refine wpIn_wide.2 ?_
          rcases d2 with d2 | ⟨d2, d3⟩
          all_goals go_wp2_with (go_at_call 12; refine cU.mono ?_; rintro e w9 ⟨rfl, rfl⟩; clear cU)
          all_goals
            rw [← hV2]
            refine ⟨by simp, .inl ⟨_, _, rfl, run_takeDeferred hK', ?_⟩⟩
            refine ⟨.bool true, ?_, rfl, hfin⟩
            simp [results, Try.results4, go_sem, hcr]
end Go.Proofs.Ytbkdakabpmpiiaa
