/-
  The contracts of package arena's Set and Get.
-/
import Derived.Test.YtbkdakabpmpiiaaAru
namespace Go.Proofs.Ytbkdakabpmpiiaa
open Go.RowKit
set_option maxRecDepth 8000 in
set_option maxHeartbeats 1000000 in
theorem set_any (g : Nat) (c : Array Value) (s : Ar) (x : Int) (o : Ord) (W : World) (hB : Blk W g 58 c) (hA : Arn c s) :
    Calls Try.prog 19 #[.pointer (some ⟨g, 0, none⟩), .int .i64 x, vOrd o] W fun e w' => e = .returned (.bool (s.hasI x)) ∧ Frm (fun b => b = g) W w' ∧ ∃ c', Blk w' g 58 c' ∧ Arn c' (if s.hasI x = true then s.set x.toNat o else s) := by
  obtain ⟨W1, hW1⟩ : ∃ W1, W1 = W.alloc (.cells (cOrd o) 33) := ⟨_, rfl⟩
  have hB1 : Blk W1 g 58 c := by rw [hW1]; exact hB.alloc _
  have hBx : Blk W1 W.heap.size 33 (cOrd o) := by rw [hW1]; exact Blk.new _ _ _
  have hF1 : Frm (fun b => b = g) W W1 := by rw [hW1]; exact (Frm.refl _ W).alloc _
  have cH := holds_any g c s x W1 hB1 hA
  by_cases hx : s.hasI x = true
  · rw [if_pos hx]
    rw [hx] at cH ⊢
    have h0 : 0 ≤ x := by
      rcases Int.lt_or_le x 0 with h | h
      · rw [s.hasI_neg h] at hx; cases hx
      · exact h
    obtain ⟨i, rfl⟩ : ∃ i : Nat, x = (i : Int) := ⟨x.toNat, by omega⟩
    rw [s.hasI_nat] at hx
    rw [Int.toNat_natCast]
    have hlt := Ar.has_lt hA.wf hx
    have hsm := hA.small
    have hsz := hA.size
    obtain ⟨l1, hl1⟩ : ∃ l : List (Nat × Value), l = [(i * 8, .int .i64 o.id), (i * 8 + 1, .int .i64 o.owner), (i * 8 + 2, .int .i64 o.side), (i * 8 + 3, .int .i64 o.price), (i * 8 + 4, .int .i64 o.qty), (i * 8 + 5, .int .i64 o.flags), (i * 8 + 6, .int .i64 o.seq)] := ⟨_, rfl⟩
    have hnd : (l1.map (·.1)).Nodup := by rw [hl1]; simp
    have hAr : Arn (setN c l1) (s.set i o) := by
      refine hA.set o hx (setN_size _ _) (fun j v hv => ?_) (fun k hk => setN_not _ _ _ ?_)
      · have hj := cOrd_lt hv
        refine setN_mem _ _ _ _ hnd ?_ (by omega)
        rw [hl1]
        match j, hv with
        | 0, hv => simp at hv; simp [hv]
        | 1, hv => simp at hv; simp [hv]
        | 2, hv => simp at hv; simp [hv]
        | 3, hv => simp at hv; simp [hv]
        | 4, hv => simp at hv; simp [hv]
        | 5, hv => simp at hv; simp [hv]
        | 6, hv => simp at hv; simp [hv]
      · rw [hl1]; intro p hp; simp at hp
        rcases hp with rfl | rfl | rfl | rfl | rfl | rfl | rfl
        · exact fun e => hk 0 (by omega) e.symm
        · exact fun e => hk 1 (by omega) e.symm
        · exact fun e => hk 2 (by omega) e.symm
        · exact fun e => hk 3 (by omega) e.symm
        · exact fun e => hk 4 (by omega) e.symm
        · exact fun e => hk 5 (by omega) e.symm
        · exact fun e => hk 6 (by omega) e.symm
    have H := Lib.hid hl1
    have hex := hA.cells hB1
    have hlt2 : i < 500 := by omega
    clear hl1 hnd h0 hA hB
    generalize s.n = n at *
    generalize s.set i o = s' at *
    clear hx
    obtain ⟨a1, a2, a3, a4, a5, a6, a7⟩ := o
    simp only [vOrd, cOrd] at *
    go_enter Try.func19, Try.ntmps19
    go_wp2_with (go_at_call 25; rw [← hW1]; (with_reducible refine cH.mono ?_); rintro e W1 ⟨rfl, rfl⟩; clear hW1)
    have hfr := hB1.free
    obtain ⟨v0, e0⟩ := hex (i * 8 + 0) (by omega)
    obtain ⟨v1, e1⟩ := hex (i * 8 + 1) (by omega)
    obtain ⟨v2, e2⟩ := hex (i * 8 + 2) (by omega)
    obtain ⟨v3, e3⟩ := hex (i * 8 + 3) (by omega)
    obtain ⟨v4, e4⟩ := hex (i * 8 + 4) (by omega)
    obtain ⟨v5, e5⟩ := hex (i * 8 + 5) (by omega)
    obtain ⟨v6, e6⟩ := hex (i * 8 + 6) (by omega)
    replace e0 : W1.cell? ⟨g, i * 8, none⟩ = some v0 := e0
    clear hex hsz hsm hlt cH
    have b0 : W1.cell? ⟨W.heap.size, 0, none⟩ = some (.int .i64 a1) := hBx.cell_eq 0 _ rfl
    have b1 : W1.cell? ⟨W.heap.size, 1, none⟩ = some (.int .i64 a2) := hBx.cell_eq 1 _ rfl
    have b2 : W1.cell? ⟨W.heap.size, 2, none⟩ = some (.int .i64 a3) := hBx.cell_eq 2 _ rfl
    have b3 : W1.cell? ⟨W.heap.size, 3, none⟩ = some (.int .i64 a4) := hBx.cell_eq 3 _ rfl
    have b4 : W1.cell? ⟨W.heap.size, 4, none⟩ = some (.int .i64 a5) := hBx.cell_eq 4 _ rfl
    have b5 : W1.cell? ⟨W.heap.size, 5, none⟩ = some (.int .i64 a6) := hBx.cell_eq 5 _ rfl
    have b6 : W1.cell? ⟨W.heap.size, 6, none⟩ = some (.int .i64 a7) := hBx.cell_eq 6 _ rfl
    generalize W.heap.size = gx at *
    have hI : (i : Int) < 500 := by omega
    go_still_tail 7, (by kernel_rfl)
    change wpList _ _ _ _ _ (World.drew _)
    replace hB1 := drew_blk hB1
    replace hF1 := hF1.drew
    replace hfr : ∀ i, W1.drew.frozen? ⟨g, i, none⟩ = false := hfr
    replace e0 : W1.drew.cell? ⟨g, i * 8, none⟩ = some v0 := e0
    replace e1 : W1.drew.cell? ⟨g, i * 8 + 1, none⟩ = some v1 := e1
    replace e2 : W1.drew.cell? ⟨g, i * 8 + 2, none⟩ = some v2 := e2
    replace e3 : W1.drew.cell? ⟨g, i * 8 + 3, none⟩ = some v3 := e3
    replace e4 : W1.drew.cell? ⟨g, i * 8 + 4, none⟩ = some v4 := e4
    replace e5 : W1.drew.cell? ⟨g, i * 8 + 5, none⟩ = some v5 := e5
    replace e6 : W1.drew.cell? ⟨g, i * 8 + 6, none⟩ = some v6 := e6
    clear b0 b1 b2 b3 b4 b5 b6 hBx
    generalize W1.drew = V3 at *
    go_wp2_with fail
    go_ret
    have hl1 := H.out
    have hB' := hB1.setN l1
    conv at hB' => arg 1; rw [hl1]
    have hF' := hF1.setW (g := g) l1 (.inl rfl)
    rw [hl1] at hF'
    simp only [setW] at hB' hF'
    exact ⟨rfl, hF', _, hB', hAr⟩
  · rw [if_neg hx]
    obtain hx : s.hasI x = false := by simpa using hx
    rw [hx] at cH ⊢
    clear hx
    go_enter Try.func19, Try.ntmps19
    go_wp2_with (go_at_call 25; rw [← hW1]; (with_reducible refine cH.mono ?_); rintro e W1 ⟨rfl, rfl⟩; clear hW1)
    go_ret
    exact ⟨rfl, hF1, c, hB1, hA⟩
set_option maxRecDepth 8000 in
set_option maxHeartbeats 1000000 in
theorem get_yes (g : Nat) (c : Array Value) (s : Ar) (i : Nat) (o : Ord) (W : World) (hB : Blk W g 58 c) (hA : Arn c s) (hx : s.has i = true) (ho : s.O[i]? = some o) :
    Calls Try.prog 17 #[.pointer (some ⟨g, 0, none⟩), .int .i64 (i : Int)] W fun e w' => e = .returned (.tuple #[vOrd o, .bool true]) ∧ Below W.heap.size W w' := by
  obtain ⟨W1, hW1⟩ : ∃ W1, W1 = W.alloc (.cells (cOrd Ord.zero) 33) := ⟨_, rfl⟩
  have hB1 : Blk W1 g 58 c := by rw [hW1]; exact hB.alloc _
  have hBx : Blk W1 W.heap.size 33 (cOrd Ord.zero) := by rw [hW1]; exact Blk.new _ _ _
  have hF1 : Below W.heap.size W W1 := by rw [hW1]; exact (Below.refl _ _).alloc (Nat.le_refl _) _
  have cH := holds_any g c s i W1 hB1 hA
  rw [s.hasI_nat, hx] at cH
  have hlt := Ar.has_lt hA.wf hx
  have hsm := hA.small
  have hlt2 : i < 500 := by omega
  have hord : ∀ (j : Nat) (v : Value), (cOrd o)[j]? = some v → W1.cell? ⟨g, i * 8 + j, none⟩ = some v := fun j v hj => hB1.cell_eq _ _ (hA.ord i o (Ar.has_true.1 hx) ho j v hj)
  obtain ⟨a1, a2, a3, a4, a5, a6, a7⟩ := o
  have e0 : W1.cell? ⟨g, i * 8, none⟩ = some (.int .i64 a1) := hord 0 _ rfl
  have e1 : W1.cell? ⟨g, i * 8 + 1, none⟩ = some (.int .i64 a2) := hord 1 _ rfl
  have e2 : W1.cell? ⟨g, i * 8 + 2, none⟩ = some (.int .i64 a3) := hord 2 _ rfl
  have e3 : W1.cell? ⟨g, i * 8 + 3, none⟩ = some (.int .i64 a4) := hord 3 _ rfl
  have e4 : W1.cell? ⟨g, i * 8 + 4, none⟩ = some (.int .i64 a5) := hord 4 _ rfl
  have e5 : W1.cell? ⟨g, i * 8 + 5, none⟩ = some (.int .i64 a6) := hord 5 _ rfl
  have e6 : W1.cell? ⟨g, i * 8 + 6, none⟩ = some (.int .i64 a7) := hord 6 _ rfl
  have b0 : W1.cell? ⟨W.heap.size, 0, none⟩ = some (.int .i64 0) := hBx.cell_eq 0 _ rfl
  have b1 : W1.cell? ⟨W.heap.size, 1, none⟩ = some (.int .i64 0) := hBx.cell_eq 1 _ rfl
  have b2 : W1.cell? ⟨W.heap.size, 2, none⟩ = some (.int .i64 0) := hBx.cell_eq 2 _ rfl
  have b3 : W1.cell? ⟨W.heap.size, 3, none⟩ = some (.int .i64 0) := hBx.cell_eq 3 _ rfl
  have b4 : W1.cell? ⟨W.heap.size, 4, none⟩ = some (.int .i64 0) := hBx.cell_eq 4 _ rfl
  have b5 : W1.cell? ⟨W.heap.size, 5, none⟩ = some (.int .i64 0) := hBx.cell_eq 5 _ rfl
  have b6 : W1.cell? ⟨W.heap.size, 6, none⟩ = some (.int .i64 0) := hBx.cell_eq 6 _ rfl
  have hfr := hBx.free
  have hlay := Ord.lay hBx a1 a2 a3 a4 a5 a6 a7
  obtain ⟨c0, c1, c2, c3, c4, c5, c6⟩ := Ord.cells hlay
  have hbel := Ord.below hF1 (Nat.le_refl _) (.int .i64 a1) (.int .i64 a2) (.int .i64 a3) (.int .i64 a4) (.int .i64 a5) (.int .i64 a6) (.int .i64 a7)
  simp only [Ord.zero, cOrd] at hW1
  clear hord hlt hsm ho hx hlay hBx hA hB
  simp only at c0 c1 c2 c3 c4 c5 c6
  go_enter Try.func17, Try.ntmps17
  go_wp2_with (go_at_call 25; rw [← hW1]; (with_reducible refine cH.mono ?_); rintro e W1 ⟨rfl, rfl⟩; clear hW1)
  refine bodyPost_ret (v := .tuple #[.agg #[.int .i64 a1, .int .i64 a2, .int .i64 a3, .int .i64 a4, .int .i64 a5, .int .i64 a6, .int .i64 a7], .bool true]) ?_ rfl ⟨rfl, hbel⟩
  simp [results, Try.results17, go_sem, c0, c1, c2, c3, c4, c5, c6]
set_option maxRecDepth 8000 in
set_option maxHeartbeats 1000000 in
theorem get_no (p : Option Addr) (x : Int) (W : World) (cH : ∀ w, Below W.heap.size W w → Calls Try.prog 25 #[.pointer p, .int .i64 x] w fun e w' => e = .returned (.bool false) ∧ w' = w) :
    Calls Try.prog 17 #[.pointer p, .int .i64 x] W fun e w' => e = .returned (.tuple #[vOrd Ord.zero, .bool false]) ∧ Below W.heap.size W w' := by
  obtain ⟨W1, hW1⟩ : ∃ W1, W1 = W.alloc (.cells (cOrd Ord.zero) 33) := ⟨_, rfl⟩
  have hBx : Blk W1 W.heap.size 33 (cOrd Ord.zero) := by rw [hW1]; exact Blk.new _ _ _
  have hF1 : Below W.heap.size W W1 := by rw [hW1]; exact (Below.refl _ _).alloc (Nat.le_refl _) _
  have cH := cH _ hF1
  have b0 : W1.cell? ⟨W.heap.size, 0, none⟩ = some (.int .i64 0) := hBx.cell_eq 0 _ rfl
  have b1 : W1.cell? ⟨W.heap.size, 1, none⟩ = some (.int .i64 0) := hBx.cell_eq 1 _ rfl
  have b2 : W1.cell? ⟨W.heap.size, 2, none⟩ = some (.int .i64 0) := hBx.cell_eq 2 _ rfl
  have b3 : W1.cell? ⟨W.heap.size, 3, none⟩ = some (.int .i64 0) := hBx.cell_eq 3 _ rfl
  have b4 : W1.cell? ⟨W.heap.size, 4, none⟩ = some (.int .i64 0) := hBx.cell_eq 4 _ rfl
  have b5 : W1.cell? ⟨W.heap.size, 5, none⟩ = some (.int .i64 0) := hBx.cell_eq 5 _ rfl
  have b6 : W1.cell? ⟨W.heap.size, 6, none⟩ = some (.int .i64 0) := hBx.cell_eq 6 _ rfl
  have hfr := hBx.free
  have hlay := Ord.lay hBx 0 0 0 0 0 0 0
  obtain ⟨c0, c1, c2, c3, c4, c5, c6⟩ := Ord.cells hlay
  have hbel := Ord.below hF1 (Nat.le_refl _) (.int .i64 0) (.int .i64 0) (.int .i64 0) (.int .i64 0) (.int .i64 0) (.int .i64 0) (.int .i64 0)
  simp only [Ord.zero, cOrd] at hW1
  clear hlay hBx
  simp only at c0 c1 c2 c3 c4 c5 c6
  go_enter Try.func17, Try.ntmps17
  go_wp2_with (go_at_call 25; rw [← hW1]; (with_reducible refine cH.mono ?_); rintro e W1 ⟨rfl, rfl⟩; clear hW1)
  refine bodyPost_ret (v := .tuple #[.agg #[.int .i64 0, .int .i64 0, .int .i64 0, .int .i64 0, .int .i64 0, .int .i64 0, .int .i64 0], .bool false]) ?_ rfl ⟨rfl, hbel⟩
  simp [results, Try.results17, go_sem, c0, c1, c2, c3, c4, c5, c6]
end Go.Proofs.Ytbkdakabpmpiiaa
