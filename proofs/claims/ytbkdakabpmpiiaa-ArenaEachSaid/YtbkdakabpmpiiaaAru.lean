/-
  The contracts of package arena's Take and Set.
-/
import Derived.Test.YtbkdakabpmpiiaaArt
import Derived.StillTailTactics
namespace Go.Proofs.Ytbkdakabpmpiiaa
open Go.RowKit
set_option maxRecDepth 8000 in
set_option maxHeartbeats 1000000 in
theorem takeFull_any (g : Nat) (c : Array Value) (s : Ar) (o : Ord) (W : World) (hB : Blk W g 58 c) (hA : Arn c s) (hn : s.next = none) :
    Calls Try.prog 16 #[.pointer (some ⟨g, 0, none⟩), vOrd o] W fun e w' => e = .returned (.tuple #[.int .i64 0, .int .i64 7]) ∧ Below W.heap.size W w' := by
  have hR := (Ar.next_none hA.wf hn).1
  have cR := fun w (hb : Blk w g 58 c) => room_any g c s w hb hA
  rw [hR] at cR
  have hlt := hB.lt
  have hB1 := hB.alloc (.cells (cOrd o) 33)
  have hb := (Below.refl W.heap.size W).alloc (Nat.le_refl _) (.cells (cOrd o) 33)
  clear hn hA hR
  obtain ⟨a1, a2, a3, a4, a5, a6, a7⟩ := o
  simp only [cOrd] at *
  go_enter Try.func16, Try.ntmps16
  go_wp2_with (go_at_call 13; (with_reducible refine (cR _ hB1).mono ?_); rintro e w1 ⟨rfl, m, rfl⟩)
  go_ret2
  exact ⟨rfl, below_drewN hb m⟩
set_option maxRecDepth 8000 in
set_option maxHeartbeats 1000000 in
theorem take_any (g : Nat) (c : Array Value) (s : Ar) (o : Ord) (i : Nat) (W : World) (hB : Blk W g 58 c) (hA : Arn c s) (hi : s.next = some i) :
    Calls Try.prog 16 #[.pointer (some ⟨g, 0, none⟩), vOrd o] W fun e w' => e = .returned (.tuple #[.int .i64 (i : Int), .int .i64 0]) ∧ Frm (fun b => b = g) W w' ∧ ∃ c', Blk w' g 58 c' ∧ Arn c' (s.put i o) := by
  obtain ⟨hTi, hlt⟩ := Ar.next_lt hA.wf hi
  have hsm := hA.small
  have cR := fun w (hb : Blk w g 58 c) => room_any g c s w hb hA
  have hfrl := Ar.next_some hA.wf o hi
  obtain ⟨r, hr⟩ : ∃ r, s.fr.length = r + 1 := ⟨_, by rw [hfrl]; rfl⟩
  rw [hr] at cR
  have hcnt := hA.wf.cnt
  obtain ⟨f, hf, hch⟩ := hA.ch
  rw [hfrl] at hch
  obtain ⟨rfl, y, hy, -⟩ := hch
  have hBl0 := hB.lt
  obtain ⟨W1, hW1⟩ : ∃ W1, W1 = W.alloc (.cells (cOrd o) 33) := ⟨_, rfl⟩
  have hB1 : Blk W1 g 58 c := by rw [hW1]; exact hB.alloc _
  have hBx : Blk W1 W.heap.size 33 (cOrd o) := by rw [hW1]; exact Blk.new _ _ _
  have hF1 : Frm (fun b => b = g) W W1 := by rw [hW1]; exact (Frm.refl _ W).alloc _
  obtain ⟨l1, hl1⟩ : ∃ l : List (Nat × Value), l = [(i * 8, .int .i64 o.id), (i * 8 + 1, .int .i64 o.owner), (i * 8 + 2, .int .i64 o.side), (i * 8 + 3, .int .i64 o.price), (i * 8 + 4, .int .i64 o.qty), (i * 8 + 5, .int .i64 o.flags), (i * 8 + 6, .int .i64 o.seq), (i * 8 + 7, .int .i64 (-1)), (4001, .int .i64 ((s.used : Int) + 1))] := ⟨_, rfl⟩
  obtain ⟨l, hl⟩ : ∃ l, l = (4002, Value.int .i64 y) :: l1 := ⟨_, rfl⟩
  have hAr0 : setN (c.setIfInBounds 4002 (.int .i64 y)) l1 = setN c l := by rw [hl]; rfl
  rw [hl1] at hl
  have hnd : (l.map (·.1)).Nodup := by rw [hl]; simp; omega
  have hsz := hA.size
  have hAr : Arn (setN c l) (s.put i o) := by
    refine hA.put o hi hy (setN_size _ _) (setN_not _ _ _ ?_) (setN_mem _ _ _ _ hnd ?_ (by omega)) (setN_mem _ _ _ _ hnd ?_ (by omega)) (setN_mem _ _ _ _ hnd ?_ (by omega)) (fun j v hv => ?_) (fun k hk hki => setN_not _ _ _ ?_)
    · rw [hl]; intro p hp; simp at hp; rcases hp with rfl | rfl | rfl | rfl | rfl | rfl | rfl | rfl | rfl | rfl <;> simp <;> omega
    · rw [hl]; simp
    · rw [hl]; simp
    · rw [hl]; simp
    · have hj := cOrd_lt hv
      refine setN_mem _ _ _ _ hnd ?_ (by omega)
      rw [hl]
      match j, hv with
      | 0, hv => simp at hv; simp [hv]
      | 1, hv => simp at hv; simp [hv]
      | 2, hv => simp at hv; simp [hv]
      | 3, hv => simp at hv; simp [hv]
      | 4, hv => simp at hv; simp [hv]
      | 5, hv => simp at hv; simp [hv]
      | 6, hv => simp at hv; simp [hv]
    · rw [hl]; intro p hp; simp at hp; rcases hp with rfl | rfl | rfl | rfl | rfl | rfl | rfl | rfl | rfl | rfl <;> simp <;> omega
  rw [← hAr0] at hAr
  have H := Lib.hid hl1
  clear hl hnd hl1 hAr0
  have fin : ∀ m, Blk (W1.drewN m) g 58 c ∧ Blk (W1.drewN m) W.heap.size 33 (cOrd o) ∧ Frm (fun b => b = g) W (W1.drewN m) := fun m => ⟨hB1, hBx, hF1.trans (Frm.of_below (S := fun _ => False) (below_drewN (Below.refl _ _) m)) (fun _ h => h.elim)⟩
  have hd : ((((r + 1 : Nat) : Int)) == 0) = false := by simp; omega
  have hu2 : s.used ≤ 500 := by omega
  have hlt2 : i < 500 := by omega
  have hcu0 := hA.cu
  generalize s.used = u at *
  generalize s.n = n at *
  clear hr hcnt hTi hi hfrl
  obtain ⟨a1, a2, a3, a4, a5, a6, a7⟩ := o
  simp only [vOrd, cOrd] at *
  go_enter Try.func16, Try.ntmps16
  go_wp2_with (go_at_call 13; rw [← hW1]; (with_reducible refine (cR _ hB1).mono ?_); rintro e w1 ⟨rfl, m, rfl⟩; obtain ⟨g1, g2, g3⟩ := fin m; generalize W1.drewN m = V at *; clear fin hB1 hBx hF1 hW1 hB cR; have k2 := g1.cell_eq 4002 _ hf; have ky := g1.cell_eq _ _ hy; have hfr := g1.free)
  have g1' := g1.set 4002 (.int .i64 y)
  have g2' := g2.other (a := ⟨g, 4002, none⟩) (by show g ≠ W.heap.size; omega) (.int .i64 y)
  have g3' := g3.setCell ⟨g, 4002, none⟩ (.int .i64 y) (.inl rfl)
  have hsz' : (c.setIfInBounds 4002 (.int .i64 y)).size = 4003 := by rw [Array.size_setIfInBounds]; exact hsz
  have hcu : (c.setIfInBounds 4002 (.int .i64 y))[4001]? = some (.int .i64 (u : Int)) := by rw [Array.getElem?_setIfInBounds, if_neg (by omega)]; exact hcu0
  clear k2 ky hfr g1 g2 g3
  generalize V.setCell ⟨g, 4002, none⟩ (.int .i64 y) = V2 at *
  have k1 := g1'.cell_eq 4001 _ hcu
  have hfr := g1'.free
  have hex : ∀ j, j < 4003 → ∃ v, V2.cell? ⟨g, j, none⟩ = some v := fun j hj => ⟨_, g1'.cell_eq j _ (Array.getElem?_eq_getElem (by rw [hsz']; exact hj))⟩
  obtain ⟨v0, e0⟩ := hex (i * 8 + 0) (by omega)
  obtain ⟨v1, e1⟩ := hex (i * 8 + 1) (by omega)
  obtain ⟨v2, e2⟩ := hex (i * 8 + 2) (by omega)
  obtain ⟨v3, e3⟩ := hex (i * 8 + 3) (by omega)
  obtain ⟨v4, e4⟩ := hex (i * 8 + 4) (by omega)
  obtain ⟨v5, e5⟩ := hex (i * 8 + 5) (by omega)
  obtain ⟨v6, e6⟩ := hex (i * 8 + 6) (by omega)
  obtain ⟨v7, e7⟩ := hex (i * 8 + 7) (by omega)
  replace e0 : V2.cell? ⟨g, i * 8, none⟩ = some v0 := e0
  clear hex hcu hsz'
  have b0 : V2.cell? ⟨W.heap.size, 0, none⟩ = some (.int .i64 a1) := g2'.cell_eq 0 _ rfl
  have b1 : V2.cell? ⟨W.heap.size, 1, none⟩ = some (.int .i64 a2) := g2'.cell_eq 1 _ rfl
  have b2 : V2.cell? ⟨W.heap.size, 2, none⟩ = some (.int .i64 a3) := g2'.cell_eq 2 _ rfl
  have b3 : V2.cell? ⟨W.heap.size, 3, none⟩ = some (.int .i64 a4) := g2'.cell_eq 3 _ rfl
  have b4 : V2.cell? ⟨W.heap.size, 4, none⟩ = some (.int .i64 a5) := g2'.cell_eq 4 _ rfl
  have b5 : V2.cell? ⟨W.heap.size, 5, none⟩ = some (.int .i64 a6) := g2'.cell_eq 5 _ rfl
  have b6 : V2.cell? ⟨W.heap.size, 6, none⟩ = some (.int .i64 a7) := g2'.cell_eq 6 _ rfl
  generalize W.heap.size = gx at *
  have hI : (i : Int) < 500 := by omega
  go_still_tail 7, (by kernel_rfl)
  change wpList _ _ _ _ _ (World.drew _)
  replace g1' := drew_blk g1'
  replace g3' := g3'.drew
  replace k1 : V2.drew.cell? ⟨g, 4001, none⟩ = _ := k1
  replace hfr : ∀ i, V2.drew.frozen? ⟨g, i, none⟩ = false := hfr
  replace e0 : V2.drew.cell? ⟨g, i * 8, none⟩ = some v0 := e0
  replace e1 : V2.drew.cell? ⟨g, i * 8 + 1, none⟩ = some v1 := e1
  replace e2 : V2.drew.cell? ⟨g, i * 8 + 2, none⟩ = some v2 := e2
  replace e3 : V2.drew.cell? ⟨g, i * 8 + 3, none⟩ = some v3 := e3
  replace e4 : V2.drew.cell? ⟨g, i * 8 + 4, none⟩ = some v4 := e4
  replace e5 : V2.drew.cell? ⟨g, i * 8 + 5, none⟩ = some v5 := e5
  replace e6 : V2.drew.cell? ⟨g, i * 8 + 6, none⟩ = some v6 := e6
  replace e7 : V2.drew.cell? ⟨g, i * 8 + 7, none⟩ = some v7 := e7
  clear b0 b1 b2 b3 b4 b5 b6 g2'
  generalize V2.drew = V3 at *
  go_wp2_with fail
  go_ret2
  have hl1 := H.out
  have hB' := g1'.setN l1
  conv at hB' => arg 1; rw [hl1]
  have hF' := g3'.setW (g := g) l1 (.inl rfl)
  rw [hl1] at hF'
  simp only [setW] at hB' hF'
  exact ⟨rfl, hF', _, hB', hAr⟩
end Go.Proofs.Ytbkdakabpmpiiaa
