/-
  The contracts of the document's Take. (Written by gen/p_ras.py.)
-/
import Derived.Test.YtbkdakabpmpiiaaRar
import Derived.StillTailTactics
import Derived.Deep.QuietTactic
import Derived.BigQuiet
import Derived.Deep.Cut
namespace Go.Proofs.Ytbkdakabpmpiiaa
open Go.RowKit
theorem zs_dropLast (l : List Nat) : zs l.dropLast = (zs l).take (l.length - 1) := by simp [zs, List.dropLast_eq_take]
section
variable {W W' : World} {r : Nat} {S : Nat → Prop} {s : Ar} {bo bt : Nat} {cO cT cO' cT' : Array Value} {ad : Option Addr} {cd : Nat}
theorem RaB.putW (h : RaB W r S s bo bt cO cT ad cd) {i : Nat} (o : Ord) (hi : s.next = some i) (hf : Frm (fun b => b = r ∨ b = bo ∨ b = bt) W W')
    (h1 : Blk W' r 46 #[.slice (some ⟨bo, 0, none⟩) s.n s.n, .slice (some ⟨bt, 0, none⟩) s.n s.n, .slice ad s.D.dropLast.length cd, .int .i64 ((s.put i o).nx : Int)])
    (h2 : Blk W' bo 33 cO') (h2' : Flt cOrd 7 cO' (s.O.set i o)) (h3 : Blk W' bt 4 cT') (h3' : Flt cB 1 cT' (s.T.set i true)) : RA W' r S (s.put i o) := by
  refine ⟨bo, bt, cO', cT', ad, cd, Ar.put_wf h.wf o hi, h.small, h1, h2, h2', h3, h3', ?_, h.sr, h.so, h.st, h.sd, h.ne, fun b hb => Nat.lt_of_lt_of_le (h.lt b hb) hf.size⟩
  show It .i64 W' ad cd (zs s.D.dropLast)
  rw [zs_dropLast]
  refine (h.hd.keep fun b off e => hf.block b (h.lt b (h.sd b off e).1) ?_).take _
  obtain ⟨-, n1, n2, n3⟩ := h.sd b off e
  rintro (e | e | e)
  · exact n1 e
  · exact n2 e
  · exact n3 e
theorem RaB.setW (h : RaB W r S s bo bt cO cT ad cd) {i : Nat} (o : Ord) (hf : Frm (fun b => b = bo) W W')
    (h2 : Blk W' bo 33 cO') (h2' : Flt cOrd 7 cO' (s.O.set i o)) : RA W' r S (s.set i o) := by
  have k : ∀ b, S b → b ≠ bo → W'.heap[b]? = W.heap[b]? := fun b hb hn => hf.block b (h.lt b hb) hn
  obtain ⟨n1, n2, n3⟩ := h.ne
  exact ⟨bo, bt, cO', cT, ad, cd, Ar.set_wf h.wf o, h.small, (k _ h.sr n1).trans h.hr, h2, h2', (k _ h.st (fun e => n3 e.symm)).trans h.ht, h.ft, h.hd.keep fun b off e => k b (h.sd b off e).1 (h.sd b off e).2.2.1, h.sr, h.so, h.st, h.sd, h.ne, fun b hb => Nat.lt_of_lt_of_le (h.lt b hb) hf.size⟩
end
theorem cOrd_size (o : Ord) : (cOrd o).size ≤ 7 := Nat.le_refl _
/-- An order laid over another one. -/
abbrev laidO (b : Nat) (o : Ord) : List (Nat × Value) := [(b, .int .i64 o.id), (b + 1, .int .i64 o.owner), (b + 2, .int .i64 o.side), (b + 3, .int .i64 o.price), (b + 4, .int .i64 o.qty), (b + 5, .int .i64 o.flags), (b + 6, .int .i64 o.seq)]
theorem laid_O {c : Array Value} {l : List Ord} {i : Nat} (o : Ord) (h : Flt cOrd 7 c l) (hi : i < l.length) : Flt cOrd 7 (setN c (laidO (i * 7) o)) (l.set i o) := by
  have hnd : ((laidO (i * 7) o).map (·.1)).Nodup := by simp
  refine h.set cOrd_size i o (setN_size _ _) (fun j v hv => ?_) (fun k hk => setN_not _ _ _ ?_)
  · have hj := cOrd_lt hv
    refine setN_mem _ _ _ _ hnd ?_ (h.lt hi hj)
    match j, hv with
    | 0, hv => simp at hv; simp [hv]
    | 1, hv => simp at hv; simp [hv]
    | 2, hv => simp at hv; simp [hv]
    | 3, hv => simp at hv; simp [hv]
    | 4, hv => simp at hv; simp [hv]
    | 5, hv => simp at hv; simp [hv]
    | 6, hv => simp at hv; simp [hv]
  · intro p hp
    simp at hp
    rcases hp with rfl | rfl | rfl | rfl | rfl | rfl | rfl
    · exact fun e => hk 0 (by omega) e.symm
    · exact fun e => hk 1 (by omega) e.symm
    · exact fun e => hk 2 (by omega) e.symm
    · exact fun e => hk 3 (by omega) e.symm
    · exact fun e => hk 4 (by omega) e.symm
    · exact fun e => hk 5 (by omega) e.symm
    · exact fun e => hk 6 (by omega) e.symm
theorem laid_B {c : Array Value} {l : List Bool} {i : Nat} (b : Bool) (h : Flt cB 1 c l) (hi : i < l.length) : Flt cB 1 (c.setIfInBounds i (.bool b)) (l.set i b) := by
  have hs := h.size
  refine h.set (fun _ => Nat.le_refl _) i b (by simp) (fun j v hv => ?_) (fun k hk => ?_)
  · have hj : j < 1 := (Array.getElem?_eq_some_iff.1 hv).1
    obtain rfl : j = 0 := by omega
    simp at hv
    subst hv
    rw [Array.getElem?_setIfInBounds, if_pos (by omega), if_pos (by omega)]
  · rw [Array.getElem?_setIfInBounds, if_neg]
    intro e
    exact hk 0 (by omega) (by omega)
set_option maxRecDepth 8000 in
set_option maxHeartbeats 1000000 in
theorem rtakeFull_any (r : Nat) (S : Nat → Prop) (s : Ar) (o : Ord) (W : World) (hA : RA W r S s) (hn : s.next = none) :
    Calls Try.prog 20 #[.pointer (some ⟨r, 0, none⟩), vOrd o] W fun e w' => e = .returned (.tuple #[.int .i64 0, .int .i64 7]) ∧ Below W.heap.size W w' := by
  obtain ⟨bo, bt, cO, cT, ad, cd, h⟩ := hA
  obtain ⟨-, -, hD, hx⟩ := Ar.next_none h.wf hn
  have hr := h.hr.alloc (.cells (cOrd o) 33)
  have hb := (Below.refl W.heap.size W).alloc (Nat.le_refl _) (.cells (cOrd o) 33)
  rw [hD, hx] at hr
  have c0 : (W.alloc (.cells (cOrd o) 33)).cell? ⟨r, 0, none⟩ = some (.slice (some ⟨bo, 0, none⟩) s.n s.n) := hr.cell_eq 0 _ rfl
  have c2 : (W.alloc (.cells (cOrd o) 33)).cell? ⟨r, 2, none⟩ = some (.slice ad 0 cd) := hr.cell_eq 2 _ rfl
  have c3 : (W.alloc (.cells (cOrd o) 33)).cell? ⟨r, 3, none⟩ = some (.int .i64 (s.n : Int)) := hr.cell_eq 3 _ rfl
  have hd : decide (s.n < s.n) = false := by simp
  have hrl := h.hr.lt
  generalize s.n = n at *
  clear hn h hD hx hr
  obtain ⟨a1, a2, a3, a4, a5, a6, a7⟩ := o
  simp only [cOrd, vOrd] at *
  generalize hV : W.alloc (.cells #[.int .i64 a1, .int .i64 a2, .int .i64 a3, .int .i64 a4, .int .i64 a5, .int .i64 a6, .int .i64 a7] 33) = V at *
  have HV := Lib.hid hV
  clear hV
  go_enter Try.func20, Try.ntmps20
  go_upto_region 1 with (fail)
  rw [HV.out]
  go_wp2_with fail
  go_quiet (fail)
  go_wp2
  go_ret2
  exact ⟨rfl, below_drewN hb _⟩
set_option maxRecDepth 8000 in
set_option maxHeartbeats 1000000 in
theorem rtakeD_any (r : Nat) (S : Nat → Prop) (s : Ar) (o : Ord) (i : Nat) (W : World) (hA : RA W r S s) (hi : s.next = some i) (hD : s.D ≠ []) :
    Calls Try.prog 20 #[.pointer (some ⟨r, 0, none⟩), vOrd o] W fun e w' => e = .returned (.tuple #[.int .i64 (i : Int), .int .i64 0]) ∧ ∃ S', RA w' r S' (s.put i o) ∧ Frm S W w' ∧ ∀ b, S' b → S b ∨ W.heap.size ≤ b := by
  obtain ⟨bo, bt, cO, cT, ad, cd, h⟩ := hA
  obtain ⟨hTi, hlt⟩ := Ar.next_lt h.wf hi
  have hsm := h.small
  obtain ⟨n1, n2, n3⟩ := h.ne
  have hsr := h.sr
  have hso := h.so
  have hst := h.st
  have hrl := h.lt _ h.sr
  have hol := h.lt _ h.so
  have htl := h.lt _ h.st
  obtain ⟨l, hl⟩ : ∃ l, l = laidO (i * 7) o := ⟨_, rfl⟩
  have hput : ∀ W', Frm (fun b => b = r ∨ b = bo ∨ b = bt) W W' → Blk W' r 46 #[.slice (some ⟨bo, 0, none⟩) s.n s.n, .slice (some ⟨bt, 0, none⟩) s.n s.n, .slice ad s.D.dropLast.length cd, .int .i64 ((s.put i o).nx : Int)] →
      Blk W' bo 33 (setN cO l) → Blk W' bt 4 (cT.setIfInBounds i (.bool true)) → RA W' r S (s.put i o) := by
    intro W' hf h1 h2 h3
    refine h.putW o hi hf h1 h2 ?_ h3 (laid_B true h.ft (by rw [h.wf.lenT]; exact hlt))
    rw [hl]
    exact laid_O o h.fo (by rw [h.wf.lenO]; exact hlt)
  have hexO : ∀ w, Blk w bo 33 cO → ∀ j, j < 7 → ∃ v, w.cell? ⟨bo, i * 7 + j, none⟩ = some v := fun w hw j hj => h.fo.cell hw (by rw [h.wf.lenO]; exact hlt) hj
  have hexT : ∀ w, Blk w bt 4 cT → w.cell? ⟨bt, i, none⟩ = some (.bool false) := fun w hw => by
    have := hw.cell_eq _ _ (h.ft.at' i _ hTi 0 _ rfl)
    rwa [Nat.mul_one, Nat.add_zero] at this
  have hlen : s.D.length ≤ 500 := by
    have h1 := h.wf.cnt
    unfold Ar.fr at h1
    rw [List.length_append, List.length_reverse] at h1
    omega
  obtain ⟨W1, hW1⟩ : ∃ W1, W1 = W.alloc (.cells (cOrd o) 33) := ⟨_, rfl⟩
  have hbel : Below W.heap.size W W1 := by rw [hW1]; exact (Below.refl _ _).alloc (Nat.le_refl _) _
  have g1 := h.hr.below hbel hrl
  have g2 := h.ho.below hbel hol
  have g3 := h.ht.below hbel htl
  have g4 : Blk W1 W.heap.size 33 (cOrd o) := by rw [hW1]; exact Blk.new _ _ _
  have gF : Frm (fun b => b = r ∨ b = bo ∨ b = bt) W W1 := Frm.of_below hbel
  have hk : s.D.getLast? = some i := by
    unfold Ar.next at hi
    rw [if_neg hD] at hi
    exact hi
  obtain ⟨k, hk1⟩ : ∃ k, s.D.length = k + 1 := ⟨s.D.length - 1, by have := List.length_pos_iff.2 hD; omega⟩
  have hnx : (s.put i o).nx = s.nx := if_neg hD
  have hdl : s.D.dropLast.length = k := by rw [List.length_dropLast, hk1]; rfl
  have hel : (zs s.D)[k]? = some (i : Int) := by
    rw [List.getLast?_eq_getElem?, hk1] at hk
    rw [zs_get, show k = k + 1 - 1 by omega, hk]
    rfl
  obtain ⟨bd, off, rfl, hdc⟩ := (h.hd.below hbel).get hel
  have hdc := hdc _ (Below.refl _ _)
  have hcap : k + 1 ≤ cd := by have := h.hd.len; rw [zs_length, hk1] at this; exact this
  have hsl : ∀ w, (Instr.slice 44 (.slice (some ⟨bd, off, none⟩) (k + 1) cd) none (some (.int .i64 (k : Int))) none).run Try.prog w = .ok (.slice (some ⟨bd, off, none⟩) k cd) w := by
    intro w
    have hu := Try.underlying44
    have hc := cells_Ord_int
    simp [go_sem, Instr.slice]
    omega
  rw [hnx, hdl] at hput
  rw [hk1] at g1 hlen
  have H := Lib.hid hl
  clear hl h hi hD hk hk1 hnx hdl hel
  generalize s.put i o = s' at *
  generalize s.nx = nx at *
  obtain ⟨a1, a2, a3, a4, a5, a6, a7⟩ := o
  simp only [cOrd, vOrd] at *
  have HW := Lib.hid hW1
  clear hW1
  go_enter Try.func20, Try.ntmps20
  go_upto_region 1 with (fail)
  rw [← HW.out]
  have x2 : W1.cell? ⟨r, 2, none⟩ = some (.slice (some ⟨bd, off, none⟩) (k + 1) cd) := g1.cell_eq 2 _ rfl
  have x3 : W1.cell? ⟨r, 3, none⟩ = some (.int .i64 (nx : Int)) := g1.cell_eq 3 _ rfl
  have xf := g1.free
  go_wp2_with fail
  have y1 : Blk (W1.setCell ⟨r, 2, none⟩ (.slice (some ⟨bd, off, none⟩) k cd)) r 46 #[.slice (some ⟨bo, 0, none⟩) s.n s.n, .slice (some ⟨bt, 0, none⟩) s.n s.n, .slice (some ⟨bd, off, none⟩) k cd, .int .i64 (nx : Int)] := g1.set 2 (.slice (some ⟨bd, off, none⟩) k cd)
  have y2 := g2.other (a := ⟨r, 2, none⟩) n1 (.slice (some ⟨bd, off, none⟩) k cd)
  have y3 := g3.other (a := ⟨r, 2, none⟩) n2 (.slice (some ⟨bd, off, none⟩) k cd)
  have y4 := g4.other (a := ⟨r, 2, none⟩) (by show r ≠ W.heap.size; omega) (.slice (some ⟨bd, off, none⟩) k cd)
  have yF := gF.setCell ⟨r, 2, none⟩ (.slice (some ⟨bd, off, none⟩) k cd) (.inl (.inl rfl))
  clear g1 g2 g3 g4 gF x2 x3 xf hdc hsl hbel HW
  generalize W1.setCell ⟨r, 2, none⟩ (.slice (some ⟨bd, off, none⟩) k cd) = V2 at *
  have g1 := y1
  have g2 := y2
  have g3 := y3
  have g4 := y4
  have gF := yF
  clear y1 y2 y3 y4 yF
  generalize W.heap.size = gx at *
  have hI : (i : Int) < (s.n : Int) := by omega
  have hfr := g2.free
  obtain ⟨v0, e0⟩ := hexO V2 g2 0 (by omega)
  obtain ⟨v1, e1⟩ := hexO V2 g2 1 (by omega)
  obtain ⟨v2, e2⟩ := hexO V2 g2 2 (by omega)
  obtain ⟨v3, e3⟩ := hexO V2 g2 3 (by omega)
  obtain ⟨v4, e4⟩ := hexO V2 g2 4 (by omega)
  obtain ⟨v5, e5⟩ := hexO V2 g2 5 (by omega)
  obtain ⟨v6, e6⟩ := hexO V2 g2 6 (by omega)
  replace e0 : V2.cell? ⟨bo, i * 7, none⟩ = some v0 := e0
  have t0 := hexT V2 g3
  have hft := g3.free
  clear hexO hexT
  have c0 : V2.cell? ⟨r, 0, none⟩ = some (.slice (some ⟨bo, 0, none⟩) s.n s.n) := g1.cell_eq 0 _ rfl
  have c1 : V2.cell? ⟨r, 1, none⟩ = some (.slice (some ⟨bt, 0, none⟩) s.n s.n) := g1.cell_eq 1 _ rfl
  generalize s.n = n at *
  have b0 : V2.cell? ⟨gx, 0, none⟩ = some (.int .i64 a1) := g4.cell_eq 0 _ rfl
  have b1 : V2.cell? ⟨gx, 1, none⟩ = some (.int .i64 a2) := g4.cell_eq 1 _ rfl
  have b2 : V2.cell? ⟨gx, 2, none⟩ = some (.int .i64 a3) := g4.cell_eq 2 _ rfl
  have b3 : V2.cell? ⟨gx, 3, none⟩ = some (.int .i64 a4) := g4.cell_eq 3 _ rfl
  have b4 : V2.cell? ⟨gx, 4, none⟩ = some (.int .i64 a5) := g4.cell_eq 4 _ rfl
  have b5 : V2.cell? ⟨gx, 5, none⟩ = some (.int .i64 a6) := g4.cell_eq 5 _ rfl
  have b6 : V2.cell? ⟨gx, 6, none⟩ = some (.int .i64 a7) := g4.cell_eq 6 _ rfl
  go_still_tail 7, (by kernel_rfl)
  change wpList _ _ _ _ _ (World.drew _)
  replace gF := gF.drew
  replace g1 := drew_blk g1
  replace g2 := drew_blk g2
  replace g3 := drew_blk g3
  replace hfr : ∀ i, V2.drew.frozen? ⟨bo, i, none⟩ = false := hfr
  replace hft : ∀ i, V2.drew.frozen? ⟨bt, i, none⟩ = false := hft
  replace e0 : V2.drew.cell? ⟨bo, i * 7, none⟩ = some v0 := e0
  replace e1 : V2.drew.cell? ⟨bo, i * 7 + 1, none⟩ = some v1 := e1
  replace e2 : V2.drew.cell? ⟨bo, i * 7 + 2, none⟩ = some v2 := e2
  replace e3 : V2.drew.cell? ⟨bo, i * 7 + 3, none⟩ = some v3 := e3
  replace e4 : V2.drew.cell? ⟨bo, i * 7 + 4, none⟩ = some v4 := e4
  replace e5 : V2.drew.cell? ⟨bo, i * 7 + 5, none⟩ = some v5 := e5
  replace e6 : V2.drew.cell? ⟨bo, i * 7 + 6, none⟩ = some v6 := e6
  replace t0 : V2.drew.cell? ⟨bt, i, none⟩ = some (.bool false) := t0
  replace c1 : V2.drew.cell? ⟨r, 1, none⟩ = some (.slice (some ⟨bt, 0, none⟩) n n) := c1
  clear b0 b1 b2 b3 b4 b5 b6 g4 c0
  generalize V2.drew = V3 at *
  go_wp2_with fail
  go_ret2
  have hl := H.out
  have k1 := (Blk.other (a := ⟨bt, i, none⟩) (g1.setNo l n1.symm) n2.symm (.bool true))
  have k2 := (Blk.other (a := ⟨bt, i, none⟩) (g2.setN l) n3.symm (.bool true))
  have k3 := (g3.setNo l n3).set i (.bool true)
  have kF := (gF.setW (g := bo) l (.inl (.inr (.inl rfl)))).setCell ⟨bt, i, none⟩ (.bool true) (.inl (.inr (.inr rfl)))
  have kR := hput _ kF k1 k2 k3
  conv at kR => arg 1; rw [hl]
  rw [hl] at kF
  simp only [setW] at kR kF
  exact ⟨rfl, S, kR, kF.mono (fun b _ e => by rcases e with e | e | e <;> (rw [e]; assumption)), fun b hb => .inl hb⟩
set_option maxRecDepth 8000 in
set_option maxHeartbeats 1000000 in
theorem rtakeN_any (r : Nat) (S : Nat → Prop) (s : Ar) (o : Ord) (i : Nat) (W : World) (hA : RA W r S s) (hi : s.next = some i) (hD : s.D = []) :
    Calls Try.prog 20 #[.pointer (some ⟨r, 0, none⟩), vOrd o] W fun e w' => e = .returned (.tuple #[.int .i64 (i : Int), .int .i64 0]) ∧ ∃ S', RA w' r S' (s.put i o) ∧ Frm S W w' ∧ ∀ b, S' b → S b ∨ W.heap.size ≤ b := by
  obtain ⟨bo, bt, cO, cT, ad, cd, h⟩ := hA
  obtain ⟨hTi, hlt⟩ := Ar.next_lt h.wf hi
  have hsm := h.small
  obtain ⟨n1, n2, n3⟩ := h.ne
  have hsr := h.sr
  have hso := h.so
  have hst := h.st
  have hrl := h.lt _ h.sr
  have hol := h.lt _ h.so
  have htl := h.lt _ h.st
  obtain ⟨l, hl⟩ : ∃ l, l = laidO (i * 7) o := ⟨_, rfl⟩
  have hput : ∀ W', Frm (fun b => b = r ∨ b = bo ∨ b = bt) W W' → Blk W' r 46 #[.slice (some ⟨bo, 0, none⟩) s.n s.n, .slice (some ⟨bt, 0, none⟩) s.n s.n, .slice ad s.D.dropLast.length cd, .int .i64 ((s.put i o).nx : Int)] →
      Blk W' bo 33 (setN cO l) → Blk W' bt 4 (cT.setIfInBounds i (.bool true)) → RA W' r S (s.put i o) := by
    intro W' hf h1 h2 h3
    refine h.putW o hi hf h1 h2 ?_ h3 (laid_B true h.ft (by rw [h.wf.lenT]; exact hlt))
    rw [hl]
    exact laid_O o h.fo (by rw [h.wf.lenO]; exact hlt)
  have hexO : ∀ w, Blk w bo 33 cO → ∀ j, j < 7 → ∃ v, w.cell? ⟨bo, i * 7 + j, none⟩ = some v := fun w hw j hj => h.fo.cell hw (by rw [h.wf.lenO]; exact hlt) hj
  have hexT : ∀ w, Blk w bt 4 cT → w.cell? ⟨bt, i, none⟩ = some (.bool false) := fun w hw => by
    have := hw.cell_eq _ _ (h.ft.at' i _ hTi 0 _ rfl)
    rwa [Nat.mul_one, Nat.add_zero] at this
  have hlen : s.D.length ≤ 500 := by
    have h1 := h.wf.cnt
    unfold Ar.fr at h1
    rw [List.length_append, List.length_reverse] at h1
    omega
  obtain ⟨W1, hW1⟩ : ∃ W1, W1 = W.alloc (.cells (cOrd o) 33) := ⟨_, rfl⟩
  have hbel : Below W.heap.size W W1 := by rw [hW1]; exact (Below.refl _ _).alloc (Nat.le_refl _) _
  have g1 := h.hr.below hbel hrl
  have g2 := h.ho.below hbel hol
  have g3 := h.ht.below hbel htl
  have g4 : Blk W1 W.heap.size 33 (cOrd o) := by rw [hW1]; exact Blk.new _ _ _
  have gF : Frm (fun b => b = r ∨ b = bo ∨ b = bt) W W1 := Frm.of_below hbel
  have hnxi : s.nx = i := by
    unfold Ar.next at hi
    rw [if_pos hD] at hi
    split at hi
    · cases hi; rfl
    · cases hi
  have hnx : (s.put i o).nx = i + 1 := by rw [← hnxi]; exact if_pos hD
  have hdl : s.D.dropLast.length = 0 := by rw [hD]; rfl
  rw [hnx, hdl] at hput
  rw [hD, hnxi] at g1
  have H := Lib.hid hl
  clear hl h hi hD hnx hdl hnxi hlen
  generalize s.put i o = s' at *
  obtain ⟨a1, a2, a3, a4, a5, a6, a7⟩ := o
  simp only [cOrd, vOrd] at *
  have HW := Lib.hid hW1
  clear hW1
  go_enter Try.func20, Try.ntmps20
  go_upto_region 1 with (fail)
  rw [← HW.out]
  clear HW
  have x0 : W1.cell? ⟨r, 0, none⟩ = some (.slice (some ⟨bo, 0, none⟩) s.n s.n) := g1.cell_eq 0 _ rfl
  have x2 : W1.cell? ⟨r, 2, none⟩ = some (.slice ad 0 cd) := g1.cell_eq 2 _ rfl
  have x3 : W1.cell? ⟨r, 3, none⟩ = some (.int .i64 (i : Int)) := g1.cell_eq 3 _ rfl
  have xf := g1.free
  have hcast : (((i + 1 : Nat) : Int)) = (i : Int) + 1 := by omega
  rw [hcast] at hput
  have hd : decide (i < s.n) = true := by simp; omega
  have hdr : ∀ m, Below W1.heap.size W1 (W1.drewN m) := fun m => below_drewN (Below.refl _ _) m
  go_wp2_with fail
  go_quiet (fail)
  have d1 : Blk (W1.drewN nq) r 46 _ := g1
  have d2 : Blk (W1.drewN nq) bo 33 _ := g2
  have d3 : Blk (W1.drewN nq) bt 4 _ := g3
  have d4 : Blk (W1.drewN nq) W.heap.size 33 _ := g4
  have dF := gF.trans (Frm.of_below (S := fun _ => False) (hdr nq)) (fun _ f => f.elim)
  clear g1 g2 g3 g4 gF x0 x2 x3 xf hbel hdr
  generalize W1.drewN nq = W2 at *
  have x3 : W2.cell? ⟨r, 3, none⟩ = some (.int .i64 (i : Int)) := d1.cell_eq 3 _ rfl
  have xf := d1.free
  go_wp2
  clear x3 xf hd
  have g1 : Blk (W2.setCell ⟨r, 3, none⟩ (.int .i64 ((i : Int) + 1))) r 46 #[.slice (some ⟨bo, 0, none⟩) s.n s.n, .slice (some ⟨bt, 0, none⟩) s.n s.n, .slice ad 0 cd, .int .i64 ((i : Int) + 1)] := d1.set 3 (.int .i64 ((i : Int) + 1))
  have g2 := d2.other (a := ⟨r, 3, none⟩) n1 (.int .i64 ((i : Int) + 1))
  have g3 := d3.other (a := ⟨r, 3, none⟩) n2 (.int .i64 ((i : Int) + 1))
  have g4 := d4.other (a := ⟨r, 3, none⟩) (by show r ≠ W.heap.size; omega) (.int .i64 ((i : Int) + 1))
  have gF := dF.setCell ⟨r, 3, none⟩ (.int .i64 ((i : Int) + 1)) (.inl (.inl rfl))
  clear d1 d2 d3 d4 dF
  generalize W2.setCell ⟨r, 3, none⟩ (.int .i64 ((i : Int) + 1)) = V2 at *
  generalize W.heap.size = gx at *
  have hI : (i : Int) < (s.n : Int) := by omega
  have hfr := g2.free
  obtain ⟨v0, e0⟩ := hexO V2 g2 0 (by omega)
  obtain ⟨v1, e1⟩ := hexO V2 g2 1 (by omega)
  obtain ⟨v2, e2⟩ := hexO V2 g2 2 (by omega)
  obtain ⟨v3, e3⟩ := hexO V2 g2 3 (by omega)
  obtain ⟨v4, e4⟩ := hexO V2 g2 4 (by omega)
  obtain ⟨v5, e5⟩ := hexO V2 g2 5 (by omega)
  obtain ⟨v6, e6⟩ := hexO V2 g2 6 (by omega)
  replace e0 : V2.cell? ⟨bo, i * 7, none⟩ = some v0 := e0
  have t0 := hexT V2 g3
  have hft := g3.free
  clear hexO hexT
  have c0 : V2.cell? ⟨r, 0, none⟩ = some (.slice (some ⟨bo, 0, none⟩) s.n s.n) := g1.cell_eq 0 _ rfl
  have c1 : V2.cell? ⟨r, 1, none⟩ = some (.slice (some ⟨bt, 0, none⟩) s.n s.n) := g1.cell_eq 1 _ rfl
  generalize s.n = n at *
  have b0 : V2.cell? ⟨gx, 0, none⟩ = some (.int .i64 a1) := g4.cell_eq 0 _ rfl
  have b1 : V2.cell? ⟨gx, 1, none⟩ = some (.int .i64 a2) := g4.cell_eq 1 _ rfl
  have b2 : V2.cell? ⟨gx, 2, none⟩ = some (.int .i64 a3) := g4.cell_eq 2 _ rfl
  have b3 : V2.cell? ⟨gx, 3, none⟩ = some (.int .i64 a4) := g4.cell_eq 3 _ rfl
  have b4 : V2.cell? ⟨gx, 4, none⟩ = some (.int .i64 a5) := g4.cell_eq 4 _ rfl
  have b5 : V2.cell? ⟨gx, 5, none⟩ = some (.int .i64 a6) := g4.cell_eq 5 _ rfl
  have b6 : V2.cell? ⟨gx, 6, none⟩ = some (.int .i64 a7) := g4.cell_eq 6 _ rfl
  go_still_tail 7, (by kernel_rfl)
  change wpList _ _ _ _ _ (World.drew _)
  replace gF := gF.drew
  replace g1 := drew_blk g1
  replace g2 := drew_blk g2
  replace g3 := drew_blk g3
  replace hfr : ∀ i, V2.drew.frozen? ⟨bo, i, none⟩ = false := hfr
  replace hft : ∀ i, V2.drew.frozen? ⟨bt, i, none⟩ = false := hft
  replace e0 : V2.drew.cell? ⟨bo, i * 7, none⟩ = some v0 := e0
  replace e1 : V2.drew.cell? ⟨bo, i * 7 + 1, none⟩ = some v1 := e1
  replace e2 : V2.drew.cell? ⟨bo, i * 7 + 2, none⟩ = some v2 := e2
  replace e3 : V2.drew.cell? ⟨bo, i * 7 + 3, none⟩ = some v3 := e3
  replace e4 : V2.drew.cell? ⟨bo, i * 7 + 4, none⟩ = some v4 := e4
  replace e5 : V2.drew.cell? ⟨bo, i * 7 + 5, none⟩ = some v5 := e5
  replace e6 : V2.drew.cell? ⟨bo, i * 7 + 6, none⟩ = some v6 := e6
  replace t0 : V2.drew.cell? ⟨bt, i, none⟩ = some (.bool false) := t0
  replace c1 : V2.drew.cell? ⟨r, 1, none⟩ = some (.slice (some ⟨bt, 0, none⟩) n n) := c1
  clear b0 b1 b2 b3 b4 b5 b6 g4 c0
  generalize V2.drew = V3 at *
  go_wp2_with fail
  go_ret2
  have hl := H.out
  have k1 := (Blk.other (a := ⟨bt, i, none⟩) (g1.setNo l n1.symm) n2.symm (.bool true))
  have k2 := (Blk.other (a := ⟨bt, i, none⟩) (g2.setN l) n3.symm (.bool true))
  have k3 := (g3.setNo l n3).set i (.bool true)
  have kF := (gF.setW (g := bo) l (.inl (.inr (.inl rfl)))).setCell ⟨bt, i, none⟩ (.bool true) (.inl (.inr (.inr rfl)))
  have kR := hput _ kF k1 k2 k3
  conv at kR => arg 1; rw [hl]
  rw [hl] at kF
  simp only [setW] at kR kF
  exact ⟨rfl, S, kR, kF.mono (fun b _ e => by rcases e with e | e | e <;> (rw [e]; assumption)), fun b hb => .inl hb⟩
end Go.Proofs.Ytbkdakabpmpiiaa
