/-
  The contract of the document's Read: its loops.
-/
import Derived.Test.YtbkiipeoabbiiaaQr
import Derived.Test.YtbkiipeoabbiiaaGrow
namespace Go.Proofs.Ytbkiipeoabbiiaa
open Go.RowKit
theorem cntV_le (M : Nat) (zs : List Nat) (f : Nat) : cntV M (stepR 3 0 zs f) ≤ M := by
  have h := step_n0 zs f
  unfold cntV
  by_cases h1 : (stepR 3 0 zs f).f = 0 ∧ M < (stepR 3 0 zs f).n
  · rw [if_pos h1]; omega
  · rw [if_neg h1]
    by_cases h2 : (stepR 3 0 zs f).f = 0
    · exact Nat.le_of_not_lt fun h3 => h1 ⟨h2, h3⟩
    · rw [h h2]; omega
/-- The document's Read under way: its reader, its configuration, what its lists hold. -/
structure RD (W : World) (k : Nat) (w : World) (zs : List Nat) (f : Nat) (big : Bool) (oo : Option Addr) (oc : Nat) (ss : List Symb) (ko : Option Nat) (ro : Option Addr) (rc : Nat) (rs : List Rowp) (kr : Option Nat) (ts : List Int) : Prop where
  rd : Qr w (W.heap.size + 1) k zs f big
  cb : Blk w (W.heap.size + 2) 27 (cC oo ss.length oc ro rs.length rc ts)
  rb : Blk w W.heap.size 27 zC
  os : OwG 35 16 w ko oo oc ss.length (ss.flatMap fun m => (cSymb m).toList)
  ow : OwG 49 2 w kr ro rc rs.length (rs.flatMap fun m => (cRowp m).toList)
  kos : ∀ q, ko = some q → W.heap.size + 3 ≤ q
  krs : ∀ q, kr = some q → W.heap.size + 3 ≤ q
  dis : ∀ q, ko = some q → kr ≠ some q
  bel : Below W.heap.size W w
  kb : zs ≠ [] → k < W.heap.size
theorem blk_frm2 {S : Nat → Prop} {w w' : World} {g : Nat} {t : TypeId} {cs : Array Value} (h : Blk w g t cs) (hf : Frm S w w') (hg : ¬ S g) : Blk w' g t cs := (hf.block g h.lt hg).trans h
section
variable {W w w' : World} {k f oc rc : Nat} {zs : List Nat} {big : Bool} {oo ro : Option Addr} {ss : List Symb} {rs : List Rowp} {ko kr : Option Nat} {ts : List Int}
/-- Only the reader turns, or what is none of these. -/
theorem RD.turn {S : Nat → Prop} {zs' : List Nat} {f' : Nat} {big' : Bool} (h : RD W k w zs f big oo oc ss ko ro rc rs kr ts) (hR : Qr w' (W.heap.size + 1) k zs' f' big') (hz : zs' ≠ [] → zs ≠ []) (hf : Frm S w w')
    (hS : ∀ q, S q → q = W.heap.size + 1 ∨ (W.heap.size + 3 ≤ q ∧ ko ≠ some q ∧ kr ≠ some q)) : RD W k w' zs' f' big' oo oc ss ko ro rc rs kr ts :=
  ⟨hR, (hf.block _ h.cb.lt (fun g => (hS _ g).elim (fun e => by omega) (fun e => by omega))).trans h.cb, (hf.block _ h.rb.lt (fun g => (hS _ g).elim (fun e => by omega) (fun e => by omega))).trans h.rb,
    h.os.frm hf (fun q e g => (hS _ g).elim (fun e2 => by have := h.kos q e; omega) (fun e2 => e2.2.1 e)), h.ow.frm hf (fun q e g => (hS _ g).elim (fun e2 => by have := h.krs q e; omega) (fun e2 => e2.2.2 e)), h.kos, h.krs, h.dis,
    h.bel.trans (hf.below h.bel.size (fun q g => (hS _ g).elim (fun e => by omega) (fun e => by omega))), fun g => h.kb (hz g)⟩
theorem RD.call (h : RD W k w zs f big oo oc ss ko ro rc rs kr ts) (hb : Below w.heap.size w w') : RD W k w' zs f big oo oc ss ko ro rc rs kr ts :=
  h.turn (S := fun _ => False) (h.rd.below hb) id (Frm.of_below hb) (fun _ g => g.elim)
end
/-- Numbers read so far, and room. -/
abbrev part16 (zs : List Nat) (f q : Nat) : Array Value := Cv [] ((rdNs q zs f).1.map (fun n => ((valN n : Nat) : Int)) ++ List.replicate (16 - q) 0) []
section
variable {W w w6 : World} {k f oc rc oc' : Nat} {zs : List Nat} {big : Bool} {oo ro oo' : Option Addr} {ss : List Symb} {rs : List Rowp} {ko kr ko' : Option Nat} {ts : List Int}
/-- A symbol more. -/
theorem RD.app (h : RD W k w zs f big oo oc ss ko ro rc rs kr ts) {o : Obj} {m : Symb} (ho : OwG 35 16 w6 ko' oo' oc' (ss.length + 1) ((ss.flatMap fun m => (cSymb m).toList) ++ (cSymb m).toList)) (hf : Frm (fun b => ko = some b) (w.alloc o) w6) (hm : Moved (w.alloc o) ko ko') :
    w6.cell? ⟨W.heap.size + 2, 0, none⟩ = some (.slice oo ss.length oc) ∧ w6.frozen? ⟨W.heap.size + 2, 0, none⟩ = false ∧ RD W k (w6.setCell ⟨W.heap.size + 2, 0, none⟩ (.slice oo' (ss.length + 1) oc')) zs f big oo' oc' (ss ++ [m]) ko' ro rc rs kr ts := by
  have h1 := h.call (w' := w.alloc o) ((Below.refl _ _).alloc (Nat.le_refl _) _)
  have hk3 : ∀ q, ko = some q → W.heap.size + 3 ≤ q := h.kos
  have hcb := blk_frm2 h1.cb hf (fun e => by have := hk3 _ e; omega)
  have hset : Frm (fun b => b = W.heap.size + 2) w6 (w6.setCell ⟨W.heap.size + 2, 0, none⟩ (.slice oo' (ss.length + 1) oc')) := (Frm.refl _ _).setCell _ _ (.inl rfl)
  have hsz : (w.alloc o).heap.size = w.heap.size + 1 := by simp
  have hkw : ∀ q, kr = some q → q < w.heap.size := fun q e => by
    have := h.ow
    subst e
    exact this.lt
  have hc3 : W.heap.size + 3 ≤ w.heap.size := h.cb.lt
  have kos' : ∀ q, ko' = some q → W.heap.size + 3 ≤ q := by
    intro q e
    rcases hm with h2 | h2 | ⟨k2, h2, h3⟩
    · rw [h2] at e; cases e
    · rw [h2] at e; exact hk3 q e
    · rw [h2] at e; cases e; omega
  have dis' : ∀ q, ko' = some q → kr ≠ some q := by
    intro q e g
    rcases hm with h2 | h2 | ⟨k2, h2, h3⟩
    · rw [h2] at e; cases e
    · rw [h2] at e; exact h.dis q e g
    · rw [h2] at e; cases e
      have := hkw _ g
      omega
  refine ⟨hcb.cell_eq 0 _ rfl, hcb.free 0, ⟨?_, ?_, ?_, ?_, ?_, kos', h.krs, dis', ?_, h.kb⟩⟩
  · refine (h1.rd.frm hf (fun e => by have := hk3 _ e; omega) (fun hz e => by have := hk3 _ e; have := h.kb hz; omega)).frm hset (by omega) (fun hz e => by have := h.kb hz; omega)
  · have h2 := hcb.set 0 (.slice oo' (ss.length + 1) oc')
    rw [Cv_set0] at h2
    rw [List.length_append]
    exact h2
  · exact blk_frm2 (blk_frm2 h1.rb hf (fun e => by have := hk3 _ e; omega)) hset (by omega)
  · refine OwG.frm ?_ hset (fun q e g => by have := kos' q e; omega)
    rw [List.length_append, List.flatMap_append]
    simpa using ho
  · exact (h1.ow.frm hf (fun q e g => h.dis q g e)).frm hset (fun q e g => by have := h.krs q e; omega)
  · exact (h1.bel.trans (hf.below h1.bel.size (fun q e => by have := hk3 q e; omega))).setCell (p := ⟨W.heap.size + 2, 0, none⟩) (by simp) _
/-- A row more. -/
theorem RD.appR (h : RD W k w zs f big oo oc ss ko ro rc rs kr ts) {o : Obj} {m : Rowp} (ho : OwG 49 2 w6 ko' oo' oc' (rs.length + 1) ((rs.flatMap fun m => (cRowp m).toList) ++ (cRowp m).toList)) (hf : Frm (fun b => kr = some b) (w.alloc o) w6) (hm : Moved (w.alloc o) kr ko') :
    w6.cell? ⟨W.heap.size + 2, 1, none⟩ = some (.slice ro rs.length rc) ∧ w6.frozen? ⟨W.heap.size + 2, 1, none⟩ = false ∧ RD W k (w6.setCell ⟨W.heap.size + 2, 1, none⟩ (.slice oo' (rs.length + 1) oc')) zs f big oo oc ss ko oo' oc' (rs ++ [m]) ko' ts := by
  have h1 := h.call (w' := w.alloc o) ((Below.refl _ _).alloc (Nat.le_refl _) _)
  have hk3 : ∀ q, kr = some q → W.heap.size + 3 ≤ q := h.krs
  have hcb := blk_frm2 h1.cb hf (fun e => by have := hk3 _ e; omega)
  have hset : Frm (fun b => b = W.heap.size + 2) w6 (w6.setCell ⟨W.heap.size + 2, 1, none⟩ (.slice oo' (rs.length + 1) oc')) := (Frm.refl _ _).setCell _ _ (.inl rfl)
  have hsz : (w.alloc o).heap.size = w.heap.size + 1 := by simp
  have hkw : ∀ q, ko = some q → q < w.heap.size := fun q e => by
    have := h.os
    subst e
    exact this.lt
  have hc3 : W.heap.size + 3 ≤ w.heap.size := h.cb.lt
  have krs' : ∀ q, ko' = some q → W.heap.size + 3 ≤ q := by
    intro q e
    rcases hm with h2 | h2 | ⟨k2, h2, h3⟩
    · rw [h2] at e; cases e
    · rw [h2] at e; exact hk3 q e
    · rw [h2] at e; cases e; omega
  have dis' : ∀ q, ko = some q → ko' ≠ some q := by
    intro q g e
    rcases hm with h2 | h2 | ⟨k2, h2, h3⟩
    · rw [h2] at e; cases e
    · rw [h2] at e; exact h.dis q g e
    · rw [h2] at e; cases e
      have := hkw _ g
      omega
  refine ⟨hcb.cell_eq 1 _ rfl, hcb.free 1, ⟨?_, ?_, ?_, ?_, ?_, h.kos, krs', dis', ?_, h.kb⟩⟩
  · refine (h1.rd.frm hf (fun e => by have := hk3 _ e; omega) (fun hz e => by have := hk3 _ e; have := h.kb hz; omega)).frm hset (by omega) (fun hz e => by have := h.kb hz; omega)
  · have h2 := hcb.set 1 (.slice oo' (rs.length + 1) oc')
    rw [Cv_set1] at h2
    rw [List.length_append]
    exact h2
  · exact blk_frm2 (blk_frm2 h1.rb hf (fun e => by have := hk3 _ e; omega)) hset (by omega)
  · exact (h1.os.frm hf (fun q e g => h.dis q e g)).frm hset (fun q e g => by have := h.kos q e; omega)
  · refine OwG.frm ?_ hset (fun q e g => by have := krs' q e; omega)
    rw [List.length_append, List.flatMap_append]
    simpa using ho
  · exact (h1.bel.trans (hf.below h1.bel.size (fun q e => by have := hk3 q e; omega))).setCell (p := ⟨W.heap.size + 2, 1, none⟩) (by simp) _
end
/-- A call in a statement whose order Go leaves open. -/
theorem step_calls {P : Program} {ops : Array Oper} {o : Oper} {a : Act} {w : World} {K : Act → World → Prop} {Q : Exit → Act → World → Prop} {E : Prop} {f : FuncId} {args : Array Value} (hg : o.guard = none)
    (hr : (execOp a.eval o).run P w = .ok (.enter f args) w) (hc : Calls P f args w fun e w' => ∃ v, e = .returned v ∧ K (a.put o.dst v) w') : if Region.wanted o (yielded ops a.tmps) = true then Oper.wp P o a w K Q else E := by
  have hw : Region.wanted o (yielded ops a.tmps) = true := by simp [Region.wanted, hg]
  rw [if_pos hw]
  simp only [Oper.wp, hr, Oper.upon]
  refine Calls.mono hc fun e w'' he => ?_
  obtain ⟨v, rfl, hK⟩ := he
  exact hK
theorem cSymb_one (m : Symb) : ∀ u ∈ (cSymb m).toList, u.oneCell' = true := by
  intro u hu
  simp only [List.mem_cons, List.not_mem_nil, or_false] at hu
  rcases hu with rfl | rfl | rfl | rfl | rfl | rfl | rfl | rfl | rfl | rfl | rfl | rfl | rfl | rfl | rfl | rfl <;> rfl
theorem cRowp_one (m : Rowp) : ∀ u ∈ (cRowp m).toList, u.oneCell' = true := by
  intro u hu
  simp only [List.mem_cons, List.not_mem_nil, or_false] at hu
  rcases hu with rfl | rfl <;> rfl
theorem sixteen {l : List Int} (h : l.length = 16) : ∃ a0 a1 a2 a3 a4 a5 a6 a7 a8 a9 a10 a11 a12 a13 a14 a15, l = [a0, a1, a2, a3, a4, a5, a6, a7, a8, a9, a10, a11, a12, a13, a14, a15] := by
  match l, h with
  | [a0, a1, a2, a3, a4, a5, a6, a7, a8, a9, a10, a11, a12, a13, a14, a15], _ => exact ⟨_, _, _, _, _, _, _, _, _, _, _, _, _, _, _, _, rfl⟩
theorem symOf_letters {l : List Nat} (hl : l.length = 16) {a0 a1 a2 a3 a4 a5 a6 a7 a8 a9 a10 a11 a12 a13 a14 a15 : Int} (h : l.map (fun n => ((valN n : Nat) : Int)) = [a0, a1, a2, a3, a4, a5, a6, a7, a8, a9, a10, a11, a12, a13, a14, a15]) : symOf (l.map valN) = ⟨a0, a1, a2, a3, a4, a5, a6, a7, a8, a9, a10, a11, a12, a13, a14, a15⟩ := by
  match l, hl with
  | [n0, n1, n2, n3, n4, n5, n6, n7, n8, n9, n10, n11, n12, n13, n14, n15], _ =>
    simp only [List.map_cons, List.map_nil, List.cons.injEq, and_true] at h
    obtain ⟨rfl, rfl, rfl, rfl, rfl, rfl, rfl, rfl, rfl, rfl, rfl, rfl, rfl, rfl, rfl, rfl⟩ := h
    rfl
/-- A symbol's numbers more. -/
theorem RD.next {W w : World} {k f oc rc i : Nat} {zs : List Nat} {big : Bool} {oo ro : Option Addr} {rs : List Rowp} {ko kr : Option Nat} {ts : List Int} {m : Symb} (hm : symOf ((rdNs 16 (rdNs (16 * i) zs f).2.1 (rdNs (16 * i) zs f).2.2).1.map valN) = m)
    (h : RD W k w (rdNs 16 (rdNs (16 * i) zs f).2.1 (rdNs (16 * i) zs f).2.2).2.1 (rdNs 16 (rdNs (16 * i) zs f).2.1 (rdNs (16 * i) zs f).2.2).2.2 ((big || greatN (rdNs (16 * i) zs f).1) || greatN (rdNs 16 (rdNs (16 * i) zs f).2.1 (rdNs (16 * i) zs f).2.2).1) oo oc (symsOf i ((rdNs (16 * i) zs f).1.map valN) ++ [m]) ko ro rc rs kr ts) :
    RD W k w (rdNs (16 * (i + 1)) zs f).2.1 (rdNs (16 * (i + 1)) zs f).2.2 (big || greatN (rdNs (16 * (i + 1)) zs f).1) oo oc (symsOf (i + 1) ((rdNs (16 * (i + 1)) zs f).1.map valN)) ko ro rc rs kr ts := by
  have e := rdNs_add (16 * i) 16 zs f
  rw [show 16 * i + 16 = 16 * (i + 1) by omega] at e
  rw [e]
  simp only
  rw [List.map_append, symsOf_snoc i _ _ (by rw [List.length_map, rdNs_length]) (by rw [List.length_map, rdNs_length]), hm, greatN_big, List.any_append, ← greatN_big, ← greatN_big, ← Bool.or_assoc]
  exact h
/-- A row's numbers more. -/
theorem RD.nextR {W w : World} {k f oc rc i : Nat} {zs : List Nat} {big : Bool} {oo ro : Option Addr} {ss : List Symb} {ko kr : Option Nat} {ts : List Int} {v1 v2 : Nat} (h1 : valN (stepR 3 0 (rdNs (2 * i) zs f).2.1 (rdNs (2 * i) zs f).2.2).n = v1) (h2 : valN (stepR 3 0 (rdNs (2 * i + 1) zs f).2.1 (rdNs (2 * i + 1) zs f).2.2).n = v2)
    (h : RD W k w (rdNs (2 * i + 1 + 1) zs f).2.1 (rdNs (2 * i + 1 + 1) zs f).2.2 (big || greatN (rdNs (2 * i + 1 + 1) zs f).1) oo oc ss ko ro rc (rowsOf i ((rdNs (2 * i) zs f).1.map valN) ++ [⟨(v1 : Int), (v2 : Int)⟩]) kr ts) :
    RD W k w (rdNs (2 * (i + 1)) zs f).2.1 (rdNs (2 * (i + 1)) zs f).2.2 (big || greatN (rdNs (2 * (i + 1)) zs f).1) oo oc ss ko ro rc (rowsOf (i + 1) ((rdNs (2 * (i + 1)) zs f).1.map valN)) kr ts := by
  have e : rowsOf (i + 1) ((rdNs (2 * i + 1 + 1) zs f).1.map valN) = rowsOf i ((rdNs (2 * i) zs f).1.map valN) ++ [⟨(v1 : Int), (v2 : Int)⟩] := by
    have e1 : (rdNs (2 * i + 1 + 1) zs f).1 = (rdNs (2 * i) zs f).1 ++ [(stepR 3 0 (rdNs (2 * i) zs f).2.1 (rdNs (2 * i) zs f).2.2).n, (stepR 3 0 (rdNs (2 * i + 1) zs f).2.1 (rdNs (2 * i + 1) zs f).2.2).n] := by
      rw [rdNs_snoc (2 * i + 1), rdNs_snoc (2 * i)]
      simp
    rw [e1, List.map_append, rowsOf_snoc i _ _ (by rw [List.length_map, rdNs_length]) (by simp)]
    simp only [List.map_cons, List.map_nil, h1, h2]
    rfl
  rw [show 2 * (i + 1) = 2 * i + 1 + 1 by omega, e]
  exact h
theorem part_at (zs : List Nat) (f q : Nat) (hq : q < 16) : (part16 zs f q)[q]? = some (.int .i64 0) := by
  have e : List.replicate (16 - q) (0 : Int) = 0 :: List.replicate (16 - (q + 1)) 0 := by
    rw [show 16 - q = (16 - (q + 1)) + 1 by omega]; rfl
  unfold part16
  rw [e]
  exact Cv.at' (by rw [List.length_map, rdNs_length]; simp)
theorem part_put (zs : List Nat) (f q : Nat) (hq : q < 16) : (part16 zs f q).setIfInBounds q (.int .i64 ((valN (stepR 3 0 (rdNs q zs f).2.1 (rdNs q zs f).2.2).n : Nat) : Int)) = part16 zs f (q + 1) := by
  have e : List.replicate (16 - q) (0 : Int) = 0 :: List.replicate (16 - (q + 1)) 0 := by
    rw [show 16 - q = (16 - (q + 1)) + 1 by omega]; rfl
  unfold part16
  rw [e, Cv.put (by rw [List.length_map, rdNs_length]; simp), rdNs_snoc]
  simp
theorem RD.num {W w w' : World} {k f oc rc : Nat} {zs : List Nat} {big : Bool} {oo ro : Option Addr} {ss : List Symb} {rs : List Rowp} {ko kr : Option Nat} {ts : List Int} {q : Nat}
    (h : RD W k w (rdNs q zs f).2.1 (rdNs q zs f).2.2 (big || greatN (rdNs q zs f).1) oo oc ss ko ro rc rs kr ts)
    (hR : Qr w' (W.heap.size + 1) k ((rdNs q zs f).2.1.drop (stepR 3 0 (rdNs q zs f).2.1 (rdNs q zs f).2.2).size) (stepR 3 0 (rdNs q zs f).2.1 (rdNs q zs f).2.2).f ((big || greatN (rdNs q zs f).1) || bigN (stepR 3 0 (rdNs q zs f).2.1 (rdNs q zs f).2.2).n)) (hf : Frm (fun b => b = W.heap.size + 1) w w') :
    RD W k w' (rdNs (q + 1) zs f).2.1 (rdNs (q + 1) zs f).2.2 (big || greatN (rdNs (q + 1) zs f).1) oo oc ss ko ro rc rs kr ts := by
  have h2 := h.turn hR drop_some hf (fun q e => .inl e)
  have e : greatN (rdNs (q + 1) zs f).1 = (greatN (rdNs q zs f).1 || bigN (stepR 3 0 (rdNs q zs f).2.1 (rdNs q zs f).2.2).n) := by
    rw [rdNs_snoc, greatN_big, List.any_append, ← greatN_big]
    simp
  rw [e, ← Bool.or_assoc, rdNs_snoc]
  exact h2
/-- The last six numbers so far. -/
abbrev ts6 (zs : List Nat) (f q : Nat) : List Int := (rdNs q zs f).1.map (fun n => ((valN n : Nat) : Int)) ++ List.replicate (6 - q) 0
theorem RD.tail {W w w' : World} {k f oc rc : Nat} {zs : List Nat} {big : Bool} {oo ro : Option Addr} {ss : List Symb} {rs : List Rowp} {ko kr : Option Nat} {q : Nat} (hq : q < 6) (c o : Nat) (hc : c = W.heap.size + 2) (ho : o = q + 2)
    (h : RD W k w (rdNs q zs f).2.1 (rdNs q zs f).2.2 (big || greatN (rdNs q zs f).1) oo oc ss ko ro rc rs kr (ts6 zs f q))
    (hR : Qr w' (W.heap.size + 1) k ((rdNs q zs f).2.1.drop (stepR 3 0 (rdNs q zs f).2.1 (rdNs q zs f).2.2).size) (stepR 3 0 (rdNs q zs f).2.1 (rdNs q zs f).2.2).f ((big || greatN (rdNs q zs f).1) || bigN (stepR 3 0 (rdNs q zs f).2.1 (rdNs q zs f).2.2).n)) (hf : Frm (fun b => b = W.heap.size + 1) w w') :
    w'.cell? ⟨c, o, none⟩ = some (.int .i64 0) ∧ w'.frozen? ⟨c, o, none⟩ = false ∧ c < w'.heap.size ∧
      RD W k (w'.setCell ⟨c, o, none⟩ (.int .i64 ((valN (stepR 3 0 (rdNs q zs f).2.1 (rdNs q zs f).2.2).n : Nat) : Int))) (rdNs (q + 1) zs f).2.1 (rdNs (q + 1) zs f).2.2 (big || greatN (rdNs (q + 1) zs f).1) oo oc ss ko ro rc rs kr (ts6 zs f (q + 1)) := by
  subst hc ho
  have h1 := h.num hR hf
  have e : List.replicate (6 - q) (0 : Int) = 0 :: List.replicate (6 - (q + 1)) 0 := by
    rw [show 6 - q = (6 - (q + 1)) + 1 by omega]; rfl
  have hcb := h1.cb
  have hget : (cC oo ss.length oc ro rs.length rc (ts6 zs f q))[q + 2]? = some (.int .i64 0) := by
    unfold ts6 cC
    rw [e]
    exact Cv.at' (by rw [List.length_map, rdNs_length]; simp; omega)
  have hput : (cC oo ss.length oc ro rs.length rc (ts6 zs f q)).setIfInBounds (q + 2) (.int .i64 ((valN (stepR 3 0 (rdNs q zs f).2.1 (rdNs q zs f).2.2).n : Nat) : Int)) = cC oo ss.length oc ro rs.length rc (ts6 zs f (q + 1)) := by
    unfold ts6 cC
    rw [e, Cv.put (by rw [List.length_map, rdNs_length]; simp; omega), rdNs_snoc]
    simp
  have hset : Frm (fun b => b = W.heap.size + 2) w' (w'.setCell ⟨W.heap.size + 2, q + 2, none⟩ (.int .i64 ((valN (stepR 3 0 (rdNs q zs f).2.1 (rdNs q zs f).2.2).n : Nat) : Int))) := (Frm.refl _ _).setCell _ _ (.inl rfl)
  refine ⟨hcb.cell_eq _ _ hget, hcb.free _, hcb.lt, ⟨h1.rd.frm hset (by omega) (fun hz e => by have := h1.kb hz; omega), ?_, blk_frm2 h1.rb hset (by omega), h1.os.frm hset (fun q e g => by have := h1.kos q e; omega), h1.ow.frm hset (fun q e g => by have := h1.krs q e; omega), h1.kos, h1.krs, h1.dis, h1.bel.setCell (p := ⟨W.heap.size + 2, q + 2, none⟩) (by simp) _, h1.kb⟩⟩
  have h2 := hcb.set (q + 2) (.int .i64 ((valN (stepR 3 0 (rdNs q zs f).2.1 (rdNs q zs f).2.2).n : Nat) : Int))
  rw [hput] at h2
  exact h2
theorem six {l : List Int} (h : l.length = 6) : ∃ a0 a1 a2 a3 a4 a5, l = [a0, a1, a2, a3, a4, a5] := by
  match l, h with
  | [a0, a1, a2, a3, a4, a5], _ => exact ⟨_, _, _, _, _, _, rfl⟩
set_option maxRecDepth 16000 in
set_option maxHeartbeats 4000000 in
theorem refread_any (kb cap : Nat) (ao : Option Addr) (b : List Nat) (W : World) (hB : Bt W kb ao cap b) :
    Calls Try.prog 21 #[.slice ao b.length cap] W fun e w' => ∃ sa sc ra rc, e = .returned (.tuple #[vCfg sa sc ra rc (readC b).1, .int .i64 ((readC b).2 : Int)]) ∧ Holds w' sa sc ra rc (readC b).1 ∧ Below W.heap.size W w' := by
  have hCase := q_cases b
  obtain ⟨V, hV⟩ : ∃ V, V = ((W.alloc (.cells zC 27)).alloc (.cells #[.slice ao b.length cap, .int .i64 0, .bool false] 82)).alloc (.cells zC 27) := ⟨_, rfl⟩
  have hD0 : RD W kb V b 0 false none 0 [] none none 0 [] none [0, 0, 0, 0, 0, 0] := by
    subst hV
    have hbV : Below W.heap.size W (((W.alloc (.cells zC 27)).alloc (.cells #[.slice ao b.length cap, .int .i64 0, .bool false] 82)).alloc (.cells zC 27)) := (((Below.refl _ W).alloc (Nat.le_refl _) _).alloc (by simp) _).alloc (by simp; omega) _
    exact ⟨⟨ao, cap, (Blk.new' (by simp)).alloc _, ((hB.alloc _).alloc _).alloc _, fun hx => by have := hB.size hx; omega⟩, Blk.new' (by simp), ((Blk.new _ _ _).alloc _).alloc _, OwG.nil _ _ _, OwG.nil _ _ _, fun q e => (by cases e), fun q e => (by cases e), fun q e => (by cases e), hbV, hB.size⟩
  have cC := refcount_any 8 (by decide) (W.heap.size + 1) kb b 0 V hD0.rd
  have hn8 := cntV_le 8 b 0
  go_enter Try.func21, Try.ntmps21
  go_wp2_with (go_at_call 54; rw [← hV]; refine cC.mono ?_; rintro e w1 ⟨rfl, hR1, hF1⟩; have hD1 := hD0.turn hR1 drop_some hF1 (fun q e => .inl e))
  clear cC hV hD0 hB hR1 hF1
  obtain ⟨n, hn⟩ : ∃ n, qN b = n := ⟨_, rfl⟩
  have hnn : cntV 8 (stepR 3 0 b 0) = n := hn
  rw [hnn] at hn8 ⊢
  obtain ⟨z1, hz1⟩ : ∃ z1, b.drop (stepR 3 0 b 0).size = z1 := ⟨_, rfl⟩
  obtain ⟨f1, hf1⟩ : ∃ f1, cntF 8 (stepR 3 0 b 0) = f1 := ⟨_, rfl⟩
  obtain ⟨b1, hb1⟩ : ∃ b1, bigN (stepR 3 0 b 0).n = b1 := ⟨_, rfl⟩
  rw [hz1, hf1, hb1] at hD1
  have hS : qS b = rdNs (16 * n) z1 f1 := by unfold qS; rw [hn, hz1, hf1]
  clear hnn hz1 hf1
  go_loopg [7] n (fun j p7 wr => ∃ (i : Nat) (oo : Option Addr) (oc : Nat) (ko : Option Nat), i + j = n ∧ p7 = .int .i64 (i : Int) ∧ RD W kb wr (rdNs (16 * i) z1 f1).2.1 (rdNs (16 * i) z1 f1).2.2 (b1 || greatN (rdNs (16 * i) z1 f1).1) oo oc (symsOf i ((rdNs (16 * i) z1 f1).1.map valN)) ko none 0 [] none [0, 0, 0, 0, 0, 0])
  case atStart => exact ⟨0, none, 0, none, by omega, rfl, by simpa [rdNs, symsOf, greatN] using hD1⟩
  case round =>
    obtain ⟨i, oo, oc, ko, hi, rfl, hD⟩ := hrel
    by_cases hj : i < n
    · have e16 : 16 * (i + 1) = 16 * i + 16 := by omega
      obtain ⟨z2, hz2⟩ : ∃ z2, (rdNs (16 * i) z1 f1).2.1 = z2 := ⟨_, rfl⟩
      obtain ⟨f2, hf2⟩ : ∃ f2, (rdNs (16 * i) z1 f1).2.2 = f2 := ⟨_, rfl⟩
      obtain ⟨b2, hb2⟩ : ∃ b2, (b1 || greatN (rdNs (16 * i) z1 f1).1) = b2 := ⟨_, rfl⟩
      obtain ⟨ss, hss⟩ : ∃ ss, symsOf i ((rdNs (16 * i) z1 f1).1.map valN) = ss := ⟨_, rfl⟩
      rw [hz2, hf2, hb2, hss] at hD
      have ez : part16 z2 f2 0 = #[.int .i64 0, .int .i64 0, .int .i64 0, .int .i64 0, .int .i64 0, .int .i64 0, .int .i64 0, .int .i64 0, .int .i64 0, .int .i64 0, .int .i64 0, .int .i64 0, .int .i64 0, .int .i64 0, .int .i64 0, .int .i64 0] := rfl
      obtain ⟨w2, hw2⟩ : ∃ w2, w2 = wr.alloc (.cells #[.int .i64 0, .int .i64 0, .int .i64 0, .int .i64 0, .int .i64 0, .int .i64 0, .int .i64 0, .int .i64 0, .int .i64 0, .int .i64 0, .int .i64 0, .int .i64 0, .int .i64 0, .int .i64 0, .int .i64 0, .int .i64 0] 71) := ⟨_, rfl⟩
      have hD2 : RD W kb w2 (rdNs 0 z2 f2).2.1 (rdNs 0 z2 f2).2.2 (b2 || greatN (rdNs 0 z2 f2).1) oo oc ss ko none 0 [] none [0, 0, 0, 0, 0, 0] := by
        rw [hw2]
        have := hD.call (w' := wr.alloc (.cells #[.int .i64 0, .int .i64 0, .int .i64 0, .int .i64 0, .int .i64 0, .int .i64 0, .int .i64 0, .int .i64 0, .int .i64 0, .int .i64 0, .int .i64 0, .int .i64 0, .int .i64 0, .int .i64 0, .int .i64 0, .int .i64 0] 71)) ((Below.refl _ _).alloc (Nat.le_refl _) _)
        simpa [rdNs, greatN] using this
      have hl2 : Blk w2 wr.heap.size 71 (part16 z2 f2 0) := by rw [hw2, ez]; exact Blk.new _ _ _
      have hko : ∀ q, ko = some q → q < wr.heap.size := fun q e => by
        have := hD.os
        subst e
        exact this.lt
      have hlb : W.heap.size + 3 ≤ wr.heap.size := hD.cb.lt
      clear hD
      obtain ⟨lb, hlbe⟩ : ∃ lb, lb = wr.heap.size := ⟨_, rfl⟩
      rw [← hlbe] at hl2 hko hlb
      have hkl : ∀ q, ko = some q → q < lb := hko
      clear ez
      go_wp2_with fail
      rw [← hw2, ← hlbe]
      clear hlbe hw2
      go_loopg [9] 16 (fun j p9 wx => ∃ q : Nat, q + j = 16 ∧ p9 = .int .i64 (q : Int) ∧ RD W kb wx (rdNs q z2 f2).2.1 (rdNs q z2 f2).2.2 (b2 || greatN (rdNs q z2 f2).1) oo oc ss ko none 0 [] none [0, 0, 0, 0, 0, 0] ∧ Blk wx lb 71 (part16 z2 f2 q))
      case atStart => exact ⟨0, by omega, rfl, hD2, hl2⟩
      case round =>
        clear hD2 hl2
        obtain ⟨q, hq, rfl, hD, hl⟩ := hrel
        by_cases hjq : q < 16
        · have cN := refnum_any (W.heap.size + 1) kb _ _ _ wr hD.rd
          have hlq : ∀ w', Frm (fun b => b = W.heap.size + 1) wr w' → Blk w' lb 71 (part16 z2 f2 q) := fun w' hf => (hf.block _ hl.lt (fun e => by omega)).trans hl
          have hput := part_put z2 f2 q hjq
          have hat := part_at z2 f2 q hjq
          have hsnoc : ∀ w', Qr w' _ _ _ _ _ → _ := fun w' hR hf => hD.num (w' := w') hR hf
          obtain ⟨v, hv⟩ : ∃ v, valN (stepR 3 0 (rdNs q z2 f2).2.1 (rdNs q z2 f2).2.2).n = v := ⟨_, rfl⟩
          rw [hv] at hput cN
          go_wp2_with (go_at_call 55; refine cN.mono ?_; rintro e w3 ⟨rfl, hR3, hF3⟩; have hl3 := hlq _ hF3; have hD3 := hsnoc _ hR3 hF3; have y0 := hl3.cell_eq q _ hat; have y1 := hl3.free q)
          have hset : Frm (fun b => b = lb) w3 (w3.setCell ⟨lb, q, none⟩ (.int .i64 (v : Int))) := (Frm.refl _ w3).setCell _ _ (.inl rfl)
          have hl4 := hl3.set q (.int .i64 (v : Int))
          rw [hput] at hl4
          have hD4 := hD3.turn (hD3.rd.frm hset (by omega) (fun hz e => by have := hD3.kb hz; omega)) id hset (fun x e => .inr ⟨by omega, fun g => by have := hkl x g; omega, fun g => by cases g⟩)
          go_roundg (16 - (q + 1))
          case measure => omega
          case rel => exact ⟨q + 1, by omega, by go_num, hD4, hl4⟩
        · obtain rfl : q = 16 := by omega
          have hL : ((rdNs 16 z2 f2).1.map (fun n => ((valN n : Nat) : Int))).length = 16 := by rw [List.length_map, rdNs_length]
          obtain ⟨a0, a1, a2, a3, a4, a5, a6, a7, a8, a9, a10, a11, a12, a13, a14, a15, ea⟩ := sixteen hL
          have hl16 : Blk wr lb 71 #[.int .i64 a0, .int .i64 a1, .int .i64 a2, .int .i64 a3, .int .i64 a4, .int .i64 a5, .int .i64 a6, .int .i64 a7, .int .i64 a8, .int .i64 a9, .int .i64 a10, .int .i64 a11, .int .i64 a12, .int .i64 a13, .int .i64 a14, .int .i64 a15] := by
            have h := hl
            unfold part16 at h
            rw [ea] at h
            exact h
          have hDd := hD.call ((Below.refl _ wr).drew)
          have y0 : wr.cell? ⟨W.heap.size + 1 + 1, 0, none⟩ = some (.slice oo ss.length oc) := hD.cb.cell_eq 0 _ rfl
          have hlt : W.heap.size + 1 + 1 < wr.heap.size := hD.cb.lt
          have x0 := hl16.cell_eq 0 _ rfl
          have x1 := hl16.cell_eq 1 _ rfl
          have x2 := hl16.cell_eq 2 _ rfl
          have x3 := hl16.cell_eq 3 _ rfl
          have x4 := hl16.cell_eq 4 _ rfl
          have x5 := hl16.cell_eq 5 _ rfl
          have x6 := hl16.cell_eq 6 _ rfl
          have x7 := hl16.cell_eq 7 _ rfl
          have x8 := hl16.cell_eq 8 _ rfl
          have x9 := hl16.cell_eq 9 _ rfl
          have x10 := hl16.cell_eq 10 _ rfl
          have x11 := hl16.cell_eq 11 _ rfl
          have x12 := hl16.cell_eq 12 _ rfl
          have x13 := hl16.cell_eq 13 _ rfl
          have x14 := hl16.cell_eq 14 _ rfl
          have x15 := hl16.cell_eq 15 _ rfl
          have hsl : ss.length ≤ 8 := by rw [← hss, symsOf_length]; omega
          replace hss := Lib.hid hss
          obtain ⟨i1, hi1, hz1, hs1, hby1⟩ := info_parts infoSymb
          have one := cSymb_one ⟨a0, a1, a2, a3, a4, a5, a6, a7, a8, a9, a10, a11, a12, a13, a14, a15⟩
          have hsym : symOf ((rdNs 16 z2 f2).1.map valN) = ⟨a0, a1, a2, a3, a4, a5, a6, a7, a8, a9, a10, a11, a12, a13, a14, a15⟩ := symOf_letters (rdNs_length _ _ _) ea
          have hnext : ∀ (w : World) (oo' : Option Addr) (oc' : Nat) (ko' : Option Nat), RD W kb w (rdNs 16 z2 f2).2.1 (rdNs 16 z2 f2).2.2 (b2 || greatN (rdNs 16 z2 f2).1) oo' oc' (ss ++ [⟨a0, a1, a2, a3, a4, a5, a6, a7, a8, a9, a10, a11, a12, a13, a14, a15⟩]) ko' none 0 [] none [0, 0, 0, 0, 0, 0] → RD W kb w (rdNs (16 * (i + 1)) z1 f1).2.1 (rdNs (16 * (i + 1)) z1 f1).2.2 (b1 || greatN (rdNs (16 * (i + 1)) z1 f1).1) oo' oc' (symsOf (i + 1) ((rdNs (16 * (i + 1)) z1 f1).1.map valN)) ko' none 0 [] none [0, 0, 0, 0, 0, 0] := by
            intro w oo' oc' ko' h
            refine RD.next (m := ⟨a0, a1, a2, a3, a4, a5, a6, a7, a8, a9, a10, a11, a12, a13, a14, a15⟩) (by rw [hz2, hf2]; exact hsym) ?_
            rw [hz2, hf2, hb2, hss.out]
            exact h
          clear hl hL hl16 hq hsym ea hz2 hf2 hb2 hss
          go_wp2_with fail
          go_region_law (first
            | (refine step_calls (f := 56) (args := #[.agg #[.int .i64 a0, .int .i64 a1, .int .i64 a2, .int .i64 a3, .int .i64 a4, .int .i64 a5, .int .i64 a6, .int .i64 a7, .int .i64 a8, .int .i64 a9, .int .i64 a10, .int .i64 a11, .int .i64 a12, .int .i64 a13, .int .i64 a14, .int .i64 a15]]) rfl (by go_simp; try with_reducible rfl) ?_; refine (refsym_any a0 a1 a2 a3 a4 a5 a6 a7 a8 a9 a10 a11 a12 a13 a14 a15 _).mono ?_; rintro e w5 ⟨rfl, hb5⟩; have hD5 := hDd.call hb5; have y5 : w5.cell? ⟨W.heap.size + 1 + 1, 0, none⟩ = some (.slice oo ss.length oc) := hD5.cb.cell_eq 0 _ rfl; have hlt5 : W.heap.size + 1 + 1 < w5.heap.size := hD5.cb.lt; refine ⟨_, rfl, ?_⟩)
            | (refine step_appG rfl (.tmp 34) (.tmp 37) 22 35 i1 _ 16 128 Try.underlying22 hi1 hz1 hs1 hby1 rfl (by decide) rfl (hD5.os.alloc _) (SrcG.row (cs := cSymb ⟨a0, a1, a2, a3, a4, a5, a6, a7, a8, a9, a10, a11, a12, a13, a14, a15⟩) (Blk.new' rfl) rfl one) rfl rfl (by omega) (by omega) ?_; intro oo' oc' ko' w6 ho6 hf6 hm6; obtain ⟨g0, g1, g2⟩ := hD5.app ho6 hf6 hm6))
          all_goals
            have hN := hnext _ _ _ _ g2
            clear hnext g2 g0 g1 hDd hD5
            go_wp2_with fail
            go_roundg (n - (i + 1))
          all_goals first
            | (show _ < _; omega)
            | exact ⟨i + 1, oo', oc', ko', by omega, by go_num, hN⟩
    · obtain rfl : i = n := by omega
      rw [← hS] at hD
      clear hj hD1 hi
      obtain ⟨z3, hz3⟩ : ∃ z3, (qS b).2.1 = z3 := ⟨_, rfl⟩
      obtain ⟨f3, hf3⟩ : ∃ f3, (qS b).2.2 = f3 := ⟨_, rfl⟩
      obtain ⟨b3, hb3⟩ : ∃ b3, (b1 || greatN (qS b).1) = b3 := ⟨_, rfl⟩
      obtain ⟨ss, hss⟩ : ∃ ss, symsOf i ((qS b).1.map valN) = ss := ⟨_, rfl⟩
      rw [hz3, hf3, hb3, hss] at hD
      have hssl : ss.length ≤ 8 := by rw [← hss, symsOf_length]; omega
      have cR := refrows_any (W.heap.size + 1) kb z3 f3 b3 wr hD.rd
      have hm20 := cntV_le 20 z3 f3
      have hqm : q2M z3 f3 = cntV 20 (stepR 3 0 z3 f3) := rfl
      have hqR : q2R z3 f3 = rdNs (2 * q2M z3 f3) (z3.drop (stepR 3 0 z3 f3).size) (cntF 20 (stepR 3 0 z3 f3)) := rfl
      have hD4' : ∀ w', _ → _ → _ := fun w' hR4 hF4 => hD.turn (w' := w') (zs' := z3.drop (stepR 3 0 z3 f3).size) (f' := cntF 20 (stepR 3 0 z3 f3)) (big' := (bigN (stepR 3 0 z3 f3).n || b3)) hR4 drop_some hF4 (fun q e => .inl e)
      obtain ⟨m, hm⟩ : ∃ m, q2M z3 f3 = m := ⟨_, rfl⟩
      rw [hm] at hqm hqR
      rw [← hqm] at cR hm20
      obtain ⟨z4, hz4⟩ : ∃ z4, z3.drop (stepR 3 0 z3 f3).size = z4 := ⟨_, rfl⟩
      obtain ⟨f4, hf4⟩ : ∃ f4, cntF 20 (stepR 3 0 z3 f3) = f4 := ⟨_, rfl⟩
      obtain ⟨b4, hb4⟩ : ∃ b4, (bigN (stepR 3 0 z3 f3).n || b3) = b4 := ⟨_, rfl⟩
      rw [hz4, hf4, hb4] at cR hD4'
      rw [hz4, hf4] at hqR
      replace hqm := Lib.hid hqm
      replace hn := Lib.hid hn
      replace hm := Lib.hid hm
      replace hss := Lib.hid hss
      clear hS hD hz4 hf4
      go_wp2_with (go_at_call 57; refine cR.mono ?_; rintro e w4 ⟨rfl, hR4, hF4⟩; have hD4 := hD4' _ hR4 hF4)
      clear hD4' cR hR4 hF4
      go_loopg [10] m (fun j p10 wr => ∃ (i : Nat) (ro : Option Addr) (rc : Nat) (kr : Option Nat), i + j = m ∧ p10 = .int .i64 (i : Int) ∧ RD W kb wr (rdNs (2 * i) z4 f4).2.1 (rdNs (2 * i) z4 f4).2.2 (b4 || greatN (rdNs (2 * i) z4 f4).1) oo oc ss ko ro rc (rowsOf i ((rdNs (2 * i) z4 f4).1.map valN)) kr [0, 0, 0, 0, 0, 0])
      case atStart => exact ⟨0, none, 0, none, by omega, rfl, by simpa [rdNs, rowsOf, greatN] using hD4⟩
      case round =>
        clear hD4
        obtain ⟨t, ro, rc, kr, ht, rfl, hD⟩ := hrel
        by_cases hjt : t < m
        · obtain ⟨rs, hrs⟩ : ∃ rs, rowsOf t ((rdNs (2 * t) z4 f4).1.map valN) = rs := ⟨_, rfl⟩
          rw [hrs] at hD
          have hrl : rs.length ≤ 20 := by rw [← hrs, rowsOf_length]; omega
          have cN1 := refnum_any (W.heap.size + 1) kb _ _ _ wr hD.rd
          have cN2 := fun w (h : RD W kb w (rdNs (2 * t + 1) z4 f4).2.1 (rdNs (2 * t + 1) z4 f4).2.2 (b4 || greatN (rdNs (2 * t + 1) z4 f4).1) oo oc ss ko ro rc rs kr [0, 0, 0, 0, 0, 0]) => refnum_any (W.heap.size + 1) kb _ _ _ w h.rd
          have hs1 : ∀ w', Qr w' _ _ _ _ _ → _ := fun w' hR hf => hD.num (w' := w') hR hf
          obtain ⟨v1, hv1⟩ : ∃ v1, valN (stepR 3 0 (rdNs (2 * t) z4 f4).2.1 (rdNs (2 * t) z4 f4).2.2).n = v1 := ⟨_, rfl⟩
          obtain ⟨v2, hv2⟩ : ∃ v2, valN (stepR 3 0 (rdNs (2 * t + 1) z4 f4).2.1 (rdNs (2 * t + 1) z4 f4).2.2).n = v2 := ⟨_, rfl⟩
          rw [hv1] at cN1
          rw [hv2] at cN2
          have hnext : ∀ (w : World) (ro' : Option Addr) (rc' : Nat) (kr' : Option Nat), RD W kb w (rdNs (2 * t + 1 + 1) z4 f4).2.1 (rdNs (2 * t + 1 + 1) z4 f4).2.2 (b4 || greatN (rdNs (2 * t + 1 + 1) z4 f4).1) oo oc ss ko ro' rc' (rs ++ [⟨(v1 : Int), (v2 : Int)⟩]) kr' [0, 0, 0, 0, 0, 0] → RD W kb w (rdNs (2 * (t + 1)) z4 f4).2.1 (rdNs (2 * (t + 1)) z4 f4).2.2 (b4 || greatN (rdNs (2 * (t + 1)) z4 f4).1) oo oc ss ko ro' rc' (rowsOf (t + 1) ((rdNs (2 * (t + 1)) z4 f4).1.map valN)) kr' [0, 0, 0, 0, 0, 0] := by
            intro w ro' rc' kr' h
            refine RD.nextR hv1 hv2 ?_
            rw [hrs]
            exact h
          obtain ⟨i1, hi1, hz1', hs1', hby1⟩ := info_parts infoCRowp
          have one := cRowp_one ⟨(v1 : Int), (v2 : Int)⟩
          clear hv1 hv2 hrs hD
          go_wp2_with (go_at_call 55; refine cN1.mono ?_; rintro e w5 ⟨rfl, hR5, hF5⟩; have hD5 := hs1 _ hR5 hF5; have y5 : w5.cell? ⟨W.heap.size + 1 + 1, 1, none⟩ = some (.slice ro rs.length rc) := hD5.cb.cell_eq 1 _ rfl; have hlt5 : W.heap.size + 1 + 1 < w5.heap.size := hD5.cb.lt)
          have hDd := hD5.call ((Below.refl _ w5).drew)
          go_region_law (first
            | (refine step_calls (f := 55) (args := #[.pointer (some ⟨W.heap.size + 1, 0, none⟩)]) rfl (by go_simp; try with_reducible rfl) ?_; refine (cN2 _ hDd).mono ?_; rintro e w6 ⟨rfl, hR6, hF6⟩; have hD6 := hDd.num hR6 hF6; have y6 : w6.cell? ⟨W.heap.size + 1 + 1, 1, none⟩ = some (.slice ro rs.length rc) := hD6.cb.cell_eq 1 _ rfl; have hlt6 : W.heap.size + 1 + 1 < w6.heap.size := hD6.cb.lt; refine ⟨_, rfl, ?_⟩)
            | (refine step_appG rfl (.tmp 50) (.tmp 55) 23 49 i1 _ 2 16 Try.underlying23 hi1 hz1' hs1' hby1 rfl (by decide) rfl (hD6.ow.alloc _) (SrcG.row (cs := cRowp ⟨(v1 : Int), (v2 : Int)⟩) (Blk.new' rfl) rfl one) rfl rfl (by omega) (by omega) ?_; intro ro' rc' kr' w7 ho7 hf7 hm7; obtain ⟨g0, g1, g2⟩ := hD6.appR ho7 hf7 hm7))
          all_goals
            have hN := hnext _ _ _ _ g2
            clear hnext g2 g0 g1 hDd hD5 hD6
            go_wp2_with fail
            go_roundg (m - (t + 1))
          all_goals first
            | (show _ < _; omega)
            | exact ⟨t + 1, ro', rc', kr', by omega, by go_num, hN⟩
        · obtain rfl : t = m := by omega
          rw [← hqR] at hD
          obtain ⟨z5, hz5⟩ : ∃ z5, (q2R z3 f3).2.1 = z5 := ⟨_, rfl⟩
          obtain ⟨f5, hf5⟩ : ∃ f5, (q2R z3 f3).2.2 = f5 := ⟨_, rfl⟩
          obtain ⟨b5, hb5⟩ : ∃ b5, (b4 || greatN (q2R z3 f3).1) = b5 := ⟨_, rfl⟩
          obtain ⟨rs, hrs⟩ : ∃ rs, rowsOf t ((q2R z3 f3).1.map valN) = rs := ⟨_, rfl⟩
          rw [hz5, hf5, hb5, hrs] at hD
          have hrl : rs.length ≤ 20 := by rw [← hrs, rowsOf_length]; omega
          have hT : q2T z3 f3 = rdNs 6 z5 f5 := by unfold q2T; rw [hz5, hf5]
          replace hrs := Lib.hid hrs
          clear hz5 hf5 hqR hjt ht
          have hD0 : RD W kb wr (rdNs 0 z5 f5).2.1 (rdNs 0 z5 f5).2.2 (b5 || greatN (rdNs 0 z5 f5).1) oo oc ss ko ro rc rs kr (ts6 z5 f5 0) := by
            have e0 : ts6 z5 f5 0 = [0, 0, 0, 0, 0, 0] := rfl
            have e1 : rdNs 0 z5 f5 = ([], z5, f5) := rfl
            rw [e0, e1]
            simpa [greatN] using hD
          clear hD
          have cN := fun q w (h : RD W kb w (rdNs q z5 f5).2.1 (rdNs q z5 f5).2.2 (b5 || greatN (rdNs q z5 f5).1) oo oc ss ko ro rc rs kr (ts6 z5 f5 q)) => refnum_any (W.heap.size + 1) kb _ _ _ w h.rd
          go_wp2_with (go_at_call 55; refine (cN 0 _ hD0).mono ?_; rintro e w5 ⟨rfl, hR5, hF5⟩; obtain ⟨y0, y1, hl5, hD1⟩ := RD.tail (by decide) (W.heap.size + 1 + 1) 2 rfl rfl hD0 hR5 hF5; clear hR5 hF5)
          obtain ⟨w6, hw6⟩ : ∃ w6, w6 = w5.setCell ⟨W.heap.size + 1 + 1, 2, none⟩ (.int .i64 ((valN (stepR 3 0 (rdNs 0 z5 f5).2.1 (rdNs 0 z5 f5).2.2).n : Nat) : Int)) := ⟨_, rfl⟩
          rw [← hw6] at hD1 ⊢
          clear hD0 y0 y1 hl5 hw6
          go_loopg [12] 3 (fun j p12 wr => ∃ x : Nat, x + j = 3 ∧ p12 = .int .i64 (x : Int) ∧ RD W kb wr (rdNs (x + 1) z5 f5).2.1 (rdNs (x + 1) z5 f5).2.2 (b5 || greatN (rdNs (x + 1) z5 f5).1) oo oc ss ko ro rc rs kr (ts6 z5 f5 (x + 1)))
          case atStart => exact ⟨0, by omega, rfl, hD1⟩
          case round =>
            clear hD1
            obtain ⟨x, hx, rfl, hD⟩ := hrel
            by_cases hjx : x < 3
            · have cN1 := cN (x + 1) _ hD
              have hTl := fun w' hR hF => RD.tail (w' := w') (q := x + 1) (by omega) (W.heap.size + 1 + 1) (3 + x) rfl (by omega) hD hR hF
              obtain ⟨v, hv⟩ : ∃ v, valN (stepR 3 0 (rdNs (x + 1) z5 f5).2.1 (rdNs (x + 1) z5 f5).2.2).n = v := ⟨_, rfl⟩
              rw [hv] at cN1 hTl
              clear hv cN
              go_wp2_with (go_at_call 55; refine cN1.mono ?_; rintro e w7 ⟨rfl, hR7, hF7⟩; obtain ⟨y0, y1, hl7, hD7⟩ := hTl _ hR7 hF7)
              go_roundg (3 - (x + 1))
              case measure => omega
              case rel => exact ⟨x + 1, by omega, by go_num, hD7⟩
            · obtain rfl : x = 3 := by omega
              have cN4 := cN 4 _ hD
              have hT4 := fun w' hR hF => RD.tail (w' := w') (q := 4) (by decide) (W.heap.size + 1 + 1) 6 rfl rfl hD hR hF
              obtain ⟨v4, hv4⟩ : ∃ v4, valN (stepR 3 0 (rdNs 4 z5 f5).2.1 (rdNs 4 z5 f5).2.2).n = v4 := ⟨_, rfl⟩
              rw [hv4] at cN4 hT4
              have cN5 := fun w h => cN 5 w h
              have hT5 := fun w w' hD hR hF => RD.tail (W := W) (w := w) (k := kb) (zs := z5) (f := f5) (big := b5) (oo := oo) (oc := oc) (ss := ss) (ko := ko) (ro := ro) (rc := rc) (rs := rs) (kr := kr) (w' := w') (q := 5) (by decide) (W.heap.size + 1 + 1) 7 rfl rfl hD hR hF
              obtain ⟨v5, hv5⟩ : ∃ v5, valN (stepR 3 0 (rdNs 5 z5 f5).2.1 (rdNs 5 z5 f5).2.2).n = v5 := ⟨_, rfl⟩
              rw [hv5] at cN5 hT5
              have e6 : rdNs 6 z5 f5 = ((rdNs 5 z5 f5).1 ++ [(stepR 3 0 (rdNs 5 z5 f5).2.1 (rdNs 5 z5 f5).2.2).n], (rdNs 5 z5 f5).2.1.drop (stepR 3 0 (rdNs 5 z5 f5).2.1 (rdNs 5 z5 f5).2.2).size, (stepR 3 0 (rdNs 5 z5 f5).2.1 (rdNs 5 z5 f5).2.2).f) := rdNs_snoc 5 z5 f5
              have eB : ((b5 || greatN (rdNs 5 z5 f5).1) || bigN (stepR 3 0 (rdNs 5 z5 f5).2.1 (rdNs 5 z5 f5).2.2).n) = qBig b := by
                unfold qBig
                rw [hz3, hf3, hb1, hb3, hb4, hb5, hT, e6, greatN_big ((rdNs 5 z5 f5).1 ++ _), List.any_append, ← greatN_big]
                simp [Bool.or_assoc]
              obtain ⟨c0, c1, c2, c3, c4, c5, ec⟩ := six (l := (rdNs 6 z5 f5).1.map (fun n => ((valN n : Nat) : Int))) (by rw [List.length_map, rdNs_length])
              have ec5 : (rdNs 5 z5 f5).1.map (fun n => ((valN n : Nat) : Int)) = [c0, c1, c2, c3, c4] ∧ (v5 : Int) = c5 := by
                have h := ec
                rw [e6] at h
                simp only [List.map_append, List.map_cons, List.map_nil, hv5] at h
                have hl : ((rdNs 5 z5 f5).1.map (fun n => ((valN n : Nat) : Int))).length = 5 := by rw [List.length_map, rdNs_length]
                match (rdNs 5 z5 f5).1.map (fun n => ((valN n : Nat) : Int)), hl, h with
                | [d0, d1, d2, d3, d4], _, h =>
                  simp only [List.cons_append, List.nil_append, List.cons.injEq, and_true] at h
                  obtain ⟨rfl, rfl, rfl, rfl, rfl, rfl⟩ := h
                  exact ⟨rfl, rfl⟩
              have hqc : qCfg b = ⟨ss, rs, c0, c1, c2, c3, c4, c5⟩ := by
                have ht6 : (rdNs 6 z5 f5).1.length = 6 := rdNs_length _ _ _
                unfold qCfg cfgOf
                rw [hz3, hf3, hn.out, hm.out, hss.out, hrs.out, hT]
                match (rdNs 6 z5 f5).1, ht6, ec with
                | [n0, n1, n2, n3, n4, n5], _, ec =>
                  simp only [List.map_cons, List.map_nil, List.cons.injEq, and_true] at ec
                  obtain ⟨rfl, rfl, rfl, rfl, rfl, rfl⟩ := ec
                  rfl
              obtain ⟨F, hF⟩ : ∃ F, (q2T z3 f3).2.2 = F := ⟨_, rfl⟩
              obtain ⟨zl, hzl⟩ : ∃ zl, (q2T z3 f3).2.1 = zl := ⟨_, rfl⟩
              have eF : (stepR 3 0 (rdNs 5 z5 f5).2.1 (rdNs 5 z5 f5).2.2).f = F := by rw [← hF, hT, e6]
              have ez : (rdNs 5 z5 f5).2.1.drop (stepR 3 0 (rdNs 5 z5 f5).2.1 (rdNs 5 z5 f5).2.2).size = zl := by rw [← hzl, hT, e6]
              have hcells : ∀ w, Blk w (W.heap.size + 2) 27 (cC oo ss.length oc ro rs.length rc (ts6 z5 f5 5)) → w.cell? ⟨W.heap.size + 1 + 1, 0, none⟩ = some (.slice oo ss.length oc) ∧ w.cell? ⟨W.heap.size + 1 + 1, 1, none⟩ = some (.slice ro rs.length rc) ∧ w.cell? ⟨W.heap.size + 1 + 1, 2, none⟩ = some (.int .i64 c0) ∧ w.cell? ⟨W.heap.size + 1 + 1, 3, none⟩ = some (.int .i64 c1) ∧ w.cell? ⟨W.heap.size + 1 + 1, 4, none⟩ = some (.int .i64 c2) ∧ w.cell? ⟨W.heap.size + 1 + 1, 5, none⟩ = some (.int .i64 c3) ∧ w.cell? ⟨W.heap.size + 1 + 1, 6, none⟩ = some (.int .i64 c4) := fun w h => by
                unfold ts6 at h
                rw [ec5.1] at h
                exact ⟨h.cell_eq 0 _ rfl, h.cell_eq 1 _ rfl, h.cell_eq 2 _ rfl, h.cell_eq 3 _ rfl, h.cell_eq 4 _ rfl, h.cell_eq 5 _ rfl, h.cell_eq 6 _ rfl⟩
              rw [ez, eF, eB] at hT5
              have cN5' := fun w h => (cN5 w h).mono (fun e w' (hh : e = .returned (.int .i64 (v5 : Int)) ∧ Qr w' (W.heap.size + 1) kb ((rdNs 5 z5 f5).2.1.drop (stepR 3 0 (rdNs 5 z5 f5).2.1 (rdNs 5 z5 f5).2.2).size) (stepR 3 0 (rdNs 5 z5 f5).2.1 (rdNs 5 z5 f5).2.2).f ((b5 || greatN (rdNs 5 z5 f5).1) || bigN (stepR 3 0 (rdNs 5 z5 f5).2.1 (rdNs 5 z5 f5).2.2).n) ∧ Frm (fun b => b = W.heap.size + 1) w w') => hh)
              have hnum : ∀ w w', RD W kb w (rdNs 5 z5 f5).2.1 (rdNs 5 z5 f5).2.2 (b5 || greatN (rdNs 5 z5 f5).1) oo oc ss ko ro rc rs kr (ts6 z5 f5 5) → Frm (fun b => b = W.heap.size + 1) w w' → Blk w' (W.heap.size + 2) 27 (cC oo ss.length oc ro rs.length rc (ts6 z5 f5 5)) := fun w w' h hf => blk_frm2 h.cb hf (by omega)
              have hread : ∀ w, Qr w (W.heap.size + 1) kb zl F (qBig b) → ∃ aR cR, w.cell? ⟨W.heap.size + 1, 0, none⟩ = some (.slice aR zl.length cR) ∧ w.cell? ⟨W.heap.size + 1, 1, none⟩ = some (.int .i64 (F : Int)) ∧ w.cell? ⟨W.heap.size + 1, 2, none⟩ = some (.bool (qBig b)) ∧ W.heap.size + 1 < w.heap.size := fun w h => by
                obtain ⟨ao, cap, hb, -, -⟩ := h
                exact ⟨ao, cap, hb.cell_eq 0 _ rfl, hb.cell_eq 1 _ rfl, hb.cell_eq 2 _ rfl, hb.lt⟩
              rw [ez, eF, eB] at cN5
              have ec6 : ts6 z5 f5 6 = [c0, c1, c2, c3, c4, c5] := by
                unfold ts6
                rw [ec]
                rfl
              have hv5c := ec5.2
              rw [show 5 + 1 = 6 from rfl, ec6] at hT5
              clear hv4 hv5 cN hjx hx hD cN5' ec6 ec5 ec e6 eB ez eF
              subst hv5c
              have cK : ∀ w, Holds w oo oc ro rc ⟨ss, rs, c0, c1, c2, c3, c4, (v5 : Int)⟩ → Calls Try.prog 10 #[.agg #[.slice oo ss.length oc, .slice ro rs.length rc, .int .i64 c0, .int .i64 c1, .int .i64 c2, .int .i64 c3, .int .i64 c4, .int .i64 (v5 : Int)]] w fun e w' => Checked w w' e (checkF (qCfg b)) := fun w h => by
                rw [hqc]
                exact refCheck_any oo oc ro rc _ w h
              unfold Checked at cK
              cases hCase with
              | fault h e =>
                rw [hz3, hf3, hF] at h e
                have hd : ((F : Int) != 0) = true := by simp; omega
                clear hT hz3 hf3 hF hzl hb1 hb3 hb4 hb5 cK hqc
                go_wp2_with (first
                  | (go_at_call 55; refine cN4.mono ?_; rintro e w7 ⟨rfl, hR7, hF7⟩; obtain ⟨y0, y1, hl7, hD7⟩ := hT4 _ hR7 hF7; clear cN4)
                  | (go_at_call 55; refine (cN5 _ hD7).mono ?_; rintro e w8 ⟨rfl, hR8, hF8⟩; obtain ⟨u0, u1, hl8, hD8⟩ := hT5 _ _ hD7 hR8 hF8; obtain ⟨x0, x1, x2, x3, x4, x5, x6⟩ := hcells _ (hnum _ _ hD7 hF8); obtain ⟨aR, cR, r0, r1, r2, hlr⟩ := hread _ hR8; have hrb8 := blk_frm2 hD7.rb hF8 (by omega); have q0 := hrb8.cell_eq 0 _ rfl; have q1 := hrb8.cell_eq 1 _ rfl; have q2 := hrb8.cell_eq 2 _ rfl; have q3 := hrb8.cell_eq 3 _ rfl; have q4 := hrb8.cell_eq 4 _ rfl; have q5 := hrb8.cell_eq 5 _ rfl; have q6 := hrb8.cell_eq 6 _ rfl; have q7 := hrb8.cell_eq 7 _ rfl; have qf := hrb8.free; have hl0 := hrb8.lt))
                go_region
                all_goals
                  have bl : ∀ w, Below W.heap.size W w → ∀ j v, Below W.heap.size W (w.setCell ⟨W.heap.size, j, none⟩ v) := fun w h j v => h.setCell (p := ⟨W.heap.size, j, none⟩) (Nat.le_refl _) v
                  go_wp2_with fail
                  refine bodyPost_ret (results_cell_row2 (p := 2) (q := 3) rfl _ _ _ _ zC _ _ rfl ((((((((hD8.rb.set 0 (.slice none 0 0)).set 1 (.slice none 0 0)).set 2 (.int .i64 0)).set 3 (.int .i64 0)).set 4 (.int .i64 0)).set 5 (.int .i64 0)).set 6 (.int .i64 0)).set 7 (.int .i64 0)).drew Try.underlying27 rfl sizeCfg) rfl ?_
                  rw [e]
                  exact ⟨none, 0, none, 0, rfl, Holds.zero _, (bl _ (bl _ (bl _ (bl _ (bl _ (bl _ (bl _ (bl _ hD8.bel _ _) _ _) _ _) _ _) _ _) _ _) _ _) _ _).drew⟩
              | shape h h2 e =>
                rw [hz3, hf3] at h h2
                rw [hF] at h
                rw [hzl] at h2
                subst h
                clear hT hz3 hf3 hF hzl hb1 hb3 hb4 hb5 cK hqc
                generalize qBig b = BB at *
                cases BB with
                | true =>
                  go_wp2_with (first
                    | (go_at_call 55; refine cN4.mono ?_; rintro e w7 ⟨rfl, hR7, hF7⟩; obtain ⟨y0, y1, hl7, hD7⟩ := hT4 _ hR7 hF7; clear cN4)
                    | (go_at_call 55; refine (cN5 _ hD7).mono ?_; rintro e w8 ⟨rfl, hR8, hF8⟩; obtain ⟨u0, u1, hl8, hD8⟩ := hT5 _ _ hD7 hR8 hF8; obtain ⟨x0, x1, x2, x3, x4, x5, x6⟩ := hcells _ (hnum _ _ hD7 hF8); obtain ⟨aR, cR, r0, r1, r2, hlr⟩ := hread _ hR8)
                    | (refine wpList_store_row rfl 27 (.tmp 2) (.tmp 100) rfl W.heap.size zC rfl rfl 27 _ hD8.rb sizeCfg rfl (one_cfg _ _ _ _ _ _ _ _ _ _ _ _) ?_))
                  refine bodyPost_ret (results_cell_row2 (p := 2) (q := 3) rfl _ _ _ _ zC _ _ rfl (hD8.rb.setRow _) Try.underlying27 rfl sizeCfg) rfl ?_
                  rw [e]
                  exact ⟨none, 0, none, 0, rfl, Holds.zero _, below_setRow hD8.bel (Nat.le_refl _) _⟩
                | false =>
                  have h3 : 0 < zl.length := List.length_pos_iff.2 (h2.elim (fun g => by cases g) id)
                  go_wp2_with (first
                    | (go_at_call 55; refine cN4.mono ?_; rintro e w7 ⟨rfl, hR7, hF7⟩; obtain ⟨y0, y1, hl7, hD7⟩ := hT4 _ hR7 hF7; clear cN4)
                    | (go_at_call 55; refine (cN5 _ hD7).mono ?_; rintro e w8 ⟨rfl, hR8, hF8⟩; obtain ⟨u0, u1, hl8, hD8⟩ := hT5 _ _ hD7 hR8 hF8; obtain ⟨x0, x1, x2, x3, x4, x5, x6⟩ := hcells _ (hnum _ _ hD7 hF8); obtain ⟨aR, cR, r0, r1, r2, hlr⟩ := hread _ hR8)
                    | (refine wpList_store_row rfl 27 (.tmp 2) (.tmp 100) rfl W.heap.size zC rfl rfl 27 _ hD8.rb sizeCfg rfl (one_cfg _ _ _ _ _ _ _ _ _ _ _ _) ?_))
                  refine bodyPost_ret (results_cell_row2 (p := 2) (q := 3) rfl _ _ _ _ zC _ _ rfl (hD8.rb.setRow _) Try.underlying27 rfl sizeCfg) rfl ?_
                  rw [e]
                  exact ⟨none, 0, none, 0, rfl, Holds.zero _, below_setRow hD8.bel (Nat.le_refl _) _⟩
              | wrong h h2 h3 bad e =>
                rw [hz3, hf3] at h h3
                rw [hF] at h
                rw [hzl] at h3
                subst h h3
                rw [h2] at hread cN5 hT5
                obtain ⟨ff, fi⟩ : ∃ ff, ff = checkF (qCfg b) := ⟨_, rfl⟩
                rw [← fi] at cK bad e
                clear hT hz3 hf3 hF hzl hb1 hb3 hb4 hb5 hqc fi h2
                obtain ⟨g1, g2⟩ := ff
                simp only at cK bad e
                have hd : ((g1 : Int) != 0) = true := by simp; omega
                go_wp2_with (first
                  | (go_at_call 55; refine cN4.mono ?_; rintro e w7 ⟨rfl, hR7, hF7⟩; obtain ⟨y0, y1, hl7, hD7⟩ := hT4 _ hR7 hF7; clear cN4)
                  | (go_at_call 55; refine (cN5 _ hD7).mono ?_; rintro e w8 ⟨rfl, hR8, hF8⟩; obtain ⟨u0, u1, hl8, hD8⟩ := hT5 _ _ hD7 hR8 hF8; obtain ⟨x0, x1, x2, x3, x4, x5, x6⟩ := hcells _ (hnum _ _ hD7 hF8); obtain ⟨aR, cR, r0, r1, r2, hlr⟩ := hread _ hR8)
                  | (go_at_call 10; refine (cK _ ⟨Symbs.of_own hD8.os, Rowps.of_own hD8.ow⟩).mono ?_; rintro e w9 ⟨rfl, hb9⟩; have hD9 := hD8.call hb9)
                  | (refine wpList_store_row rfl 27 (.tmp 2) (.tmp 108) rfl W.heap.size zC rfl rfl 27 _ hD9.rb sizeCfg rfl (one_cfg _ _ _ _ _ _ _ _ _ _ _ _) ?_))
                refine bodyPost_ret (results_cell_row2 (p := 2) (q := 3) rfl _ _ _ _ zC _ _ rfl (hD9.rb.setRow _) Try.underlying27 rfl sizeCfg) rfl ?_
                rw [e]
                exact ⟨none, 0, none, 0, rfl, Holds.zero _, below_setRow hD9.bel (Nat.le_refl _) _⟩
              | right h h2 h3 ok e =>
                rw [hz3, hf3] at h h3
                rw [hF] at h
                rw [hzl] at h3
                subst h h3
                rw [h2] at hread cN5 hT5
                rw [checkF_ok ok] at cK
                clear hT hz3 hf3 hF hzl hb1 hb3 hb4 hb5 h2
                go_wp2_with (first
                  | (go_at_call 55; refine cN4.mono ?_; rintro e w7 ⟨rfl, hR7, hF7⟩; obtain ⟨y0, y1, hl7, hD7⟩ := hT4 _ hR7 hF7; clear cN4)
                  | (go_at_call 55; refine (cN5 _ hD7).mono ?_; rintro e w8 ⟨rfl, hR8, hF8⟩; obtain ⟨u0, u1, hl8, hD8⟩ := hT5 _ _ hD7 hR8 hF8; obtain ⟨x0, x1, x2, x3, x4, x5, x6⟩ := hcells _ (hnum _ _ hD7 hF8); obtain ⟨aR, cR, r0, r1, r2, hlr⟩ := hread _ hR8)
                  | (go_at_call 10; refine (cK _ ⟨Symbs.of_own hD8.os, Rowps.of_own hD8.ow⟩).mono ?_; rintro e w9 ⟨rfl, hb9⟩; have hD9 := hD8.call hb9; have p0 : w9.cell? ⟨W.heap.size + 1 + 1, 0, none⟩ = some (.slice oo ss.length oc) := hD9.cb.cell_eq 0 _ rfl; have p1 : w9.cell? ⟨W.heap.size + 1 + 1, 1, none⟩ = some (.slice ro rs.length rc) := hD9.cb.cell_eq 1 _ rfl; have p2 : w9.cell? ⟨W.heap.size + 1 + 1, 2, none⟩ = some (.int .i64 c0) := hD9.cb.cell_eq 2 _ rfl; have p3 : w9.cell? ⟨W.heap.size + 1 + 1, 3, none⟩ = some (.int .i64 c1) := hD9.cb.cell_eq 3 _ rfl; have p4 : w9.cell? ⟨W.heap.size + 1 + 1, 4, none⟩ = some (.int .i64 c2) := hD9.cb.cell_eq 4 _ rfl; have p5 : w9.cell? ⟨W.heap.size + 1 + 1, 5, none⟩ = some (.int .i64 c3) := hD9.cb.cell_eq 5 _ rfl; have p6 : w9.cell? ⟨W.heap.size + 1 + 1, 6, none⟩ = some (.int .i64 c4) := hD9.cb.cell_eq 6 _ rfl; have p7 : w9.cell? ⟨W.heap.size + 1 + 1, 7, none⟩ = some (.int .i64 (v5 : Int)) := hD9.cb.cell_eq 7 _ rfl)
                  | (refine wpList_store_row rfl 27 (.tmp 2) (.tmp 110) rfl W.heap.size (cCfg oo oc ro rc ⟨ss, rs, c0, c1, c2, c3, c4, (v5 : Int)⟩) rfl rfl 27 _ hD9.rb sizeCfg rfl (one_cfg _ _ _ _ _ _ _ _ _ _ _ _) ?_))
                refine bodyPost_ret (results_cell_row2 (p := 2) (q := 3) rfl _ _ _ _ (cCfg oo oc ro rc ⟨ss, rs, c0, c1, c2, c3, c4, (v5 : Int)⟩) _ _ rfl (hD9.rb.setRow _) Try.underlying27 rfl sizeCfg) rfl ?_
                rw [e, hqc]
                have k1 := hD9.kos
                have k2 := hD9.krs
                refine ⟨oo, oc, ro, rc, rfl, ⟨Symbs.of_own (hD9.os.keep fun q g => ?_), Rowps.of_own (hD9.ow.keep fun q g => ?_)⟩, below_setRow hD9.bel (Nat.le_refl _) _⟩
                · have := k1 q g
                  simp only [World.setRow, Array.getElem?_modify]
                  rw [if_neg (by omega)]
                · have := k2 q g
                  simp only [World.setRow, Array.getElem?_modify]
                  rw [if_neg (by omega)]
end Go.Proofs.Ytbkiipeoabbiiaa
