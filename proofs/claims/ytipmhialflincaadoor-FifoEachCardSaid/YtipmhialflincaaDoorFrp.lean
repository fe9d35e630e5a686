/-
  The document's queues: what becomes of them; reslicing; Push.
-/
import Derived.Test.YtipmhialflincaaDoorFrq
import Derived.Test.YtipmhialflincaaDoorRegS
import Derived.Test.YtipmhialflincaaDoorRegL
namespace Go.Proofs.YtipmhialflincaaDoor
open Go.RowKit
theorem OwG.emp (E : TypeId) (sz : Nat) (w : World) : OwG E sz (w.alloc (.cells #[] E)) (some w.heap.size) (some ⟨w.heap.size, 0, none⟩) 0 0 [] :=
  ⟨by simp, Nat.le_refl _, Nat.zero_le _, .inr ⟨_, #[], rfl, rfl, heap_alloc_last w _, by simp, by simp⟩⟩
theorem OwG.empN (E : TypeId) (sz : Nat) (w : World) {n : Nat} (hn : n = w.heap.size) : OwG E sz (w.alloc (.cells #[] E)) (some n) (some ⟨n, 0, none⟩) 0 0 [] := by subst hn; exact OwG.emp E sz w
theorem SrcG.blk1 {w : World} {b : Nat} {t : TypeId} {v : Value} (h : Blk w b t #[v]) (hv : v.oneCell' = true) : SrcG 1 w (some ⟨b, 0, none⟩) 1 1 [v] :=
  ⟨rfl, by simpa using hv, .inr ⟨_, rfl, fun j u hj => by
    match j, hj with
    | 0, hj => simp at hj; subst hj; rw [Addr.add_mid]; exact h.cell_eq 0 _ rfl⟩⟩
/-- Behind an append to what is new. -/
theorem app_new {B : Nat} {W w w' : World} {ko ko' : Option Nat} (hb : Below B W w) (hB : B ≤ w.heap.size) (hk : Nw B ko) (hf : Frm (fun b => ko = some b) w w') (hm : Moved w ko ko') : Below B W w' ∧ Nw B ko' := by
  refine ⟨hb.trans (hf.below hB (fun b e => hk b e)), fun k e => ?_⟩
  rcases hm with e' | e' | ⟨k2, e', h'⟩
  · rw [e'] at e; cases e
  · rw [e'] at e; exact hk k e
  · rw [e'] at e; cases e; omega
theorem set_cell {w : World} {a b : Addr} {v : Value} (x : Value) (hne : b.block ≠ a.block) (h : w.cell? a = some v) : (w.setCell b x).cell? a = some v :=
  (World.cell?_of_block (heap_other w b x (fun e => hne e.symm))).trans h
theorem alloc_cell {w : World} {a : Addr} {v : Value} (o : Obj) (h : w.cell? a = some v) : (w.alloc o).cell? a = some v :=
  (World.cell?_of_block (Below.heap_alloc w o _ (World.block_lt_of_cell? w a h))).trans h
theorem below_cell {B : Nat} {W w : World} {a : Addr} {v : Value} (hb : Below B W w) (ha : a.block < B) (h : W.cell? a = some v) : w.cell? a = some v :=
  (World.cell?_of_block (hb.block _ ha)).trans h
theorem zs_take (l : List Nat) (k : Nat) : (zs l).take k = zs (l.take k) := by simp [zs, List.map_take]
theorem zs_drop (l : List Nat) (k : Nat) : (zs l).drop k = zs (l.drop k) := by simp [zs, List.map_drop]
/-- A list is laid anew. -/
theorem RqB.store {W w : World} {r bm : Nat} {S : Nat → Prop} {s : Fq} {c : Array Value} (h : RqB W r bm S s c) {i : Nat} {q q' : List Nat} (hi : s.L[i]? = some q) (hwf : (s.put i q').Wf) (hb : Below W.heap.size W w) {ao : Option Addr} {cap : Nat} (hI : It .i64 w ao cap (zs q'))
    (ha : ∀ b off, ao = some ⟨b, off, none⟩ → W.heap.size ≤ b ∧ b < w.heap.size) :
    (∃ S', RQ (w.setCell ⟨bm, i, none⟩ (.slice ao q'.length cap)) r S' (s.put i q') ∧ ∀ b, S' b → S b ∨ W.heap.size ≤ b) ∧ Frm S W (w.setCell ⟨bm, i, none⟩ (.slice ao q'.length cap)) := by
  have hl := (List.getElem?_eq_some_iff.1 hi).1
  have hrl := h.lt _ h.sr
  have hml := h.lt _ h.sm
  have hsz : (w.setCell ⟨bm, i, none⟩ (.slice ao q'.length cap)).heap.size = w.heap.size := by simp [World.setCell]
  have ho : ∀ b, b ≠ bm → (w.setCell ⟨bm, i, none⟩ (.slice ao q'.length cap)).heap[b]? = w.heap[b]? := fun b hb => heap_other w _ _ hb
  refine ⟨⟨fun b => S b ∨ (W.heap.size ≤ b ∧ b < w.heap.size), ⟨bm, c.setIfInBounds i (.slice ao q'.length cap), ?_⟩, fun b hb => hb.imp id (·.1)⟩, (Frm.of_below (S := S) hb).setCell _ _ (.inl h.sm)⟩
  refine ⟨hwf, h.nn, by rw [s.put_m]; exact h.nm, ?_, ?_, by rw [s.put_m, Array.size_setIfInBounds]; exact h.hc, fun j p hj => ?_, .inl h.sr, .inl h.sm, h.ne, fun b hb => ?_⟩
  · rw [s.put_m, s.put_n]
    exact ((ho r h.ne).trans (hb.block r hrl)).trans h.hr
  · exact (h.hm.below hb hml).set i _
  · simp only [Fq.put, List.getElem?_set] at hj
    by_cases e : i = j
    · subst e
      rw [if_pos rfl, if_pos hl] at hj
      cases hj
      refine ⟨ao, cap, by rw [Array.getElem?_setIfInBounds, if_pos rfl, if_pos (by rw [h.hc]; exact hl)], hI.keep (fun b off e => ho b (by have := (ha b off e).1; omega)), fun b off e => ?_⟩
      have := ha b off e
      exact ⟨.inr this, by omega, by omega⟩
    · rw [if_neg e] at hj
      obtain ⟨ao', cap', h1, h2, h3⟩ := h.at' j p hj
      refine ⟨ao', cap', by rw [Array.getElem?_setIfInBounds, if_neg e]; exact h1, (h2.below hb).keep (fun b off e => ho b (h3 b off e).2.2), fun b off e => ?_⟩
      obtain ⟨g1, g2, g3⟩ := h3 b off e
      exact ⟨.inl g1, g2, g3⟩
  · rw [hsz]
    rcases hb with hb' | hb'
    · have := h.lt b hb'; have := hb.size; omega
    · exact hb'.2
theorem cells_int : Tryd.prog.cellsOf 3 = 1 := by kernel_rfl
/-- The part from a place on. -/
theorem slice_lo (ao : Option Addr) (cap : Nat) (l : List Nat) (m : Nat) (hm : m ≤ l.length) (w : World) (hL : It .i64 w ao cap (zs l)) :
    ∃ ao2 cap2, (∀ w, (Instr.slice 36 (.slice ao l.length cap) (some (.int .i64 (m : Int))) none none).run Tryd.prog w = .ok (.slice ao2 (l.length - m) cap2) w) ∧ ∀ w', It .i64 w' ao cap (zs l) → It .i64 w' ao2 cap2 (zs (l.drop m)) := by
  have hl := hL.len
  rw [zs_length] at hl
  have ht := hL.top
  unfold maxLen at ht
  have hu := Tryd.underlying36
  have hc := cells_int
  by_cases h : cap = m
  · subst h
    refine ⟨ao, 0, fun w => ?_, fun w' h' => ?_⟩
    · simp [go_sem, Instr.slice]
      intro h; omega
    · rw [List.drop_eq_nil_of_le hl]
      exact ⟨Nat.zero_le _, Nat.zero_le _, fun _ => rfl, by simp [zs], .inl rfl⟩
  · refine ⟨Option.map (fun x => x.add (m * 1)) ao, cap - m, fun w => ?_, fun w' h' => ?_⟩
    · simp [go_sem, Instr.slice]
      rw [if_pos hm, if_neg h]
    · refine ⟨?_, by have := h'.top; omega, fun e => ?_, fun z hz => h'.wf z (by rw [← zs_drop] at hz; exact List.mem_of_mem_drop hz), ?_⟩
      · rw [zs_length, List.length_drop]; omega
      · cases ao with
        | none => have := h'.bare rfl; omega
        | some a => simp at e
      · rcases h'.at' with h0 | ⟨b, off, ha, hcl⟩
        · refine .inl ?_
          rw [← zs_drop, h0]; simp
        · refine .inr ⟨b, off + m, by rw [ha, Option.map_some, Addr.add_mid, Nat.mul_one], fun j z hj => ?_⟩
          rw [← zs_drop, List.getElem?_drop] at hj
          rw [Nat.add_assoc]
          exact hcl (m + j) z hj
/-- The part up to a place. -/
theorem slice_hi (ao : Option Addr) (cap : Nat) (l : List Nat) (m : Nat) (hm : m ≤ l.length) (w : World) (hL : It .i64 w ao cap (zs l)) :
    (∀ w, (Instr.slice 36 (.slice ao l.length cap) none (some (.int .i64 (m : Int))) none).run Tryd.prog w = .ok (.slice ao m cap) w) ∧ ∀ w', It .i64 w' ao cap (zs l) → It .i64 w' ao cap (zs (l.take m)) := by
  have hl := hL.len
  rw [zs_length] at hl
  have ht := hL.top
  unfold maxLen at ht
  have hu := Tryd.underlying36
  have hc := cells_int
  refine ⟨fun w => ?_, fun w' h' => by rw [← zs_take]; exact h'.take m⟩
  simp [go_sem, Instr.slice]
  omega
/-- What is read: the lists' head, and, as long as it is not laid anew, one list's. -/
def Sp (r bm i m : Nat) (v : Value) (n : Nat) (L : Array Bool) (w : World) : Prop := w.cell? ⟨r, 1, none⟩ = some (.slice (some ⟨bm, 0, none⟩) m m) ∧ (L.getD n false = false → w.cell? ⟨bm, i, none⟩ = some v)
section
variable {md : Region.Mode} {ops : Array Oper} {r bm i m n k : Nat} {v : Value} {L : Array Bool} {w : World}
theorem Sp.other (h : k ≠ n) : Sp r bm i m v n (L.setIfInBounds k true) w ↔ Sp r bm i m v n L w := by
  unfold Sp
  rw [getD_set_ne false h]
theorem Sp.last (hn : n < L.size) (h : w.cell? ⟨r, 1, none⟩ = some (.slice (some ⟨bm, 0, none⟩) m m)) : Sp r bm i m v n (L.setIfInBounds n true) w := by
  refine ⟨h, fun e => ?_⟩
  simp [hn] at e
theorem Sp.wi1 (h : Wi md ops (Sp r bm i m v n) k w) : w.cell? ⟨r, 1, none⟩ = some (.slice (some ⟨bm, 0, none⟩) m m) := by
  obtain ⟨L, -, -, h⟩ := h
  exact h.1
theorem Sp.wi2 (hn : ∀ L, Closed md ops L → k ∈ Region.ready md ops L → L.getD n false = false) (h : Wi md ops (Sp r bm i m v n) k w) : w.cell? ⟨bm, i, none⟩ = some v := by
  obtain ⟨L, h1, h2, h⟩ := h
  exact h.2 (hn L h2 h1)
end
end Go.Proofs.YtipmhialflincaaDoor
