/-
  The contract of slices.Insert of one level, in a row that the slice owns.
  The contract of slices.Delete of one level, in a row that the slice owns; of slices.Clone.
  The contract of unused: the least queue whose bit is set.
  The contracts of open and close.
-/
import Derived.Test.YtdmjcjheanedgaaDoorLapq
import Derived.Test.YtdmjcjheanedgaaDoorRlhq
import Derived.Shelf.Spec.SlicesInsert
import Derived.Lib.AppendZerosOnto
import Derived.Lib.Overlaps
import Derived.Laws.CopyRow
import Derived.Deep.RegionLaw
import Derived.Lib.SliceRun
namespace Go.Proofs.YtdmjcjheanedgaaDoor
open Go.RowKit
theorem run_copyZ {P : Program} (w : World) (dT sT ty elem : TypeId) (sz g o dLen dCap : Nat) (a : Addr) (sLen sCap : Nat) (cur : Array Value) (t : TypeId) (cs : List Value)
    (hu : P.underlying dT = some (.slice elem)) (hs : (P.info? elem).map (·.size) = some sz)
    (hg : w.heap[g]? = some (.cells cur t (0, 0))) (hn : cs.length = Nat.min sLen dLen * sz)
    (hsrc : ∀ j v, cs[j]? = some v → w.cell? (a.add j) = some v) (hfit : o + cs.length ≤ cur.size) (h1 : ∀ v ∈ cs, v.oneCell' = true) :
    (Builtin.copy_ #[dT, sT] ty #[.slice (some ⟨g, o, none⟩) dLen dCap, .slice (some a) sLen sCap]).run P w =
      .ok (goInt (Nat.min sLen dLen)) (w.setRow g (cur.toList.take o ++ cs ++ cur.toList.drop (o + cs.length)).toArray) := by
  have hl := run_firstCells_some (P := P) (w := w) sz (Nat.min sLen dLen) a sLen sCap cs hn hsrc
  have hst := run_storeCells_at P g o t cs 0 cur w hg (by simpa using hfit) h1
  cases hq : P.info? elem with
  | none => simp [hq] at hs
  | some i =>
    have hi : i.size = sz := by simpa [hq] using hs
    simp [Builtin.copy_, run_underlying hu, Builtin.lenOf, sizeOf, typeInfo, hq, hi, hl, hst]
theorem infoLv : (Tryd.prog.info? 133).map (fun i => (i.zero, i.size, i.bytes)) = some (some (vLvl Lvl.zero), 4, 32) := by kernel_rfl
theorem sizeLv : (Tryd.prog.info? 133).map (·.size) = some 4 := by kernel_rfl
/-- A list with some cells laid over it. -/
def over (c : List Value) (o : Nat) (n : List Value) : List Value := c.take o ++ n ++ c.drop (o + n.length)
theorem over_len {c n : List Value} {o : Nat} (h : o + n.length ≤ c.length) : (over c o n).length = c.length := by simp [over]; omega
theorem over_get {c n : List Value} {o : Nat} (h : o + n.length ≤ c.length) (j : Nat) : (over c o n)[j]? = if o ≤ j ∧ j < o + n.length then n[j - o]? else c[j]? := by
  unfold over
  by_cases h1 : j < o
  · rw [List.append_assoc, List.getElem?_append_left (by simp; omega), List.getElem?_take, if_pos h1, if_neg (by omega)]
  · by_cases h2 : j < o + n.length
    · rw [List.getElem?_append_left (by simp; omega), List.getElem?_append_right (by simp; omega), if_pos ⟨by omega, h2⟩]
      congr 1
      simp; omega
    · rw [List.getElem?_append_right (by simp; omega), List.getElem?_drop, if_neg (by omega)]
      congr 1
      simp; omega
/-- What has been shifted and laid: the first cells are those of the list with the new ones in it. -/
theorem shifted {c cs vs : List Value} {i n m : Nat} (hc : cs.length = n) (hi : i ≤ n) (hv : vs.length = m) (hl : n + m ≤ c.length)
    (h1 : ∀ j, j < i → c[j]? = cs[j]?) (h2 : ∀ j, i ≤ j → j < i + m → c[j]? = vs[j - i]?) (h3 : ∀ j, i + m ≤ j → j < n + m → c[j]? = cs[j - m]?) : c.take (n + m) = cs.take i ++ vs ++ cs.drop i := by
  refine List.ext_getElem? fun j => ?_
  by_cases hj : j < n + m
  · rw [List.getElem?_take, if_pos hj]
    by_cases k1 : j < i
    · rw [List.append_assoc, List.getElem?_append_left (by simp; omega), List.getElem?_take, if_pos k1, h1 j k1]
    · by_cases k2 : j < i + m
      · rw [List.getElem?_append_left (by simp; omega), List.getElem?_append_right (by simp; omega), h2 j (by omega) k2]
        congr 1
        simp; omega
      · rw [List.getElem?_append_right (by simp; omega), List.getElem?_drop, h3 j (by omega) hj]
        congr 1
        simp; omega
  · rw [List.getElem?_eq_none (by simp; omega), List.getElem?_eq_none (by simp; omega)]
section
variable {w w' W : World} {ko : Option Nat} {ao : Option Addr} {cap n : Nat} {cs : List Value} {vs : Array Value} {vb : Nat}
set_option maxRecDepth 8000 in
set_option maxHeartbeats 1000000 in
theorem insert_end (hO : OwG 133 4 W ko ao cap n cs) (hn : n ≤ 1000) (hv : Blk W vb 133 vs) (hs : vs.size = 4) (h1 : ∀ u ∈ vs.toList, u.oneCell' = true) :
    Calls Tryd.prog 78 #[.slice ao n cap, .int .i64 (n : Int), .slice (some ⟨vb, 0, none⟩) 1 1] W fun e w' =>
      ∃ ao' cap', e = .returned (.slice ao' (n + 1) cap') ∧ ∃ ko', OwG 133 4 w' ko' ao' cap' (n + 1) (cs ++ vs.toList) ∧ Frm (fun b => ko = some b) W w' ∧ Moved W ko ko' := by
  obtain ⟨i1, hi1, e1⟩ := Option.map_eq_some_iff.1 infoLv
  simp only [Prod.mk.injEq] at e1
  obtain ⟨hz1, hs1, hb1⟩ := e1
  have hsrc := SrcG.row (cs := vs) hv hs h1
  have hnc := hO.len
  have hnc2 : (n : Int) ≤ (cap : Int) := by omega
  clear hv hs h1
  go_enter Tryd.func78, Tryd.ntmps78
  go_wp2_with (at_builtin; refine wpList_appG rfl (.tmp 23) (.tmp 24) 122 133 i1 _ 4 32 Tryd.underlying122 hi1 hz1 hs1 hb1 rfl (by decide) rfl hO hsrc rfl rfl (by omega) (by omega) ?_; intro ao' cap' ko' w1 ho hf hm)
  all_goals go_ret
  all_goals exact ⟨_, _, rfl, _, ho, hf, hm⟩
set_option maxRecDepth 8000 in
set_option maxHeartbeats 2000000 in
/-- There is no room: a new row. -/
theorem insert_grow (hO : OwG 133 4 W ko ao cap n cs) (hn : n ≤ 1000) {i : Nat} (hi : i < n) (hc : cap < n + 1) (hv : Blk W vb 133 vs) (hs : vs.size = 4) (h1 : ∀ u ∈ vs.toList, u.oneCell' = true) (h1c : ∀ u ∈ cs, u.oneCell' = true) :
    Calls Tryd.prog 78 #[.slice ao n cap, .int .i64 (i : Int), .slice (some ⟨vb, 0, none⟩) 1 1] W fun e w' =>
      ∃ ao' cap', e = .returned (.slice ao' (n + 1) cap') ∧ ∃ ko', OwG 133 4 w' ko' ao' cap' (n + 1) (cs.take (i * 4) ++ vs.toList ++ cs.drop (i * 4)) ∧ Frm (fun b => ko = some b) W w' ∧ Moved W ko ko' := by
  obtain ⟨i1, hi1, e1⟩ := Option.map_eq_some_iff.1 infoLv
  simp only [Prod.mk.injEq] at e1
  obtain ⟨hz1, hs1, hb1⟩ := e1
  have hcap : cap = n := by have := hO.len; omega
  subst hcap
  have hcl := hO.cells
  obtain ⟨k, cur, rfl, rfl, hk, hks, hkt⟩ : ∃ k cur, ko = some k ∧ ao = some ⟨k, 0, none⟩ ∧ W.heap[k]? = some (.cells cur 133 (0, 0)) ∧ cur.size = cap * 4 ∧ cur.toList.take (cap * 4) = cs := by
    rcases hO.at' with ⟨-, -, h0⟩ | h0
    · omega
    · exact h0
  have hcs : ∀ j v, cs[j]? = some v → W.cell? ⟨k, j, none⟩ = some v := fun j v hj => by
    obtain ⟨k', e', -, hc', -⟩ := hO.cell j v hj
    cases e'
    exact hc'
  have hkw : k < W.heap.size := (Array.getElem?_eq_some_iff.1 hk).1
  have hvw := hv.lt
  have hkk : (cap : Int) + 1 - (i : Int) = ((cap + 1 - i : Nat) : Int) := by omega
  have hik : i + (cap + 1 - i) = cap + 1 := by omega
  have hold : (Builtin.firstCells i1.size i (.slice (some ⟨k, 0, none⟩) i cap)).run Tryd.prog W.drew = .ok (cs.take (i * 4)).toArray W.drew := by
    rw [hs1]
    exact run_firstCells_some W.drew 4 i ⟨k, 0, none⟩ i cap (cs.take (i * 4)) (by rw [List.length_take]; omega) (fun j v hj => by
      rw [Addr.add_mid, Nat.zero_add]
      rw [List.getElem?_take] at hj
      split at hj
      · exact hcs j v hj
      · cases hj)
  have hrz : ∀ ty, (Builtin.append_ #[122, 3] ty #[.slice (some ⟨k, 0, none⟩) i cap, .int .i64 ((cap : Int) + 1 - (i : Int))]).run Tryd.prog W =
      .ok (.slice (some ⟨W.heap.size, 0, none⟩) (cap + 1) (grownCap W (cap + 1) cap 133)) (W.drew.alloc (.cells ((cs.take (i * 4)).toArray ++ Builtin.zeroCells (vLvl Lvl.zero).cells (cap + 1 - i) ++ Builtin.zeroCells (vLvl Lvl.zero).cells (grownCap W (cap + 1) cap 133 - (cap + 1))) 133)) := fun ty => by
    have h := Lib.run_append_grow_zeros W 122 3 ty 133 i1 _ .i64 .i64 Tryd.underlying122 Tryd.underlying3 hi1 hz1 (some ⟨k, 0, none⟩) i cap (cs.take (i * 4)) hold (cap + 1 - i) (by omega) (by rw [hs1]; omega) (by omega) (by omega) (by rw [hb1]; omega) (by rw [hb1, hik]; exact growslice_fits (by omega) (by omega))
    rw [hik] at h
    rw [hkk]
    exact h
  have hge := grownCap_ge W (cap + 1) cap 133
  have hle := grownCap_le_maxLen W (cap + 1) cap 133 (by unfold maxLen; omega)
  unfold maxLen at hle
  obtain ⟨G, hG⟩ : ∃ G, G = grownCap W (cap + 1) cap 133 := ⟨_, rfl⟩
  rw [← hG] at hrz hge hle
  obtain ⟨ROW, hROW⟩ : ∃ ROW : Array Value, ROW = (cs.take (i * 4)).toArray ++ Builtin.zeroCells (vLvl Lvl.zero).cells (cap + 1 - i) ++ Builtin.zeroCells (vLvl Lvl.zero).cells (G - (cap + 1)) := ⟨_, rfl⟩
  rw [← hROW] at hrz
  have hRs : ROW.size = G * 4 := by
    rw [hROW]
    simp only [Array.size_append, size_zeroCells, List.size_toArray, List.length_take]
    show min (i * 4) cs.length + (cap + 1 - i) * 4 + (G - (cap + 1)) * 4 = G * 4
    omega
  have hRt : ∀ j, j < i * 4 → ROW[j]? = cs[j]? := by
    intro j hj
    rw [hROW, Array.append_assoc, Array.getElem?_append_left (by simp; omega)]
    simp [hj]
  obtain ⟨B0, hB0⟩ : ∃ B0, B0 = W.heap.size := ⟨_, rfl⟩
  rw [← hB0] at hrz hkw hvw
  obtain ⟨W1, hW1⟩ : ∃ W1, W1 = W.drew.alloc (.cells ROW 133) := ⟨_, rfl⟩
  rw [← hW1] at hrz
  have hBl : Blk W1 B0 133 ROW := by rw [hW1, hB0]; exact Blk.new W.drew _ _
  have hbel : Below W.heap.size W W1 := by rw [hW1]; exact ((Below.refl _ W).drew).alloc (Nat.le_refl _) _
  have hcs1 : ∀ j v, cs[j]? = some v → W1.cell? ⟨k, j, none⟩ = some v := fun j v hj => ((bcell hbel).1 k j (by omega)).trans (hcs j v hj)
  have hv1 : Blk W1 vb 133 vs := hv.below hbel (by omega)
  obtain ⟨R1, hR1⟩ : ∃ R1, R1 = over ROW.toList (i * 4) vs.toList := ⟨_, rfl⟩
  have hvl : vs.toList.length = 4 := by simpa using hs
  have hf1 : i * 4 + vs.toList.length ≤ ROW.toList.length := by rw [hvl, Array.length_toList]; omega
  have hR1l : R1.length = G * 4 := by rw [hR1, over_len hf1]; simpa using hRs
  have hcpA : ∀ V : World, V.heap = W1.heap → ∀ ty dc, (Builtin.copy_ #[122, 122] ty #[.slice (some ⟨B0, i * 4, none⟩) (cap + 1 - i) dc, .slice (some ⟨vb, 0, none⟩) 1 1]).run Tryd.prog V = .ok (goInt (Nat.min 1 (cap + 1 - i))) (V.setRow B0 R1.toArray) := by
    intro V hV ty dc
    have hm : Nat.min 1 (cap + 1 - i) = 1 := Nat.min_eq_left (by omega)
    rw [hR1]
    exact run_copyZ V _ _ ty 133 4 B0 (i * 4) (cap + 1 - i) dc ⟨vb, 0, none⟩ 1 1 ROW 133 vs.toList Tryd.underlying122 sizeLv (by rw [hV]; exact hBl) (by rw [hm, hvl]) (fun j v hj => by
      rw [Addr.add_mid, Nat.zero_add]
      exact (World.cell?_of_block (a := ⟨vb, j, none⟩) (by rw [hV])).trans (hv1.cell_eq j v (by simpa using hj))) (by rw [hvl]; omega) h1
  have hdl : (cs.drop (i * 4)).length = (cap - i) * 4 := by rw [List.length_drop, hcl]; omega
  have hf2 : (i + 1) * 4 + (cs.drop (i * 4)).length ≤ R1.length := by rw [hdl, hR1l]; omega
  have hcpB : ∀ V : World, V.heap = (W1.setRow B0 R1.toArray).heap → ∀ ty dc sc, (Builtin.copy_ #[122, 122] ty #[.slice (some ⟨B0, (i + 1) * 4, none⟩) (cap - i) dc, .slice (some ⟨k, i * 4, none⟩) (cap - i) sc]).run Tryd.prog V = .ok (goInt (Nat.min (cap - i) (cap - i))) (V.setRow B0 (over R1 ((i + 1) * 4) (cs.drop (i * 4))).toArray) := by
    intro V hV ty dc sc
    have hm : Nat.min (cap - i) (cap - i) = cap - i := Nat.min_self _
    have hb : V.heap[B0]? = some (.cells R1.toArray 133 (0, 0)) := by rw [hV]; exact hBl.setRow R1.toArray
    exact run_copyZ V _ _ ty 133 4 B0 ((i + 1) * 4) (cap - i) dc ⟨k, i * 4, none⟩ (cap - i) sc R1.toArray 133 (cs.drop (i * 4)) Tryd.underlying122 sizeLv hb (by rw [hm, hdl]) (fun j v hj => by
      rw [Addr.add_mid]
      rw [List.getElem?_drop] at hj
      refine (World.cell?_of_block (a := ⟨k, i * 4 + j, none⟩) ?_).trans (hcs1 _ _ hj)
      rw [hV]
      exact setRow_other W1 B0 k R1.toArray (by omega)) (by simpa using hf2) (fun v hv => h1c v (List.mem_of_mem_drop hv))
  obtain ⟨R2, hR2⟩ : ∃ R2, R2 = over R1 ((i + 1) * 4) (cs.drop (i * 4)) := ⟨_, rfl⟩
  rw [← hR2] at hcpB
  have hR2l : R2.length = G * 4 := by rw [hR2, over_len hf2, hR1l]
  have hend : ∀ V : World, V.os = W.os → V.tape = W.tape → V.output = W.output → V.heap = ((W1.setRow B0 R1.toArray).setRow B0 R2.toArray).heap → OwG 133 4 V (some B0) (some ⟨B0, 0, none⟩) G (cap + 1) (cs.take (i * 4) ++ vs.toList ++ cs.drop (i * 4)) ∧ Frm (fun b => some k = some b) W V ∧ Moved W (some k) (some B0) := by
    intro V e1 e2 e3 hV
    have hbk : Blk V B0 133 R2.toArray := by unfold Blk; rw [hV]; exact (hBl.setRow _).setRow _
    have hbl : Below W.heap.size W V := by
      have := below_setRow (below_setRow hbel (Nat.le_of_eq hB0.symm) R1.toArray) (Nat.le_of_eq hB0.symm) R2.toArray
      exact ⟨e1, e2, e3, by rw [hV]; exact this.size, fun b hb => by rw [hV]; exact this.block b hb⟩
    refine ⟨⟨by simp [hcl, hvl]; omega, hge, by unfold maxLen; omega, .inr ⟨B0, R2.toArray, rfl, rfl, hbk, by simpa using hR2l, ?_⟩⟩, Frm.of_below hbl, .inr (.inr ⟨B0, rfl, Nat.le_of_eq hB0.symm⟩)⟩
    have e4 : (cap + 1) * 4 = cap * 4 + 4 := by omega
    rw [e4]
    refine shifted (m := 4) hcl (by omega) hvl (by show cap * 4 + 4 ≤ R2.length; rw [hR2l]; omega) (fun j hj => ?_) (fun j hj hj2 => ?_) (fun j hj hj2 => ?_)
    · show R2[j]? = cs[j]?
      rw [hR2, over_get hf2, if_neg (by omega), hR1, over_get hf1, if_neg (by omega)]
      simpa using hRt j hj
    · show R2[j]? = vs.toList[j - i * 4]?
      rw [hR2, over_get hf2, if_neg (by omega), hR1, over_get hf1, if_pos ⟨hj, by rw [hvl]; omega⟩]
    · show R2[j]? = cs[j - 4]?
      rw [hR2, over_get hf2, if_pos ⟨by omega, by rw [hdl]; omega⟩, List.getElem?_drop]
      congr 1
      omega
  have hB0c : W.heap.size = B0 := hB0.symm
  have hGi : ¬ (G = i) := by omega
  have hGi1 : ¬ (G = i + 1) := by omega
  have hci : ¬ (cap = i) := by omega
  have hei : ¬ ((i : Int) = (cap : Int)) := by omega
  have hin : (i : Int) ≤ (cap : Int) := by omega
  have hcap63 : (cap : Int) ≤ 1000 := by omega
  replace hrz := Lib.hid hrz
  replace hcpA := Lib.hid hcpA
  replace hcpB := Lib.hid hcpB
  replace hend := Lib.hid hend
  replace hB0c := Lib.hid hB0c
  have hWh := Lib.hid hW1
  clear hROW hG hold hik hkk hks hkt hk hO hW1 hBl hbel hcs1 hv1 hR1 hR2 hf1 hf2 hR1l hR2l hdl hRs hRt hcl hcs hv hs h1 h1c hvl hB0 hkw hvw
  go_enter Tryd.func78, Tryd.ntmps78
  have hcA := hcpA.out W1 rfl
  go_wp2_with (first
    | (at_builtin; refine Lib.wpList_append_run _ rfl _ _ _ _ rfl _ _ rfl rfl _ _ (hrz.out _) ?_)
    | fail)
  have hcB := hcpB.out (W1.setRow B0 R1.toArray).drew rfl
  have hw1 : IntKind.i64.wrap ((i : Int) + 1) = (i : Int) + 1 := by rw [IntKind.wrap_i64]; omega
  have hb1' : (0 : Int) ≤ (i : Int) + 1 := by omega
  have htn : ((i : Int) + 1).toNat = i + 1 := by omega
  have hl1 : (i : Int) + 1 ≤ (cap : Int) + 1 := by omega
  have hl2 : i ≤ cap := by omega
  go_still_tail 8, (by kernel_rfl)
  change wpList _ _ _ _ _ (World.drew _)
  go_wp2_with fail
  go_ret
  have hfin := hend.out (((W1.setRow B0 R1.toArray).drew).setRow B0 R2.toArray)
  rw [hWh.out] at hfin ⊢
  exact ⟨_, _, rfl, _, hfin rfl rfl rfl rfl⟩
set_option maxRecDepth 8000 in
set_option maxHeartbeats 2000000 in
/-- There is room: what stands behind goes one place on. -/
theorem insert_room (hO : OwG 133 4 W ko ao cap n cs) (hn : n ≤ 1000) {i : Nat} (hi : i < n) (hc : n + 1 ≤ cap) (hv : Blk W vb 133 vs) (hvk : ∀ k, ko = some k → vb ≠ k) (hs : vs.size = 4) (h1 : ∀ u ∈ vs.toList, u.oneCell' = true) (h1c : ∀ u ∈ cs, u.oneCell' = true) :
    Calls Tryd.prog 78 #[.slice ao n cap, .int .i64 (i : Int), .slice (some ⟨vb, 0, none⟩) 1 1] W fun e w' =>
      ∃ ao' cap', e = .returned (.slice ao' (n + 1) cap') ∧ ∃ ko', OwG 133 4 w' ko' ao' cap' (n + 1) (cs.take (i * 4) ++ vs.toList ++ cs.drop (i * 4)) ∧ Frm (fun b => ko = some b) W w' ∧ Moved W ko ko' := by
  have hcl := hO.cells
  have htop := hO.top
  unfold maxLen at htop
  obtain ⟨k, cur, rfl, rfl, hk, hks, hkt⟩ : ∃ k cur, ko = some k ∧ ao = some ⟨k, 0, none⟩ ∧ W.heap[k]? = some (.cells cur 133 (0, 0)) ∧ cur.size = cap * 4 ∧ cur.toList.take (n * 4) = cs := by
    rcases hO.at' with ⟨-, -, h0⟩ | h0
    · omega
    · exact h0
  have hvk := hvk k rfl
  have hcs : ∀ j v, cs[j]? = some v → W.cell? ⟨k, j, none⟩ = some v := fun j v hj => by
    obtain ⟨k', e', -, hc', -⟩ := hO.cell j v hj
    cases e'
    exact hc'
  have hbk : Blk W k 133 cur := hk
  have hRt : ∀ j, j < i * 4 → cur.toList[j]? = cs[j]? := by
    intro j hj
    rw [← hkt, List.getElem?_take, if_pos (by omega)]
  have hov : ∀ lb cb, (callFunc 89 #[.slice (some ⟨vb, 0, none⟩) 1 1, .slice (some ⟨k, (i + 1) * 4, none⟩) lb cb]).run Tryd.prog W = .ok (.value (.bool false)) W := fun lb cb => by
    have hz : ∀ w, (Go.sizeOf 133).run Tryd.prog w = .ok 4 w := fun w => by
      obtain ⟨i1, hi1, e1⟩ := Option.map_eq_some_iff.1 infoLv
      simp only [Prod.mk.injEq] at e1
      simp [sizeOf, typeInfo, hi1, e1.2.1]
    rw [run_callFunc_extern Tryd.func89 (by kernel_rfl) (by kernel_rfl) (by kernel_rfl) (e := Extern.SlicesOverlaps.overlaps #[122, 122] #[4]) (by kernel_rfl),
      Lib.run_overlaps_apart W 122 4 133 Tryd.underlying122 4 hz ⟨vb, 0, none⟩ ⟨k, (i + 1) * 4, none⟩ 1 1 lb cb hvk 133 133 vs.size cur.size (by unfold Blk at hv; simp [World.shape?, hv]) (by simp [World.shape?, hk]) (by omega) (hv.free 0) (hv.free _)]
    rfl
  have hvl : vs.toList.length = 4 := by simpa using hs
  have hdl : (cs.drop (i * 4)).length = (n - i) * 4 := by rw [List.length_drop, hcl]; omega
  have hf1 : (i + 1) * 4 + (cs.drop (i * 4)).length ≤ cur.toList.length := by rw [hdl, Array.length_toList]; omega
  obtain ⟨R1, hR1⟩ : ∃ R1, R1 = over cur.toList ((i + 1) * 4) (cs.drop (i * 4)) := ⟨_, rfl⟩
  have hR1l : R1.length = cap * 4 := by rw [hR1, over_len hf1]; simpa using hks
  have hf2 : i * 4 + vs.toList.length ≤ R1.length := by rw [hvl, hR1l]; omega
  obtain ⟨R2, hR2⟩ : ∃ R2, R2 = over R1 (i * 4) vs.toList := ⟨_, rfl⟩
  have hR2l : R2.length = cap * 4 := by rw [hR2, over_len hf2, hR1l]
  have hcpA : ∀ V : World, V.heap = W.heap → ∀ ty dc sc, (Builtin.copy_ #[122, 122] ty #[.slice (some ⟨k, (i + 1) * 4, none⟩) (n - i) dc, .slice (some ⟨k, i * 4, none⟩) (n + 1 - i) sc]).run Tryd.prog V = .ok (goInt (Nat.min (n + 1 - i) (n - i))) (V.setRow k R1.toArray) := by
    intro V hV ty dc sc
    have hm : Nat.min (n + 1 - i) (n - i) = n - i := Nat.min_eq_right (by omega)
    rw [hR1]
    exact run_copyZ V _ _ ty 133 4 k ((i + 1) * 4) (n - i) dc ⟨k, i * 4, none⟩ (n + 1 - i) sc cur 133 (cs.drop (i * 4)) Tryd.underlying122 sizeLv (by rw [hV]; exact hbk) (by rw [hm, hdl]) (fun j v hj => by
      rw [Addr.add_mid]
      rw [List.getElem?_drop] at hj
      exact (World.cell?_of_block (a := ⟨k, i * 4 + j, none⟩) (by rw [hV])).trans (hcs _ _ hj)) (by simpa using hf1) (fun v hv => h1c v (List.mem_of_mem_drop hv))
  have hcpB : ∀ V : World, V.heap = (W.setRow k R1.toArray).heap → ∀ ty dc, (Builtin.copy_ #[122, 122] ty #[.slice (some ⟨k, i * 4, none⟩) (n + 1 - i) dc, .slice (some ⟨vb, 0, none⟩) 1 1]).run Tryd.prog V = .ok (goInt (Nat.min 1 (n + 1 - i))) (V.setRow k R2.toArray) := by
    intro V hV ty dc
    have hm : Nat.min 1 (n + 1 - i) = 1 := Nat.min_eq_left (by omega)
    have hb : V.heap[k]? = some (.cells R1.toArray 133 (0, 0)) := by rw [hV]; exact hbk.setRow R1.toArray
    rw [hR2]
    exact run_copyZ V _ _ ty 133 4 k (i * 4) (n + 1 - i) dc ⟨vb, 0, none⟩ 1 1 R1.toArray 133 vs.toList Tryd.underlying122 sizeLv hb (by rw [hm, hvl]) (fun j v hj => by
      rw [Addr.add_mid, Nat.zero_add]
      refine (World.cell?_of_block (a := ⟨vb, j, none⟩) ?_).trans (hv.cell_eq j v (by simpa using hj))
      rw [hV]
      exact setRow_other W k vb R1.toArray hvk) (by simpa using hf2) h1
  have hend : ∀ V : World, V.os = W.os → V.tape = W.tape → V.output = W.output → V.heap = ((W.setRow k R1.toArray).setRow k R2.toArray).heap → OwG 133 4 V (some k) (some ⟨k, 0, none⟩) cap (n + 1) (cs.take (i * 4) ++ vs.toList ++ cs.drop (i * 4)) ∧ Frm (fun b => some k = some b) W V ∧ Moved W (some k) (some k) := by
    intro V e1 e2 e3 hV
    have hbk2 : Blk V k 133 R2.toArray := by unfold Blk; rw [hV]; exact (hbk.setRow _).setRow _
    refine ⟨⟨by simp [hcl, hvl]; omega, hc, hO.top, .inr ⟨k, R2.toArray, rfl, rfl, hbk2, by simpa using hR2l, ?_⟩⟩, ⟨e1, e2, e3, by rw [hV]; simp [World.setRow], fun b hb hne => ?_⟩, .inr (.inl rfl)⟩
    · have e4 : (n + 1) * 4 = n * 4 + 4 := by omega
      rw [e4]
      refine shifted (m := 4) hcl (by omega) hvl (by show n * 4 + 4 ≤ R2.length; rw [hR2l]; omega) (fun j hj => ?_) (fun j hj hj2 => ?_) (fun j hj hj2 => ?_)
      · show R2[j]? = cs[j]?
        rw [hR2, over_get hf2, if_neg (by omega), hR1, over_get hf1, if_neg (by omega)]
        exact hRt j hj
      · show R2[j]? = vs.toList[j - i * 4]?
        rw [hR2, over_get hf2, if_pos ⟨hj, by rw [hvl]; omega⟩]
      · show R2[j]? = cs[j - 4]?
        rw [hR2, over_get hf2, if_neg (by rw [hvl]; omega), hR1, over_get hf1, if_pos ⟨by omega, by rw [hdl]; omega⟩, List.getElem?_drop]
        congr 1
        omega
    · have hbk' : b ≠ k := fun e => hne (by rw [e])
      rw [hV]
      exact (setRow_other _ k b _ hbk').trans (setRow_other W k b _ hbk')
  have hci : ¬ (cap = i) := by omega
  have hci1 : ¬ (cap = i + 1) := by omega
  have hei : ¬ ((i : Int) = (n : Int)) := by omega
  have hin : (i : Int) ≤ (n : Int) := by omega
  have hn63 : (n : Int) ≤ 1000 := by omega
  have hnc : (n : Int) + 1 ≤ (cap : Int) := by omega
  have hnc2 : ¬ ((cap : Int) < (n : Int) + 1) := by omega
  have hc63 : (cap : Int) ≤ 9223372036854775807 := by omega
  have hw1 : IntKind.i64.wrap ((i : Int) + 1) = (i : Int) + 1 := by rw [IntKind.wrap_i64]; omega
  have hw2 : IntKind.i64.wrap ((n : Int) + 1) = (n : Int) + 1 := by rw [IntKind.wrap_i64]; omega
  have hb1' : (0 : Int) ≤ (i : Int) + 1 := by omega
  have htn : ((i : Int) + 1).toNat = i + 1 := by omega
  have htn2 : ((n : Int) + 1).toNat = n + 1 := by omega
  have hl1 : (i : Int) + 1 ≤ (n : Int) + 1 := by omega
  have hl2 : i ≤ n := by omega
  have hcA := hcpA W.drew rfl
  have hcB := hcpB (W.drew.setRow k R1.toArray) rfl
  replace hend := Lib.hid hend
  clear hcpA hcpB hR1 hR2 hf1 hf2 hR1l hR2l hdl hRt hcl hcs hv hs h1 h1c hvl hbk hk hks hkt hO hvk
  go_enter Tryd.func78, Tryd.ntmps78
  go_wp2_with (simp only [hov])
  have hin2 : (i : Int) ≤ (n : Int) + 1 := by omega
  have hl3 : i ≤ n + 1 := by omega
  go_still_tail 8, (by kernel_rfl)
  change wpList _ _ _ _ _ (World.drew _)
  go_wp2_with fail
  go_ret
  exact ⟨_, _, rfl, _, hend.out _ rfl rfl rfl rfl⟩
end
end Go.Proofs.YtdmjcjheanedgaaDoor
namespace Go.Proofs.YtdmjcjheanedgaaDoor
open Go.RowKit
/-- clear of one level. -/
theorem run_clear_one (w : World) (ty : TypeId) (g o c : Nat) (cur : Array Value) (t : TypeId) (hg : w.heap[g]? = some (.cells cur t (0, 0))) (hfit : o + 4 ≤ cur.size) :
    (Builtin.clear_ #[122] ty #[.slice (some ⟨g, o, none⟩) 1 c]).run Tryd.prog w = .ok (.tuple #[]) (w.setRow g (over cur.toList o (cLvl Lvl.zero).toList).toArray) := by
  have hzc : (Builtin.zeroCells (Value.agg #[.int .i64 0, .int .i64 0, .int .i64 0, .int .i64 0]).cells 1).toList = [.int .i64 0, .int .i64 0, .int .i64 0, .int .i64 0] := by kernel_rfl
  have hst := run_storeCells_at Tryd.prog g o t (cLvl Lvl.zero).toList 0 cur w hg (by simpa using hfit) (by
    intro v hv
    simp at hv
    rcases hv with rfl | rfl | rfl | rfl <;> rfl)
  simp only [Nat.add_zero] at hst
  simp only [Lvl.zero] at hst
  unfold over
  simp [Builtin.clear_, run_underlying Tryd.underlying122, Lvl.zero, hzc, hst]
section
variable {w w' W : World} {ko : Option Nat} {ao : Option Addr} {cap L : Nat} {cs : List Value}
set_option maxRecDepth 8000 in
set_option maxHeartbeats 2000000 in
theorem delete_any (hO : OwG 133 4 W ko ao cap (L + 1) cs) (hn : L ≤ 1000) {i : Nat} (hi : i ≤ L) (h1c : ∀ u ∈ cs, u.oneCell' = true) :
    Calls Tryd.prog 96 #[.slice ao (L + 1) cap, .int .i64 (i : Int), .int .i64 ((i : Int) + 1)] W fun e w' =>
      e = .returned (.slice ao L cap) ∧ OwG 133 4 w' ko ao cap L (cs.take (i * 4) ++ cs.drop ((i + 1) * 4)) ∧ Frm (fun b => ko = some b) W w' := by
  obtain ⟨i1, hi1, e1⟩ := Option.map_eq_some_iff.1 infoLv
  simp only [Prod.mk.injEq] at e1
  obtain ⟨hz1, hs1, hb1⟩ := e1
  have hcl := hO.cells
  have hle := hO.len
  have htop := hO.top
  unfold maxLen at htop
  obtain ⟨k, cur, rfl, rfl, hk, hks, hkt⟩ : ∃ k cur, ko = some k ∧ ao = some ⟨k, 0, none⟩ ∧ W.heap[k]? = some (.cells cur 133 (0, 0)) ∧ cur.size = cap * 4 ∧ cur.toList.take ((L + 1) * 4) = cs := by
    rcases hO.at' with ⟨-, -, h0⟩ | h0
    · omega
    · exact h0
  have hcs : ∀ j v, cs[j]? = some v → W.cell? ⟨k, j, none⟩ = some v := fun j v hj => by
    obtain ⟨k', e', -, hc', -⟩ := hO.cell j v hj
    cases e'
    exact hc'
  have hbk : Blk W k 133 cur := hk
  have hRt : ∀ j, j < i * 4 → cur.toList[j]? = cs[j]? := by
    intro j hj
    rw [← hkt, List.getElem?_take, if_pos (by omega)]
  have hdl : (cs.drop ((i + 1) * 4)).length = (L - i) * 4 := by rw [List.length_drop, hcl]; omega
  have hf1 : i * 4 + (cs.drop ((i + 1) * 4)).length ≤ cur.toList.length := by rw [hdl, Array.length_toList]; omega
  obtain ⟨R1, hR1⟩ : ∃ R1, R1 = over cur.toList (i * 4) (cs.drop ((i + 1) * 4)) := ⟨_, rfl⟩
  have hR1l : R1.length = cap * 4 := by rw [hR1, over_len hf1]; simpa using hks
  have hf2 : L * 4 + (cLvl Lvl.zero).toList.length ≤ R1.length := by rw [hR1l]; simp; omega
  obtain ⟨R2, hR2⟩ : ∃ R2, R2 = over R1 (L * 4) (cLvl Lvl.zero).toList := ⟨_, rfl⟩
  have hR2l : R2.length = cap * 4 := by rw [hR2, over_len hf2, hR1l]
  have happ : ∀ (A : Addr), (i < L → A = ⟨k, (i + 1) * 4, none⟩) → ∀ V : World, V.heap = W.heap → ∀ ty c, (Builtin.append_ #[122, 122] ty #[.slice (some ⟨k, 0, none⟩) i cap, .slice (some A) (L - i) c]).run Tryd.prog V = .ok (.slice (some ⟨k, 0, none⟩) L cap) (V.setRow k R1.toArray) := by
    intro A hA V hV ty c
    have h := run_append_room (P := Tryd.prog) (w := V) 122 ty 133 i1 Tryd.underlying122 hi1 k i cap cur (by rw [hV]; exact hk) A (L - i) c (cs.drop ((i + 1) * 4)) (by rw [hdl, hs1]) (fun j u hj => by
      have hjl := (List.getElem?_eq_some_iff.1 hj).1
      rw [hdl] at hjl
      rw [hA (by omega), Addr.add_mid]
      rw [List.getElem?_drop] at hj
      exact (World.cell?_of_block (a := ⟨k, (i + 1) * 4 + j, none⟩) (by rw [hV])).trans (hcs _ _ hj)) (fun v hv => h1c v (List.mem_of_mem_drop hv)) (by omega) (by rw [hs1]; simpa using hf1)
    rw [hs1, show i + (L - i) = L by omega] at h
    rw [hR1]
    exact h
  have hclr : ∀ V : World, V.heap = (W.setRow k R1.toArray).heap → ∀ ty c, (Builtin.clear_ #[122] ty #[.slice (some ⟨k, L * 4, none⟩) 1 c]).run Tryd.prog V = .ok (.tuple #[]) (V.setRow k R2.toArray) := by
    intro V hV ty c
    rw [hR2]
    exact run_clear_one V ty k (L * 4) c R1.toArray _ (by rw [hV]; exact hbk.setRow R1.toArray) (by simpa using hf2)
  have hend : ∀ V : World, V.os = W.os → V.tape = W.tape → V.output = W.output → V.heap = ((W.setRow k R1.toArray).setRow k R2.toArray).heap → OwG 133 4 V (some k) (some ⟨k, 0, none⟩) cap L (cs.take (i * 4) ++ cs.drop ((i + 1) * 4)) ∧ Frm (fun b => some k = some b) W V := by
    intro V e1 e2 e3 hV
    have hbk2 : Blk V k 133 R2.toArray := by unfold Blk; rw [hV]; exact (hbk.setRow _).setRow _
    refine ⟨⟨by simp [hcl]; omega, by omega, hO.top, .inr ⟨k, R2.toArray, rfl, rfl, hbk2, by simpa using hR2l, ?_⟩⟩, ⟨e1, e2, e3, by rw [hV]; simp [World.setRow], fun b hb hne => ?_⟩⟩
    · refine List.ext_getElem? fun j => ?_
      show (R2.take (L * 4))[j]? = _
      by_cases hj : j < L * 4
      · rw [List.getElem?_take, if_pos hj, hR2, over_get hf2, if_neg (by omega), hR1, over_get hf1]
        by_cases hji : j < i * 4
        · rw [if_neg (by omega), List.getElem?_append_left (by simp; omega), List.getElem?_take, if_pos hji]
          exact hRt j hji
        · rw [if_pos ⟨by omega, by rw [hdl]; omega⟩, List.getElem?_append_right (by simp; omega)]
          congr 1
          simp; omega
      · rw [List.getElem?_eq_none (by simp; omega), List.getElem?_eq_none (by simp; omega)]
    · have hbk' : b ≠ k := fun e => hne (by rw [e])
      rw [hV]
      exact (setRow_other _ k b _ hbk').trans (setRow_other W k b _ hbk')
  have hlc : L < cap := by omega
  have hcL : ¬ (cap = L) := by omega
  have hLi : ¬ (L + 1 = i) := by omega
  have hw1 : IntKind.i64.wrap ((i : Int) + 1) = (i : Int) + 1 := by rw [IntKind.wrap_i64]; omega
  have hb1' : (0 : Int) ≤ (i : Int) + 1 := by omega
  have htn : ((i : Int) + 1).toNat = i + 1 := by omega
  have hl1 : (i : Int) + 1 ≤ (L : Int) + 1 := by omega
  have hl2 : i ≤ cap := by omega
  have hne : ¬ ((i : Int) = (i : Int) + 1) := by omega
  have hLc : (L : Int) + 1 ≤ (cap : Int) := by omega
  have hLc2 : L + 1 ≤ cap := by omega
  have hend' := Lib.hid hend
  have hcC := hclr (W.drew.setRow k R1.toArray) rfl
  by_cases hci : cap = i + 1
  · have hcA := happ ⟨k, 0, none⟩ (fun h => by omega) W.drew rfl
    obtain rfl : i = L := by omega
    subst hci
    simp only [Nat.sub_self] at hcA
    have hl4 : (i : Int) ≤ (i : Int) + 1 := by omega
    have hl5 : i ≤ i + 1 := by omega
    have hl6 : ((i + 1 : Nat) : Int) = (i : Int) + 1 := by omega
    clear happ hclr hend hR1 hR2 hf1 hf2 hR1l hR2l hdl hRt hcl hcs h1c hbk hk hks hkt hO
    go_enter Tryd.func96, Tryd.ntmps96
    go_wp2_with fail
    go_still_tail 6, (by kernel_rfl)
    change wpList _ _ _ _ _ (World.drew _)
    go_wp2_with (at_builtin; refine Lib.wpList_append_run _ rfl _ _ _ _ rfl _ _ rfl rfl _ _ (hcA _ _) ?_)
    go_ret
    exact ⟨rfl, hend'.out _ rfl rfl rfl rfl⟩
  · have hcA := happ ⟨k, (i + 1) * 4, none⟩ (fun h => rfl) W.drew rfl
    clear happ hclr hend hR1 hR2 hf1 hf2 hR1l hR2l hdl hRt hcl hcs h1c hbk hk hks hkt hO
    go_enter Tryd.func96, Tryd.ntmps96
    go_wp2_with fail
    go_still_tail 6, (by kernel_rfl)
    change wpList _ _ _ _ _ (World.drew _)
    go_wp2_with (at_builtin; refine Lib.wpList_append_run _ rfl _ _ _ _ rfl _ _ rfl rfl _ _ (hcA _ _) ?_)
    go_ret
    exact ⟨rfl, hend'.out _ rfl rfl rfl rfl⟩
end
end Go.Proofs.YtdmjcjheanedgaaDoor
namespace Go.Proofs.YtdmjcjheanedgaaDoor
open Go.RowKit
section
variable {w w' W : World} {g : Nat} {S T : Nat → Prop} {ko : Option Nat} {ao : Option Addr} {cap : Nat} {buy : Bool} {P : List Lvl} {F : List Nat}
theorem bit_low {x k : Nat} (h : x < 18446744073709551616) (i : Nat) (hi : x.testBit i = decide (i = k)) : bits .and .u64 ((x >>> i : Nat) : Int) 1 = if i = k then 1 else 0 := by
  have h1 : x >>> i < 18446744073709551616 := Nat.lt_of_le_of_lt (by rw [Nat.shiftRight_eq_div_pow]; exact Nat.div_le_self _ _) h
  have e := bits_and_u64_nat (x >>> i) 1 h1 (by omega)
  rw [bit_and, hi] at e
  by_cases g : i = k
  · simp [g] at e ⊢; exact e
  · simp [g] at e ⊢; exact e
theorem shr_step (x i : Nat) : (((x >>> i : Nat) : Int)) / 2 = ((x >>> (i + 1) : Nat) : Int) := by
  rw [Nat.shiftRight_succ]; omega
theorem idx4 {a b c d n x : Nat} (h : [a, b, c, d][n]? = some x) : ∀ w, (Instr.index 124 (.agg #[.int .u64 (a : Int), .int .u64 (b : Int), .int .u64 (c : Int), .int .u64 (d : Int)]) (.int .i64 (n : Int))).run Tryd.prog w = .ok (.int .u64 (x : Int)) w := by
  intro w
  have hl := (List.getElem?_eq_some_iff.1 h).1
  have u := Tryd.underlying124
  simp only [List.length_cons, List.length_nil] at hl
  rcases (show n = 0 ∨ n = 1 ∨ n = 2 ∨ n = 3 by omega) with rfl | rfl | rfl | rfl
  all_goals
    cases h
    simp [Instr.index, go_sem, part]
set_option maxRecDepth 8000 in
set_option maxHeartbeats 2000000 in
theorem punused_some {f : Nat → Bool} (h : PmB W g S ko ao cap buy P F) (hB : Bits F f) {q : Nat} (hq : q < 256) (ht : f q = true) (hlow : ∀ p, p < q → f p = false) :
    Calls Tryd.prog 77 #[.pointer (some ⟨g, 0, none⟩)] W fun e w' => e = .returned (.tuple #[.int .i64 (q : Int), .bool true]) ∧ w' = W := by
  have hz : ∀ n x, n < q / 64 → F[n]? = some x → x = 0 := by
    intro n x hn hx
    obtain ⟨y, hy, hy2, hy3⟩ := hB.get (n := n) (by omega)
    rw [hx] at hy
    cases hy
    exact zero_of_bits hy2 fun k hk => (hy3 k hk).trans (hlow _ (by omega))
  obtain ⟨x, hx, hx2, hx3⟩ := hB.get (n := q / 64) (by omega)
  have hxk : ∀ i, i ≤ q % 64 → x.testBit i = decide (i = q % 64) := by
    intro i hi
    rw [hx3 i (by omega)]
    by_cases e : i = q % 64
    · rw [e, show q / 64 * 64 + q % 64 = q by omega, ht]; simp
    · rw [hlow _ (by omega)]; simp [e]
  have hx0 : x ≠ 0 := by
    rintro rfl
    have := hxk (q % 64) (Nat.le_refl _)
    simp at this
  have hand := fun i hi => bit_low (k := q % 64) hx2 i (hxk i hi)
  have hlt : ∀ i, ((x >>> i : Nat) : Int) < 18446744073709551616 := fun i => by
    have h1 : x >>> i < 18446744073709551616 := Nat.lt_of_le_of_lt (by rw [Nat.shiftRight_eq_div_pow]; exact Nat.div_le_self _ _) hx2
    omega
  have hq4 : q / 64 < 4 := by omega
  have hqe : (q : Int) = ((q / 64 : Nat) : Int) * 64 + ((q % 64 : Nat) : Int) := by omega
  have hm64 : q % 64 < 64 := by omega
  generalize q / 64 = d at *
  generalize q % 64 = m at *
  obtain ⟨a0, a1, a2, a3, rfl⟩ : ∃ a b c d, F = [a, b, c, d] := by
    have := h.fl
    match F, this with
    | [a, b, c, d], _ => exact ⟨a, b, c, d, rfl⟩
  have c2 : W.cell? ⟨g, 2, none⟩ = some (.int .u64 (a0 : Int)) := h.cw (i := 0) rfl
  have c3 : W.cell? ⟨g, 3, none⟩ = some (.int .u64 (a1 : Int)) := h.cw (i := 1) rfl
  have c4 : W.cell? ⟨g, 4, none⟩ = some (.int .u64 (a2 : Int)) := h.cw (i := 2) rfl
  have c5 : W.cell? ⟨g, 5, none⟩ = some (.int .u64 (a3 : Int)) := h.cw (i := 3) rfl
  replace hz := Lib.hid hz
  replace hx := Lib.hid hx
  replace hqe := Lib.hid hqe
  replace hand := Lib.hid hand
  replace hlt := Lib.hid hlt
  have hx0' : ((x : Int) == 0) = false := by simp; exact hx0
  replace hx0 := Lib.hid hx0
  clear h hB hxk hx3 hx2 hlow ht hq
  go_enter Tryd.func77, Tryd.ntmps77
  go_wp2_with fail
  go_loopg [11] d (fun j p11 wr => ∃ n : Nat, n + j = d ∧ p11 = .int .i64 (n : Int) ∧ wr = W)
  case atStart => exact ⟨0, by omega, rfl, rfl⟩
  case round =>
    obtain ⟨n, hn, rfl, rfl⟩ := hrel
    have hn4 : n < 4 := by omega
    have hn4' : (n : Int) < 4 := by omega
    obtain ⟨y, hy⟩ : ∃ y, [a0, a1, a2, a3][n]? = some y := ⟨_, List.getElem?_eq_getElem (by simp; omega)⟩
    have hix := idx4 hy
    by_cases hnd : n < d
    · obtain rfl := hz.out n y hnd hy
      clear hz hx hqe hand hlt hx0' hx0 hy
      go_wp2_with fail
      go_roundg (d - (n + 1))
      case measure => omega
      case rel => exact ⟨n + 1, by omega, by go_num, rfl⟩
    · obtain rfl : n = d := by omega
      obtain rfl : x = y := by
        have := hx.out
        rw [hy] at this
        exact (Option.some.inj this).symm
      have hx00 : ¬ ((x : Int) = 0) := by have := hx0.out; omega
      clear hz hx hx0 hx0' hy
      go_wp2_with fail
      go_loopg [5, 6] m (fun j p5 p6 wr' => ∃ i : Nat, i + j = m ∧ p5 = .int .u64 ((x >>> i : Nat) : Int) ∧ p6 = .int .i64 ((n : Int) * 64 + (i : Int)) ∧ wr' = wr)
      case atStart => exact ⟨0, by omega, by simp, by simp, rfl⟩
      case round =>
        obtain ⟨i, hi, rfl, rfl, rfl⟩ := hrel
        have hA := hand.out i (by omega)
        have hL := hlt.out i
        have hS := shr_step x i
        have hS2 : IntKind.u64.wrap ((x >>> (i + 1) : Nat) : Int) = ((x >>> (i + 1) : Nat) : Int) := by
          have h1 := hlt.out (i + 1)
          rw [IntKind.wrap_u64]
          exact Int.emod_eq_of_lt (Int.natCast_nonneg _) h1
        replace hL := Lib.hid hL
        by_cases him : i = m
        · subst him
          rw [if_pos rfl] at hA
          have hq := hqe.out
          generalize x >>> i = y at *
          clear hand hlt hqe
          replace hq := Lib.hid hq
          go_wp2_with fail
          go_ret2
          exact ⟨by rw [hq.out]; rfl, rfl⟩
        · rw [if_neg him] at hA
          generalize x >>> i = y at *
          generalize hy' : x >>> (i + 1) = y' at *
          replace hy' := Lib.hid hy'
          clear hand hlt hqe
          go_wp2_with fail
          go_roundg (m - (i + 1))
          case measure => omega
          case rel => exact ⟨i + 1, by omega, by rw [hy'.out], by go_num, rfl⟩
set_option maxRecDepth 8000 in
set_option maxHeartbeats 2000000 in
theorem punused_none {f : Nat → Bool} (h : PmB W g S ko ao cap buy P F) (hB : Bits F f) (hf : ∀ q, q < 256 → f q = false) :
    Calls Tryd.prog 77 #[.pointer (some ⟨g, 0, none⟩)] W fun e w' => e = .returned (.tuple #[.int .i64 0, .bool false]) ∧ w' = W := by
  have hz : ∀ n x, n < 4 → F[n]? = some x → x = 0 := by
    intro n x hn hx
    obtain ⟨y, hy, hy2, hy3⟩ := hB.get (n := n) (by omega)
    rw [hx] at hy
    cases hy
    exact zero_of_bits hy2 fun k hk => (hy3 k hk).trans (hf _ (by omega))
  obtain ⟨a0, a1, a2, a3, rfl⟩ : ∃ a b c d, F = [a, b, c, d] := by
    have := h.fl
    match F, this with
    | [a, b, c, d], _ => exact ⟨a, b, c, d, rfl⟩
  have c2 : W.cell? ⟨g, 2, none⟩ = some (.int .u64 (a0 : Int)) := h.cw (i := 0) rfl
  have c3 : W.cell? ⟨g, 3, none⟩ = some (.int .u64 (a1 : Int)) := h.cw (i := 1) rfl
  have c4 : W.cell? ⟨g, 4, none⟩ = some (.int .u64 (a2 : Int)) := h.cw (i := 2) rfl
  have c5 : W.cell? ⟨g, 5, none⟩ = some (.int .u64 (a3 : Int)) := h.cw (i := 3) rfl
  obtain rfl := hz 0 a0 (by omega) rfl
  obtain rfl := hz 1 a1 (by omega) rfl
  obtain rfl := hz 2 a2 (by omega) rfl
  obtain rfl := hz 3 a3 (by omega) rfl
  clear h hB hz hf
  go_enter Tryd.func77, Tryd.ntmps77
  go_wp2_with fail
  go_loopg [11] 4 (fun j p11 wr => ∃ n : Nat, n + j = 4 ∧ p11 = .int .i64 (n : Int) ∧ wr = W)
  case atStart => exact ⟨0, by omega, rfl, rfl⟩
  case round =>
    obtain ⟨n, hn, rfl, rfl⟩ := hrel
    by_cases hn4 : n < 4
    · have hn4' : (n : Int) < 4 := by omega
      have hix : ∀ w, (Instr.index 124 (.agg #[.int .u64 0, .int .u64 0, .int .u64 0, .int .u64 0]) (.int .i64 (n : Int))).run Tryd.prog w = .ok (.int .u64 0) w := idx4 (a := 0) (b := 0) (c := 0) (d := 0) (n := n) (x := 0) (by
        rcases (show n = 0 ∨ n = 1 ∨ n = 2 ∨ n = 3 by omega) with rfl | rfl | rfl | rfl <;> rfl)
      go_wp2_with fail
      go_roundg (4 - (n + 1))
      case measure => omega
      case rel => exact ⟨n + 1, by omega, by go_num, rfl⟩
    · obtain rfl : n = 4 := by omega
      go_wp2_with fail
      all_goals go_ret2
      all_goals exact ⟨rfl, rfl⟩
end
end Go.Proofs.YtdmjcjheanedgaaDoor
namespace Go.Proofs.YtdmjcjheanedgaaDoor
open Go.RowKit
section
variable {w w' W : World} {g : Nat} {S T : Nat → Prop} {ko : Option Nat} {ao : Option Addr} {cap : Nat} {buy : Bool} {P : List Lvl} {F : List Nat}
theorem insert_any {n : Nat} {cs : List Value} {vs : Array Value} {vb : Nat} (hO : OwG 133 4 W ko ao cap n cs) (hn : n ≤ 1000) {i : Nat} (hi : i ≤ n) (hv : Blk W vb 133 vs) (hvk : ∀ k, ko = some k → vb ≠ k) (hs : vs.size = 4) (h1 : ∀ u ∈ vs.toList, u.oneCell' = true) (h1c : ∀ u ∈ cs, u.oneCell' = true) :
    Calls Tryd.prog 78 #[.slice ao n cap, .int .i64 (i : Int), .slice (some ⟨vb, 0, none⟩) 1 1] W fun e w' =>
      ∃ ao' cap', e = .returned (.slice ao' (n + 1) cap') ∧ ∃ ko', OwG 133 4 w' ko' ao' cap' (n + 1) (cs.take (i * 4) ++ vs.toList ++ cs.drop (i * 4)) ∧ Frm (fun b => ko = some b) W w' ∧ Moved W ko ko' := by
  rcases Nat.eq_or_lt_of_le hi with rfl | hi
  · have e1 : cs.take (i * 4) = cs := List.take_of_length_le (by rw [hO.cells]; exact Nat.le_refl _)
    have e2 : cs.drop (i * 4) = [] := List.drop_of_length_le (by rw [hO.cells]; exact Nat.le_refl _)
    rw [e1, e2, List.append_nil]
    exact insert_end hO hn hv hs h1
  · by_cases hc : n + 1 ≤ cap
    · exact insert_room hO hn hi hc hv hvk hs h1 h1c
    · exact insert_grow hO hn hi (by omega) hv hs h1 h1c
theorem lcs_ins (L : List Lvl) (i : Nat) (x : Lvl) : lcs (L.take i ++ x :: L.drop i) = (lcs L).take (i * 4) ++ (cLvl x).toList ++ (lcs L).drop (i * 4) := by
  rw [← lcs_take, ← lcs_drop]
  simp [lcs]
theorem lcs_del (L : List Lvl) (i : Nat) : lcs (L.eraseIdx i) = (lcs L).take (i * 4) ++ (lcs L).drop ((i + 1) * 4) := by
  rw [← lcs_take, ← lcs_drop, List.eraseIdx_eq_take_drop_succ]
  simp [lcs]
theorem popen_full (n p q : Int) 
    (cU : Calls Tryd.prog 77 #[.pointer (some ⟨g, 0, none⟩)] W fun e w' => e = .returned (.tuple #[.int .i64 0, .bool false]) ∧ w' = W) :
    Calls Tryd.prog 58 #[.pointer (some ⟨g, 0, none⟩), .int .i64 n, .int .i64 p, .int .i64 q] W fun e w' => e = .returned (.tuple #[.int .i64 0, .int .i64 7]) ∧ w' = W := by
  go_enter Tryd.func58, Tryd.ntmps58
  go_wp2_with (go_at_call 77; (with_reducible refine cU.mono ?_); rintro e w1 ⟨rfl, hw1⟩; subst w1; clear cU)
  all_goals go_ret2
  all_goals exact ⟨rfl, rfl⟩
set_option maxRecDepth 8000 in
set_option maxHeartbeats 1000000 in
theorem popen_new (n : Nat) (p q : Int) (h : PmB W g S ko ao cap buy P F) (hF : ∀ x ∈ F, x < 18446744073709551616) (hn : n ≤ P.length) (hl : P.length < 200) {u : Nat} (hu : u < 256)
    (cU : Calls Tryd.prog 77 #[.pointer (some ⟨g, 0, none⟩)] W fun e w' => e = .returned (.tuple #[.int .i64 (u : Int), .bool true]) ∧ w' = W) :
    Calls Tryd.prog 58 #[.pointer (some ⟨g, 0, none⟩), .int .i64 (n : Int), .int .i64 p, .int .i64 q] W fun e w' => e = .returned (.tuple #[.int .i64 (u : Int), .int .i64 0]) ∧
      ∃ S' ko' ao' cap', PmB w' g S' ko' ao' cap' buy (P.take n ++ ⟨p, q, 1, (u : Int)⟩ :: P.drop n) (flp F u) ∧ Frm S W w' ∧ ∀ b, S' b → S b ∨ W.heap.size ≤ b := by
  have cF := pflip_any u hu hF h
  have hlen : (P.take n ++ (⟨p, q, 1, (u : Int)⟩ : Lvl) :: P.drop n).length = P.length + 1 := by simp; omega
  have hone : ∀ x ∈ (cLvl ⟨p, q, 1, (u : Int)⟩).toList, x.oneCell' = true := by
    intro v hv
    simp at hv
    rcases hv with rfl | rfl | rfl | rfl <;> rfl
  have hins : ∀ w1, PmB w1 g S ko ao cap buy P (flp F u) → Calls Tryd.prog 78 #[.slice ao P.length cap, .int .i64 (n : Int), .slice (some ⟨w1.heap.size, 0, none⟩) 1 1] (w1.alloc (.cells (cLvl ⟨p, q, 1, (u : Int)⟩) 133)) fun e w' =>
      ∃ ao' cap', e = .returned (.slice ao' (P.length + 1) cap') ∧ (w'.cell? ⟨g, 1, none⟩ = some (.slice ao P.length cap) ∧ w'.frozen? ⟨g, 1, none⟩ = false) ∧ ∃ S' ko', PmB (w'.setCell ⟨g, 1, none⟩ (.slice ao' (P.length + 1) cap')) g S' ko' ao' cap' buy (P.take n ++ ⟨p, q, 1, (u : Int)⟩ :: P.drop n) (flp F u) ∧ Frm S w1 (w'.setCell ⟨g, 1, none⟩ (.slice ao' (P.length + 1) cap')) ∧ ∀ b, S' b → S b ∨ w1.heap.size ≤ b := by
    intro w1 h1
    have hO := h1.how.alloc (.cells (cLvl ⟨p, q, 1, (u : Int)⟩) 133)
    have hne : ∀ k, ko = some k → w1.heap.size ≠ k := fun k e => by have := h1.lt k (h1.sk k e).1; omega
    refine (insert_any hO (by omega) hn (Blk.new _ _ _) hne rfl hone (lcs_one P)).mono ?_
    rintro e w2 ⟨ao', cap', rfl, ko', ho, hf, hm⟩
    have hf2 : Frm S w1 w2 := ((Frm.refl S w1).alloc _).trans hf (fun k e => .inl (h1.sk k e).1)
    have hg2 : Blk w2 g 126 (cPl buy ao P.length cap (flp F u)) := by
      have hb : Blk (w1.alloc (.cells (cLvl ⟨p, q, 1, (u : Int)⟩) 133)) g 126 (cPl buy ao P.length cap (flp F u)) := h1.hg.alloc _
      exact (hf.block g hb.lt (fun e => (h1.sk g e).2 rfl)).trans hb
    refine ⟨ao', cap', rfl, ⟨hg2.cell_eq 1 _ (by simp [cPl]), hg2.free 1⟩, ?_⟩
    rw [← lcs_ins, ← hlen] at ho
    obtain ⟨k1, k2⟩ := h1.lay hf2 hg2 (L := P.take n ++ ⟨p, q, 1, (u : Int)⟩ :: P.drop n) (by rw [hlen]; omega) ho (fun k e => by
      rcases hm with g1 | g1 | ⟨k', g1, g2⟩
      · rw [g1] at e; cases e
      · rw [g1] at e; exact .inl (h1.sk k e)
      · rw [g1] at e; cases e; right; simp at g2; omega)
    rw [hlen] at k1 k2
    exact ⟨_, ko', k1, k2, fun b hb => by rcases hb with h' | h'; exact .inl h'; exact .inr h'.1⟩
  have hsg := h.sg
  replace hins := Lib.hid hins
  clear h hF hone hlen
  go_enter Tryd.func58, Tryd.ntmps58
  go_wp2_with (first
    | (go_at_call 77; (with_reducible refine cU.mono ?_); rintro e w1 ⟨rfl, hw1⟩; subst w1; clear cU)
    | (go_at_call 53; (with_reducible refine cF.mono ?_); rintro e w1 ⟨rfl, h1, hf1⟩; clear cF; have c1 := h1.c1; have cI := hins.out _ h1; clear hins h1)
    | (go_at_call 78; (with_reducible refine cI.mono ?_); rintro e w2 ⟨ao', cap', rfl, ⟨z1, z2⟩, hfin⟩; clear cI; replace hfin := Lib.hid hfin)
    | fail)
  all_goals go_ret2
  obtain ⟨S', ko', k1, k2, k3⟩ := hfin.out
  exact ⟨rfl, S', ko', ao', cap', k1, (hf1.mono (fun b _ e => by rw [e]; exact hsg)).trans k2 (fun b e => .inl e), fun b hb => by rcases k3 b hb with e | e; exact .inl e; right; have := hf1.size; omega⟩
set_option maxRecDepth 8000 in
set_option maxHeartbeats 1000000 in
theorem pclose_any (n : Nat) (h : PmB W g S ko ao cap buy P F) (hF : ∀ x ∈ F, x < 18446744073709551616) {x : Lvl} (hx : P[n]? = some x) {u : Nat} (hu : u < 256) (hxu : x.queue = (u : Int)) :
    Calls Tryd.prog 85 #[.pointer (some ⟨g, 0, none⟩), .int .i64 (n : Int)] W fun e w' => e = .returned undef ∧ PmB w' g S ko ao cap buy (P.eraseIdx n) (flp F u) ∧ Frm S W w' := by
  have cF := pflip_any u hu hF h
  have hi := (List.getElem?_eq_some_iff.1 hx).1
  have hlen : P.length = (P.eraseIdx n).length + 1 := by rw [List.length_eraseIdx, if_pos hi]; omega
  have hl := h.len
  have hdel : ∀ w1, PmB w1 g S ko ao cap buy P (flp F u) → Calls Tryd.prog 96 #[.slice ao P.length cap, .int .i64 (n : Int), .int .i64 ((n : Int) + 1)] w1 fun e w' =>
      e = .returned (.slice ao (P.eraseIdx n).length cap) ∧ (w'.cell? ⟨g, 1, none⟩ = some (.slice ao P.length cap) ∧ w'.frozen? ⟨g, 1, none⟩ = false) ∧ PmB (w'.setCell ⟨g, 1, none⟩ (.slice ao (P.eraseIdx n).length cap)) g S ko ao cap buy (P.eraseIdx n) (flp F u) ∧ Frm S w1 (w'.setCell ⟨g, 1, none⟩ (.slice ao (P.eraseIdx n).length cap)) := by
    intro w1 h1
    have hO := h1.how
    rw [hlen] at hO
    have cD := delete_any hO (by omega) (i := n) (by omega) (lcs_one P)
    rw [← hlen, ← lcs_del] at cD
    refine cD.mono ?_
    rintro e w2 ⟨rfl, ho, hf⟩
    have hf2 : Frm S w1 w2 := hf.mono (fun k _ e => (h1.sk k e).1)
    have hg2 : Blk w2 g 126 (cPl buy ao P.length cap (flp F u)) := (hf.block g h1.hg.lt (fun e => (h1.sk g e).2 rfl)).trans h1.hg
    refine ⟨rfl, ⟨hg2.cell_eq 1 _ (by simp [cPl]), hg2.free 1⟩, ?_⟩
    obtain ⟨k1, k2⟩ := h1.lay hf2 hg2 (L := P.eraseIdx n) (by omega) ho (fun k e => .inl (h1.sk k e))
    refine ⟨⟨k1.len, k1.fl, k1.hg, k1.how, h1.sg, h1.sk, fun b hb => ?_⟩, k2⟩
    have := h1.lt b hb
    have := k2.size
    omega
  have hsg := h.sg
  have c1 := h.c1
  obtain ⟨k, -, rfl, hc⟩ := h.row hx
  have y3 := (hc _ _ (lcs_get hx 3 (.int .i64 x.queue) rfl)).1
  rw [hxu] at y3
  have hi2 : (n : Int) < (P.length : Int) := by omega
  have hn1 : (n : Int) < 1000 := by omega
  replace hdel := Lib.hid hdel
  replace hlen := Lib.hid hlen
  clear h hF hx hc hxu
  go_enter Tryd.func85, Tryd.ntmps85
  go_wp2_with (first
    | (go_at_call 53; (with_reducible refine cF.mono ?_); rintro e w1 ⟨rfl, h1, hf1⟩; clear cF c1 y3; have c1 := h1.c1; have cI := hdel.out _ h1; clear hdel h1)
    | (go_at_call 96; (with_reducible refine cI.mono ?_); rintro e w2 ⟨rfl, ⟨z1, z2⟩, hfin⟩; clear cI; replace hfin := Lib.hid hfin)
    | fail)
  all_goals go_end0
  obtain ⟨k1, k2⟩ := hfin.out
  exact ⟨rfl, k1, (hf1.mono (fun b _ e => by rw [e]; exact hsg)).trans k2 (fun b e => .inl e)⟩
end
end Go.Proofs.YtdmjcjheanedgaaDoor
