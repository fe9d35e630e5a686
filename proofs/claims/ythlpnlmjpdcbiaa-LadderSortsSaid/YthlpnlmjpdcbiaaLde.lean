/-
  The contract of slices.Delete of one level, in a row that the slice owns; of slices.Clone.
-/
import Derived.Test.YthlpnlmjpdcbiaaLin
import Derived.Lib.SliceRun
namespace Go.Proofs.Ythlpnlmjpdcbiaa
open Go.RowKit
theorem zeroLv : ∀ w, (zeroValue 40).run Try.prog w = .ok (vLvl Lvl.zero) w := fun w => by
  obtain ⟨i1, hi1, e1⟩ := Option.map_eq_some_iff.1 infoLv
  simp only [Prod.mk.injEq] at e1
  simp [zeroValue, typeInfo, hi1, e1.1]
/-- clear of one level. -/
theorem run_clear_one (w : World) (ty : TypeId) (g o c : Nat) (cur : Array Value) (t : TypeId) (hg : w.heap[g]? = some (.cells cur t (0, 0))) (hfit : o + 4 ≤ cur.size) :
    (Builtin.clear_ #[62] ty #[.slice (some ⟨g, o, none⟩) 1 c]).run Try.prog w = .ok (.tuple #[]) (w.setRow g (over cur.toList o (cLvl Lvl.zero).toList).toArray) := by
  have hzc : (Builtin.zeroCells (Value.agg #[.int .i64 0, .int .i64 0, .int .i64 0, .int .i64 0]).cells 1).toList = [.int .i64 0, .int .i64 0, .int .i64 0, .int .i64 0] := by kernel_rfl
  have hst := run_storeCells_at Try.prog g o t (cLvl Lvl.zero).toList 0 cur w hg (by simpa using hfit) (by
    intro v hv
    simp at hv
    rcases hv with rfl | rfl | rfl | rfl <;> rfl)
  simp only [Nat.add_zero] at hst
  simp only [Lvl.zero] at hst
  unfold over
  simp [Builtin.clear_, run_underlying Try.underlying62, Lvl.zero, hzc, hst]
section
variable {w w' W : World} {ko : Option Nat} {ao : Option Addr} {cap L : Nat} {cs : List Value}
set_option maxRecDepth 8000 in
set_option maxHeartbeats 2000000 in
theorem delete_any (hO : OwG 40 4 W ko ao cap (L + 1) cs) (hn : L ≤ 1000) {i : Nat} (hi : i ≤ L) (h1c : ∀ u ∈ cs, u.oneCell' = true) :
    Calls Try.prog 43 #[.slice ao (L + 1) cap, .int .i64 (i : Int), .int .i64 ((i : Int) + 1)] W fun e w' =>
      e = .returned (.slice ao L cap) ∧ OwG 40 4 w' ko ao cap L (cs.take (i * 4) ++ cs.drop ((i + 1) * 4)) ∧ Frm (fun b => ko = some b) W w' := by
  obtain ⟨i1, hi1, e1⟩ := Option.map_eq_some_iff.1 infoLv
  simp only [Prod.mk.injEq] at e1
  obtain ⟨hz1, hs1, hb1⟩ := e1
  have hcl := hO.cells
  have hle := hO.len
  have htop := hO.top
  unfold maxLen at htop
  obtain ⟨k, cur, rfl, rfl, hk, hks, hkt⟩ : ∃ k cur, ko = some k ∧ ao = some ⟨k, 0, none⟩ ∧ W.heap[k]? = some (.cells cur 40 (0, 0)) ∧ cur.size = cap * 4 ∧ cur.toList.take ((L + 1) * 4) = cs := by
    rcases hO.at' with ⟨-, -, h0⟩ | h0
    · omega
    · exact h0
  have hcs : ∀ j v, cs[j]? = some v → W.cell? ⟨k, j, none⟩ = some v := fun j v hj => by
    obtain ⟨k', e', -, hc', -⟩ := hO.cell j v hj
    cases e'
    exact hc'
  have hbk : Blk W k 40 cur := hk
  have hRt : ∀ j, j < i * 4 → cur.toList[j]? = cs[j]? := by
    intro j hj
    rw [← hkt, List.getElem?_take, if_pos (by omega)]
  have hdl : (cs.drop ((i + 1) * 4)).length = (L - i) * 4 := by rw [List.length_drop, hcl]; omega
  have hf1 : i * 4 + (cs.drop ((i + 1) * 4)).length ≤ cur.toList.length := by rw [hdl, Array.length_toList]; omega
  obtain ⟨R1, hR1⟩ : ∃ R1, R1 = over cur.toList (i * 4) (cs.drop ((i + 1) * 4)) := ⟨_, rfl⟩
  have hR1l : R1.length = cap * 4 := by rw [hR1, over_len hf1]; simpa using hks
  have hf2 : L * 4 + (cLvl Lvl.zero).toList.length ≤ R1.length := by rw [hR1l]; simp; omega
  obtain ⟨R2, hR2⟩ : ∃ R2, R2 = over R1 (L * 4) (cLvl Lvl.zero).toList := ⟨_, rfl⟩
  have hR2l : R2.length = cap * 4 := by rw [hR2, over_len hf2, hR1l]
  have happ : ∀ (A : Addr), (i < L → A = ⟨k, (i + 1) * 4, none⟩) → ∀ V : World, V.heap = W.heap → ∀ ty c, (Builtin.append_ #[62, 62] ty #[.slice (some ⟨k, 0, none⟩) i cap, .slice (some A) (L - i) c]).run Try.prog V = .ok (.slice (some ⟨k, 0, none⟩) L cap) (V.setRow k R1.toArray) := by
    intro A hA V hV ty c
    have h := run_append_room (P := Try.prog) (w := V) 62 ty 40 i1 Try.underlying62 hi1 k i cap cur (by rw [hV]; exact hk) A (L - i) c (cs.drop ((i + 1) * 4)) (by rw [hdl, hs1]) (fun j u hj => by
      have hjl := (List.getElem?_eq_some_iff.1 hj).1
      rw [hdl] at hjl
      rw [hA (by omega), Addr.add_mid]
      rw [List.getElem?_drop] at hj
      exact (World.cell?_of_block (a := ⟨k, (i + 1) * 4 + j, none⟩) (by rw [hV])).trans (hcs _ _ hj)) (fun v hv => h1c v (List.mem_of_mem_drop hv)) (by omega) (by rw [hs1]; simpa using hf1)
    rw [hs1, show i + (L - i) = L by omega] at h
    rw [hR1]
    exact h
  have hclr : ∀ V : World, V.heap = (W.setRow k R1.toArray).heap → ∀ ty c, (Builtin.clear_ #[62] ty #[.slice (some ⟨k, L * 4, none⟩) 1 c]).run Try.prog V = .ok (.tuple #[]) (V.setRow k R2.toArray) := by
    intro V hV ty c
    rw [hR2]
    exact run_clear_one V ty k (L * 4) c R1.toArray _ (by rw [hV]; exact hbk.setRow R1.toArray) (by simpa using hf2)
  have hend : ∀ V : World, V.os = W.os → V.tape = W.tape → V.output = W.output → V.heap = ((W.setRow k R1.toArray).setRow k R2.toArray).heap → OwG 40 4 V (some k) (some ⟨k, 0, none⟩) cap L (cs.take (i * 4) ++ cs.drop ((i + 1) * 4)) ∧ Frm (fun b => some k = some b) W V := by
    intro V e1 e2 e3 hV
    have hbk2 : Blk V k 40 R2.toArray := by unfold Blk; rw [hV]; exact (hbk.setRow _).setRow _
    refine ⟨⟨by simp [hcl]; omega, by omega, hO.top, .inr ⟨k, R2.toArray, rfl, rfl, hbk2, by simpa using hR2l, ?_⟩⟩, ⟨e1, e2, e3, by rw [hV]; simp [World.setRow], fun b hb hne => ?_⟩⟩
    · refine List.ext_getElem? fun j => ?_
      show (R2.take (L * 4))[j]? = _
      by_cases hj : j < L * 4
      · rw [List.getElem?_take, if_pos hj, hR2, over_get hf2, if_neg (by omega), hR1, over_get hf1]
        by_cases hji : j < i * 4
        · rw [if_neg (by omega), List.getElem?_append_left (by simp; omega), List.getElem?_take, if_pos hji]
          exact hRt j hji
        · rw [if_pos ⟨by omega, by rw [hdl]; omega⟩, List.getElem?_append_right (by simp; omega)]
          congr 1
          simp; omega
      · rw [List.getElem?_eq_none (by simp; omega), List.getElem?_eq_none (by simp; omega)]
    · have hbk' : b ≠ k := fun e => hne (by rw [e])
      rw [hV]
      exact (setRow_other _ k b _ hbk').trans (setRow_other W k b _ hbk')
  have hlc : L < cap := by omega
  have hcL : ¬ (cap = L) := by omega
  have hLi : ¬ (L + 1 = i) := by omega
  have hw1 : IntKind.i64.wrap ((i : Int) + 1) = (i : Int) + 1 := by rw [IntKind.wrap_i64]; omega
  have hb1' : (0 : Int) ≤ (i : Int) + 1 := by omega
  have htn : ((i : Int) + 1).toNat = i + 1 := by omega
  have hl1 : (i : Int) + 1 ≤ (L : Int) + 1 := by omega
  have hl2 : i ≤ cap := by omega
  have hne : ¬ ((i : Int) = (i : Int) + 1) := by omega
  have hLc : (L : Int) + 1 ≤ (cap : Int) := by omega
  have hLc2 : L + 1 ≤ cap := by omega
  have hend' := Lib.hid hend
  have hcC := hclr (W.drew.setRow k R1.toArray) rfl
  by_cases hci : cap = i + 1
  · have hcA := happ ⟨k, 0, none⟩ (fun h => by omega) W.drew rfl
    obtain rfl : i = L := by omega
    subst hci
    simp only [Nat.sub_self] at hcA
    have hl4 : (i : Int) ≤ (i : Int) + 1 := by omega
    have hl5 : i ≤ i + 1 := by omega
    have hl6 : ((i + 1 : Nat) : Int) = (i : Int) + 1 := by omega
    clear happ hclr hend hR1 hR2 hf1 hf2 hR1l hR2l hdl hRt hcl hcs h1c hbk hk hks hkt hO
    go_enter Try.func43, Try.ntmps43
    go_wp2_with fail
    go_still_tail 6, (by kernel_rfl)
    change wpList _ _ _ _ _ (World.drew _)
    go_wp2_with (at_builtin; refine Lib.wpList_append_run _ rfl _ _ _ _ rfl _ _ rfl rfl _ _ (hcA _ _) ?_)
    go_ret
    exact ⟨rfl, hend'.out _ rfl rfl rfl rfl⟩
  · have hcA := happ ⟨k, (i + 1) * 4, none⟩ (fun h => rfl) W.drew rfl
    clear happ hclr hend hR1 hR2 hf1 hf2 hR1l hR2l hdl hRt hcl hcs h1c hbk hk hks hkt hO
    go_enter Try.func43, Try.ntmps43
    go_wp2_with fail
    go_still_tail 6, (by kernel_rfl)
    change wpList _ _ _ _ _ (World.drew _)
    go_wp2_with (at_builtin; refine Lib.wpList_append_run _ rfl _ _ _ _ rfl _ _ rfl rfl _ _ (hcA _ _) ?_)
    go_ret
    exact ⟨rfl, hend'.out _ rfl rfl rfl rfl⟩
end
end Go.Proofs.Ythlpnlmjpdcbiaa
