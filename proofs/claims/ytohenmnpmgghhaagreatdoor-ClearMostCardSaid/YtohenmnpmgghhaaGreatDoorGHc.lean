/-
  The program's comparison of two prices of an auction: cmp.Or, cmp.Compare of uint64, distance, compare, Less.
  slices.MinFunc over prices of an auction, by the program's comparison. (Written by gen/p_clm.py.)
-/
import Derived.Test.YtohenmnpmgghhaaGreatDoorGHb
import Derived.Test.YtohenmnpmgghhaaGreatDoorCvnq
import Derived.Test.YtohenmnpmgghhaaGreatDoorGC
import Derived.Test.YtohenmnpmgghhaaGreatDoorGB
namespace Go.Proofs.YtohenmnpmgghhaaGreatDoor
open Go.RowKit
set_option linter.unusedSimpArgs false
theorem isnanU_any (x : Int) (W : World) : Calls Tryz.prog 87 #[.int .u64 x] W fun e w' => e = .returned (.bool false) ∧ w' = W := by
  go_enter Tryz.func87, Tryz.ntmps87
  go_wp2
  go_ret
  exact ⟨by simp, rfl⟩
theorem ccmpU_any (x y : Int) (W : World) : Calls Tryz.prog 63 #[.int .u64 x, .int .u64 y] W fun e w' => e = .returned (.int .i64 (cmpI x y)) ∧ w' = W := by
  have cN := fun x w => isnanU_any x w
  unfold cmpI
  by_cases h1 : x < y
  · rw [if_pos h1]
    go_enter Tryz.func63, Tryz.ntmps63
    go_wp2_with (go_at_call 87; refine (cN _ _).mono ?_; rintro e w2 ⟨rfl, rfl⟩)
    go_ret
    exact ⟨rfl, rfl⟩
  · rw [if_neg h1]
    by_cases h2 : y < x
    · rw [if_pos h2]
      go_enter Tryz.func63, Tryz.ntmps63
      go_wp2_with (go_at_call 87; refine (cN _ _).mono ?_; rintro e w2 ⟨rfl, rfl⟩)
      go_ret
      exact ⟨rfl, rfl⟩
    · rw [if_neg h2]
      go_enter Tryz.func63, Tryz.ntmps63
      go_wp2_with (go_at_call 87; refine (cN _ _).mono ?_; rintro e w2 ⟨rfl, rfl⟩)
      go_ret
      exact ⟨rfl, rfl⟩
set_option maxRecDepth 8000 in
theorem cor_any {ao : Option Addr} {cap : Nat} (l : List Int) (hl : l.length ≤ 100) (W : World) (h : It .i64 W ao cap l) : Calls Tryz.prog 62 #[.slice ao l.length cap] W fun e w' => e = .returned (.int .i64 (firstNZ l)) ∧ w' = W := by
  obtain ⟨n, hn⟩ : ∃ n, n = l.length := ⟨_, rfl⟩
  rw [← hn] at hl ⊢
  replace hn := Lib.hid hn
  obtain ⟨z, hz⟩ : ∃ z, z = firstNZ l := ⟨_, rfl⟩
  rw [← hz]
  have hz' : Hid (firstNZ (l.drop 0) = z) := Lib.hid hz.symm
  clear hz
  go_enter Tryz.func62, Tryz.ntmps62
  go_wp2_with fail
  go_loopg [8] n (fun j p3 wr => ∃ q : Nat, q + j = n ∧ p3 = .int .i64 (q : Int) ∧ wr = W ∧ Hid (firstNZ (l.drop q) = z))
  case atStart => exact ⟨0, by omega, rfl, rfl, hz'⟩
  case round =>
    clear hz'
    obtain ⟨q, hqj, rfl, rfl, hq⟩ := hrel
    by_cases hqn : q < n
    · obtain ⟨x, hx⟩ : ∃ x, l[q]? = some x := ⟨_, List.getElem?_eq_getElem (by rw [← hn.out]; exact hqn)⟩
      obtain ⟨b1, o1, rfl, y1⟩ := h.get hx
      have u1 := y1 wr (Below.refl _ _)
      have hql : (q : Int) < (n : Int) := by omega
      have hd := firstNZ_drop hx
      rw [hq.out] at hd
      by_cases g : x = 0
      · rw [if_pos g] at hd
        have e1 : (x != 0) = false := by simp [g]
        have hd' := Lib.hid hd.symm
        clear h hx hq y1 hd g
        go_wp2_with fail
        go_roundg (n - (q + 1))
        case measure => omega
        case rel => exact ⟨q + 1, by omega, by go_num, rfl, hd'⟩
      · rw [if_neg g] at hd
        have e1 : (x != 0) = true := by simp [g]
        have hd' := Lib.hid hd
        clear h hx hq y1 hd g
        go_wp2_with fail
        go_ret
        exact ⟨by rw [hd'.out]; rfl, rfl⟩
    · have e : q = n := by omega
      subst e
      have hql : ¬ (q : Int) < (q : Int) := by omega
      have hp : Hid (0 = z) := Lib.hid (by rw [← hq.out, hn.out, List.drop_length]; rfl)
      clear hq hn h
      go_wp2_with fail
      go_ret
      exact ⟨by rw [← hp.out]; rfl, rfl⟩
theorem dist_any (a b : Int) (ha : 0 ≤ a ∧ a ≤ 1099511627776) (hb : 0 ≤ b ∧ b ≤ 1099511627776) (w : World) : Calls Tryz.prog 64 #[.int .i64 a, .int .i64 b] w fun e w' => e = .returned (.int .u64 (farI a b)) ∧ w' = w := by
  obtain ⟨a1, a2⟩ := ha
  obtain ⟨b1, b2⟩ := hb
  unfold farI
  by_cases h : b < a
  · rw [if_pos h]
    have x1 := vmax_fact a b a (by rw [if_neg (by omega)])
    have x2 := vmin_fact a b b (by rw [if_pos h])
    go_enter Tryz.func64, Tryz.ntmps64
    go_wp2
    all_goals first | (exfalso; omega) | (go_ret; first | exact ⟨rfl, rfl⟩ | exact ⟨congrArg (fun z => Ending.returned (.int .u64 z)) (by omega), rfl⟩)
  · rw [if_neg h]
    have x1 := vmax_fact a b b (by split <;> omega)
    have x2 := vmin_fact a b a (by rw [if_neg h])
    go_enter Tryz.func64, Tryz.ntmps64
    go_wp2
    all_goals first | (exfalso; omega) | (go_ret; first | exact ⟨rfl, rfl⟩ | exact ⟨congrArg (fun z => Ending.returned (.int .u64 z)) (by omega), rfl⟩)
theorem It.row {w : World} {n : Nat} {T : TypeId} {l : List Int} {cs : Array Value} (h : Blk w n T cs) (hc : cs.toList = l.map (Value.int .i64)) (hl : l.length ≤ 100) (hw : ∀ z ∈ l, In64 z) : It .i64 w (some ⟨n, 0, none⟩) l.length l := by
  refine ⟨Nat.le_refl _, by unfold maxLen; omega, fun e => (by cases e), fun z hz => ?_, .inr ⟨n, 0, rfl, fun i z hi => ?_⟩⟩
  · obtain ⟨h1, h2⟩ := hw z hz
    simp [Lit.wf]
    exact ⟨by show (-9223372036854775808 : Int) ≤ z; omega, by omega⟩
  · rw [Nat.zero_add]
    refine h.cell_eq i _ ?_
    rw [← Array.getElem?_toList, hc, List.getElem?_map, hi]
    rfl
set_option maxRecDepth 8000 in
set_option maxHeartbeats 8000000 in
theorem ccomp_any (a b : Prc) (r : Int) (ha : 0 ≤ a.price ∧ a.price ≤ 1099511627776) (hb : 0 ≤ b.price ∧ b.price ≤ 1099511627776) (hr : 0 ≤ r ∧ r ≤ 1099511627776) (W : World) : Calls Tryz.prog 32 #[vPrc a, vPrc b, .int .i64 r] W fun e w' => e = .returned (.int .i64 (cmpP a b r)) ∧ Below W.heap.size W w' := by
  obtain ⟨W1, hW1⟩ : ∃ W1, W1 = (W.alloc (.cells (cPrc a) 32)).alloc (.cells (cPrc b) 32) := ⟨_, rfl⟩
  have m1 : Mem W [(W.heap.size + 1, 32, cPrc b), (W.heap.size, 32, cPrc a)] W1 := by
    rw [hW1]
    exact ((Mem.start W).new _ _).new' _ _ (by simp)
  have hA := m1.blk W.heap.size 32 (cPrc a) (by simp)
  have hB := m1.blk (W.heap.size + 1) 32 (cPrc b) (by simp)
  have hb1 := m1.below
  have hC := fun w (h : Below W1.heap.size W1 w) => (⟨Prc.cells (hA.below h hA.lt), Prc.cells (hB.below h hB.lt)⟩ : _ ∧ _)
  have lift : ∀ {f : FuncId} {args : Array Value} {v : Value} {w : World}, (Calls Tryz.prog f args w fun e w' => e = .returned v ∧ w' = w) → Calls Tryz.prog f args w fun e w' => e = .returned v ∧ Below w.heap.size w w' := fun h => h.mono fun e w' g => ⟨g.1, by rw [g.2]; exact Below.refl _ _⟩
  have c1 := fun w => lift (ccmp_any b.volume a.volume w)
  have c2 := fun w => lift (ccmp_any a.odds b.odds w)
  have d1 := fun w => lift (dist_any a.price r ha hr w)
  have d2 := fun w => lift (dist_any b.price r hb hr w)
  have c3 := fun w => lift (ccmpU_any (farI a.price r) (farI b.price r) w)
  have c4 := fun w => lift (ccmp_any a.price b.price w)
  have i64 : ∀ x y, In64 (cmpI x y) := fun x y => by rcases cmpI_cases x y with ⟨-, e⟩ | ⟨-, e⟩ | ⟨-, e⟩ <;> rw [e] <;> exact ⟨by omega, by omega⟩
  have q1 := i64 b.volume a.volume
  have q2 := i64 a.odds b.odds
  have q3 := i64 (farI a.price r) (farI b.price r)
  have q4 := i64 a.price b.price
  unfold cmpP
  generalize cmpI b.volume a.volume = k1 at *
  generalize cmpI a.odds b.odds = k2 at *
  generalize cmpI (farI a.price r) (farI b.price r) = k3 at *
  generalize cmpI a.price b.price = k4 at *
  generalize farI a.price r = fa at *
  generalize farI b.price r = fb at *
  have hrow : ∀ w : World, It .i64 (w.alloc (.cells #[.int .i64 k1, .int .i64 k2, .int .i64 k3, .int .i64 k4] 3)) (some ⟨w.heap.size, 0, none⟩) 4 [k1, k2, k3, k4] := fun w =>
    It.row (l := [k1, k2, k3, k4]) (Blk.new w 3 _) rfl (by simp) (fun z hz => by
      simp only [List.mem_cons, List.not_mem_nil, or_false] at hz
      rcases hz with rfl | rfl | rfl | rfl <;> assumption)
  have cO : ∀ (w : World) (p : Addr), It .i64 w (some p) 4 [k1, k2, k3, k4] → Calls Tryz.prog 62 #[.slice (some p) 4 4] w fun e w' => e = .returned (.int .i64 (firstNZ [k1, k2, k3, k4])) ∧ Below w.heap.size w w' := fun w p h => lift (cor_any [k1, k2, k3, k4] (by simp) w h)
  generalize firstNZ [k1, k2, k3, k4] = z at *
  clear hA hB m1 ha hb hr i64 q1 q2 q3 q4 lift
  obtain ⟨ap, av, ao⟩ := a
  obtain ⟨bp, bv, bo⟩ := b
  simp only at c1 c2 c4 d1 d2 hC
  simp only [vPrc, cPrc] at hW1 ⊢
  go_enter Tryz.func32, Tryz.ntmps32
  go_wp2_with (first | (rw [← hW1]; clear hW1) | fail)
  refine GoL.start (S := fun _ w => Below W1.heap.size W1 w) (by kernel_rfl) (Below.refl _ _).drew ?_
  have hS : Below W1.heap.size W1 W1.drew := (Below.refl _ _).drew
  refine GoL.take (i := 0) (v := ?_) rfl rfl (by kernel_rfl) (fun _ _ _ h => h) (fun _ _ => Iff.rfl) (by rfl) ?_ ?_
  rotate_left
  · intro wx hwx
    have hwx := Wi.at' hwx
    go_simp
    all_goals first
      | done
      | with_reducible rfl
      | assumption
      | (simp_all; done)
  try simp only [Act.put, List.setIfInBounds_toArray, List.set_cons_zero, List.set_cons_succ, List.getElem_toArray, List.getElem_cons_zero, List.getElem_cons_succ]
  refine GoL.take (i := 1) (v := ?_) rfl rfl (by kernel_rfl) (fun _ _ _ h => h) (fun _ _ => Iff.rfl) (by rfl) ?_ ?_
  rotate_left
  · intro wx hwx
    have hwx := Wi.at' hwx
    obtain ⟨⟨a0, a1, a2⟩, b0, b1, b2⟩ := hC wx hwx
    go_simp
    all_goals first
      | done
      | with_reducible rfl
      | assumption
      | (simp_all; done)
  try simp only [Act.put, List.setIfInBounds_toArray, List.set_cons_zero, List.set_cons_succ, List.getElem_toArray, List.getElem_cons_zero, List.getElem_cons_succ]
  refine GoL.take (i := 2) (v := ?_) rfl rfl (by kernel_rfl) (fun _ _ _ h => h) (fun _ _ => Iff.rfl) (by rfl) ?_ ?_
  rotate_left
  · intro wx hwx
    have hwx := Wi.at' hwx
    go_simp
    all_goals first
      | done
      | with_reducible rfl
      | assumption
      | (simp_all; done)
  try simp only [Act.put, List.setIfInBounds_toArray, List.set_cons_zero, List.set_cons_succ, List.getElem_toArray, List.getElem_cons_zero, List.getElem_cons_succ]
  refine GoL.take (i := 3) (v := ?_) rfl rfl (by kernel_rfl) (fun _ _ _ h => h) (fun _ _ => Iff.rfl) (by rfl) ?_ ?_
  rotate_left
  · intro wx hwx
    have hwx := Wi.at' hwx
    obtain ⟨⟨a0, a1, a2⟩, b0, b1, b2⟩ := hC wx hwx
    go_simp
    all_goals first
      | done
      | with_reducible rfl
      | assumption
      | (simp_all; done)
  try simp only [Act.put, List.setIfInBounds_toArray, List.set_cons_zero, List.set_cons_succ, List.getElem_toArray, List.getElem_cons_zero, List.getElem_cons_succ]
  refine GoL.take (i := 5) (v := ?_) rfl rfl (by kernel_rfl) (fun _ _ _ h => h) (fun _ _ => Iff.rfl) (by rfl) ?_ ?_
  rotate_left
  · intro wx hwx
    have hwx := Wi.at' hwx
    go_simp
    all_goals first
      | done
      | with_reducible rfl
      | assumption
      | (simp_all; done)
  try simp only [Act.put, List.setIfInBounds_toArray, List.set_cons_zero, List.set_cons_succ, List.getElem_toArray, List.getElem_cons_zero, List.getElem_cons_succ]
  refine GoL.take (i := 6) (v := ?_) rfl rfl (by kernel_rfl) (fun _ _ _ h => h) (fun _ _ => Iff.rfl) (by rfl) ?_ ?_
  rotate_left
  · intro wx hwx
    have hwx := Wi.at' hwx
    obtain ⟨⟨a0, a1, a2⟩, b0, b1, b2⟩ := hC wx hwx
    go_simp
    all_goals first
      | done
      | with_reducible rfl
      | assumption
      | (simp_all; done)
  try simp only [Act.put, List.setIfInBounds_toArray, List.set_cons_zero, List.set_cons_succ, List.getElem_toArray, List.getElem_cons_zero, List.getElem_cons_succ]
  refine GoL.take (i := 7) (v := ?_) rfl rfl (by kernel_rfl) (fun _ _ _ h => h) (fun _ _ => Iff.rfl) (by rfl) ?_ ?_
  rotate_left
  · intro wx hwx
    have hwx := Wi.at' hwx
    go_simp
    all_goals first
      | done
      | with_reducible rfl
      | assumption
      | (simp_all; done)
  try simp only [Act.put, List.setIfInBounds_toArray, List.set_cons_zero, List.set_cons_succ, List.getElem_toArray, List.getElem_cons_zero, List.getElem_cons_succ]
  refine GoL.take (i := 8) (v := ?_) rfl rfl (by kernel_rfl) (fun _ _ _ h => h) (fun _ _ => Iff.rfl) (by rfl) ?_ ?_
  rotate_left
  · intro wx hwx
    have hwx := Wi.at' hwx
    obtain ⟨⟨a0, a1, a2⟩, b0, b1, b2⟩ := hC wx hwx
    go_simp
    all_goals first
      | done
      | with_reducible rfl
      | assumption
      | (simp_all; done)
  try simp only [Act.put, List.setIfInBounds_toArray, List.set_cons_zero, List.set_cons_succ, List.getElem_toArray, List.getElem_cons_zero, List.getElem_cons_succ]
  refine GoL.take (i := 10) (v := ?_) rfl rfl (by kernel_rfl) (fun _ _ _ h => h) (fun _ _ => Iff.rfl) (by rfl) ?_ ?_
  rotate_left
  · intro wx hwx
    have hwx := Wi.at' hwx
    go_simp
    all_goals first
      | done
      | with_reducible rfl
      | assumption
      | (simp_all; done)
  try simp only [Act.put, List.setIfInBounds_toArray, List.set_cons_zero, List.set_cons_succ, List.getElem_toArray, List.getElem_cons_zero, List.getElem_cons_succ]
  refine GoL.take (i := 11) (v := ?_) rfl rfl (by kernel_rfl) (fun _ _ _ h => h) (fun _ _ => Iff.rfl) (by rfl) ?_ ?_
  rotate_left
  · intro wx hwx
    have hwx := Wi.at' hwx
    obtain ⟨⟨a0, a1, a2⟩, b0, b1, b2⟩ := hC wx hwx
    go_simp
    all_goals first
      | done
      | with_reducible rfl
      | assumption
      | (simp_all; done)
  try simp only [Act.put, List.setIfInBounds_toArray, List.set_cons_zero, List.set_cons_succ, List.getElem_toArray, List.getElem_cons_zero, List.getElem_cons_succ]
  refine GoL.take (i := 12) (v := ?_) rfl rfl (by kernel_rfl) (fun _ _ _ h => h) (fun _ _ => Iff.rfl) (by rfl) ?_ ?_
  rotate_left
  · intro wx hwx
    have hwx := Wi.at' hwx
    go_simp
    all_goals first
      | done
      | with_reducible rfl
      | assumption
      | (simp_all; done)
  try simp only [Act.put, List.setIfInBounds_toArray, List.set_cons_zero, List.set_cons_succ, List.getElem_toArray, List.getElem_cons_zero, List.getElem_cons_succ]
  refine GoL.take (i := 14) (v := ?_) rfl rfl (by kernel_rfl) (fun _ _ _ h => h) (fun _ _ => Iff.rfl) (by rfl) ?_ ?_
  rotate_left
  · intro wx hwx
    have hwx := Wi.at' hwx
    go_simp
    all_goals first
      | done
      | with_reducible rfl
      | assumption
      | (simp_all; done)
  try simp only [Act.put, List.setIfInBounds_toArray, List.set_cons_zero, List.set_cons_succ, List.getElem_toArray, List.getElem_cons_zero, List.getElem_cons_succ]
  refine GoL.take (i := 15) (v := ?_) rfl rfl (by kernel_rfl) (fun _ _ _ h => h) (fun _ _ => Iff.rfl) (by rfl) ?_ ?_
  rotate_left
  · intro wx hwx
    have hwx := Wi.at' hwx
    obtain ⟨⟨a0, a1, a2⟩, b0, b1, b2⟩ := hC wx hwx
    go_simp
    all_goals first
      | done
      | with_reducible rfl
      | assumption
      | (simp_all; done)
  try simp only [Act.put, List.setIfInBounds_toArray, List.set_cons_zero, List.set_cons_succ, List.getElem_toArray, List.getElem_cons_zero, List.getElem_cons_succ]
  refine GoL.take (i := 16) (v := ?_) rfl rfl (by kernel_rfl) (fun _ _ _ h => h) (fun _ _ => Iff.rfl) (by rfl) ?_ ?_
  rotate_left
  · intro wx hwx
    have hwx := Wi.at' hwx
    go_simp
    all_goals first
      | done
      | with_reducible rfl
      | assumption
      | (simp_all; done)
  try simp only [Act.put, List.setIfInBounds_toArray, List.set_cons_zero, List.set_cons_succ, List.getElem_toArray, List.getElem_cons_zero, List.getElem_cons_succ]
  refine GoL.take (i := 19) (v := ?_) rfl rfl (by kernel_rfl) (fun _ _ _ h => h) (fun _ _ => Iff.rfl) (by rfl) ?_ ?_
  rotate_left
  · intro wx hwx
    have hwx := Wi.at' hwx
    go_simp
    all_goals first
      | done
      | with_reducible rfl
      | assumption
      | (simp_all; done)
  try simp only [Act.put, List.setIfInBounds_toArray, List.set_cons_zero, List.set_cons_succ, List.getElem_toArray, List.getElem_cons_zero, List.getElem_cons_succ]
  refine GoL.take (i := 20) (v := ?_) rfl rfl (by kernel_rfl) (fun _ _ _ h => h) (fun _ _ => Iff.rfl) (by rfl) ?_ ?_
  rotate_left
  · intro wx hwx
    have hwx := Wi.at' hwx
    obtain ⟨⟨a0, a1, a2⟩, b0, b1, b2⟩ := hC wx hwx
    go_simp
    all_goals first
      | done
      | with_reducible rfl
      | assumption
      | (simp_all; done)
  try simp only [Act.put, List.setIfInBounds_toArray, List.set_cons_zero, List.set_cons_succ, List.getElem_toArray, List.getElem_cons_zero, List.getElem_cons_succ]
  refine GoL.take (i := 21) (v := ?_) rfl rfl (by kernel_rfl) (fun _ _ _ h => h) (fun _ _ => Iff.rfl) (by rfl) ?_ ?_
  rotate_left
  · intro wx hwx
    have hwx := Wi.at' hwx
    go_simp
    all_goals first
      | done
      | with_reducible rfl
      | assumption
      | (simp_all; done)
  try simp only [Act.put, List.setIfInBounds_toArray, List.set_cons_zero, List.set_cons_succ, List.getElem_toArray, List.getElem_cons_zero, List.getElem_cons_succ]
  refine GoL.take (i := 22) (v := ?_) rfl rfl (by kernel_rfl) (fun _ _ _ h => h) (fun _ _ => Iff.rfl) (by rfl) ?_ ?_
  rotate_left
  · intro wx hwx
    have hwx := Wi.at' hwx
    obtain ⟨⟨a0, a1, a2⟩, b0, b1, b2⟩ := hC wx hwx
    go_simp
    all_goals first
      | done
      | with_reducible rfl
      | assumption
      | (simp_all; done)
  try simp only [Act.put, List.setIfInBounds_toArray, List.set_cons_zero, List.set_cons_succ, List.getElem_toArray, List.getElem_cons_zero, List.getElem_cons_succ]
  refine GoL.on (rs := [4]) (by kernel_rfl) (by decide) ?_
  refine OnL.cons rfl ?_ OnL.nil
  intro K hK
  replace hK := Lib.hid hK
  go_simp
  refine (c1 _).mono ?_
  rintro e w1 ⟨rfl, hbx⟩
  have hS := hS.trans (hbx.mono hS.size)
  clear hbx
  refine hK.out _ _ hS ?_
  clear hK
  try simp only [Act.put, List.setIfInBounds_toArray, List.set_cons_zero, List.set_cons_succ, List.getElem_toArray, List.getElem_cons_zero, List.getElem_cons_succ]
  refine GoL.on (rs := [9]) (by kernel_rfl) (by decide) ?_
  refine OnL.cons rfl ?_ OnL.nil
  intro K hK
  replace hK := Lib.hid hK
  go_simp
  refine (c2 _).mono ?_
  rintro e w2 ⟨rfl, hbx⟩
  have hS := hS.trans (hbx.mono hS.size)
  clear hbx
  refine hK.out _ _ hS ?_
  clear hK
  try simp only [Act.put, List.setIfInBounds_toArray, List.set_cons_zero, List.set_cons_succ, List.getElem_toArray, List.getElem_cons_zero, List.getElem_cons_succ]
  refine GoL.on (rs := [13]) (by kernel_rfl) (by decide) ?_
  refine OnL.cons rfl ?_ OnL.nil
  intro K hK
  replace hK := Lib.hid hK
  go_simp
  refine (d1 _).mono ?_
  rintro e w3 ⟨rfl, hbx⟩
  have hS := hS.trans (hbx.mono hS.size)
  clear hbx
  refine hK.out _ _ hS ?_
  clear hK
  try simp only [Act.put, List.setIfInBounds_toArray, List.set_cons_zero, List.set_cons_succ, List.getElem_toArray, List.getElem_cons_zero, List.getElem_cons_succ]
  refine GoL.on (rs := [17]) (by kernel_rfl) (by decide) ?_
  refine OnL.cons rfl ?_ OnL.nil
  intro K hK
  replace hK := Lib.hid hK
  go_simp
  refine (d2 _).mono ?_
  rintro e w4 ⟨rfl, hbx⟩
  have hS := hS.trans (hbx.mono hS.size)
  clear hbx
  refine hK.out _ _ hS ?_
  clear hK
  try simp only [Act.put, List.setIfInBounds_toArray, List.set_cons_zero, List.set_cons_succ, List.getElem_toArray, List.getElem_cons_zero, List.getElem_cons_succ]
  refine GoL.on (rs := [18]) (by kernel_rfl) (by decide) ?_
  refine OnL.cons rfl ?_ OnL.nil
  intro K hK
  replace hK := Lib.hid hK
  go_simp
  refine (c3 _).mono ?_
  rintro e w5 ⟨rfl, hbx⟩
  have hS := hS.trans (hbx.mono hS.size)
  clear hbx
  refine hK.out _ _ hS ?_
  clear hK
  try simp only [Act.put, List.setIfInBounds_toArray, List.set_cons_zero, List.set_cons_succ, List.getElem_toArray, List.getElem_cons_zero, List.getElem_cons_succ]
  refine GoL.on (rs := [23]) (by kernel_rfl) (by decide) ?_
  refine OnL.cons rfl ?_ OnL.nil
  intro K hK
  replace hK := Lib.hid hK
  go_simp
  refine (c4 _).mono ?_
  rintro e w6 ⟨rfl, hbx⟩
  have hS := hS.trans (hbx.mono hS.size)
  clear hbx
  refine hK.out _ _ hS ?_
  clear hK
  try simp only [Act.put, List.setIfInBounds_toArray, List.set_cons_zero, List.set_cons_succ, List.getElem_toArray, List.getElem_cons_zero, List.getElem_cons_succ]
  refine GoL.on (rs := [24]) (by kernel_rfl) (by decide) ?_
  refine OnL.cons rfl ?_ OnL.nil
  intro K hK
  replace hK := Lib.hid hK
  have hIt := hrow w6
  go_simp
  have hS := hS.trans ((Below.refl w6.heap.size w6).alloc (Nat.le_refl _) (.cells #[.int .i64 k1, .int .i64 k2, .int .i64 k3, .int .i64 k4] 3) |>.mono hS.size)
  refine hK.out _ _ hS ?_
  clear hK
  try simp only [Act.put, List.setIfInBounds_toArray, List.set_cons_zero, List.set_cons_succ, List.getElem_toArray, List.getElem_cons_zero, List.getElem_cons_succ]
  refine GoL.on (rs := [25]) (by kernel_rfl) (by decide) ?_
  refine OnL.cons rfl ?_ OnL.nil
  intro K hK
  replace hK := Lib.hid hK
  go_simp
  refine (cO _ _ hIt).mono ?_
  rintro e w7 ⟨rfl, hbx⟩
  have hS := hS.trans (hbx.mono hS.size)
  clear hbx
  refine hK.out _ _ hS ?_
  clear hK
  try simp only [Act.put, List.setIfInBounds_toArray, List.set_cons_zero, List.set_cons_succ, List.getElem_toArray, List.getElem_cons_zero, List.getElem_cons_succ]
  refine GoL.take (i := 26) (v := ?_) rfl rfl (by kernel_rfl) (fun _ _ _ h => h) (fun _ _ => Iff.rfl) (by rfl) ?_ ?_
  rotate_left
  · intro wx hwx
    have hwx := Wi.at' hwx
    go_simp
    all_goals first
      | done
      | with_reducible rfl
      | assumption
      | (simp_all; done)
  try simp only [Act.put, List.setIfInBounds_toArray, List.set_cons_zero, List.set_cons_succ, List.getElem_toArray, List.getElem_cons_zero, List.getElem_cons_succ]
  refine GoL.done (by kernel_rfl) ?_
  refine NoPanic.normal ?_
  have hfin := hb1.trans (hS.mono hb1.size)
  clear hS hIt
  go_wp2_with fail
  go_ret
  exact ⟨rfl, hfin⟩
set_option maxRecDepth 8000 in
theorem cl_less (x y : Prc) (r : Int) (hx : 0 ≤ x.price ∧ x.price ≤ 1099511627776) (hy : 0 ≤ y.price ∧ y.price ≤ 1099511627776) (hr : 0 ≤ r ∧ r ≤ 1099511627776) (W : World) : Calls Tryz.prog 18 #[vPrc x, vPrc y, .int .i64 r] W fun e w' => e = .returned (.bool (lessP x y r)) ∧ Below W.heap.size W w' := by
  obtain ⟨W1, hW1⟩ : ∃ W1, W1 = (W.alloc (.cells (cPrc x) 32)).alloc (.cells (cPrc y) 32) := ⟨_, rfl⟩
  have m1 : Mem W [(W.heap.size + 1, 32, cPrc y), (W.heap.size, 32, cPrc x)] W1 := by
    rw [hW1]
    exact ((Mem.start W).new _ _).new' _ _ (by simp)
  obtain ⟨a0, a1, a2⟩ := Prc.cells (m1.blk W.heap.size 32 (cPrc x) (by simp))
  obtain ⟨b0, b1, b2⟩ := Prc.cells (m1.blk (W.heap.size + 1) 32 (cPrc y) (by simp))
  have hb1 := m1.below
  have cC := ccomp_any x y r hx hy hr W1
  have hd := cmpP_lt x y r
  generalize cmpP x y r = z at *
  generalize lessP x y r = t at *
  clear m1 hx hy hr
  obtain ⟨ap, av, ao⟩ := x
  obtain ⟨bp, bv, bo⟩ := y
  simp only at a0 a1 a2 b0 b1 b2
  simp only [vPrc, cPrc] at hW1 cC ⊢
  go_enter Tryz.func18, Tryz.ntmps18
  go_wp2_with (first
    | (rw [← hW1]; clear hW1)
    | (go_at_call 32; refine cC.mono ?_; rintro e w2 ⟨rfl, hb2⟩; clear cC)
    | fail)
  go_ret
  exact ⟨by rw [← hd]; rfl, hb1.trans (hb2.mono hb1.size)⟩
end Go.Proofs.YtohenmnpmgghhaaGreatDoor
namespace Go.Proofs.YtohenmnpmgghhaaGreatDoor
open Go.RowKit
set_option linter.unusedSimpArgs false
set_option maxRecDepth 8000 in
theorem cch1_any (x y : Prc) (r : Int) (hx : 0 ≤ x.price ∧ x.price ≤ 1099511627776) (hy : 0 ≤ y.price ∧ y.price ≤ 1099511627776) (hr : 0 ≤ r ∧ r ≤ 1099511627776) {rb : Nat} {T : TypeId} (W : World) (h : Blk W rb T #[.int .i64 r]) : Calls Tryz.prog 31 #[vPrc x, vPrc y, .pointer (some ⟨rb, 0, none⟩)] W fun e w' => e = .returned (.int .i64 (cmpP x y r)) ∧ Below W.heap.size W w' := by
  obtain ⟨W1, hW1⟩ : ∃ W1, W1 = (W.alloc (.cells (cPrc x) 32)).alloc (.cells (cPrc y) 32) := ⟨_, rfl⟩
  have m1 : Mem W [(W.heap.size + 1, 32, cPrc y), (W.heap.size, 32, cPrc x)] W1 := by
    rw [hW1]
    exact ((Mem.start W).new _ _).new' _ _ (by simp)
  obtain ⟨a0, a1, a2⟩ := Prc.cells (m1.blk W.heap.size 32 (cPrc x) (by simp))
  obtain ⟨b0, b1, b2⟩ := Prc.cells (m1.blk (W.heap.size + 1) 32 (cPrc y) (by simp))
  have hb1 := m1.below
  have r0 := (h.below hb1 h.lt).cell_eq 0 _ rfl
  have cC := ccomp_any x y r hx hy hr W1
  generalize cmpP x y r = z at *
  clear m1 hx hy hr h
  obtain ⟨ap, av, ao⟩ := x
  obtain ⟨bp, bv, bo⟩ := y
  simp only at a0 a1 a2 b0 b1 b2
  simp only [vPrc, cPrc] at hW1 cC ⊢
  go_enter Tryz.func31, Tryz.ntmps31
  go_wp2_with (first
    | (rw [← hW1]; clear hW1)
    | (go_at_call 32; refine cC.mono ?_; rintro e w2 ⟨rfl, hb2⟩; clear cC)
    | fail)
  go_ret
  exact ⟨rfl, hb1.trans (hb2.mono hb1.size)⟩
set_option maxRecDepth 8000 in
set_option maxHeartbeats 8000000 in
theorem minf_any {ao : Option Addr} {cap rb : Nat} {T : TypeId} {q : List Prc} (r : Int) (W : World) (hq : Prcs W ao cap q) (h0 : 0 < q.length) (hl : q.length ≤ 600) (hp : ∀ p ∈ q, 0 ≤ p.price ∧ p.price ≤ 1099511627776) (hr : 0 ≤ r ∧ r ≤ 1099511627776) (hC : Blk W rb T #[.int .i64 r]) :
    Calls Tryz.prog 30 #[.slice ao q.length cap, .func (.func 31) #[] #[.pointer (some ⟨rb, 0, none⟩)]] W fun e w' => e = .returned (vPrc (mnI r q q.length)) ∧ Below W.heap.size W w' := by
  have hG : Goes 31 := goes_of Tryz.func31 (by kernel_rfl) (by kernel_rfl)
  obtain ⟨n, hn⟩ : ∃ n, n = q.length := ⟨_, rfl⟩
  obtain ⟨x, hx⟩ : ∃ x, q[0]? = some x := ⟨_, List.getElem?_eq_getElem h0⟩
  obtain ⟨z9, hz9⟩ : ∃ z, z = mnI r q n := ⟨_, rfl⟩
  have hm1 : Hid (x = mnI r q 1) := Lib.hid (mnI_one hx).symm
  have hmm : ∀ i, mnI r q i ∈ q := fun i => mnI_mem (List.ne_nil_of_mem (List.mem_of_getElem? hx))
  rw [← hn] at h0 hl ⊢
  rw [← hz9]
  replace hz9 := Lib.hid hz9
  replace hn := Lib.hid hn
  obtain ⟨V0, hV0⟩ : ∃ V0, V0 = W.alloc (.cells (cPrc .zero) 32) := ⟨_, rfl⟩
  have hb0 : Below W.heap.size W V0 := by rw [hV0]; exact (Below.refl _ _).alloc (Nat.le_refl _) _
  have hZ0 : Blk V0 W.heap.size 32 (cPrc .zero) := by rw [hV0]; exact Blk.new _ _ _
  have hs0 : Hid (V0.heap.size = W.heap.size + 1) := Lib.hid (by rw [hV0]; simp)
  obtain ⟨V1, hV1⟩ : ∃ V1, V1 = V0.alloc (.cells (cPrc x) 32) := ⟨_, rfl⟩
  have hb01 : Below V0.heap.size V0 V1 := by rw [hV1]; exact (Below.refl _ _).alloc (Nat.le_refl _) _
  have hX1 : Blk V1 V0.heap.size 32 (cPrc x) := by rw [hV1]; exact Blk.new _ _ _
  have hZ1 := hZ0.below hb01 hZ0.lt
  have hb1 := hb0.trans (hb01.mono hb0.size)
  obtain ⟨bb, off, rfl, u0, u1, u2⟩ := (hq.below hb0).get hx
  rw [Nat.zero_mul, Nat.add_zero] at u0 u1 u2
  replace u0 : V0.cell? ⟨bb, off, none⟩ = some (.int .i64 x.price) := u0
  have hn1 : ¬ (n : Int) < 1 := by omega
  have hst : Hid (Blk V1 V0.heap.size 32 (cPrc x)) := Lib.hid hX1
  clear hZ0 hb01 hX1 hx
  obtain ⟨xp, xv, xo⟩ := x
  simp only [cPrc, Prc.zero] at hV0 hV1 u0 u1 u2
  go_enter Tryz.func30, Tryz.ntmps30
  go_wp2_with (first
    | (rw [← hV0]; clear hV0)
    | (rw [← hV1]; clear hV1)
    | fail)
  clear u0 u1 u2
  go_loopg [6] n (fun j p6 wr => ∃ (i : Nat) (z : Prc), i ≤ n ∧ i + j = n + 1 ∧ 1 ≤ i ∧ p6 = .int .i64 (i : Int) ∧ Hid (z = mnI r q i) ∧ Blk wr V0.heap.size 32 (cPrc z) ∧ Blk wr W.heap.size 32 (cPrc .zero) ∧ Below W.heap.size W wr)
  case atStart => exact ⟨1, ⟨xp, xv, xo⟩, h0, by omega, Nat.le_refl _, rfl, hm1, hst.out, hZ1, hb1⟩
  case round =>
    clear hst hZ1 hb1 hm1 hb0
    obtain ⟨i, z, hile, hij, h1i, rfl, hz, hB, hZ, hbr⟩ := hrel
    by_cases hin : i < n
    · obtain ⟨p, hpi⟩ : ∃ p, q[i]? = some p := ⟨_, List.getElem?_eq_getElem (by rw [← hn.out]; exact hin)⟩
      have hil : (i : Int) < (n : Int) := by omega
      have hi0 : (0 : Int) ≤ (i : Int) := by omega
      have hpc := hp p (List.mem_of_getElem? hpi)
      have hzc : 0 ≤ z.price ∧ z.price ≤ 1099511627776 := by rw [hz.out]; exact hp _ (hmm i)
      have hnx := mnI_succ (r := r) h1i hpi
      rw [← hz.out] at hnx
      have cR : ∀ w, Below wr.heap.size wr w → Calls Tryz.prog 31 #[vPrc p, vPrc z, .pointer (some ⟨rb, 0, none⟩)] w fun e w' => e = .returned (.int .i64 (cmpP p z r)) ∧ Below wr.heap.size wr w' := fun w hw => by
        have hbw := hbr.trans (hw.mono hbr.size)
        exact (cch1_any p z r hpc hzc hr w (hC.below hbw hC.lt)).mono fun e w' h => ⟨h.1, hw.trans (h.2.mono hw.size)⟩
      have hcg := cmpP_lt p z r
      have hcell : ∀ w, Below wr.heap.size wr w → (w.cell? ⟨bb, off + i * 3, none⟩ = some (.int .i64 p.price) ∧ w.cell? ⟨bb, off + i * 3 + 1, none⟩ = some (.int .i64 p.volume) ∧ w.cell? ⟨bb, off + i * 3 + 2, none⟩ = some (.int .i64 p.odds)) ∧ w.cell? ⟨V0.heap.size, 0, none⟩ = some (.int .i64 z.price) ∧ w.cell? ⟨V0.heap.size, 1, none⟩ = some (.int .i64 z.volume) ∧ w.cell? ⟨V0.heap.size, 2, none⟩ = some (.int .i64 z.odds) := fun w hw => by
        obtain ⟨b2, o2, e, y0, y1, y2⟩ := (hq.below (hbr.trans (hw.mono hbr.size))).get hpi
        cases e
        exact ⟨⟨y0, y1, y2⟩, Prc.cells (hB.below hw hB.lt)⟩
      have hset : ∀ w, Below wr.heap.size wr w → (∀ k, w.frozen? ⟨V0.heap.size, k, none⟩ = false) ∧ ∃ V, V = ((w.setCell ⟨V0.heap.size, 0, none⟩ (.int .i64 p.price)).setCell ⟨V0.heap.size, 1, none⟩ (.int .i64 p.volume)).setCell ⟨V0.heap.size, 2, none⟩ (.int .i64 p.odds) ∧ Blk V V0.heap.size 32 (cPrc p) ∧ Blk V W.heap.size 32 (cPrc .zero) ∧ Below W.heap.size W V := fun w hw => by
        have h2 := hB.below hw hB.lt
        have hne : V0.heap.size ≠ W.heap.size := by rw [hs0.out]; omega
        exact ⟨h2.free, _, rfl, Prc.lay h2 _ _ _, ((hZ.below hw hZ.lt).other (a := ⟨V0.heap.size, 0, none⟩) hne _).other (a := ⟨V0.heap.size, 1, none⟩) hne _ |>.other (a := ⟨V0.heap.size, 2, none⟩) hne _, Prc.below (hbr.trans (hw.mono hbr.size)) (by rw [hs0.out]; omega) _ _ _⟩
      have hkeep : ∀ w, Below wr.heap.size wr w → Blk w V0.heap.size 32 (cPrc z) ∧ Blk w W.heap.size 32 (cPrc .zero) ∧ Below W.heap.size W w := fun w hw => ⟨hB.below hw hB.lt, hZ.below hw hZ.lt, hbr.trans (hw.mono hbr.size)⟩
      replace hset := Lib.hid hset
      replace hkeep := Lib.hid hkeep
      have hG1 := hG #[vPrc p, vPrc z, .pointer (some ⟨rb, 0, none⟩)]
      generalize cmpP p z r = c at *
      obtain ⟨g, hg⟩ : ∃ g, g = lessP p z r := ⟨_, rfl⟩
      rw [← hg] at hnx hcg
      replace hnx := Lib.hid hnx
      clear hg hp hpc hzc hz hB hZ hbr hC hq hmm hpi
      obtain ⟨pp, pv, po⟩ := p
      obtain ⟨zp, zv, zo⟩ := z
      simp only at hcell
      simp only [vPrc, cPrc] at cR hG1
      go_wp2_with fail
      refine wp_region_S (S := fun _ w => Below wr.heap.size wr w) (by kernel_rfl) (Below.refl _ _).drew ?_
      refine AllS.next (v := ?_) rfl rfl rfl (by kernel_rfl) ?_ ?_
      rotate_left
      · refine yieldsS_run (fun _ _ h => h) (by rfl) ?_
        intro L wx hS
        go_simp
        all_goals first
          | done
          | with_reducible rfl
          | assumption
          | (simp_all; done)
      try simp only [Act.put, List.setIfInBounds_toArray, List.set_cons_zero, List.set_cons_succ, List.getElem_toArray, List.getElem_cons_zero, List.getElem_cons_succ]
      refine AllS.next (v := ?_) rfl rfl rfl (by kernel_rfl) ?_ ?_
      rotate_left
      · refine yieldsS_run (fun _ _ h => h) (by rfl) ?_
        intro L wx hS
        go_simp
        all_goals first
          | done
          | with_reducible rfl
          | assumption
          | (simp_all; done)
      try simp only [Act.put, List.setIfInBounds_toArray, List.set_cons_zero, List.set_cons_succ, List.getElem_toArray, List.getElem_cons_zero, List.getElem_cons_succ]
      refine AllS.next (v := ?_) rfl rfl rfl (by kernel_rfl) ?_ ?_
      rotate_left
      · refine yieldsS_run (fun _ _ h => h) (by rfl) ?_
        intro L wx hS
        go_simp
        all_goals first
          | done
          | with_reducible rfl
          | assumption
          | (simp_all; done)
      try simp only [Act.put, List.setIfInBounds_toArray, List.set_cons_zero, List.set_cons_succ, List.getElem_toArray, List.getElem_cons_zero, List.getElem_cons_succ]
      refine AllS.next (v := ?_) rfl rfl rfl (by kernel_rfl) ?_ ?_
      rotate_left
      · refine yieldsS_run (fun _ _ h => h) (by rfl) ?_
        intro L wx hS
        go_simp
        all_goals first
          | done
          | with_reducible rfl
          | assumption
          | (simp_all; done)
      try simp only [Act.put, List.setIfInBounds_toArray, List.set_cons_zero, List.set_cons_succ, List.getElem_toArray, List.getElem_cons_zero, List.getElem_cons_succ]
      refine AllS.next (v := (.agg #[.int .i64 pp, .int .i64 pv, .int .i64 po])) rfl rfl rfl (by kernel_rfl) ?_ ?_
      · refine yieldsS_run (fun _ _ h => h) (by rfl) ?_
        intro L wx hS
        obtain ⟨⟨u0, u1, u2⟩, v0, v1, v2⟩ := hcell wx hS
        go_simp
        all_goals first
          | done
          | with_reducible rfl
          | assumption
          | (simp_all; done)
      try simp only [Act.put, List.setIfInBounds_toArray, List.set_cons_zero, List.set_cons_succ, List.getElem_toArray, List.getElem_cons_zero, List.getElem_cons_succ]
      refine AllS.next (v := (.agg #[.int .i64 zp, .int .i64 zv, .int .i64 zo])) rfl rfl rfl (by kernel_rfl) ?_ ?_
      · refine yieldsS_run (fun _ _ h => h) (by rfl) ?_
        intro L wx hS
        obtain ⟨⟨u0, u1, u2⟩, v0, v1, v2⟩ := hcell wx hS
        go_simp
        all_goals first
          | done
          | with_reducible rfl
          | assumption
          | (simp_all; done)
      try simp only [Act.put, List.setIfInBounds_toArray, List.set_cons_zero, List.set_cons_succ, List.getElem_toArray, List.getElem_cons_zero, List.getElem_cons_succ]
      refine AllS.next (v := (.int .i64 c)) rfl rfl rfl (by kernel_rfl) ?_ ?_
      · refine yieldsS_call (f := 31) (args := #[(.agg #[.int .i64 pp, .int .i64 pv, .int .i64 po]), (.agg #[.int .i64 zp, .int .i64 zv, .int .i64 zo]), .pointer (some ⟨rb, 0, none⟩)]) (by rfl) ?_ ?_
        · intro wx
          go_simp
          try with_reducible rfl
        · intro L wx hS
          exact cR wx hS
      try simp only [Act.put, List.setIfInBounds_toArray, List.set_cons_zero, List.set_cons_succ, List.getElem_toArray, List.getElem_cons_zero, List.getElem_cons_succ]
      refine AllS.next (v := (.bool g)) rfl rfl rfl (by kernel_rfl) ?_ ?_
      · refine yieldsS_run (fun _ _ h => h) (by rfl) ?_
        intro L wx hS
        have e1 := hcg
        go_simp
        all_goals first
          | done
          | with_reducible rfl
          | assumption
          | (simp_all; done)
      try simp only [Act.put, List.setIfInBounds_toArray, List.set_cons_zero, List.set_cons_succ, List.getElem_toArray, List.getElem_cons_zero, List.getElem_cons_succ]
      refine AllS.done (by kernel_rfl) ?_
      intro w9 hS9
      clear cR
      obtain ⟨⟨u0, u1, u2⟩, v0, v1, v2⟩ := hcell w9 hS9
      cases g with
      | true =>
        obtain ⟨hfz, V, hV, hV1, hV2, hV3⟩ := hset.out w9 hS9
        clear hset hkeep hcell hcg
        go_wp2_with (first | (rw [← hV]; clear hV) | fail)
        go_roundg (n - i)
        case measure => omega
        case rel => exact ⟨i + 1, ⟨pp, pv, po⟩, hin, by omega, by omega, by go_num, Lib.hid (by rw [hnx.out]; rfl), hV1, hV2, hV3⟩
      | false =>
        obtain ⟨hV1, hV2, hV3⟩ := hkeep.out w9 hS9
        clear hset hkeep hcell hcg
        go_wp2_with fail
        go_roundg (n - i)
        case measure => omega
        case rel => exact ⟨i + 1, ⟨zp, zv, zo⟩, hin, by omega, by omega, by go_num, Lib.hid (by rw [hnx.out]; rfl), hV1, hV2, hV3⟩
    · have e : i = n := by omega
      subst e
      have hil : ¬ (i : Int) < (i : Int) := by omega
      have hze : z = z9 := by rw [hz.out, hz9.out]
      subst hze
      obtain ⟨q0, q1, q2⟩ := Prc.cells hB
      obtain ⟨s0, s1, s2⟩ := Prc.cells (m := .zero) hZ
      have hfr := hZ.free
      obtain ⟨g0, g1, g2⟩ := Prc.cells (Prc.lay hZ z.price z.volume z.odds)
      have hf := Prc.below hbr (b := W.heap.size) (Nat.le_refl _) (.int .i64 z.price) (.int .i64 z.volume) (.int .i64 z.odds)
      simp only [Prc.zero] at s0 s1 s2
      clear hz hB hZ hbr hC hq hmm hp hz9 hr
      obtain ⟨zp, zv, zo⟩ := z
      simp only at q0 q1 q2 g0 g1 g2 hf
      go_wp2_with fail
      refine bodyPost_ret (v := .agg #[.int .i64 zp, .int .i64 zv, .int .i64 zo]) ?_ rfl ?_
      rotate_left
      · exact ⟨rfl, hf⟩
      simp [results, Tryz.results30, go_sem, g0, g1, g2]
end Go.Proofs.YtohenmnpmgghhaaGreatDoor
