/-
  The contract of the document's New; it also begins with nothing.
-/
import Derived.Test.YtipmhialflincaaDoorFru
import Derived.Test.YtipmhialflincaaDoorFrs
namespace Go.Proofs.YtipmhialflincaaDoor
open Go.RowKit
theorem infoSl : (Tryd.prog.info? 36).map (fun i => (i.zero, i.size, i.bytes)) = some (some (.slice none 0 0), 1, 24) := by kernel_rfl
theorem make_Sl (n : Nat) (hn : n ≤ 400) : ∀ w, (Instr.makeSlice 37 (.int .i64 (n : Int)) (.int .i64 (n : Int))).run Tryd.prog w = .ok (.slice (some ⟨w.heap.size, 0, none⟩) n n) (w.alloc (.cells (madeCells #[.slice none 0 0] n) 36)) := by
  intro w
  obtain ⟨i1, hi1, e1⟩ := Option.map_eq_some_iff.1 infoSl
  simp only [Prod.mk.injEq] at e1
  obtain ⟨hz1, hs1, hb1⟩ := e1
  have := run_make (P := Tryd.prog) w 37 36 i1 _ Tryd.underlying37 hi1 hz1 .i64 .i64 (n : Int) (n : Int) (by omega) (by omega) (by rw [hb1]; omega) (by omega)
  rw [hs1, Int.toNat_natCast, Nat.mul_one] at this
  exact this
theorem rnewNo_any (x y : Int) (h : x < 1 ∨ 500 < x ∨ y < 1 ∨ 400 < y) (W : World) :
    Calls Tryd.prog 9 #[.int .i64 x, .int .i64 y] W fun e w' => e = .returned (.tuple #[.pointer none, .int .i64 9]) ∧ w' = W := by
  by_cases h1 : x < 1
  · go_enter Tryd.func9, Tryd.ntmps9
    go_wp2_with fail
    all_goals go_ret2
    all_goals trivial
  · by_cases h2 : 500 < x
    · go_enter Tryd.func9, Tryd.ntmps9
      go_wp2_with fail
      all_goals go_ret2
      all_goals trivial
    · by_cases h3 : y < 1
      · clear h
        go_enter Tryd.func9, Tryd.ntmps9
        go_wp2_with fail
        all_goals go_ret2
        all_goals trivial
      · have h4 : 400 < y := by omega
        clear h
        go_enter Tryd.func9, Tryd.ntmps9
        go_wp2_with fail
        all_goals go_ret2
        all_goals trivial
theorem RQ.new {W : World} {n m : Nat} (hn : n ≤ 500) (hm : m ≤ 400) {c : Array Value} (hc : c = (List.replicate m (Value.slice none 0 0)).toArray) :
    RQ ((W.alloc (.cells c 36)).alloc (.cells #[.int .i64 (n : Int), .slice (some ⟨W.heap.size, 0, none⟩) m m] 39)) (W.heap.size + 1) (fun b => W.heap.size ≤ b ∧ b < W.heap.size + 2) (Fq.new n m) := by
  refine ⟨W.heap.size, c, Fq.new_wf n m, hn, by simpa [Fq.new] using hm, ?_, (Blk.new _ _ _).alloc _, by rw [hc]; simp [Fq.new], fun i q hi => ?_, by omega, by omega, by omega, fun b hb => by simp; omega⟩
  · have : (Fq.new n m).L.length = m := by simp [Fq.new]
    rw [this]
    exact Blk.new' (by simp)
  · simp only [Fq.new, List.getElem?_replicate] at hi
    split at hi
    · rename_i hlt
      cases hi
      exact ⟨none, 0, by rw [hc]; simp [hlt], It.nil _ _, fun b off e => by cases e⟩
    · cases hi
set_option maxRecDepth 8000 in
set_option maxHeartbeats 1000000 in
theorem rnew_any (n m : Nat) (h1 : 1 ≤ n) (h2 : n ≤ 500) (h3 : 1 ≤ m) (h4 : m ≤ 400) (W : World) :
    Calls Tryd.prog 9 #[.int .i64 (n : Int), .int .i64 (m : Int)] W fun e w' => e = .returned (.tuple #[.pointer (some ⟨W.heap.size + 1, 0, none⟩), .int .i64 0]) ∧ Below W.heap.size W w' ∧ RQ w' (W.heap.size + 1) (fun b => W.heap.size ≤ b ∧ b < W.heap.size + 2) (Fq.new n m) := by
  have mS := make_Sl m h4
  have hR := @RQ.new W n m h2 h4 _ (made_rep #[.slice none 0 0] (.slice none 0 0) (by simp) (fun r hr => by
    match r, hr with
    | 0, _ => rfl
    | r + 1, hr => exact absurd hr (by simp)) m)
  generalize madeCells #[.slice none 0 0] m = z at *
  have hb := ((Below.refl W.heap.size W).alloc (Nat.le_refl _) (.cells z 36)).alloc (by simp) (.cells #[.int .i64 (n : Int), .slice (some ⟨W.heap.size, 0, none⟩) m m] 39)
  have H := Lib.hid (And.intro hb hR)
  clear hb hR
  go_enter Tryd.func9, Tryd.ntmps9
  have hd1 : decide ((n : Int) < 1) = false := by simp; omega
  have hd2 : decide ((500 : Int) < (n : Int)) = false := by simp; omega
  have hd3 : decide ((m : Int) < 1) = false := by simp; omega
  have hd4 : decide ((400 : Int) < (m : Int)) = false := by simp; omega
  go_wp2_with fail
  go_ret2
  exact ⟨rfl, H.out⟩
end Go.Proofs.YtipmhialflincaaDoor
