/-
  The contract of package arena's New.
-/
import Derived.Test.YtbkdakabpmpiiaaArv
import Derived.Great.BuildSlice
namespace Go.Proofs.Ytbkdakabpmpiiaa
open Go.RowKit
/-- A new arena's cells, but for the links. -/
def zA (n : Int) : Array Value := (List.replicate 4000 (Value.int IntKind.i64 0) ++ [Value.int IntKind.i64 n, Value.int IntKind.i64 0, Value.int IntKind.i64 0]).toArray
set_option maxRecDepth 100000 in
theorem built_A (n : Int) : Try.prog.built 58 [(1, .int .i64 n)] = some (zA n) := by kernel_rfl
theorem rep_size (m : Nat) (v x y z : Value) : ((List.replicate m v ++ [x, y, z]).toArray).size = m + 3 := by simp
theorem rep_0 (m : Nat) (v x y z : Value) : ((List.replicate m v ++ [x, y, z]).toArray)[m]? = some x := by simp
theorem rep_1 (m : Nat) (v x y z : Value) : ((List.replicate m v ++ [x, y, z]).toArray)[m + 1]? = some y := by simp
theorem rep_2 (m : Nat) (v x y z : Value) : ((List.replicate m v ++ [x, y, z]).toArray)[m + 2]? = some z := by simp
theorem zA_size (n : Int) : (zA n).size = 4003 := rep_size 4000 _ _ _ _
theorem zA_n (n : Int) : (zA n)[4000]? = some (.int .i64 n) := rep_0 4000 _ _ _ _
theorem zA_u (n : Int) : (zA n)[4001]? = some (.int .i64 0) := rep_1 4000 _ _ _ _
theorem zA_f (n : Int) : (zA n)[4002]? = some (.int .i64 0) := rep_2 4000 _ _ _ _
theorem Ch.new {c : Array Value} {n : Nat} (hn : n ≤ 500) (h : ∀ j, j < n → c[j * 8 + 7]? = some (.int .i64 ((j : Int) + 1))) : ∀ (m k : Nat), k + m = n → Ch c (k : Int) (List.range' k m) := by
  intro m
  induction m with
  | zero => intro k hk; exact ⟨by omega, by omega⟩
  | succ m ih =>
    intro k hk
    rw [List.range'_succ]
    exact ⟨rfl, _, h k (by omega), by simpa using ih (k + 1) (by omega)⟩
theorem Arn.new {c : Array Value} {n : Nat} (hn : n ≤ 500) (hs : c.size = 4003) (h : ∀ j, j < n → c[j * 8 + 7]? = some (.int .i64 ((j : Int) + 1))) (hz : ∀ j, 4000 ≤ j → c[j]? = (zA (n : Int))[j]?) : Arn c (Ar.new n) := by
  refine ⟨Ar.new_wf n, hn, hs, by rw [hz _ (by omega)]; exact zA_n _, ?_, ?_, ?_, ⟨0, by rw [hz _ (by omega)]; exact zA_f _, ?_⟩⟩
  · rw [hz _ (by omega), zA_u]
    simp [Ar.used, Ar.new, List.count_replicate]
  · intro i o hi
    simp [Ar.new, List.getElem?_replicate] at hi
  · intro i hi
    simp [Ar.new, List.getElem?_replicate] at hi
  · have := Ch.new hn h n 0 (by omega)
    simpa [Ar.fr, Ar.new] using this
set_option maxRecDepth 8000 in
set_option maxHeartbeats 1000000 in
theorem newNo_any (x : Int) (h : x < 1 ∨ 500 < x) (W : World) :
    Calls Try.prog 8 #[.int .i64 x] W fun e w' => e = .returned (.tuple #[.pointer none, .int .i64 9]) ∧ w' = W := by
  by_cases h1 : x < 1
  · go_enter Try.func8, Try.ntmps8
    go_wp2_with fail
    all_goals go_ret2
    all_goals trivial
  · have h2 : 500 < x := by omega
    clear h
    go_enter Try.func8, Try.ntmps8
    go_wp2_with fail
    all_goals go_ret2
    all_goals trivial
set_option maxRecDepth 200000 in
set_option maxHeartbeats 1000000 in
theorem new_any (n : Nat) (h1 : 1 ≤ n) (h2 : n ≤ 500) (W : World) :
    Calls Try.prog 8 #[.int .i64 (n : Int)] W fun e w' => e = .returned (.tuple #[.pointer (some ⟨W.heap.size, 0, none⟩), .int .i64 0]) ∧ Below W.heap.size W w' ∧ ∃ c, Blk w' W.heap.size 58 c ∧ Arn c (Ar.new n) := by
  obtain ⟨W1, hW1⟩ : ∃ W1, W1 = W.alloc (.cells (zA (n : Int)) 58) := ⟨_, rfl⟩
  have hB1 : Blk W1 W.heap.size 58 (zA n) := by rw [hW1]; exact Blk.new _ _ _
  have hF1 : Below W.heap.size W W1 := by rw [hW1]; exact (Below.refl _ _).alloc (Nat.le_refl _) _
  obtain ⟨z, hz⟩ : ∃ z, z = zA n := ⟨_, rfl⟩
  rw [← hz] at hW1 hB1
  have hzs : z.size = 4003 := by rw [hz]; exact zA_size _
  have hbu := built_A n
  rw [← hz] at hbu
  have hbu' := Lib.hid hbu
  clear hbu
  have H := Lib.hid hz
  have HW := Lib.hid hW1
  clear hz hW1
  go_enter Try.func8, Try.ntmps8
  have hd1 : decide ((n : Int) < 1) = false := by simp; omega
  have hd2 : decide ((500 : Int) < (n : Int)) = false := by simp; omega
  go_wp2_with (refine wpList_buildTo rfl 58 _ rfl (some 13) rfl z ((congrArg (Program.built Try.prog 58) (show _ = [(1, Value.int IntKind.i64 (n : Int))] from by kernel_rfl)).trans hbu'.out) ?_)
  clear hbu' hd1 hd2
  rw [← HW.out]
  clear HW
  obtain ⟨g, hg⟩ : ∃ g, g = W.heap.size := ⟨_, rfl⟩
  rw [← hg] at hB1 hF1 ⊢
  have HG := Lib.hid hg
  clear hg
  go_loopw [5, 16] (fun _ p16 wr => ∃ (k : Nat) (c : Array Value), p16 = .int .i64 (k : Int) ∧ k ≤ n ∧ Blk wr g 58 c ∧ Hid (c.size = 4003) ∧ (∀ j, j < k → c[j * 8 + 7]? = some (.int .i64 ((j : Int) + 1))) ∧ (∀ j, 4000 ≤ j → c[j]? = z[j]?) ∧ Below g W wr)
    (fun _ p _ => n - (intOf p).toNat)
  case atStart => exact ⟨0, z, rfl, by omega, hB1, Lib.hid hzs, (fun j hj => by omega), fun _ _ => rfl, hF1⟩
  case round =>
    obtain ⟨k, c, rfl, hk, hBk, hck, hlk, hzk, hbk⟩ := hrel
    by_cases hkn : k < n
    · have hset := hBk.set (k * 8 + 7) (.int .i64 ((k : Int) + 1))
      have hbel := hbk.setCell (p := ⟨g, k * 8 + 7, none⟩) (Nat.le_refl _) (.int .i64 ((k : Int) + 1))
      have hex : ∃ v, wr.cell? ⟨g, k * 8 + 7, none⟩ = some v := ⟨_, hBk.cell_eq _ _ (Array.getElem?_eq_getElem (by rw [hck.out]; omega))⟩
      have hfz := hBk.free (k * 8 + 7)
      have h1' : ∀ j, j < k + 1 → (c.setIfInBounds (k * 8 + 7) (.int .i64 ((k : Int) + 1)))[j * 8 + 7]? = some (.int .i64 ((j : Int) + 1)) := by
        intro j hj
        rw [Array.getElem?_setIfInBounds]
        by_cases hjk : k = j
        · subst hjk; rw [if_pos rfl, if_pos (by rw [hck.out]; omega)]
        · rw [if_neg (by omega)]; exact hlk j (by omega)
      have h2' : ∀ j, 4000 ≤ j → (c.setIfInBounds (k * 8 + 7) (.int .i64 ((k : Int) + 1)))[j]? = z[j]? := by
        intro j hj
        rw [Array.getElem?_setIfInBounds, if_neg (by omega)]; exact hzk j hj
      have h3' : Hid ((c.setIfInBounds (k * 8 + 7) (.int .i64 ((k : Int) + 1))).size = 4003) := Lib.hid (by rw [Array.size_setIfInBounds]; exact hck.out)
      generalize c.setIfInBounds (k * 8 + 7) (.int .i64 ((k : Int) + 1)) = c' at *
      obtain ⟨v7, hex⟩ := hex
      have hlt2 : k < 500 := by omega
      clear hlk hzk hBk hbk hB1 hF1 hzs hck
      go_wp2
      go_roundw
      case rel => exact ⟨k + 1, c', by go_num, by omega, hset, h3', h1', h2', hbel⟩
      case measure => simp [intOf]; omega
    · have hkn2 : k = n := by omega
      rw [hkn2] at hlk hkn ⊢
      have hfin := Arn.new h2 hck.out hlk (fun j hj => by rw [hzk j hj, H.out])
      clear hlk hzk hck hzs hB1 hF1 hkn2
      go_wp2
      go_ret2
      rw [← HG.out]
      exact ⟨rfl, hbk, c, hBk, hfin⟩
end Go.Proofs.Ytbkdakabpmpiiaa
