/-
  slices.Grow of nil and slices.Concat of two slices of bytes.
-/
import Derived.Test.YtkoehchaehoogaaOctB
import Derived.Test.YtkoehchaehoogaaOpenB
import Derived.Lib.AppendZeros
namespace Go.Proofs.Ytkoehchaehoogaa
open Go.RowKit

theorem grow_any (n : Nat) (hn : n ≤ 4000000) (W : World) :
    Calls Try.prog 34 #[.slice none 0 0, .int .i64 (n : Int)] W fun e w' => ∃ ao cap k, e = .returned (.slice ao 0 cap) ∧ Ow w' k ao cap [] ∧ Below W.heap.size W w' ∧ W.heap.size ≤ k := by
  by_cases h0 : n = 0
  · subst h0
    go_enter Try.func34, Try.ntmps34
    go_wp2_with fail
    all_goals go_ret
    exact ⟨none, 0, W.heap.size, rfl, Ow.nil _ _, Below.refl _ _, Nat.le_refl _⟩
  · obtain ⟨i0, hi, hz0, hz1, hz2⟩ := info_parts infoU8
    have hr := Lib.run_append_nil_zeros (P := Try.prog) W 22 3 22 5 i0 (.int .u8 0) .i64 .i64 Try.underlying22 Try.underlying3 hi hz0 n (by omega) (by omega) (by omega) (by rw [hz2]; omega)
    have hge := grownCap_ge W n 0 5
    have hle := grownCap_le_maxLen W n 0 5 (by unfold maxLen; omega)
    generalize hcap : grownCap W n 0 5 = cap2 at hr hge hle
    generalize hZ : (Builtin.zeroCells (Value.int .u8 0).cells n ++ Builtin.zeroCells (Value.int .u8 0).cells (cap2 - n)) = Z at hr
    have hZs : Z.size = cap2 := by rw [← hZ]; simp [size_zeroCells, Value.cells]; omega
    have hm := hle
    unfold maxLen at hm
    clear hcap hZ
    have hO : Ow (W.drew.alloc (.cells Z 5)) W.heap.size (some ⟨W.heap.size, 0, none⟩) cap2 [] := by
      have := Ow.new W.drew Z [] (by simp [vs]) (Nat.zero_le _) (by rw [hZs]; exact hle) (by simp)
      rw [hZs] at this
      exact this
    go_enter Try.func34, Try.ntmps34
    go_wp2_with (at_builtin; refine Lib.wpList_append_run _ rfl _ _ _ _ rfl _ _ rfl rfl _ _ hr ?_)
    all_goals first
      | (exfalso; omega)
      | go_ret
    exact ⟨_, _, W.heap.size, rfl, hO, (Below.refl _ W).drew.alloc (by simp) _, Nat.le_refl _⟩
theorem concat_any (k1 c1 k2 c2 b : Nat) (a1 a2 : Option Addr) (xs ys : List Nat) (hx : xs.length ≤ 2000000) (hy : ys.length ≤ 2000000) (W : World) (hA : Bt W k1 a1 c1 xs) (hB : Bt W k2 a2 c2 ys) (hb : Blk W b 22 #[.slice a1 xs.length c1, .slice a2 ys.length c2]) :
    Calls Try.prog 30 #[.slice (some ⟨b, 0, none⟩) 2 2] W fun e w' => ∃ v, e = .returned v ∧ Fresh W w' v (xs ++ ys) := by
  have hC : ∀ w', Below W.heap.size W w' → Bt w' k1 a1 c1 xs ∧ Bt w' k2 a2 c2 ys ∧ w'.cell? ⟨b, 0, none⟩ = some (.slice a1 xs.length c1) ∧ w'.cell? ⟨b, 1, none⟩ = some (.slice a2 ys.length c2) := fun w' h =>
    ⟨hA.below h, hB.below h, (hb.below h hb.lt).cell_eq 0 _ rfl, (hb.below h hb.lt).cell_eq 1 _ rfl⟩
  obtain ⟨-, -, d0, d1⟩ := hC W (Below.refl _ _)
  have cG : ∀ n, n = xs.length + ys.length → Calls Try.prog 34 #[.slice none 0 0, .int .i64 (n : Int)] W _ := fun n h => grow_any n (by omega) W
  have cG' := cG _ rfl
  rw [Int.natCast_add] at cG'
  clear hA hB hb cG
  go_enter Try.func30, Try.ntmps30
  go_wp2_with fail
  go_loopg [3, 11] 2 (fun j p3 p11 wr => wr = W ∧ ∃ q n : Nat, q + j = 2 ∧ p11 = .int .i64 (q : Int) ∧ p3 = .int .i64 (n : Int) ∧ ((q = 0 ∧ n = 0) ∨ (q = 1 ∧ n = xs.length) ∨ (q = 2 ∧ n = xs.length + ys.length)))
  case atStart => exact ⟨rfl, 0, 0, by omega, rfl, rfl, by omega⟩
  case round =>
    obtain ⟨rfl, q, n, hq, rfl, rfl, (⟨rfl, rfl⟩ | ⟨rfl, rfl⟩ | ⟨rfl, rfl⟩)⟩ := hrel
    · go_wp2_with fail
      all_goals first
        | (exfalso; omega)
        | skip
      go_roundg 1
      case measure => omega
      case rel => exact ⟨rfl, 1, xs.length, by omega, by go_num, by go_num, by omega⟩
    · go_wp2_with fail
      all_goals first
        | (exfalso; omega)
        | skip
      go_roundg 0
      case measure => omega
      case rel => exact ⟨rfl, 2, xs.length + ys.length, by omega, by go_num, by go_num, by omega⟩
    · go_wp2_with (go_at_call 34; refine cG'.mono ?_; rintro e w1 ⟨ao, cap, k, rfl, hO, hb1, hk⟩)
      go_loopg [6, 8, 27] 2 (fun j p6 p8 p27 w2 => ∃ (q : Nat) (ao : Option Addr) (cap k : Nat) (zs : List Nat), q + j = 2 ∧ p27 = .int .i64 (q : Int) ∧ p6 = .slice ao zs.length cap ∧ Ow w2 k ao cap zs ∧ Below wr.heap.size wr w2 ∧ wr.heap.size ≤ k ∧ ((q = 0 ∧ zs = []) ∨ (q = 1 ∧ zs = xs) ∨ (q = 2 ∧ zs = xs ++ ys)))
      case atStart => exact ⟨0, ao, cap, k, [], by omega, rfl, rfl, hO, hb1, hk, by simp⟩
      case round =>
        obtain ⟨q, ao2, cap2, k2', zs, hq, rfl, rfl, hO, hb2, hk2, (⟨rfl, rfl⟩ | ⟨rfl, rfl⟩ | ⟨rfl, rfl⟩)⟩ := hrel
        · obtain ⟨hA, -, e0, e1⟩ := hC _ hb2
          go_wp2_with (at_builtin; refine wpList_app rfl (.tmp 31) (.tmp 32) rfl hO hA rfl rfl rfl rfl (by simp; omega) ?_; intro ao3 cap3 k3 w3 hO3 hf3 hk3)
          go_roundg 1
          case measure => omega
          case rel =>
            refine ⟨1, ao3, cap3, k3, xs, by omega, by go_num, by simp, by simpa using hO3, hb2.trans (hf3.below hb2.size (by rintro b rfl; exact hk2)), ?_, by simp⟩
            have := hb2.size
            rcases hk3 with rfl | hk3
            · exact hk2
            · omega
        · obtain ⟨-, hB, e0, e1⟩ := hC _ hb2
          go_wp2_with (at_builtin; refine wpList_app rfl (.tmp 31) (.tmp 32) rfl hO hB rfl rfl rfl rfl (by omega) ?_; intro ao3 cap3 k3 w3 hO3 hf3 hk3)
          go_roundg 0
          case measure => omega
          case rel =>
            refine ⟨2, ao3, cap3, k3, _ ++ ys, by omega, by go_num, by simp, hO3, hb2.trans (hf3.below hb2.size (by rintro b rfl; exact hk2)), ?_, by simp⟩
            have := hb2.size
            rcases hk3 with rfl | hk3
            · exact hk2
            · omega
        · go_wp2_with fail
          go_ret
          exact ⟨_, rfl, ao2, cap2, k2', by simp, hO.bt, hb2, hk2⟩
end Go.Proofs.Ytkoehchaehoogaa
