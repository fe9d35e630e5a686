/-
  The document's Num hands out a slice that owns its row.
-/
import Derived.Test.YthgegjoigkecpaaOctF
namespace Go.Proofs.Ythgegjoigkecpaa
open Go.RowKit
theorem refNum_own (n : Nat) (hn : n < 18446744073709551616) (W : World) :
    Calls Try.prog 45 #[.int .u64 (n : Int)] W fun e w' => ∃ ao cap k', e = .returned (.slice ao (num n).length cap) ∧ Ow w' k' ao cap (num n) ∧ Below W.heap.size W w' ∧ W.heap.size ≤ k' := by
  go_enter Try.func45, Try.ntmps45
  go_wp2_with fail
  go_loopg [0, 3] n (fun j p0 p3 wr => p0 = .int .u64 (j : Int) ∧ j < 18446744073709551616 ∧ ∃ k ao cap xs, p3 = .slice ao xs.length cap ∧ Hid (xs ++ num j = num n) ∧ Ow wr k ao cap xs ∧ Below W.heap.size W wr ∧ (k = W.heap.size ∨ W.heap.size ≤ k))
  case atStart => exact ⟨rfl, hn, W.heap.size, none, 0, [], rfl, rfl, Ow.nil _ _, Below.refl _ _, .inl rfl⟩
  case round =>
    obtain ⟨rfl, hj, k, ao, cap, xs, rfl, hz, ho, hbel, hk⟩ := hrel
    have hzl : xs.length ≤ 10 := by
      have h1 := congrArg List.length hz.out
      have h2 := num_ten hn
      rw [List.length_append] at h1
      omega
    have hk0 : W.heap.size ≤ k := by rcases hk with rfl | h <;> omega
    clear hk
    by_cases hs : gk < 128
    · have hz2 : Hid (xs ++ [gk] = num n) := by
        show _ = _
        rw [← hz.out, num_small hs]
      have hx8 : gk < 256 := by omega
      clear hz
      have hbel2 := hbel.alloc hbel.size (.cells #[.int .u8 (gk : Int)] 5)
      go_wp2_with (at_builtin; refine wpList_app rfl (.tmp 15) (.tmp 18) rfl (ho.alloc _) (Ow.one wr gk hx8).bt rfl rfl rfl rfl (by simp; omega) ?_; intro ao' cap' k2 w' ho' hf' hk2)
      go_ret
      have hb' := hbel2.trans (hf'.below (by have := hbel.size; simp; omega) (by rintro b rfl; exact hk0))
      rw [hz2.out] at ho'
      have hl := congrArg List.length hz2.out
      rw [List.length_append] at hl
      exact ⟨ao', cap', k2, by rw [← hl]; rfl, ho', hb', by have := hbel.size; simp at hk2; omega⟩
    · obtain ⟨y, hy⟩ : ∃ y, y = gk % 128 + 128 := ⟨_, rfl⟩
      obtain ⟨q, hq⟩ : ∃ q, q = gk / 128 := ⟨_, rfl⟩
      have hz2 : Hid ((xs ++ [y]) ++ num q = num n) := by
        show _ = _
        rw [← hz.out, num_big hs, hy, hq, List.append_assoc]
        rfl
      have e1 : (gk : Int) % 128 + 128 = (y : Int) := by omega
      have e2 : (gk : Int) / 128 = (q : Int) := by omega
      have hx8 : y < 256 := by omega
      have hj2 : q < 18446744073709551616 ∧ q < gk := by omega
      clear hz hy hq
      have hbel2 := hbel.alloc hbel.size (.cells #[.int .u8 (y : Int)] 5)
      go_wp2_with (at_builtin; refine wpList_app rfl (.tmp 6) (.tmp 11) rfl (ho.alloc _) (Ow.one wr y hx8).bt rfl rfl rfl rfl (by simp; omega) ?_; intro ao' cap' k2 w' ho' hf' hk2)
      have hb' := hbel2.trans (hf'.below (by have := hbel.size; simp; omega) (by rintro b rfl; exact hk0))
      have hk' : k2 = W.heap.size ∨ W.heap.size ≤ k2 := by
        have := hbel.size
        rcases hk2 with rfl | hk2
        · exact .inr hk0
        · simp at hk2; exact .inr (by omega)
      clear e1 e2
      go_roundg q
      case measure => exact hj2.2
      case rel => exact ⟨rfl, hj2.1, k2, ao', cap', _, by simp, hz2, ho', hb', hk'⟩
end Go.Proofs.Ythgegjoigkecpaa
