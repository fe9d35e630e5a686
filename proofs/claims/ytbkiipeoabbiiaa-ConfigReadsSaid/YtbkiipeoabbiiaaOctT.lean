/-
  The contracts of the document's ReadNum and ReadRaw, and of the statements' read and got, for every input.
-/
import Derived.Test.YtbkiipeoabbiiaaOctS
namespace Go.Proofs.Ytbkiipeoabbiiaa
open Go.RowKit

set_option maxRecDepth 4000 in
set_option maxHeartbeats 1000000 in
theorem refReadNum_any (k cap : Nat) (ao : Option Addr) (xs : List Nat) (S : Int) (W : World) (hB : Bt W k ao cap xs) :
    Calls Try.prog 74 #[.slice ao xs.length cap] W fun e w' => e = .returned (rv (rd 3 S xs) none 0) ∧ Below W.heap.size W w' := by
  have hlen := hB.len
  have hmax := hB.top
  unfold maxLen at hmax
  have e : rd 3 S xs = ⟨(rn xs 10 0 0).1, 0, [], (rn xs 10 0 0).2.1, (rn xs 10 0 0).2.2⟩ := rfl
  rw [e]
  clear e
  obtain ⟨rv', rs, rf, hr⟩ : ∃ rv rs rf, Hid (rn xs 10 0 0 = (rv, rs, rf)) := ⟨_, _, _, rfl⟩
  rw [hr.out]
  obtain ⟨W1, hW1⟩ : ∃ W1, Hid (W1 = W.alloc (.cells #[.int .u64 0, .int .i64 0, .slice none 0 0, .int .i64 0, .int .i64 0] 115)) := ⟨_, rfl⟩
  have hB1 : Bt W1 k ao cap xs := by rw [hW1.out]; exact hB.alloc _
  unfold rv
  go_enter Try.func74, Try.ntmps74
  go_wp2_with fail
  go_loopg [3, 4, 5, 6] 10 (fun j p3 p4 p5 _ wr => wr = W1 ∧ ∃ (i n : Nat) (z3 z4 : Int), i + j = 10 ∧ p5 = .int .i64 (i : Int) ∧ p3 = .int .u64 z3 ∧ p4 = .int .u64 z4 ∧ Hid (i ≤ 9 → z3 = (n : Int) ∧ z4 = ((128 ^ i : Nat) : Int) ∧ n < 128 ^ i) ∧ Hid (rn xs j i n = (rv', rs, rf)))
  case atStart => exact ⟨hW1.out.symm, 0, 0, 0, 1, rfl, rfl, rfl, rfl, fun _ => ⟨rfl, rfl, by decide⟩, hr⟩
  case round =>
    obtain ⟨rfl, i, n, z3, z4, hi, rfl, rfl, rfl, hz, hrn⟩ := hrel
    cases gk with
    | zero =>
      have h3 : (0, 0, 4) = (rv', rs, rf) := hrn.out
      simp only [Prod.mk.injEq] at h3
      obtain ⟨rfl, rfl, rfl⟩ := h3
      have hw := hW1.out
      subst hw
      clear hz hrn hr hW1 hB hB1
      have hi10 : i = 10 := by omega
      subst hi10
      go_wp2_with fail
      refine bodyPost_ret (v := .agg #[.int .u64 0, .int .i64 0, .slice none 0 0, .int .i64 0, .int .i64 4]) ?_ rfl ⟨rfl, (Below.refl _ _).alloc (Nat.le_refl _) _⟩
      simp [results, Try.results74, go_sem]
    | succ j =>
      have hi9 : i ≤ 9 := by omega
      obtain ⟨hz3, hz4, hn⟩ := hz.out hi9
      clear hz
      have hzero : ∀ x y z : Nat, (x, y, z) = (rv', rs, rf) → rv' = x ∧ rs = y ∧ rf = z := fun x y z h => by simp only [Prod.mk.injEq] at h; exact ⟨h.1.symm, h.2.1.symm, h.2.2.symm⟩
      cases hx : xs[i]? with
      | none =>
        obtain ⟨rfl, rfl, rfl⟩ := hzero _ _ _ ((rn_end hx).symm.trans hrn.out)
        have hge : xs.length ≤ i := List.getElem?_eq_none_iff.1 hx
        have hw := hW1.out
        subst hw
        clear hx hrn hr hW1 hB hB1 hz3 hz4 hn hzero
        go_wp2_with fail
        refine bodyPost_ret (v := .agg #[.int .u64 0, .int .i64 0, .slice none 0 0, .int .i64 0, .int .i64 3]) ?_ rfl ⟨rfl, (Below.refl _ _).alloc (Nat.le_refl _) _⟩
        simp [results, Try.results74, go_sem]
      | some x =>
        have hlt : i < xs.length := (List.getElem?_eq_some_iff.1 hx).1
        have hx8 : x < 256 := hB.lt x (List.mem_of_getElem? hx)
        obtain ⟨off, rfl, hc⟩ : ∃ off, ao = some ⟨k, off, none⟩ ∧ wr.cell? ⟨k, off + i, none⟩ = some (.int .u8 (x : Int)) := by
          rcases hB1.at' with h0 | ⟨off, ha, hc⟩
          · subst h0; simp at hx
          · exact ⟨off, ha, hc i x hx⟩
        obtain ⟨d, hd⟩ : ∃ d, d = x % 128 := ⟨_, rfl⟩
        have hd7 : d < 128 := by omega
        have e1 : (x : Int) % 128 = (d : Int) := by omega
        obtain ⟨z5, e5⟩ : ∃ z5 : Int, IntKind.u64.wrap (z4 * 128) = z5 := ⟨_, rfl⟩
        obtain ⟨z6, e6⟩ : ∃ z6 : Int, IntKind.u64.wrap ((d : Int) * z4) = z6 := ⟨_, rfl⟩
        obtain ⟨z7, e7⟩ : ∃ z7 : Int, IntKind.u64.wrap (z3 + z6) = z7 := ⟨_, rfl⟩
        have HN : Hid (n < 128 ^ i) := hn
        have HX : Hid (xs[i]? = some x) := hx
        have HD : Hid (d = x % 128) := hd
        have HZ : Hid (z3 = (n : Int) ∧ z4 = ((128 ^ i : Nat) : Int)) := ⟨hz3, hz4⟩
        have h5 : Hid (i < 9 → z5 = ((128 ^ (i + 1) : Nat) : Int)) := fun h => by
          have h1 : 128 ^ i ≤ 128 ^ 8 := Nat.pow_le_pow_right (by decide) (by omega)
          rw [← e5, hz4, IntKind.wrap_u64, Nat.pow_succ]
          omega
        have h7 : Hid ((i = 9 → d ≤ 1) → z7 = ((n + d * 128 ^ i : Nat) : Int)) := fun h9 => by
          have hp : d * 128 ^ i < 9223372036854775808 + 1 ∧ n < 9223372036854775808 := by
            rcases Nat.lt_or_ge i 9 with h | h
            · have h1 : 128 ^ i ≤ 128 ^ 8 := Nat.pow_le_pow_right (by decide) (by omega)
              have h2 : d * 128 ^ i ≤ 127 * 128 ^ 8 := Nat.mul_le_mul (by omega) h1
              exact ⟨by omega, by omega⟩
            · have h1 : i = 9 := by omega
              subst h1
              have h2 : d * 128 ^ 9 ≤ 1 * 128 ^ 9 := Nat.mul_le_mul_right _ (h9 rfl)
              exact ⟨by omega, by omega⟩
          have e8 : (d : Int) * z4 = ((d * 128 ^ i : Nat) : Int) := by rw [hz4]; simp
          rw [← e7, ← e6, e8, hz3, IntKind.wrap_u64, IntKind.wrap_u64]
          omega
        clear hx hn hd hz3 hz4
        by_cases hb0 : i = 9 ∧ 1 < d
        · obtain ⟨rfl, rfl, rfl⟩ := hzero _ _ _ ((rn_bad HX.out (.inl (by have := HD.out; omega))).symm.trans hrn.out)
          obtain ⟨rfl, hb⟩ := hb0
          have hw := hW1.out
          subst hw
          clear HN HX HD HZ h5 h7 hrn hr hW1 hB hB1 hzero
          go_wp2_with fail
          all_goals first
            | (exfalso; omega)
            | (refine bodyPost_ret (v := .agg #[.int .u64 0, .int .i64 0, .slice none 0 0, .int .i64 0, .int .i64 4]) ?_ rfl ⟨rfl, (Below.refl _ _).alloc (Nat.le_refl _) _⟩
               simp [results, Try.results74, go_sem])
        · have hm7 := h7.out (fun h => by omega)
          clear h7
          have hcase : (9 ≤ i ∧ d ≤ 1) ∨ i ≤ 0 ∨ (1 ≤ i ∧ i ≤ 8) := by omega
          by_cases hx7 : x < 128
          · have hdx : d = x := by rw [HD.out]; omega
            by_cases hb2 : 0 < i ∧ x = 0
            · obtain ⟨rfl, rfl, rfl⟩ := hzero _ _ _ ((rn_bad HX.out (.inr hb2)).symm.trans hrn.out)
              have hw := hW1.out
              subst hw
              obtain ⟨hb, hx0⟩ := hb2
              have td : ((d : Int) == 0) = true := by simp; omega
              have hd0 : d ≤ 0 := by omega
              have h9 : ((i : Int) == 9) = true ∨ ((i : Int) == 9) = false := by cases ((i : Int) == 9) <;> simp
              clear HN HX HD HZ h5 hm7 hrn hr hW1 hB hB1 hzero hb0 hx0 hdx hcase
              rcases h9 with t9 | t9
              all_goals go_wp2_with fail
              all_goals first
                | (refine bodyPost_ret (v := .agg #[.int .u64 0, .int .i64 0, .slice none 0 0, .int .i64 0, .int .i64 4]) ?_ rfl ⟨rfl, (Below.refl _ _).alloc (Nat.le_refl _) _⟩
                   simp [results, Try.results74, go_sem]
                   done)
                | (exfalso; omega)
            · obtain ⟨hv, rfl, rfl⟩ := hzero _ _ _ ((rn_last HX.out (by omega) hx7).symm.trans hrn.out)
              have hv7 : Hid (z7 = (rv' : Int)) := by show _ = _; rw [hm7, hdx, hv]
              have hw := hW1.out
              subst hw
              have hcase2 : (9 ≤ i ∧ d ≤ 1 ∧ 1 ≤ d) ∨ i ≤ 0 ∨ (1 ≤ i ∧ i ≤ 8 ∧ 1 ≤ d) := by omega
              clear HN HX HD HZ h5 hm7 hrn hr hW1 hB hB1 hzero hb0 hb2 hv hcase hdx
              have h9 : (((i : Int) == 9) = true ∧ 9 ≤ i ∧ d ≤ 1 ∧ 1 ≤ d) ∨ (((i : Int) == 9) = false ∧ i ≤ 0) ∨ (((i : Int) == 9) = false ∧ 1 ≤ i ∧ 1 ≤ d) := by simp; omega
              clear hcase2
              rcases h9 with ⟨t9, h1, h2, h3⟩ | ⟨t9, h1⟩ | ⟨t9, h1, h3⟩
              all_goals go_wp2_with fail
              all_goals refine bodyPost_ret (v := .agg #[.int .u64 z7, .int .i64 0, .slice none 0 0, .int .i64 ((i + 1 : Nat) : Int), .int .i64 0]) ?_ rfl ⟨by rw [hv7.out]; rfl, (Below.refl _ _).alloc (Nat.le_refl _) _⟩
              all_goals simp [results, Try.results74, go_sem]
          · obtain ⟨m, hm⟩ : ∃ m, m = n + d * 128 ^ i := ⟨_, rfl⟩
            have h128 : 128 ≤ x := by omega
            have hrel : Hid (i + 1 ≤ 9 → z7 = (m : Int) ∧ z5 = ((128 ^ (i + 1) : Nat) : Int) ∧ m < 128 ^ (i + 1)) := fun h => by
              refine ⟨by rw [hm7, hm], h5.out (by omega), ?_⟩
              have hn := HN.out
              have h1 : d * 128 ^ i ≤ 127 * 128 ^ i := Nat.mul_le_mul_right _ (by omega)
              rw [hm, Nat.pow_succ]
              omega
            have hrn2 : Hid (rn xs j (i + 1) m = (rv', rs, rf)) := by
              show _ = _
              by_cases h9 : i = 9
              · have hj : j = 0 := by omega
                subst hj
                rw [← hrn.out, rn_bad HX.out (.inl (by omega))]
                rfl
              · rw [← hrn.out, rn_more HX.out (by omega) hx7, hm]
                have : d = x - 128 := by rw [HD.out]; omega
                rw [this]
            clear HN HX HD HZ h5 hm7 hrn hr hB hB1 hzero hb0 hx7 hm
            have h9 : (((i : Int) == 9) = true ∧ d ≤ 1) ∨ ((i : Int) == 9) = false := by simp; omega
            clear hcase
            rcases h9 with ⟨t9, h1⟩ | t9
            all_goals go_wp2_with fail
            all_goals go_roundg j
            all_goals first
              | (show _ < _; omega)
              | exact ⟨rfl, i + 1, m, z7, z5, by omega, by go_num, rfl, rfl, hrel, hrn2⟩
end Go.Proofs.Ytbkiipeoabbiiaa
