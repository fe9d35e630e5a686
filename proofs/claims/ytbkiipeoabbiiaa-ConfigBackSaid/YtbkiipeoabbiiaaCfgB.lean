/-
  A configuration that is right is read as it was, and what is read has just those bytes (no Go text).
-/
import Derived.Test.YtbkiipeoabbiiaaCfgN
namespace Go.Proofs.Ytbkiipeoabbiiaa

theorem right_fit {c : Cfg} (h : RightK c) : c.Fit := by
  refine ⟨fun s hs => ?_, fun r hr => ?_, ?_, ?_, ?_, ?_, ?_, ?_⟩
  · have g := h.syms s hs
    have g_grid := g.grid
    have g_refp := g.refp
    have g_stat := g.stat
    have g_dyn := g.dyn
    have g_win := g.win
    have g_move := g.move
    have g_lim := g.lim
    have g_pau := g.pau
    have g_ext := g.ext
    have g_mext := g.mext
    have g_col := g.col
    have g_wid := g.wid
    have g_self := g.self
    have g_slots := g.slots
    have g_levels := g.levels
    have g_short := g.short
    exact ⟨⟨by omega, by omega⟩, ⟨by omega, by omega⟩, ⟨by omega, by omega⟩, ⟨by omega, by omega⟩, ⟨by omega, by omega⟩, ⟨by omega, by omega⟩, ⟨by omega, by omega⟩, ⟨by omega, by omega⟩, ⟨by omega, by omega⟩, ⟨by omega, by omega⟩, ⟨by omega, by omega⟩, ⟨by omega, by omega⟩, ⟨by omega, by omega⟩, ⟨by omega, by omega⟩, ⟨by omega, by omega⟩, ⟨by omega, by omega⟩⟩
  · have g := h.rows r hr
    exact ⟨⟨by omega, by omega⟩, ⟨by omega, by omega⟩⟩
  · have := h.index; exact ⟨by omega, by omega⟩
  · have := h.f0; exact ⟨by omega, by omega⟩
  · have := h.f1; exact ⟨by omega, by omega⟩
  · have := h.f2; exact ⟨by omega, by omega⟩
  · have := h.h0; exact ⟨by omega, by omega⟩
  · have := h.h1; exact ⟨by omega, by omega⟩
theorem symN_small {s : Symb} (h : RightS s) : ∀ n ∈ symN s, n ≤ 1099511627776 := by
  have g_grid := h.grid
  have g_refp := h.refp
  have g_stat := h.stat
  have g_dyn := h.dyn
  have g_win := h.win
  have g_move := h.move
  have g_lim := h.lim
  have g_pau := h.pau
  have g_ext := h.ext
  have g_mext := h.mext
  have g_col := h.col
  have g_wid := h.wid
  have g_self := h.self
  have g_slots := h.slots
  have g_levels := h.levels
  have g_short := h.short
  intro n hn
  unfold symN fieldsL at hn
  simp only [List.map_cons, List.map_nil, List.mem_cons, List.not_mem_nil, or_false] at hn
  omega
/-- The parts of a configuration's numbers. -/
theorem formK_parts (c : Cfg) : formK c = [c.syms.length].flatMap num ++ ((c.syms.flatMap symN).flatMap num ++ ([c.rows.length].flatMap num ++ ((c.rows.flatMap rowN).flatMap num ++ (tailN c).flatMap num))) := by
  unfold formK numsK
  simp only [List.flatMap_append, List.append_assoc]
theorem parts_small {c : Cfg} (h : RightK c) : (∀ n ∈ c.syms.flatMap symN, n ≤ 4611686018427387904) ∧ (∀ n ∈ c.rows.flatMap rowN, n ≤ 4611686018427387904) ∧ (∀ n ∈ tailN c, n ≤ 4611686018427387904) := by
  refine ⟨fun n hn => ?_, fun n hn => ?_, fun n hn => ?_⟩
  · obtain ⟨s, hs, hn⟩ := List.mem_flatMap.1 hn
    have := symN_small (h.syms s hs) n hn
    omega
  · obtain ⟨r, hr, hn⟩ := List.mem_flatMap.1 hn
    have g := h.rows r hr
    unfold rowN at hn
    simp only [List.mem_cons, List.not_mem_nil, or_false] at hn
    omega
  · have g1 := h.index
    have g2 := h.f0
    have g3 := h.f1
    have g4 := h.f2
    have g5 := h.h0
    have g6 := h.h1
    unfold tailN at hn
    simp only [List.mem_cons, List.not_mem_nil, or_false] at hn
    omega
theorem flat_length {α : Type} (k : Nat) (f : α → List Nat) (hf : ∀ x, (f x).length = k) : ∀ l : List α, (l.flatMap f).length = k * l.length
  | [] => by simp
  | x :: t => by rw [List.flatMap_cons, List.length_append, hf, flat_length k f hf t, List.length_cons, Nat.mul_add, Nat.mul_one, Nat.add_comm]
theorem gotK_form {c : Cfg} (h : RightK c) : gotK (formK c) = (⟨c.syms.length, c.syms.flatMap symN, c.rows.length, c.rows.flatMap rowN, tailN c, []⟩, 0) := by
  obtain ⟨s1, s2, s3⟩ := parts_small h
  have hn := h.n1
  have hm := h.n2
  have l1 := flat_length 16 symN symN_length c.syms
  have l2 := flat_length 2 rowN rowN_length c.rows
  have a1 := rdNs_forth [c.syms.length] ((c.syms.flatMap symN).flatMap num ++ ([c.rows.length].flatMap num ++ ((c.rows.flatMap rowN).flatMap num ++ (tailN c).flatMap num))) (by intro n hn'; simp at hn'; omega)
  have a2 := rdNs_forth (c.syms.flatMap symN) ([c.rows.length].flatMap num ++ ((c.rows.flatMap rowN).flatMap num ++ (tailN c).flatMap num)) (fun n hn' => by have := s1 n hn'; omega)
  have a3 := rdNs_forth [c.rows.length] ((c.rows.flatMap rowN).flatMap num ++ (tailN c).flatMap num) (by intro n hn'; simp at hn'; omega)
  have a4 := rdNs_forth (c.rows.flatMap rowN) ((tailN c).flatMap num) (fun n hn' => by have := s2 n hn'; omega)
  have a5 := rdNs_forth (tailN c) [] (fun n hn' => by have := s3 n hn'; omega)
  rw [← formK_parts] at a1
  rw [List.append_nil] at a5
  rw [l1] at a2
  rw [l2] at a4
  have e1 : ([c.syms.length] : List Nat).length = 1 := rfl
  have e3 : ([c.rows.length] : List Nat).length = 1 := rfl
  have e5 : (tailN c).length = 6 := rfl
  rw [e1] at a1
  rw [e3] at a3
  rw [e5] at a5
  have d1 : ([c.syms.length] : List Nat).getD 0 0 = c.syms.length := rfl
  have d3 : ([c.rows.length] : List Nat).getD 0 0 = c.rows.length := rfl
  have q1 : ¬ 8 < c.syms.length := by omega
  have q3 : ¬ 20 < c.rows.length := by omega
  unfold gotK
  simp only [a1, d1, a2, a3, d3, a4, a5, q1, q3, ne_eq, not_true_eq_false, if_false]
theorem greatN_no {l : List Nat} (h : ∀ n ∈ l, n ≤ 4611686018427387904) : greatN l = false := by
  unfold greatN
  rw [List.any_eq_false]
  intro n hn
  have := h n hn
  simp
  omega
theorem cfgOf_N {c : Cfg} (h : RightK c) : cfgOf c.syms.length (c.syms.flatMap symN) c.rows.length (c.rows.flatMap rowN) (tailN c) = c := by
  have e1 := symsOf_N c.syms [] h.syms
  have e2 := rowsOf_N c.rows [] (fun r hr => ⟨(h.rows r hr).1.1, (h.rows r hr).2.1⟩)
  rw [List.append_nil] at e1 e2
  have g1 : (c.index.toNat : Int) = c.index := Int.toNat_of_nonneg (by have := h.index; omega)
  have g2 : (c.f0.toNat : Int) = c.f0 := Int.toNat_of_nonneg (by have := h.f0; omega)
  have g3 : (c.f1.toNat : Int) = c.f1 := Int.toNat_of_nonneg (by have := h.f1; omega)
  have g4 : (c.f2.toNat : Int) = c.f2 := Int.toNat_of_nonneg (by have := h.f2; omega)
  have g5 : (c.h0.toNat : Int) = c.h0 := Int.toNat_of_nonneg (by have := h.h0; omega)
  have g6 : (c.h1.toNat : Int) = c.h1 := Int.toNat_of_nonneg (by have := h.h1; omega)
  unfold cfgOf tailN
  simp only [List.getD_cons_zero, List.getD_cons_succ, e1, e2, g1, g2, g3, g4, g5, g6]
/-- A configuration that is right is read as it was. -/
theorem readC_form {c : Cfg} (h : (checkF c).1 = 0) : readC (formK c) = (c, 0) := by
  have hR := checkF_right h
  obtain ⟨s1, s2, s3⟩ := parts_small hR
  unfold readC
  rw [gotK_form hR]
  have e : (Got.mk c.syms.length (c.syms.flatMap symN) c.rows.length (c.rows.flatMap rowN) (tailN c) []).cfg = c := cfgOf_N hR
  have g : (Got.mk c.syms.length (c.syms.flatMap symN) c.rows.length (c.rows.flatMap rowN) (tailN c) []).great = false := by
    unfold Got.great
    simp only [greatN_no s1, greatN_no s2, greatN_no s3, Bool.or_false]
  simp only [e, g, h, ne_eq, not_true_eq_false, if_false, Bool.false_eq_true, or_self]
theorem one_list : ∀ (l : List Nat), l.length = 1 → l = [l.getD 0 0] := fun l hl => by match l, hl with | [x], _ => rfl
/-- What is got has just those bytes. -/
theorem gotK_back {b : List Nat} (hb : ∀ x ∈ b, x < 256) (h : (gotK b).2 = 0) : b = [(gotK b).1.n].flatMap num ++ ((gotK b).1.ss.flatMap num ++ ([(gotK b).1.m].flatMap num ++ ((gotK b).1.rs.flatMap num ++ ((gotK b).1.ts.flatMap num ++ (gotK b).1.left)))) ∧ (gotK b).1.ss.length = 16 * (gotK b).1.n ∧ (gotK b).1.rs.length = 2 * (gotK b).1.m ∧ (gotK b).1.ts.length = 6 := by
  unfold gotK at h ⊢
  simp only at h ⊢
  by_cases h1 : (rdNs 1 b 0).2.2 = 0
  · obtain ⟨b1, -⟩ := rdNs_back 1 b hb h1
    have t1 : ∀ x ∈ (rdNs 1 b 0).2.1, x < 256 := fun x hx => hb x (by rw [b1]; exact List.mem_append_right _ hx)
    have o1 := one_list _ (rdNs_length 1 b 0)
    simp only [h1, ne_eq, not_true_eq_false, if_false] at h ⊢
    generalize (rdNs 1 b 0).1.getD 0 0 = n at h o1 ⊢
    rw [o1] at b1
    generalize (rdNs 1 b 0).2.1 = u1 at h b1 t1 ⊢
    by_cases h2 : 8 < n
    · rw [if_pos h2] at h; cases h
    · simp only [h2, if_false] at h ⊢
      by_cases h3 : (rdNs (16 * n) u1 0).2.2 = 0
      · obtain ⟨b2, -⟩ := rdNs_back _ u1 t1 h3
        have t2 : ∀ x ∈ (rdNs (16 * n) u1 0).2.1, x < 256 := fun x hx => t1 x (by rw [b2]; exact List.mem_append_right _ hx)
        have l2 := rdNs_length (16 * n) u1 0
        simp only [h3, not_true_eq_false, if_false] at h ⊢
        generalize (rdNs (16 * n) u1 0).2.1 = u2 at h b2 t2 ⊢
        generalize (rdNs (16 * n) u1 0).1 = ss at h b2 l2 ⊢
        by_cases h4 : (rdNs 1 u2 0).2.2 = 0
        · obtain ⟨b3, -⟩ := rdNs_back 1 u2 t2 h4
          have t3 : ∀ x ∈ (rdNs 1 u2 0).2.1, x < 256 := fun x hx => t2 x (by rw [b3]; exact List.mem_append_right _ hx)
          have o3 := one_list _ (rdNs_length 1 u2 0)
          simp only [h4, not_true_eq_false, if_false] at h ⊢
          generalize (rdNs 1 u2 0).1.getD 0 0 = m at h o3 ⊢
          rw [o3] at b3
          generalize (rdNs 1 u2 0).2.1 = u3 at h b3 t3 ⊢
          by_cases h5 : 20 < m
          · rw [if_pos h5] at h; cases h
          · simp only [h5, if_false] at h ⊢
            by_cases h6 : (rdNs (2 * m) u3 0).2.2 = 0
            · obtain ⟨b4, -⟩ := rdNs_back _ u3 t3 h6
              have t4 : ∀ x ∈ (rdNs (2 * m) u3 0).2.1, x < 256 := fun x hx => t3 x (by rw [b4]; exact List.mem_append_right _ hx)
              have l4 := rdNs_length (2 * m) u3 0
              simp only [h6, not_true_eq_false, if_false] at h ⊢
              generalize (rdNs (2 * m) u3 0).2.1 = u4 at h b4 t4 ⊢
              generalize (rdNs (2 * m) u3 0).1 = rs at h b4 l4 ⊢
              by_cases h7 : (rdNs 6 u4 0).2.2 = 0
              · obtain ⟨b5, -⟩ := rdNs_back 6 u4 t4 h7
                have l5 := rdNs_length 6 u4 0
                simp only [h7, not_true_eq_false, if_false]
                refine ⟨?_, l2, l4, l5⟩
                rw [← b5, ← b4, ← b3, ← b2]
                exact b1
              · rw [if_pos h7] at h; exact absurd h h7
            · rw [if_pos h6] at h; exact absurd h h6
        · rw [if_pos h4] at h; exact absurd h h4
      · rw [if_pos h3] at h; exact absurd h h3
  · rw [if_pos h1] at h; exact absurd h h1
/-- What is read is right, and has just those bytes. -/
theorem readC_back {b : List Nat} (hb : ∀ x ∈ b, x < 256) {c : Cfg} (h : readC b = (c, 0)) : (checkF c).1 = 0 ∧ formK c = b ∧ c.Fit := by
  unfold readC at h
  by_cases h1 : (gotK b).2 = 0
  · rw [if_neg (fun g => g h1)] at h
    obtain ⟨e, l1, l2, l3⟩ := gotK_back hb h1
    by_cases h2 : (gotK b).1.great = true ∨ (gotK b).1.left ≠ []
    · rw [if_pos h2] at h; cases h
    · rw [if_neg h2] at h
      by_cases h3 : (checkF (gotK b).1.cfg).1 = 0
      · rw [if_neg (fun g => g h3)] at h
        simp only [Prod.mk.injEq, and_true] at h
        have hl : (gotK b).1.left = [] := Classical.byContradiction fun g => h2 (.inr g)
        clear h1 h2
        generalize (gotK b).1 = g at *
        obtain ⟨n, ss, m, rs, ts, left⟩ := g
        simp only at e l1 l2 l3 hl
        subst hl
        subst h
        refine ⟨h3, ?_, right_fit (checkF_right h3)⟩
        rw [formK_parts]
        have ht : tailN (cfgOf n ss m rs ts) = ts := by
          match ts, l3 with
          | [a0, a1, a2, a3, a4, a5], _ => simp [tailN, cfgOf]
        have e1 : (Got.mk n ss m rs ts []).cfg = cfgOf n ss m rs ts := rfl
        have e2 : (cfgOf n ss m rs ts).syms = symsOf n ss := rfl
        have e3 : (cfgOf n ss m rs ts).rows = rowsOf m rs := rfl
        rw [e1, ht, e2, e3, symsN_of n ss l1, rowsN_of m rs l2, symsOf_length, rowsOf_length]
        rw [List.append_nil] at e
        exact e.symm
      · rw [if_pos h3] at h
        simp only [Prod.mk.injEq] at h
        exact absurd h.2 h3
  · rw [if_pos h1] at h
    simp only [Prod.mk.injEq] at h
    exact absurd h.2 h1
end Go.Proofs.Ytbkiipeoabbiiaa
