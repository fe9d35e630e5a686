/-
  Of of the program's curve: the sums from both ends.
  What the laws' walks ask of the program's curve: CvP and its contracts (Cvl, Cvb, Cvt, Cvx, Cvo, Cvf); Of.
-/
import Derived.Test.YtohenmnpmgghhaaGreatDoorGCe
import Derived.StillTailTactics
import Derived.Test.YtohenmnpmgghhaaGreatDoorGCc
import Derived.Test.YtohenmnpmgghhaaGreatDoorGCd
namespace Go.Proofs.YtohenmnpmgghhaaGreatDoor
open Go.RowKit
set_option linter.unusedSimpArgs false
theorem OwG.setV {E : TypeId} {sz : Nat} {w : World} {k : Nat} {ao : Option Addr} {cap n : Nat} {cs : List Value} (h : OwG E sz w (some k) ao cap n cs) (j : Nat) (v : Value) : OwG E sz (w.setCell ⟨k, j, none⟩ v) (some k) ao cap n (cs.set j v) := by
  refine ⟨by rw [List.length_set]; exact h.cells, h.len, h.top, ?_⟩
  rcases h.at' with ⟨h0, _⟩ | ⟨k', cur, h1, h2, h3, h4, h5⟩
  · cases h0
  · cases h1
    have hb : Blk w k E cur := h3
    refine .inr ⟨k, _, rfl, h2, hb.set j v, by simpa using h4, ?_⟩
    rw [← h5, Array.toList_setIfInBounds, List.take_set]
theorem pcs_cons (z : Pnt) (t : List Pnt) : pcs (z :: t) = (cPnt z).toList ++ pcs t := rfl
theorem pcs_set1 (y : Pnt) (d : Int) : ∀ (l : List Pnt) (i : Nat), l[i]? = some y → (pcs l).set (i * 3 + 1) (.int .i64 d) = pcs (l.set i { y with demand := d })
  | [], i, h => by simp at h
  | z :: t, 0, h => by
    obtain rfl : z = y := by simpa using h
    simp [pcs, cPnt]
  | z :: t, i + 1, h => by
    have := pcs_set1 y d t i (by simpa using h)
    rw [show (i + 1) * 3 + 1 = i * 3 + 1 + 3 by omega, List.set_cons_succ, pcs_cons, pcs_cons, ← this]
    rfl
theorem pcs_set2 (y : Pnt) (d : Int) : ∀ (l : List Pnt) (i : Nat), l[i]? = some y → (pcs l).set (i * 3 + 2) (.int .i64 d) = pcs (l.set i { y with supply := d })
  | [], i, h => by simp at h
  | z :: t, 0, h => by
    obtain rfl : z = y := by simpa using h
    simp [pcs, cPnt]
  | z :: t, i + 1, h => by
    have := pcs_set2 y d t i (by simpa using h)
    rw [show (i + 1) * 3 + 2 = i * 3 + 2 + 3 by omega, List.set_cons_succ, pcs_cons, pcs_cons, ← this]
    rfl
theorem mix_ge {α : Type} {f g : Int → α} {ps : List Int} {n : Nat} (h : ps.length ≤ n) : mix f g ps n = ps.map f := by
  unfold mix
  rw [List.take_of_length_le h, List.drop_eq_nil_of_le h]
  simp
/-- A row of points that one owns, in memory. -/
theorem ow_cells {w : World} {g : Nat} {ao : Option Addr} {cap : Nat} {l : List Pnt} {n : Nat} (h : OwG 106 3 w (some g) ao cap n (pcs l)) {i : Nat} {m : Pnt} (hi : l[i]? = some m) :
    ao = some ⟨g, 0, none⟩ ∧ w.cell? ⟨g, i * 3 + 1, none⟩ = some (.int .i64 m.demand) ∧ w.cell? ⟨g, i * 3 + 2, none⟩ = some (.int .i64 m.supply) ∧ w.frozen? ⟨g, i * 3 + 1, none⟩ = false ∧ w.frozen? ⟨g, i * 3 + 2, none⟩ = false := by
  obtain ⟨k1, e1, a1, c1, f1⟩ := h.cell _ _ (pcs_get hi (j := 1) rfl)
  obtain ⟨k2, e2, a2, c2, f2⟩ := h.cell _ _ (pcs_get hi (j := 2) rfl)
  cases e1
  cases e2
  exact ⟨a1, c1, c2, f1, f2⟩
section
variable {w w' W : World} {p : Option Addr} {Q : Int → List Ord}
set_option maxRecDepth 20000 in
set_option maxHeartbeats 8000000 in
theorem cof_any (hE : EachQ p Q W) (h0 : ∀ x ∈ Q 0, x.side = 0) (h1 : ∀ x ∈ Q 1, x.side = 1) (hQ : LOk (Q 0 ++ Q 1)) :
    Calls Tryz.prog 26 #[.pointer p] W fun e w' => ∃ c, e = .returned (.pointer c) ∧ CvP W.heap.size w' c (Q 0 ++ Q 1) ∧ Below W.heap.size W w' := by
  have cL := levels_any hE h0 h1 hQ
  generalize Q 0 ++ Q 1 = L at *
  have hP := prs_all hQ
  have hp5 : (cprA L).length ≤ 500 := Nat.le_trans (cpr_len _ _ _) hQ.len
  have hcq : cvQ L = (cprA L).map (catL L) := rfl
  generalize cprA L = ps at *
  have hst1 : ∀ (wr : World) (g : Nat) (ao : Option Addr) (cap m : Nat), OwG 106 3 wr (some g) ao cap ps.length (pcs (mix (row1 L) (row0 L) ps (m + 1))) → m + 1 < ps.length →
      ∃ a b c, ao = some ⟨g, 0, none⟩ ∧ (wr.cell? ⟨g, (m + 1) * 3 + 2, none⟩ = some (.int .i64 a) ∧ wr.cell? ⟨g, m * 3 + 2, none⟩ = some (.int .i64 b) ∧ wr.frozen? ⟨g, (m + 1) * 3 + 2, none⟩ = false) ∧ IntKind.i64.wrap (a + b) = c ∧
      ∀ w', w' = (wr.setCell ⟨g, (m + 1) * 3 + 2, none⟩ (.int .i64 c)).drew → OwG 106 3 w' (some g) ao cap ps.length (pcs (mix (row1 L) (row0 L) ps (m + 1 + 1))) ∧ Frm (fun k => k = g) wr w' := by
    intro wr g ao cap m ho hm
    obtain ⟨x, hx⟩ : ∃ x, ps[m]? = some x := ⟨_, List.getElem?_eq_getElem (by omega)⟩
    obtain ⟨y, hy⟩ : ∃ y, ps[m + 1]? = some y := ⟨_, List.getElem?_eq_getElem hm⟩
    have m1 : (mix (row1 L) (row0 L) ps (m + 1))[m]? = some (row1 L x) := mix_lo (by omega) hx
    have m2 : (mix (row1 L) (row0 L) ps (m + 1))[m + 1]? = some (row0 L y) := mix_hi (by omega) hy
    obtain ⟨ha, -, u1, -, f1⟩ := ow_cells ho m2
    obtain ⟨-, -, u2, -, -⟩ := ow_cells ho m1
    have hn := sup_next hP hx hy
    have hb := sup_small hQ y
    refine ⟨_, _, sumO (supS y) L, ha, ⟨u1, u2, f1⟩, ?_, ?_⟩
    · show IntKind.i64.wrap (sumO (eqS 1 y) L + sumO (supS x) L) = _
      rw [IntKind.wrap_i64]
      omega
    · rintro w' rfl
      have := (ho.setV ((m + 1) * 3 + 2) (.int .i64 (sumO (supS y) L))).drew
      rw [pcs_set2 _ _ _ _ m2] at this
      have e : ({ row0 L y with supply := sumO (supS y) L } : Pnt) = row1 L y := rfl
      rw [e, mix_up hy] at this
      exact ⟨this, Frm.drew (S := fun k => k = g) ((Frm.refl _ _).setCell _ _ (.inl rfl))⟩
  have hst2 : ∀ (wr : World) (g : Nat) (ao : Option Addr) (cap m : Nat), OwG 106 3 wr (some g) ao cap ps.length (pcs (mix (row1 L) (catL L) ps (m + 1))) → m + 1 < ps.length →
      ∃ a b c, ao = some ⟨g, 0, none⟩ ∧ (wr.cell? ⟨g, m * 3 + 1, none⟩ = some (.int .i64 a) ∧ wr.cell? ⟨g, (m + 1) * 3 + 1, none⟩ = some (.int .i64 b) ∧ wr.frozen? ⟨g, m * 3 + 1, none⟩ = false) ∧ IntKind.i64.wrap (a + b) = c ∧
      ∀ w', w' = (wr.setCell ⟨g, m * 3 + 1, none⟩ (.int .i64 c)).drew → OwG 106 3 w' (some g) ao cap ps.length (pcs (mix (row1 L) (catL L) ps m)) ∧ Frm (fun k => k = g) wr w' := by
    intro wr g ao cap m ho hm
    obtain ⟨x, hx⟩ : ∃ x, ps[m]? = some x := ⟨_, List.getElem?_eq_getElem (by omega)⟩
    obtain ⟨y, hy⟩ : ∃ y, ps[m + 1]? = some y := ⟨_, List.getElem?_eq_getElem hm⟩
    have m1 : (mix (row1 L) (catL L) ps (m + 1))[m]? = some (row1 L x) := mix_lo (by omega) hx
    have m2 : (mix (row1 L) (catL L) ps (m + 1))[m + 1]? = some (catL L y) := mix_hi (by omega) hy
    obtain ⟨ha, u1, -, f1, -⟩ := ow_cells ho m1
    obtain ⟨-, u2, -, -, -⟩ := ow_cells ho m2
    have hn := dem_next hP hx hy
    have hb := dem_small hQ x
    refine ⟨_, _, sumO (demS x) L, ha, ⟨u1, u2, f1⟩, ?_, ?_⟩
    · show IntKind.i64.wrap (sumO (eqS 0 x) L + sumO (demS y) L) = _
      rw [IntKind.wrap_i64]
      omega
    · rintro w' rfl
      have := (ho.setV (m * 3 + 1) (.int .i64 (sumO (demS x) L))).drew
      rw [pcs_set1 _ _ _ _ m1] at this
      have e : ({ row1 L x with demand := sumO (demS x) L } : Pnt) = catL L x := rfl
      rw [e, mix_down hx] at this
      exact ⟨this, Frm.drew (S := fun k => k = g) ((Frm.refl _ _).setCell _ _ (.inl rfl))⟩
  replace hst1 := Lib.hid hst1
  replace hst2 := Lib.hid hst2
  clear hE h0 h1
  go_enter Tryz.func26, Tryz.ntmps26
  go_wp2_with (first
    | (go_at_call 52; refine cL.mono ?_; rintro e w1 ⟨g, ao, cap, l, rfl, rfl, ho, hg, hb⟩; clear cL; rw [List.length_map] at ho ⊢)
    | fail)
  rw [rows_start hP] at ho
  have hbs := hb.size
  replace hb := Lib.hid hb
  have hP2 := Lib.hid hP
  clear hP
  go_loopg [4] ps.length (fun j p4 wr => ∃ m : Nat, m ≤ ps.length ∧ m + j = ps.length ∧ p4 = .int .i64 ((m : Int) + 1) ∧ OwG 106 3 wr (some g) ao cap ps.length (pcs (mix (row1 L) (row0 L) ps (m + 1))) ∧ Frm (fun k => k = g) w1 wr)
  case atStart => exact ⟨0, Nat.zero_le _, by omega, rfl, ho, Frm.refl _ _⟩
  case round =>
    clear ho
    obtain ⟨m, hm0, hmj, rfl, ho, hf⟩ := hrel
    by_cases hm : m + 1 < ps.length
    · obtain ⟨a, b, c, rfl, ⟨u1, u2, fz⟩, hwr, hfin⟩ := hst1.out wr g ao cap m ho hm
      obtain ⟨V, hV⟩ : ∃ V, V = (wr.setCell ⟨g, (m + 1) * 3 + 2, none⟩ (.int .i64 c)).drew := ⟨_, rfl⟩
      obtain ⟨ho2, hf2⟩ := hfin V hV
      have hmi : (m : Int) + 1 < (ps.length : Int) := by omega
      have hmi2 : (m : Int) < (ps.length : Int) := by omega
      have hm5 : m < 500 := by omega
      have d1 : wr.drew.cell? ⟨g, (m + 1) * 3 + 2, none⟩ = some (.int .i64 a) := u1
      have d2 : wr.drew.cell? ⟨g, m * 3 + 2, none⟩ = some (.int .i64 b) := u2
      have d3 : wr.drew.frozen? ⟨g, (m + 1) * 3 + 2, none⟩ = false := fz
      replace ho2 := Lib.hid ho2
      clear hfin ho
      have hm0' : 0 ≤ (m : Int) + 1 := by omega
      have hw1 : IntKind.i64.wrap (m : Int) = (m : Int) := by rw [IntKind.wrap_i64]; omega
      go_wp2_with fail
      go_still_tail 14, (by kernel_rfl)
      change wpList _ _ _ _ _ (World.drew _)
      try rw [hwr]
      go_wp2_with (first | (rw [← hV]) | fail)
      go_roundg (ps.length - (m + 1))
      case measure => omega
      case rel => exact ⟨m + 1, by omega, by omega, by go_num, ho2.out, hf.trans hf2 (fun c e => .inl e)⟩
    · have hme : mix (row1 L) (row0 L) ps (m + 1) = ps.map (row1 L) := mix_ge (by omega)
      rw [hme] at ho
      have hmi : ¬ (m : Int) + 1 < (ps.length : Int) := by omega
      have hst : Hid ((ps = [] ∧ (ps.length : Int) - 1 = -1 ∧ OwG 106 3 wr (some g) ao cap ps.length (pcs (ps.map (catL L)))) ∨ ∃ k : Nat, (ps.length : Int) - 1 = (k : Int) ∧ k + 1 ≤ ps.length ∧ k ≤ ps.length ∧ OwG 106 3 wr (some g) ao cap ps.length (pcs (mix (row1 L) (catL L) ps k))) := by
        refine Lib.hid ?_
        by_cases h0 : ps = []
        · exact .inl ⟨h0, by rw [h0]; rfl, by rw [h0] at ho ⊢; exact ho⟩
        · have hl : 0 < ps.length := List.length_pos_iff.2 h0
          refine .inr ⟨ps.length - 1, by omega, by omega, by omega, ?_⟩
          rw [← rows_half hP2.out (n := ps.length - 1) (by omega)]
          exact ho
      have hp5i : ps.length < 501 := by omega
      obtain ⟨z, hz⟩ : ∃ z, z = (ps.length : Int) - 1 := ⟨_, rfl⟩
      rw [← hz] at hst
      replace hz := Lib.hid hz
      have hw0 : IntKind.i64.wrap ((ps.length : Int) - 1) = z := by rw [hz.out, IntKind.wrap_i64]; omega
      have hfin : ∀ wr', OwG 106 3 wr' (some g) ao cap ps.length (pcs (ps.map (catL L))) → Frm (fun k => k = g) w1 wr' → ∀ V, V = wr'.alloc (.cells #[.slice ao ps.length cap] 108) → CvP W.heap.size V (some ⟨wr'.heap.size, 0, none⟩) L ∧ Below W.heap.size W V := by
        rintro wr' ho' hf' V rfl
        have hb2 : Below W.heap.size W wr' := hb.out.trans (hf'.below hbs (fun c e => by rw [e]; exact hg))
        have hs2 := hb2.size
        have hzA : (wr'.alloc (.cells #[.slice ao ps.length cap] 108)).heap.size = wr'.heap.size + 1 := by simp
        refine ⟨⟨hQ, by omega, .inr ⟨wr'.heap.size, ao, cap, rfl, hs2, ?_, ?_, fun c off s e => ?_⟩⟩, hb2.alloc hs2 _⟩
        · rw [hcq, List.length_map]; exact Blk.new _ _ _
        · rw [hcq]
          refine Pnts.of_own (E := 106) (ko := some g) ?_
          rw [List.length_map]
          exact ho'.alloc _
        · rcases ho'.at' with ⟨e0, -⟩ | ⟨k, cur, e0, e1, -⟩
          · cases e0
          · cases e0
            rw [e1] at e
            cases e
            have := ho'.lt
            exact ⟨hg, by omega⟩
      replace hfin := Lib.hid hfin
      clear hme ho hz
      go_wp2_with fail
      clear hw0
      go_loopg [5] ps.length (fun j p5 wr => ∃ z : Int, p5 = .int .i64 z ∧ Hid ((ps = [] ∧ z = -1 ∧ OwG 106 3 wr (some g) ao cap ps.length (pcs (ps.map (catL L)))) ∨ ∃ k : Nat, z = (k : Int) ∧ k + 1 ≤ ps.length ∧ k ≤ j ∧ OwG 106 3 wr (some g) ao cap ps.length (pcs (mix (row1 L) (catL L) ps k))) ∧ Frm (fun k => k = g) w1 wr)
      case atStart => exact ⟨z, rfl, hst, hf⟩
      case round =>
        clear hst hf
        obtain ⟨z, rfl, hst, hf⟩ := hrel
        have hdone : ∀ z : Int, z ≤ 0 → ((ps = [] ∧ z = -1 ∧ OwG 106 3 wr (some g) ao cap ps.length (pcs (ps.map (catL L)))) ∨ ∃ k : Nat, z = (k : Int) ∧ k + 1 ≤ ps.length ∧ k ≤ gk ∧ OwG 106 3 wr (some g) ao cap ps.length (pcs (mix (row1 L) (catL L) ps k))) → OwG 106 3 wr (some g) ao cap ps.length (pcs (ps.map (catL L))) := by
          rintro z h0 (⟨-, -, h1⟩ | ⟨k, rfl, -, -, h1⟩)
          · exact h1
          · obtain rfl : k = 0 := by omega
            rw [mix_zero] at h1
            exact h1
        by_cases h0 : z ≤ 0
        · obtain ⟨V, hV⟩ : ∃ V, V = wr.alloc (.cells #[.slice ao ps.length cap] 108) := ⟨_, rfl⟩
          have hF := Lib.hid (hfin.out wr (hdone z h0 hst.out) hf V hV)
          clear hst hdone hf hfin
          go_wp2_with (first | (rw [← hV]; clear hV) | fail)
          go_ret
          exact ⟨_, rfl, hF.out⟩
        · obtain ⟨k, rfl, hk1, hk2, ho⟩ : ∃ k : Nat, z = (k : Int) ∧ k + 1 ≤ ps.length ∧ k ≤ gk ∧ OwG 106 3 wr (some g) ao cap ps.length (pcs (mix (row1 L) (catL L) ps k)) := by
            rcases hst.out with ⟨-, h1, -⟩ | h1
            · omega
            · exact h1
          obtain ⟨m, rfl⟩ : ∃ m, k = m + 1 := ⟨k - 1, by omega⟩
          obtain ⟨a, b, c, rfl, ⟨u1, u2, fz⟩, hwr, hfn⟩ := hst2.out wr g ao cap m ho (by omega)
          obtain ⟨V, hV⟩ : ∃ V, V = (wr.setCell ⟨g, m * 3 + 1, none⟩ (.int .i64 c)).drew := ⟨_, rfl⟩
          obtain ⟨ho2, hf2⟩ := hfn V hV
          have hmi : (m : Int) + 1 < (ps.length : Int) := by omega
          have hmi2 : (m : Int) < (ps.length : Int) := by omega
          have hm5 : m < 500 := by omega
          have d1 : wr.drew.cell? ⟨g, m * 3 + 1, none⟩ = some (.int .i64 a) := u1
          have d2 : wr.drew.cell? ⟨g, (m + 1) * 3 + 1, none⟩ = some (.int .i64 b) := u2
          have d3 : wr.drew.frozen? ⟨g, m * 3 + 1, none⟩ = false := fz
          replace ho2 := Lib.hid ho2
          have hm0' : 0 ≤ (m : Int) + 1 := by omega
          have hmp : 0 < (m : Int) + 1 := by omega
          have hw1 : IntKind.i64.wrap (m : Int) = (m : Int) := by rw [IntKind.wrap_i64]; omega
          have hgk := Lib.hid hk2
          have hkp := Lib.hid hk1
          clear hst hdone hfn ho h0 hk1 hk2
          simp only [Int.natCast_add, Int.cast_ofNat_Int]
          go_wp2_with fail
          go_still_tail 14, (by kernel_rfl)
          change wpList _ _ _ _ _ (World.drew _)
          try rw [hwr]
          go_wp2_with (first | (rw [← hV]) | fail)
          go_roundg m
          case measure => have := hgk.out; omega
          case rel => exact ⟨(m : Int), by go_num, Lib.hid (.inr ⟨m, rfl, by have := hkp.out; omega, Nat.le_refl _, ho2.out⟩), hf.trans hf2 (fun c e => .inl e)⟩
end
end Go.Proofs.YtohenmnpmgghhaaGreatDoor
namespace Go.Proofs.YtohenmnpmgghhaaGreatDoor
open Go.RowKit
section
variable {w w' W : World} {g k B : Nat} {S : Nat → Prop} {b : Bk} {p : Option Addr} {L : List Ord}
theorem CvP.perm {L' : List Ord} (h : CvP B w p L) (hp : L.Perm L') : CvP B w p L' := by
  have hL : LOk L' := ⟨by rw [← hp.length_eq]; exact h.1.len, fun x hx => h.1.ok x (hp.mem_iff.2 hx)⟩
  have hc : cvQ L' = cvQ L := by
    have e1 : cprA L' = cprA L := rise_ext (prs_all hL).rise (prs_all h.1).rise fun x => by
      rw [(prs_all hL).mem, (prs_all h.1).mem]
      exact ⟨fun ⟨o, g, e⟩ => ⟨o, hp.mem_iff.2 g, e⟩, fun ⟨o, g, e⟩ => ⟨o, hp.mem_iff.1 g, e⟩⟩
    have e2 : catL L' = catL L := by
      funext q
      unfold catL
      rw [sumO_perm _ hp, sumO_perm _ hp]
    unfold cvQ
    rw [e1, e2]
  refine ⟨hL, h.2.1, ?_⟩
  rw [hc]
  exact h.2.2.imp (fun ⟨h1, h2⟩ => ⟨h1, by subst h2; exact List.eq_nil_of_length_eq_zero (by rw [← hp.length_eq]; rfl)⟩) id
theorem both_perm (hb : b.Ok) : (bkOf b.L 0 ++ bkOf b.L 1).Perm b.L := by
  refine ((bkOf_perm b.L 0).append (bkOf_perm b.L 1)).trans ?_
  have e : (b.L.filter fun x => x.side == 1) = b.L.filter fun x => !(x.side == 0) := List.filter_congr fun x hx => by
    rcases (hb.ok x hx).side with e | e <;> simp [e]
  rw [e]
  exact List.filter_append_perm _ _
theorem cv_of (h : PB W g S k b) : Calls Tryz.prog 26 #[.pointer (some ⟨g, 0, none⟩)] W fun e w' => ∃ p, e = .returned (.pointer p) ∧ CvP W.heap.size w' p b.L ∧ Below W.heap.size W w' := by
  have hp := both_perm h.ok
  have h2 := h.gl.two
  have hlt := h.lt
  have hl : LOk (bkOf b.L 0 ++ bkOf b.L 1) := ⟨by rw [hp.length_eq]; exact h.ok.lok.len, fun x hx => h.ok.ok x (hp.mem_iff.1 hx)⟩
  have hE : EachQ (some ⟨g, 0, none⟩) (fun s => bkOf b.L s) W := by
    intro s V m _ hf hm hmV
    have hV := h.frm hf (fun c e e' => by have := hlt c e'; omega) (fun c e => by omega)
    refine (pb_each s hV).mono ?_
    rintro e w' ⟨lb, he, hb, hs⟩
    exact ⟨lb, he, hb, hs _ fun c e => ⟨by omega, by omega, fun e' => by have := hlt c e'; omega⟩⟩
  refine (cof_any hE (fun x hx => (bkOf_mem.1 hx).2) (fun x hx => (bkOf_mem.1 hx).2) hl).mono ?_
  rintro e w' ⟨c, he, hc, hb⟩
  exact ⟨c, he, hc.perm hp, hb⟩
theorem cv_of_nil (W : World) : Calls Tryz.prog 26 #[.pointer none] W fun e w' => ∃ p, e = .returned (.pointer p) ∧ CvP W.heap.size w' p [] ∧ Below W.heap.size W w' := by
  have hE : EachQ none (fun _ => []) W := by
    intro s V m _ hf hm hmV
    refine (pbNil_each s V).mono ?_
    rintro e w' ⟨lb, he, hb, hs⟩
    refine ⟨lb, he, hb, ?_⟩
    intro l J Jx V' h1 h2 h3 h4 _ h0
    refine (hs (fun c => c = m) l J Jx V' h1 h2 h3 h4 (fun _ _ _ _ f => f.elim) h0).mono ?_
    rintro e B ⟨e1, e2⟩
    exact ⟨e1, e2.imp (fun ⟨xs, a, c⟩ => ⟨xs, by rw [a], c⟩) (fun ⟨_, f, _⟩ => f.elim)⟩
  exact cof_any hE (fun x hx => by cases hx) (fun x hx => by cases hx) LOk.nil
end
end Go.Proofs.YtohenmnpmgghhaaGreatDoor
