/-
  A walk that reads, in plain arithmetic: what it comes to is what bytes are, short numbers cut; a configuration's fault is the same with them cut (no Go text).
  A configuration whose short numbers are cut: its fault is the same, and one that is right stays (no Go text).
-/
import Derived.Test.YtbkiipeoabbiiaaRdN
import Derived.Test.YtbkiipeoabbiiaaWalkC
import Derived.Test.YtbkiipeoabbiiaaCfgB
namespace Go.Proofs.Ytbkiipeoabbiiaa
open Go.RowKit
def cutI (v : Int) : Int := if v ≤ 2147483647 then v else 2147483647
def cutL : List Bool → List Nat → List Int
  | k :: ks, n :: ns => (if k then (cutN n : Int) else cutI (cutN n)) :: cutL ks ns
  | _, _ => []
theorem greatN_big (l : List Nat) : greatN l = l.any bigN := rfl
theorem passR : ∀ (ks : List Bool) (vs : List Int) (s : RdS), ks.length = vs.length →
    passL ansR nxR ks vs s = (cutL ks (rdNs ks.length s.zs s.f).1, ⟨(rdNs ks.length s.zs s.f).2.1, (rdNs ks.length s.zs s.f).2.2, s.big || greatN (rdNs ks.length s.zs s.f).1, s.j - ks.length⟩)
  | [], [], s, _ => by simp [passL, rdNs, cutL, greatN]
  | k :: ks, v :: vs, s, h => by
    have ih := passR ks vs (nxR s v) (by simpa using h)
    simp only [passL]
    rw [ih]
    simp only [List.length_cons, rdNs, cutL, nxR, ansR, greatN_big, List.any_cons, Bool.or_assoc, cutI]
    congr 2
    omega
  | [], _ :: _, _, h => by simp at h
  | _ :: _, [], _, h => by simp at h
theorem stepR_fault (b : List Nat) (h : (stepR 3 0 b 0).f ≠ 0) : (stepR 3 0 b 0).n = 0 ∧ (stepR 3 0 b 0).size = 0 := by
  have e : stepR 3 0 b 0 = ⟨(rn b 10 0 0).1, 0, [], (rn b 10 0 0).2.1, (rn b 10 0 0).2.2⟩ := rfl
  rw [e] at h ⊢
  exact rn_fault b h
theorem cutN_small {n M : Nat} (hM : M < 4611686018427387904) : (M : Int) < (cutN n : Int) ↔ M < n := by
  unfold cutN; split <;> omega
theorem cutN_same {n : Nat} (h : n ≤ 4611686018427387904) : cutN n = n := by unfold cutN; rw [if_neg (by omega)]
theorem bigN_small {n : Nat} (h : n ≤ 4611686018427387904) : bigN n = false := by unfold bigN; simp; omega
theorem greatN_zeros (k : Nat) : greatN (List.replicate k 0) = false := greatN_no fun n hn => by have := List.eq_of_mem_replicate hn; omega
/-- What the walk that reads comes to. -/
structure WR (g : Got × Nat) (w : Wk RdS) : Prop where
  bad : g.2 ≠ 0 → (w.s.f = g.2) ∨ (w.s.f = 0 ∧ w.fine = false ∧ g.2 = 4)
  fine : g.2 = 0 → w.fine = true
  f : g.2 = 0 → w.s.f = 0
  zs : g.2 = 0 → w.s.zs = g.1.left
  big : g.2 = 0 → w.s.big = g.1.great
  n : g.2 = 0 → w.n = g.1.n
  us : g.2 = 0 → w.us = cutL (rep g.1.n K16) g.1.ss
  m : g.2 = 0 → w.m = g.1.m
  vs : g.2 = 0 → w.vs = cutL (rep g.1.m K2) g.1.rs
  ts : g.2 = 0 → w.ts = cutL K6 g.1.ts
theorem passRep (n k : Nat) (K : List Bool) (hK : K.length = k) (s : RdS) : passL ansR nxR (rep n K) (fitL (n * k) []) s = (cutL (rep n K) (rdNs (k * n) s.zs s.f).1, ⟨(rdNs (k * n) s.zs s.f).2.1, (rdNs (k * n) s.zs s.f).2.2, s.big || greatN (rdNs (k * n) s.zs s.f).1, s.j - k * n⟩) := by
  have hl : (rep n K).length = k * n := by rw [rep_length, hK, Nat.mul_comm]
  rw [passR _ _ _ (by rw [hl, fitL_length, Nat.mul_comm]), hl]
theorem step_bad {b : List Nat} {f : Nat} (h : f ≠ 0) : stepR 3 0 b f = ⟨0, 0, [], 0, f⟩ := step_fault h
theorem ansR_int (s : RdS) (v : Int) : ansR s v = ((cutN (stepR 3 0 s.zs s.f).n : Nat) : Int) := rfl
abbrev gz : Got := ⟨0, [], 0, [], [], []⟩
/-- The half behind the symbols, its first number read. -/
def half2c (m : Nat) (b : List Nat) (f : Nat) (big : Bool) (j : Nat) : Wk RdS :=
  if 20 < (cutN m : Int) then ⟨false, 0, [], 0, [], [], ⟨b, f, big || bigN m, j⟩⟩ else
  let q := passL ansR nxR (rep (cutN m : Int).toNat K2) (fitL ((cutN m : Int).toNat * 2) []) ⟨b, f, big || bigN m, j⟩
  let t := passL ansR nxR K6 [0, 0, 0, 0, 0, 0] q.2
  ⟨true, 0, [], (cutN m : Int).toNat, q.1, t.1, t.2⟩
def half2 (s : RdS) : Wk RdS := half2c (stepR 3 0 s.zs s.f).n (s.zs.drop (stepR 3 0 s.zs s.f).size) (stepR 3 0 s.zs s.f).f s.big (s.j - 1)
def got2c (m : Nat) (b : List Nat) (f : Nat) : Got × Nat :=
  if f ≠ 0 then (gz, f) else if 20 < m then (gz, 4) else
  if (rdNs (2 * m) b 0).2.2 ≠ 0 then (gz, (rdNs (2 * m) b 0).2.2) else
  if (rdNs 6 (rdNs (2 * m) b 0).2.1 0).2.2 ≠ 0 then (gz, (rdNs 6 (rdNs (2 * m) b 0).2.1 0).2.2) else (⟨0, [], m, (rdNs (2 * m) b 0).1, (rdNs 6 (rdNs (2 * m) b 0).2.1 0).1, (rdNs 6 (rdNs (2 * m) b 0).2.1 0).2.1⟩, 0)
def got2 (b : List Nat) : Got × Nat := got2c (stepR 3 0 b 0).n (b.drop (stepR 3 0 b 0).size) (stepR 3 0 b 0).f
def got1c (n : Nat) (b : List Nat) (f : Nat) : Got × Nat :=
  if f ≠ 0 then (gz, f) else if 8 < n then (gz, 4) else
  if (rdNs (16 * n) b 0).2.2 ≠ 0 then (gz, (rdNs (16 * n) b 0).2.2) else
  if (got2 (rdNs (16 * n) b 0).2.1).2 ≠ 0 then (gz, (got2 (rdNs (16 * n) b 0).2.1).2) else (⟨n, (rdNs (16 * n) b 0).1, (got2 (rdNs (16 * n) b 0).2.1).1.m, (got2 (rdNs (16 * n) b 0).2.1).1.rs, (got2 (rdNs (16 * n) b 0).2.1).1.ts, (got2 (rdNs (16 * n) b 0).2.1).1.left⟩, 0)
theorem gotK_split (b : List Nat) : gotK b = got1c (stepR 3 0 b 0).n (b.drop (stepR 3 0 b 0).size) (stepR 3 0 b 0).f := by
  unfold gotK got1c
  have e1 : ∀ b, rdNs 1 b 0 = ([(stepR 3 0 b 0).n], b.drop (stepR 3 0 b 0).size, (stepR 3 0 b 0).f) := fun _ => rfl
  simp only [e1, List.getD_cons_zero]
  clear e1
  generalize (stepR 3 0 b 0).n = n
  generalize b.drop (stepR 3 0 b 0).size = b1
  generalize (stepR 3 0 b 0).f = f
  generalize rdNs (16 * n) b1 0 = s
  obtain ⟨s1, s2, s3⟩ := s
  simp only
  unfold got2 got2c
  generalize (stepR 3 0 s2 0).n = m
  generalize s2.drop (stepR 3 0 s2 0).size = b2
  generalize (stepR 3 0 s2 0).f = f2
  generalize rdNs (2 * m) b2 0 = r
  obtain ⟨r1, r2, r3⟩ := r
  simp only
  generalize rdNs 6 r2 0 = t
  obtain ⟨t1, t2, t3⟩ := t
  simp only
  by_cases c1 : f = 0
  · by_cases c2 : 8 < n
    · simp [c1, c2]
    · by_cases c3 : s3 = 0
      · by_cases c4 : f2 = 0
        · by_cases c5 : 20 < m
          · simp [c1, c2, c3, c4, c5]
          · by_cases c6 : r3 = 0
            · by_cases c7 : t3 = 0
              · simp [c1, c2, c3, c4, c5, c6, c7]
              · simp [c1, c2, c3, c4, c5, c6, c7]
            · simp [c1, c2, c3, c4, c5, c6]
        · simp [c1, c2, c3, c4]
      · simp [c1, c2, c3]
  · simp [c1]
def walk1c (n : Nat) (b : List Nat) (f j : Nat) : Wk RdS :=
  if 8 < (cutN n : Int) then ⟨false, 0, [], 0, [], [], ⟨b, f, bigN n, j⟩⟩ else
  let p := passL ansR nxR (rep (cutN n : Int).toNat K16) (fitL ((cutN n : Int).toNat * 16) []) ⟨b, f, bigN n, j⟩
  ⟨(half2 p.2).fine, (cutN n : Int).toNat, p.1, (half2 p.2).m, (half2 p.2).vs, (half2 p.2).ts, (half2 p.2).s⟩
theorem walkP_split (b : List Nat) (j : Nat) : walkP ansR nxR Cfg.zero ⟨b, 0, false, j⟩ = walk1c (stepR 3 0 b 0).n (b.drop (stepR 3 0 b 0).size) (stepR 3 0 b 0).f (j - 1) := by
  have z1 : Cfg.zero.syms.length = 0 := rfl
  have z2 : Cfg.zero.rows.length = 0 := rfl
  have z3 : Cfg.zero.syms.flatMap fieldsL = [] := rfl
  have z4 : Cfg.zero.rows.flatMap rowL2 = [] := rfl
  have z5 : tailI Cfg.zero = [0, 0, 0, 0, 0, 0] := rfl
  unfold walkP walk1c
  rw [z1, z2, z3, z4, z5]
  simp only [ansR_int, nxR, Bool.false_or]
  split
  · rfl
  · unfold half2 half2c
    split
    · rfl
    · rfl
/-- What the second half comes to. -/
structure WR2 (g : Got × Nat) (big : Bool) (w : Wk RdS) : Prop where
  bad : g.2 ≠ 0 → (w.s.f = g.2) ∨ (w.s.f = 0 ∧ w.fine = false ∧ g.2 = 4)
  good : g.2 = 0 → w.fine = true ∧ w.s.f = 0 ∧ w.s.zs = g.1.left ∧ w.s.big = (big || (greatN g.1.rs || greatN g.1.ts)) ∧ w.m = g.1.m ∧ w.vs = cutL (rep g.1.m K2) g.1.rs ∧ w.ts = cutL K6 g.1.ts
theorem half2c_ok (m : Nat) (b1 : List Nat) (f : Nat) (hf : f ≠ 0 → m = 0) (big : Bool) (j : Nat) : WR2 (got2c m b1 f) big (half2c m b1 f big j) := by
  have hs : (20 : Int) < ((cutN m : Nat) : Int) ↔ 20 < m := cutN_small (by decide)
  unfold got2c half2c
  by_cases h20 : 20 < m
  · have hf0 : f = 0 := Classical.byContradiction fun h => by have := hf h; omega
    rw [if_pos (hs.2 h20), if_neg (fun g => g hf0), if_pos h20]
    exact ⟨fun _ => .inr ⟨hf0, rfl, rfl⟩, fun h => by cases h⟩
  · have hcs : cutN m = m := cutN_same (by omega)
    have hbs : bigN m = false := bigN_small (by omega)
    rw [if_neg (fun g => h20 (hs.1 g)), hcs, hbs]
    simp only [Int.toNat_natCast, Bool.or_false]
    rw [passRep _ 2 _ rfl, passR _ _ _ (by rfl)]
    simp only
    have k6 : K6.length = 6 := rfl
    rw [k6]
    by_cases hf0 : f = 0
    · subst hf0
      rw [if_neg (fun g => g rfl), if_neg h20]
      by_cases h1 : (rdNs (2 * m) b1 0).2.2 = 0
      · rw [if_neg (fun g => g h1), h1]
        by_cases h2 : (rdNs 6 (rdNs (2 * m) b1 0).2.1 0).2.2 = 0
        · rw [if_neg (fun g => g h2)]
          exact ⟨fun h => absurd rfl h, fun _ => ⟨rfl, h2, rfl, by simp only [Bool.or_assoc], rfl, rfl, rfl⟩⟩
        · rw [if_pos h2]
          exact ⟨fun _ => .inl rfl, fun h => absurd h h2⟩
      · rw [if_pos h1]
        exact ⟨fun _ => .inl (by simp only [rdNs_fault _ _ _ h1]), fun h => absurd h h1⟩
    · rw [if_pos hf0]
      obtain rfl := hf hf0
      exact ⟨fun _ => .inl (by simp only [rdNs]; simp only [step_bad hf0]), fun h => absurd h hf0⟩
theorem half2_ok (b : List Nat) (big : Bool) (j : Nat) : WR2 (got2 b) big (half2 ⟨b, 0, big, j⟩) :=
  half2c_ok _ _ _ (fun h => (stepR_fault b h).1) _ _
theorem half2_fault (s : RdS) (h : s.f ≠ 0) : (half2 s).s.f = s.f := by
  have e := step_bad (b := s.zs) h
  unfold half2
  rw [e]
  have h1 := (half2c_ok 0 (s.zs.drop 0) s.f (fun _ => rfl) s.big (s.j - 1)).bad
  have h2 : (got2c 0 (s.zs.drop 0) s.f).2 = s.f := by unfold got2c; rw [if_pos h]
  rw [h2] at h1
  rcases h1 h with h3 | ⟨-, h3, -⟩
  · exact h3
  · unfold half2c at h3
    rw [if_neg (by decide)] at h3
    cases h3
theorem walkR (b : List Nat) (j : Nat) : WR (gotK b) (walkP ansR nxR Cfg.zero ⟨b, 0, false, j⟩) := by
  rw [gotK_split, walkP_split]
  have hf := fun h => (stepR_fault b h).1
  generalize (stepR 3 0 b 0).n = n at *
  generalize b.drop (stepR 3 0 b 0).size = b1 at *
  generalize (stepR 3 0 b 0).f = f at *
  have hs : (8 : Int) < ((cutN n : Nat) : Int) ↔ 8 < n := cutN_small (by decide)
  unfold got1c walk1c
  by_cases h8 : 8 < n
  · have hf0 : f = 0 := Classical.byContradiction fun h => by have := hf h; omega
    rw [if_pos (hs.2 h8), if_neg (fun g => g hf0), if_pos h8]
    exact ⟨fun _ => .inr ⟨hf0, rfl, rfl⟩, fun h => (by cases h), fun h => (by cases h), fun h => (by cases h), fun h => (by cases h), fun h => (by cases h), fun h => (by cases h), fun h => (by cases h), fun h => (by cases h), fun h => (by cases h)⟩
  · have hcs : cutN n = n := cutN_same (by omega)
    have hbs : bigN n = false := bigN_small (by omega)
    rw [if_neg (fun g => h8 (hs.1 g)), hcs, hbs]
    simp only [Int.toNat_natCast]
    rw [passRep n 16 _ rfl]
    simp only [Bool.false_or]
    by_cases hf0 : f = 0
    · subst hf0
      rw [if_neg (fun g => g rfl), if_neg h8]
      by_cases h1 : (rdNs (16 * n) b1 0).2.2 = 0
      · rw [if_neg (fun g => g h1), h1]
        have h2 := half2_ok (rdNs (16 * n) b1 0).2.1 (greatN (rdNs (16 * n) b1 0).1) (j - 1 - 16 * n)
        generalize half2 ⟨(rdNs (16 * n) b1 0).2.1, 0, greatN (rdNs (16 * n) b1 0).1, j - 1 - 16 * n⟩ = y at *
        generalize got2 (rdNs (16 * n) b1 0).2.1 = g at *
        by_cases hg : g.2 = 0
        · rw [if_neg (fun q => q hg)]
          obtain ⟨a1, a2, a3, a4, a5, a6, a7⟩ := h2.good hg
          exact ⟨fun h => absurd rfl h, fun _ => a1, fun _ => a2, fun _ => a3, fun _ => a4, fun _ => rfl, fun _ => rfl, fun _ => a5, fun _ => a6, fun _ => a7⟩
        · rw [if_pos hg]
          exact ⟨fun _ => h2.bad hg, fun h => absurd h hg, fun h => absurd h hg, fun h => absurd h hg, fun h => absurd h hg, fun h => absurd h hg, fun h => absurd h hg, fun h => absurd h hg, fun h => absurd h hg, fun h => absurd h hg⟩
      · rw [if_pos h1]
        exact ⟨fun _ => .inl (half2_fault ⟨_, _, _, _⟩ h1), fun h => absurd h h1, fun h => absurd h h1, fun h => absurd h h1, fun h => absurd h h1, fun h => absurd h h1, fun h => absurd h h1, fun h => absurd h h1, fun h => absurd h h1, fun h => absurd h h1⟩
    · rw [if_pos hf0]
      obtain rfl := hf hf0
      have e0 : rdNs (16 * 0) b1 f = ([], b1, f) := rfl
      rw [e0]
      exact ⟨fun _ => .inl (half2_fault ⟨_, _, _, _⟩ hf0), fun h => absurd h hf0, fun h => absurd h hf0, fun h => absurd h hf0, fun h => absurd h hf0, fun h => absurd h hf0, fun h => absurd h hf0, fun h => absurd h hf0, fun h => absurd h hf0, fun h => absurd h hf0⟩
end Go.Proofs.Ytbkiipeoabbiiaa
namespace Go.Proofs.Ytbkiipeoabbiiaa
def cutS (s : Symb) : Symb := ⟨s.grid, s.refp, cutI s.stat, cutI s.dyn, s.win, cutI s.move, s.lim, s.pau, s.ext, cutI s.mext, cutI s.col, cutI s.wid, cutI s.self, cutI s.slots, cutI s.levels, cutI s.short⟩
def cutR (r : Rowp) : Rowp := ⟨r.tick, cutI r.phase⟩
def cutC (c : Cfg) : Cfg := ⟨c.syms.map cutS, c.rows.map cutR, c.index, cutI c.f0, cutI c.f1, cutI c.f2, c.h0, c.h1⟩
theorem cutI_same {v : Int} (h : v ≤ 2147483647) : cutI v = v := if_pos h
theorem in_cut {v lo hi : Int} (hh : hi < 2147483647) : inK (cutI v) lo hi = inK v lo hi := by
  unfold cutI
  by_cases h : v ≤ 2147483647
  · rw [if_pos h]
  · rw [if_neg h]
    unfold inK
    have h1 : ¬ (2147483647 : Int) ≤ hi := by omega
    have h2 : ¬ v ≤ hi := by omega
    simp [h1, h2]
theorem symF_cut (s : Symb) : symF (cutS s) = symF s := by
  have e1 : symR1 (cutS s) = symR1 s := rfl
  have e2 : symR2 (cutS s) = symR2 s := by
    unfold symR2 cutS
    simp only [in_cut (by decide : (9999 : Int) < 2147483647)]
  have e3 : symR3 (cutS s) = symR3 s := by
    unfold symR3 cutS
    simp only [in_cut (by decide : (10 : Int) < 2147483647), in_cut (by decide : (3 : Int) < 2147483647), in_cut (by decide : (500 : Int) < 2147483647), in_cut (by decide : (200 : Int) < 2147483647)]
  have e4 : (cutS s).refp = s.refp := rfl
  have e5 : (cutS s).grid = s.grid := rfl
  unfold symF
  rw [e1, e2, e3, e4, e5]
  by_cases h2 : symR2 s = true
  · have g2 := h2
    unfold symR2 at g2
    simp only [Bool.and_eq_true, inK_true] at g2
    have e6 : (cutS s).stat = s.stat := cutI_same (by have := g2.1; omega)
    have e7 : (cutS s).dyn = s.dyn := cutI_same (by have := g2.2.1; omega)
    rw [e6, e7]
  · have h2' : symR2 s = false := by simpa using h2
    rw [if_pos h2', if_pos h2']
theorem syF_cut : ∀ (l : List Symb) (i : Nat), syF (l.map cutS) i = syF l i
  | [], _ => rfl
  | s :: t, i => by
    rw [List.map_cons, syF, syF, symF_cut, syF_cut t]
theorem rowF_cut (p : Option Int) (r : Rowp) : rowF p (cutR r) = rowF p r := by
  have e1 : (cutR r).tick = r.tick := rfl
  have e2 : rowL p (cutR r) = rowL p r := by cases p <;> rfl
  unfold rowF
  rw [e1, e2]
  unfold cutR
  simp only [in_cut (by decide : (2 : Int) < 2147483647)]
theorem roF_cut : ∀ (l : List Rowp) (p : Option Int) (i : Nat), roF (l.map cutR) p i = roF l p i
  | [], _, _ => rfl
  | r :: t, p, i => by
    rw [List.map_cons, roF, roF, rowF_cut, roF_cut t]
    rfl
theorem tailF_cut (c : Cfg) : tailF (cutC c) = tailF c := by
  have e1 : (cutC c).index = c.index := rfl
  have e2 : haltsB (cutC c) = haltsB c := rfl
  have e3 : fallsB (cutC c) = fallsB c := by
    unfold fallsB cutC
    simp only [in_cut (by decide : (9999 : Int) < 2147483647)]
    by_cases h0 : inK c.f0 1 9999 = true
    · by_cases h1 : inK c.f1 1 9999 = true
      · by_cases h2 : inK c.f2 1 9999 = true
        · have g0 := inK_true.1 h0
          have g1 := inK_true.1 h1
          have g2 := inK_true.1 h2
          rw [cutI_same (v := c.f0) (by omega), cutI_same (v := c.f1) (by omega), cutI_same (v := c.f2) (by omega)]
        · have h2' : inK c.f2 1 9999 = false := by simpa using h2
          simp [h2']
      · have h1' : inK c.f1 1 9999 = false := by simpa using h1
        simp [h1']
    · have h0' : inK c.f0 1 9999 = false := by simpa using h0
      simp [h0']
  unfold tailF
  rw [e1, e2, e3]
theorem checkF_cut (c : Cfg) : checkF (cutC c) = checkF c := by
  have e1 : (cutC c).syms = c.syms.map cutS := rfl
  have e2 : (cutC c).rows = c.rows.map cutR := rfl
  unfold checkF
  rw [e1, e2, List.length_map, List.length_map, syF_cut, roF_cut, tailF_cut]
theorem cutC_right {c : Cfg} (h : (checkF c).1 = 0) : cutC c = c := by
  have hR := checkF_right h
  have e1 : c.syms.map cutS = c.syms := by
    conv => rhs; rw [← List.map_id c.syms]
    refine List.map_congr_left fun s hs => ?_
    have g := hR.syms s hs
    have g_stat := g.stat
    have g_dyn := g.dyn
    have g_move := g.move
    have g_mext := g.mext
    have g_col := g.col
    have g_wid := g.wid
    have g_self := g.self
    have g_slots := g.slots
    have g_levels := g.levels
    have g_short := g.short
    cases s
    simp only at g_stat g_dyn g_move g_mext g_col g_wid g_self g_slots g_levels g_short
    unfold cutS
    simp only [id]
    rw [cutI_same (by omega), cutI_same (by omega), cutI_same (by omega), cutI_same (by omega), cutI_same (by omega), cutI_same (by omega), cutI_same (by omega), cutI_same (by omega), cutI_same (by omega), cutI_same (by omega)]
  have e2 : c.rows.map cutR = c.rows := by
    conv => rhs; rw [← List.map_id c.rows]
    refine List.map_congr_left fun r hr => ?_
    have g := (hR.rows r hr).2
    cases r
    unfold cutR
    simp only at g
    simp only [id]
    rw [cutI_same (by omega)]
  have g0 := hR.f0
  have g1 := hR.f1
  have g2 := hR.f2
  unfold cutC
  rw [e1, e2, cutI_same (v := c.f0) (by omega), cutI_same (v := c.f1) (by omega), cutI_same (v := c.f2) (by omega)]
theorem cutL_app : ∀ (ka kb : List Bool) (la lb : List Nat), ka.length = la.length → cutL (ka ++ kb) (la ++ lb) = cutL ka la ++ cutL kb lb
  | [], _, [], _, _ => rfl
  | k :: ka, kb, n :: la, lb, h => by
    simp only [List.cons_append, cutL]
    rw [cutL_app ka kb la lb (by simpa using h)]
  | [], _, _ :: _, _, h => by simp at h
  | _ :: _, _, [], _, h => by simp at h
theorem rep_cons {α : Type} (n : Nat) (K : List α) : rep (n + 1) K = K ++ rep n K := by
  unfold rep
  rw [List.replicate_succ, List.flatten_cons]
theorem cut_sym (l : List Nat) (h : l.length = 16) (hs : ∀ n ∈ l, n ≤ 4611686018427387904) : cutL K16 l = fieldsL (cutS (symOf l)) := by
  match l, h with
  | [a0, a1, a2, a3, a4, a5, a6, a7, a8, a9, a10, a11, a12, a13, a14, a15], _ =>
    simp only [List.mem_cons, List.not_mem_nil, or_false, forall_eq_or_imp, forall_eq] at hs
    obtain ⟨h0, h1, h2, h3, h4, h5, h6, h7, h8, h9, h10, h11, h12, h13, h14, h15⟩ := hs
    simp only [cutL, cutN_same h0, cutN_same h1, cutN_same h2, cutN_same h3, cutN_same h4, cutN_same h5, cutN_same h6, cutN_same h7, cutN_same h8, cutN_same h9, cutN_same h10, cutN_same h11, cutN_same h12, cutN_same h13, cutN_same h14, cutN_same h15]
    rfl
theorem cut_syms : ∀ (n : Nat) (l : List Nat), l.length = 16 * n → (∀ x ∈ l, x ≤ 4611686018427387904) → cutL (rep n K16) l = ((symsOf n l).map cutS).flatMap fieldsL
  | 0, l, h, _ => by
    obtain rfl : l = [] := List.eq_nil_of_length_eq_zero (by omega)
    rfl
  | n + 1, l, h, hs => by
    have e : l = l.take 16 ++ l.drop 16 := (List.take_append_drop 16 l).symm
    have h1 : (l.take 16).length = 16 := by rw [List.length_take]; omega
    rw [rep_cons, symsOf, List.map_cons, List.flatMap_cons]
    conv => lhs; rw [e]
    rw [cutL_app _ _ _ _ (by rw [h1]; rfl), cut_sym _ h1 (fun x hx => hs x (List.mem_of_mem_take hx)), cut_syms n _ (by rw [List.length_drop]; omega) (fun x hx => hs x (List.mem_of_mem_drop hx))]
theorem cut_row (l : List Nat) (h : l.length = 2) (hs : ∀ n ∈ l, n ≤ 4611686018427387904) : cutL K2 l = rowL2 (cutR (rowOf l)) := by
  match l, h with
  | [a0, a1], _ =>
    simp only [List.mem_cons, List.not_mem_nil, or_false, forall_eq_or_imp, forall_eq] at hs
    obtain ⟨h0, h1⟩ := hs
    simp only [cutL, cutN_same h0, cutN_same h1]
    rfl
theorem cut_rows : ∀ (n : Nat) (l : List Nat), l.length = 2 * n → (∀ x ∈ l, x ≤ 4611686018427387904) → cutL (rep n K2) l = ((rowsOf n l).map cutR).flatMap rowL2
  | 0, l, h, _ => by
    obtain rfl : l = [] := List.eq_nil_of_length_eq_zero (by omega)
    rfl
  | n + 1, l, h, hs => by
    have e : l = l.take 2 ++ l.drop 2 := (List.take_append_drop 2 l).symm
    have h1 : (l.take 2).length = 2 := by rw [List.length_take]; omega
    rw [rep_cons, rowsOf, List.map_cons, List.flatMap_cons]
    conv => lhs; rw [e]
    rw [cutL_app _ _ _ _ (by rw [h1]; rfl), cut_row _ h1 (fun x hx => hs x (List.mem_of_mem_take hx)), cut_rows n _ (by rw [List.length_drop]; omega) (fun x hx => hs x (List.mem_of_mem_drop hx))]
theorem cut_tail (n : Nat) (ss : List Nat) (m : Nat) (rs l : List Nat) (h : l.length = 6) (hs : ∀ n ∈ l, n ≤ 4611686018427387904) : cutL K6 l = tailI (cutC (cfgOf n ss m rs l)) := by
  match l, h with
  | [a0, a1, a2, a3, a4, a5], _ =>
    simp only [List.mem_cons, List.not_mem_nil, or_false, forall_eq_or_imp, forall_eq] at hs
    obtain ⟨h0, h1, h2, h3, h4, h5⟩ := hs
    simp only [cutL, cutN_same h0, cutN_same h1, cutN_same h2, cutN_same h3, cutN_same h4, cutN_same h5]
    rfl
theorem great_no {l : List Nat} (h : greatN l = false) : ∀ n ∈ l, n ≤ 4611686018427387904 := by
  unfold greatN at h
  rw [List.any_eq_false] at h
  intro n hn
  have := h n hn
  simp at this
  omega
/-- The numbers got, as the cut configuration's. -/
theorem got_cut {b : List Nat} (hb : ∀ x ∈ b, x < 256) (h : (gotK b).2 = 0) (hg : (gotK b).1.great = false) :
    cutL (rep (gotK b).1.n K16) (gotK b).1.ss = (cutC (gotK b).1.cfg).syms.flatMap fieldsL ∧ cutL (rep (gotK b).1.m K2) (gotK b).1.rs = (cutC (gotK b).1.cfg).rows.flatMap rowL2 ∧ cutL K6 (gotK b).1.ts = tailI (cutC (gotK b).1.cfg) ∧ (cutC (gotK b).1.cfg).syms.length = (gotK b).1.n ∧ (cutC (gotK b).1.cfg).rows.length = (gotK b).1.m := by
  obtain ⟨-, l1, l2, l3⟩ := gotK_back hb h
  generalize (gotK b).1 = g at *
  obtain ⟨n, ss, m, rs, ts, left⟩ := g
  unfold Got.great at hg
  simp only [Bool.or_eq_false_iff] at hg l1 l2 l3
  refine ⟨cut_syms n ss l1 (great_no hg.1), cut_rows m rs l2 (great_no hg.2.1), cut_tail n ss m rs ts l3 (great_no hg.2.2), ?_, ?_⟩
  · show ((symsOf n ss).map cutS).length = n
    rw [List.length_map, symsOf_length]
  · show ((rowsOf m rs).map cutR).length = m
    rw [List.length_map, rowsOf_length]
theorem gotK_small (b : List Nat) (h : (gotK b).2 = 0) : (gotK b).1.n ≤ 8 ∧ (gotK b).1.m ≤ 20 := by
  rw [gotK_split] at h ⊢
  generalize (stepR 3 0 b 0).n = n at *
  generalize b.drop (stepR 3 0 b 0).size = b1 at *
  generalize (stepR 3 0 b 0).f = f at *
  unfold got1c at h ⊢
  by_cases c1 : f = 0
  · by_cases c2 : 8 < n
    · rw [if_neg (fun g => g c1), if_pos c2] at h; cases h
    · by_cases c3 : (rdNs (16 * n) b1 0).2.2 = 0
      · by_cases c4 : (got2 (rdNs (16 * n) b1 0).2.1).2 = 0
        · rw [if_neg (fun g => g c1), if_neg c2, if_neg (fun g => g c3), if_neg (fun g => g c4)]
          refine ⟨by show n ≤ 8; omega, ?_⟩
          show (got2 (rdNs (16 * n) b1 0).2.1).1.m ≤ 20
          generalize (rdNs (16 * n) b1 0).2.1 = b2 at c4 ⊢
          clear h
          unfold got2 got2c at c4 ⊢
          generalize (stepR 3 0 b2 0).n = m at *
          generalize b2.drop (stepR 3 0 b2 0).size = b3 at *
          generalize (stepR 3 0 b2 0).f = f2 at *
          by_cases d1 : f2 = 0
          · by_cases d2 : 20 < m
            · rw [if_neg (fun g => g d1), if_pos d2] at c4; cases c4
            · rw [if_neg (fun g => g d1), if_neg d2]
              split
              · exact Nat.zero_le _
              · split
                · exact Nat.zero_le _
                · show m ≤ 20
                  omega
          · rw [if_pos d1] at c4; exact absurd c4 d1
        · rw [if_neg (fun g => g c1), if_neg c2, if_neg (fun g => g c3), if_pos c4] at h; exact absurd h c4
      · rw [if_neg (fun g => g c1), if_neg c2, if_pos c3] at h; exact absurd h c3
  · rw [if_pos c1] at h; exact absurd h c1
theorem cutL_range : ∀ (ks : List Bool) (ns : List Nat), ∀ v ∈ cutL ks ns, 0 ≤ v ∧ v ≤ 4611686018427387904
  | [], _, v, h => by simp [cutL] at h
  | _ :: _, [], v, h => by simp [cutL] at h
  | k :: ks, n :: ns, v, h => by
    simp only [cutL, List.mem_cons] at h
    rcases h with h | h
    · have h1 : cutN n ≤ 4611686018427387904 := by unfold cutN; split <;> omega
      subst h
      split
      · omega
      · unfold cutI; split <;> omega
    · exact cutL_range ks ns v h
/-- A walk that reads, and what bytes are. -/
inductive RdCase (b : List Nat) (y : Wk RdS) : Prop
  | fault (h : y.s.f ≠ 0) (e : readC b = (Cfg.zero, y.s.f))
  | shape (h : y.s.f = 0) (h2 : y.fine = false ∨ (y.fine = true ∧ (y.s.big = true ∨ y.s.zs ≠ []))) (e : readC b = (Cfg.zero, 4))
  | wrong (h : y.s.f = 0) (h2 : y.fine = true) (h3 : y.s.big = false) (h4 : y.s.zs = []) (c : Cfg) (us : y.us = c.syms.flatMap fieldsL) (vs : y.vs = c.rows.flatMap rowL2) (ts : y.ts = tailI c) (n : y.n = c.syms.length) (m : y.m = c.rows.length) (n8 : y.n ≤ 8) (m20 : y.m ≤ 20) (fit : c.Fit) (bad : (checkF c).1 ≠ 0) (e : readC b = (Cfg.zero, (checkF c).1))
  | right (h : y.s.f = 0) (h2 : y.fine = true) (h3 : y.s.big = false) (h4 : y.s.zs = []) (c : Cfg) (us : y.us = c.syms.flatMap fieldsL) (vs : y.vs = c.rows.flatMap rowL2) (ts : y.ts = tailI c) (n : y.n = c.syms.length) (m : y.m = c.rows.length) (n8 : y.n ≤ 8) (m20 : y.m ≤ 20) (fit : c.Fit) (ok : (checkF c).1 = 0) (e : readC b = (c, 0))
theorem in64_cut {v : Int} (h : 0 ≤ v ∧ v ≤ 4611686018427387904) : In64 v := ⟨by omega, by omega⟩
theorem fit_cut {c : Cfg} (h1 : ∀ v ∈ c.syms.flatMap fieldsL, 0 ≤ v ∧ v ≤ 4611686018427387904) (h2 : ∀ v ∈ c.rows.flatMap rowL2, 0 ≤ v ∧ v ≤ 4611686018427387904) (h3 : ∀ v ∈ tailI c, 0 ≤ v ∧ v ≤ 4611686018427387904) : c.Fit := by
  have g1 : ∀ s ∈ c.syms, ∀ v ∈ fieldsL s, In64 v := fun s hs v hv => in64_cut (h1 v (List.mem_flatMap.2 ⟨s, hs, hv⟩))
  have g2 : ∀ r ∈ c.rows, ∀ v ∈ rowL2 r, In64 v := fun r hr v hv => in64_cut (h2 v (List.mem_flatMap.2 ⟨r, hr, hv⟩))
  have g3 : ∀ v ∈ tailI c, In64 v := fun v hv => in64_cut (h3 v hv)
  refine ⟨fun s hs => ?_, fun r hr => ?_, g3 _ (by simp), g3 _ (by simp), g3 _ (by simp), g3 _ (by simp), g3 _ (by simp), g3 _ (by simp)⟩
  · have g := g1 s hs
    simp only [fieldsL, List.mem_cons, List.not_mem_nil, or_false, forall_eq_or_imp, forall_eq] at g
    obtain ⟨a0, a1, a2, a3, a4, a5, a6, a7, a8, a9, a10, a11, a12, a13, a14, a15⟩ := g
    exact ⟨a0, a1, a2, a3, a4, a5, a6, a7, a8, a9, a10, a11, a12, a13, a14, a15⟩
  · have g := g2 r hr
    simp only [rowL2, List.mem_cons, List.not_mem_nil, or_false, forall_eq_or_imp, forall_eq] at g
    exact ⟨g.1, g.2⟩
theorem read_cases {b : List Nat} (hb : ∀ x ∈ b, x < 256) (j : Nat) : RdCase b (walkP ansR nxR Cfg.zero ⟨b, 0, false, j⟩) := by
  have hW := walkR b j
  generalize walkP ansR nxR Cfg.zero ⟨b, 0, false, j⟩ = y at hW ⊢
  by_cases h0 : (gotK b).2 = 0
  · by_cases h1 : (gotK b).1.great = true ∨ (gotK b).1.left ≠ []
    · refine .shape (hW.f h0) (.inr ⟨hW.fine h0, ?_⟩) ?_
      · rw [hW.big h0, hW.zs h0]; exact h1
      · unfold readC
        rw [if_neg (fun g => g h0), if_pos h1]
    · have hg : (gotK b).1.great = false := by
        cases e : (gotK b).1.great with
        | false => rfl
        | true => exact absurd (.inl e) h1
      have hl : (gotK b).1.left = [] := Classical.byContradiction fun h => h1 (.inr h)
      obtain ⟨e1, e2, e3, e4, e5⟩ := got_cut hb h0 hg
      obtain ⟨n8, m20⟩ := gotK_small b h0
      have hc := checkF_cut (gotK b).1.cfg
      have hfit : (cutC (gotK b).1.cfg).Fit := fit_cut (by rw [← e1]; exact cutL_range _ _) (by rw [← e2]; exact cutL_range _ _) (by rw [← e3]; exact cutL_range _ _)
      have us := (hW.us h0).trans e1
      have vs := (hW.vs h0).trans e2
      have ts := (hW.ts h0).trans e3
      have n := (hW.n h0).trans e4.symm
      have m := (hW.m h0).trans e5.symm
      have n8' : y.n ≤ 8 := by rw [hW.n h0]; exact n8
      have m20' : y.m ≤ 20 := by rw [hW.m h0]; exact m20
      by_cases h2 : (checkF (gotK b).1.cfg).1 = 0
      · have hr := cutC_right h2
        refine .right (hW.f h0) (hW.fine h0) ((hW.big h0).trans hg) ((hW.zs h0).trans hl) _ us vs ts n m n8' m20' hfit (by rw [hc]; exact h2) ?_
        unfold readC
        rw [if_neg (fun g => g h0), if_neg h1, if_neg (fun g => g h2), hr]
      · refine .wrong (hW.f h0) (hW.fine h0) ((hW.big h0).trans hg) ((hW.zs h0).trans hl) _ us vs ts n m n8' m20' hfit (by rw [hc]; exact h2) ?_
        unfold readC
        rw [if_neg (fun g => g h0), if_neg h1, if_pos h2, hc]
  · rcases hW.bad h0 with h1 | ⟨h1, h2, h3⟩
    · refine .fault (by rw [h1]; exact h0) ?_
      unfold readC
      rw [if_pos h0, h1]
    · refine .shape h1 (.inl h2) ?_
      unfold readC
      rw [if_pos h0, h3]
end Go.Proofs.Ytbkiipeoabbiiaa
