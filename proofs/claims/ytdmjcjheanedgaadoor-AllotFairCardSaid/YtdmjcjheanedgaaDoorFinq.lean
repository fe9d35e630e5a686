/-
  The contract of package fifo's New.
-/
import Derived.Test.YtdmjcjheanedgaaDoorGF
import Derived.Laws.MakeOwn
import Derived.LoopTactic
namespace Go.Proofs.YtdmjcjheanedgaaDoor
open Go.RowKit
theorem made_rep (z : Array Value) (v : Value) (h0 : 0 < z.size) (hz : ∀ r, r < z.size → z[r]! = v) (n : Nat) : madeCells z n = (List.replicate n v).toArray := by
  apply Array.ext'
  unfold madeCells
  rw [Array.toList_map, Array.toList_range]
  rw [List.eq_replicate_iff]
  refine ⟨by simp, fun x hx => ?_⟩
  obtain ⟨i, hi, rfl⟩ := List.mem_map.1 hx
  exact hz _ (Nat.mod_lt _ h0)
theorem infoLk : (Tryd.prog.info? 119).map (fun i => (i.zero, i.size, i.bytes)) = some (some (vLk ⟨0, 0, 0⟩), 3, 24) := by kernel_rfl
theorem infoEn : (Tryd.prog.info? 121).map (fun i => (i.zero, i.size, i.bytes)) = some (some (vEn ⟨0, 0⟩), 2, 16) := by kernel_rfl
theorem infoIn : (Tryd.prog.info? 3).map (fun i => (i.zero, i.size, i.bytes)) = some (some (.int .i64 0), 1, 8) := by kernel_rfl
theorem make_Lk (n : Nat) (hn : n ≤ 500) : ∀ w, (Instr.makeSlice 113 (.int .i64 (n : Int)) (.int .i64 (n : Int))).run Tryd.prog w = .ok (.slice (some ⟨w.heap.size, 0, none⟩) n n) (w.alloc (.cells (madeCells (cLk ⟨0, 0, 0⟩) (n * 3)) 119)) := by
  intro w
  obtain ⟨i1, hi1, e1⟩ := Option.map_eq_some_iff.1 infoLk
  simp only [Prod.mk.injEq] at e1
  obtain ⟨hz1, hs1, hb1⟩ := e1
  have := run_make (P := Tryd.prog) w 113 119 i1 _ Tryd.underlying113 hi1 hz1 .i64 .i64 (n : Int) (n : Int) (by omega) (by omega) (by rw [hb1]; omega) (by omega)
  rw [hs1] at this
  exact this
theorem make_En (n : Nat) (hn : n ≤ 500) : ∀ w, (Instr.makeSlice 114 (.int .i64 (n : Int)) (.int .i64 (n : Int))).run Tryd.prog w = .ok (.slice (some ⟨w.heap.size, 0, none⟩) n n) (w.alloc (.cells (madeCells (cEn ⟨0, 0⟩) (n * 2)) 121)) := by
  intro w
  obtain ⟨i1, hi1, e1⟩ := Option.map_eq_some_iff.1 infoEn
  simp only [Prod.mk.injEq] at e1
  obtain ⟨hz1, hs1, hb1⟩ := e1
  have := run_make (P := Tryd.prog) w 114 121 i1 _ Tryd.underlying114 hi1 hz1 .i64 .i64 (n : Int) (n : Int) (by omega) (by omega) (by rw [hb1]; omega) (by omega)
  rw [hs1] at this
  exact this
theorem make_In (n : Nat) (hn : n ≤ 500) : ∀ w, (Instr.makeSlice 115 (.int .i64 (n : Int)) (.int .i64 (n : Int))).run Tryd.prog w = .ok (.slice (some ⟨w.heap.size, 0, none⟩) n n) (w.alloc (.cells (madeCells (cI 0) n) 3)) := by
  intro w
  obtain ⟨i1, hi1, e1⟩ := Option.map_eq_some_iff.1 infoIn
  simp only [Prod.mk.injEq] at e1
  obtain ⟨hz1, hs1, hb1⟩ := e1
  have := run_make (P := Tryd.prog) w 115 3 i1 _ Tryd.underlying115 hi1 hz1 .i64 .i64 (n : Int) (n : Int) (by omega) (by omega) (by rw [hb1]; omega) (by omega)
  rw [hs1, Int.toNat_natCast, Nat.mul_one] at this
  exact this
theorem flt_Lk (n : Nat) : Flt cLk 3 (madeCells (cLk ⟨0, 0, 0⟩) (n * 3)) (List.replicate n ⟨0, 0, 0⟩) := by
  rw [made_rep _ (.int .i64 0) (by decide) (fun r hr => by
    match r, hr with
    | 0, _ => rfl
    | 1, _ => rfl
    | 2, _ => rfl
    | r + 3, hr => exact absurd hr (by simp))]
  refine Flt.of_rep n (⟨0, 0, 0⟩ : Lk) _ fun j v hj => ?_
  match j, hj with
  | 0, hj => exact ⟨by omega, by simpa using hj.symm⟩
  | 1, hj => exact ⟨by omega, by simpa using hj.symm⟩
  | 2, hj => exact ⟨by omega, by simpa using hj.symm⟩
  | j + 3, hj => simp at hj
theorem flt_En (n : Nat) : Flt cEn 2 (madeCells (cEn ⟨0, 0⟩) (n * 2)) (List.replicate n ⟨0, 0⟩) := by
  rw [made_rep _ (.int .i64 0) (by decide) (fun r hr => by
    match r, hr with
    | 0, _ => rfl
    | 1, _ => rfl
    | r + 2, hr => exact absurd hr (by simp))]
  refine Flt.of_rep n (⟨0, 0⟩ : En) _ fun j v hj => ?_
  match j, hj with
  | 0, hj => exact ⟨by omega, by simpa using hj.symm⟩
  | 1, hj => exact ⟨by omega, by simpa using hj.symm⟩
  | j + 2, hj => simp at hj
theorem flt_In (n : Nat) : Flt cI 1 (madeCells (cI 0) n) (List.replicate n 0) := by
  rw [made_rep _ (.int .i64 0) (by decide) (fun r hr => by
    match r, hr with
    | 0, _ => rfl
    | r + 1, hr => exact absurd hr (by simp))]
  have := Flt.of_rep (enc := cI) (sz := 1) n 0 (.int .i64 0) fun j v hj => (by
    match j, hj with
    | 0, hj => exact ⟨by omega, by simpa using hj.symm⟩
    | j + 1, hj => simp at hj)
  rwa [Nat.mul_one] at this
theorem PMmade {W w : World} {g bl be bs n m : Nat} {zl ze zi : Array Value} (hn : n ≤ 500) (hm : m ≤ 400) (hG : Gl W) (fL : Flt cLk 3 zl (List.replicate n ⟨0, 0, 0⟩)) (fE : Flt cEn 2 ze (List.replicate m ⟨0, 0⟩)) (fI : Flt cI 1 zi (List.replicate m 0))
    (hg : Blk w g 117 #[.slice (some ⟨bl, 0, none⟩) n n, .slice (some ⟨be, 0, none⟩) m m, .slice (some ⟨bs, 0, none⟩) m m]) (hl : Blk w bl 119 zl) (he : Blk w be 121 ze) (hi : Blk w bs 3 zi) (hb : Below W.heap.size W w)
    (h1 : W.heap.size ≤ g ∧ W.heap.size ≤ bl ∧ W.heap.size ≤ be ∧ W.heap.size ≤ bs) (h2 : g ≠ bl ∧ g ≠ be ∧ g ≠ bs) (h3 : bl ≠ be ∧ bl ≠ bs ∧ be ≠ bs) :
    PM w g bl be bs (List.replicate n ⟨0, 0, 0⟩) (List.replicate m ⟨0, 0⟩) (List.replicate m 0) := by
  have ht := hG.two
  refine ⟨?_, ⟨zl, hl, fL⟩, ⟨ze, he, fE⟩, ⟨zi, hi, fI⟩, by simp, by simpa using hn, by simpa using hm, hG.below hb, h2.1, h2.2.1, h2.2.2, h3.1, h3.2.1, h3.2.2, by omega, by omega, by omega, by omega⟩
  simp only [List.length_replicate]
  exact hg
set_option maxRecDepth 8000 in
set_option maxHeartbeats 1000000 in
theorem fnew_any (n m : Nat) (h1 : 1 ≤ n) (h2 : n ≤ 500) (h3 : 1 ≤ m) (h4 : m ≤ 400) (W : World) (hG : Gl W) :
    Calls Tryd.prog 34 #[.int .i64 (n : Int), .int .i64 (m : Int)] W fun e w' => e = .returned (.tuple #[.pointer (some ⟨W.heap.size + 1 + 1 + 1, 0, none⟩), .int .i64 0]) ∧ Below W.heap.size W w' ∧ ∃ bl be bs K E Z, (∀ b, Qb (W.heap.size + 1 + 1 + 1) bl be bs b → W.heap.size ≤ b) ∧ PM w' (W.heap.size + 1 + 1 + 1) bl be bs K E Z ∧ Fqp K E Z (Fq.new n m) := by
  have mL := make_Lk n h2
  have mE := make_En m (by omega)
  have mI := make_In m (by omega)
  have fL := flt_Lk n
  have fE := flt_En m
  have fI := flt_In m
  generalize madeCells (cLk ⟨0, 0, 0⟩) (n * 3) = zl at *
  generalize madeCells (cEn ⟨0, 0⟩) (m * 2) = ze at *
  generalize madeCells (cI 0) m = zi at *
  go_enter Tryd.func34, Tryd.ntmps34
  have hd1 : decide ((n : Int) < 1) = false := by simp; omega
  have hd2 : decide ((500 : Int) < (n : Int)) = false := by simp; omega
  have hd3 : decide ((m : Int) < 1) = false := by simp; omega
  have hd4 : decide ((400 : Int) < (m : Int)) = false := by simp; omega
  go_wp2_with fail
  go_region
  -- the six ways
  · have hpm : PM (((((W.alloc (Obj.cells zl 119)).alloc (Obj.cells ze 121)).alloc (Obj.cells zi 3)).alloc (Obj.cells #[.slice (some ⟨W.heap.size, 0, none⟩) n n, .slice (some ⟨W.heap.size + 1, 0, none⟩) m m, .slice (some ⟨W.heap.size + 1 + 1, 0, none⟩) m m] 117)).drew) (W.heap.size + 1 + 1 + 1) (W.heap.size) (W.heap.size + 1) (W.heap.size + 1 + 1) (List.replicate n ⟨0, 0, 0⟩) (List.replicate m ⟨0, 0⟩) (List.replicate m 0) := PMmade h2 h4 hG fL fE fI ((Blk.new' (by simp)).drew) (((((Blk.new' (by simp)).alloc _).alloc _).alloc _).drew) ((((Blk.new' (by simp)).alloc _).alloc _).drew) (((Blk.new' (by simp)).alloc _).drew) ((((((Below.refl _ W).alloc (Nat.le_refl _) _).alloc (by simp) _).alloc (by simp; omega) _).alloc (by simp; omega) _).drew) (by omega) (by omega) (by omega)
    have hbel : Below W.heap.size W (((((W.alloc (Obj.cells zl 119)).alloc (Obj.cells ze 121)).alloc (Obj.cells zi 3)).alloc (Obj.cells #[.slice (some ⟨W.heap.size, 0, none⟩) n n, .slice (some ⟨W.heap.size + 1, 0, none⟩) m m, .slice (some ⟨W.heap.size + 1 + 1, 0, none⟩) m m] 117)).drew) := (((((Below.refl _ W).alloc (Nat.le_refl _) _).alloc (by simp) _).alloc (by simp; omega) _).alloc (by simp; omega) _).drew
    clear mL mE mI fL fE fI hG
    generalize (((((W.alloc (Obj.cells zl 119)).alloc (Obj.cells ze 121)).alloc (Obj.cells zi 3)).alloc (Obj.cells #[.slice (some ⟨W.heap.size, 0, none⟩) n n, .slice (some ⟨W.heap.size + 1, 0, none⟩) m m, .slice (some ⟨W.heap.size + 1 + 1, 0, none⟩) m m] 117)).drew) = W1 at hpm hbel ⊢
    obtain ⟨g, hg⟩ : ∃ g, g = W.heap.size + 1 + 1 + 1 := ⟨_, rfl⟩
    obtain ⟨bl, hbl⟩ : ∃ b, b = W.heap.size := ⟨_, rfl⟩
    obtain ⟨be, hbe⟩ : ∃ b, b = W.heap.size + 1 := ⟨_, rfl⟩
    obtain ⟨bs, hbs⟩ : ∃ b, b = W.heap.size + 1 + 1 := ⟨_, rfl⟩
    rw [← hg] at hpm ⊢
    rw [← hbs] at hpm ⊢
    rw [← hbe] at hpm ⊢
    rw [← hbl] at hpm ⊢
    have hq : ∀ b, Qb g bl be bs b → W.heap.size ≤ b := by rintro b (e | e | e | e) <;> omega
    have HG := Lib.hid hg
    clear hg hbl hbe hbs
    obtain ⟨K0, hK0⟩ : ∃ K0 : List Lk, K0 = List.replicate n ⟨0, 0, 0⟩ := ⟨_, rfl⟩
    obtain ⟨E0, hE0⟩ : ∃ E0 : List En, E0 = List.replicate m ⟨0, 0⟩ := ⟨_, rfl⟩
    obtain ⟨Z0, hZ0⟩ : ∃ Z0 : List Int, Z0 = List.replicate m 0 := ⟨_, rfl⟩
    have lK0 : Hid (K0.length = n) := Lib.hid (by rw [hK0]; simp)
    have lE0 : Hid (E0.length = m) := Lib.hid (by rw [hE0]; simp)
    rw [← hK0, ← hE0, ← hZ0] at hpm
    replace hZ0 := Lib.hid hZ0
    clear hK0 hE0
    have c0 := hpm.c0
    rw [lK0.out] at c0
    go_wp2_with fail
    clear c0
    go_loopw [7, 36] (fun _ p36 wr => ∃ (k : Nat) (K : List Lk), p36 = .int .i64 (k : Int) ∧ k ≤ n ∧ PM wr g bl be bs K E0 Z0 ∧ Hid (K.length = n) ∧ (∀ j, j < k → K[j]? = some ⟨-1, -1, -1⟩) ∧ Below W.heap.size W wr)
      (fun _ p _ => n - (intOf p).toNat)
    case atStart => exact ⟨0, K0, rfl, by omega, hpm, lK0, (fun j hj => by omega), hbel⟩
    case round =>
      clear hpm hbel lK0
      obtain ⟨k, K, rfl, hk, hP, lK, hK, hb⟩ := hrel
      by_cases hkn : k < n
      · obtain ⟨kk, hkk⟩ : ∃ kk, K[k]? = some kk := ⟨_, List.getElem?_eq_getElem (by rw [lK.out]; exact hkn)⟩
        have q1 := hP.drew.setLq hkk (-1)
        have q2 := q1.setLp (lset K (by rw [lK.out]; exact hkn) _) (-1)
        have q3 := q2.setLx (List.getElem?_set_self (by rw [List.length_set, lK.out]; exact hkn)) (-1)
        rw [List.set_set, List.set_set] at q3
        have lK' : Hid ((K.set k ⟨-1, -1, -1⟩).length = n) := Lib.hid (by rw [List.length_set]; exact lK.out)
        have hK' : ∀ j, j < k + 1 → (K.set k ⟨-1, -1, -1⟩)[j]? = some ⟨-1, -1, -1⟩ := by
          intro j hj
          rw [List.getElem?_set]
          by_cases hjk : k = j
          · subst hjk; rw [if_pos rfl, if_pos (by rw [lK.out]; exact hkn)]
          · rw [if_neg hjk]; exact hK j (by omega)
        have hbl := hq bl (.inr (.inl rfl))
        have hb' := ((hb.drew.setCell (p := ⟨bl, k * 3, none⟩) hbl (.int .i64 (-1))).setCell (p := ⟨bl, k * 3 + 1, none⟩) hbl (.int .i64 (-1))).setCell (p := ⟨bl, k * 3 + 2, none⟩) hbl (.int .i64 (-1))
        have c0 := hP.c0
        rw [lK.out] at c0
        obtain ⟨m0, m1, m2⟩ := hP.lk hkk
        have f0 := hP.fl
        obtain ⟨a0, a1, a2, -, -⟩ := hP.gl
        have hxl : (k : Int) < (n : Int) := by omega
        clear hkk lK hK q1 q2 hP hb hq hbl lE0 hZ0 HG
        generalize K.set k ⟨-1, -1, -1⟩ = K' at *
        go_wp2_with fail
        go_still_tail 7, (by kernel_rfl)
        change wpList _ _ _ _ _ (World.drew _)
        replace f0 : ∀ i, wr.drew.frozen? ⟨bl, i, none⟩ = false := f0
        replace m0 : wr.drew.cell? ⟨bl, k * 3, none⟩ = _ := m0
        replace m1 : wr.drew.cell? ⟨bl, k * 3 + 1, none⟩ = _ := m1
        replace m2 : wr.drew.cell? ⟨bl, k * 3 + 2, none⟩ = _ := m2
        clear c0 a0 a1 a2
        generalize wr.drew = W3 at *
        go_wp2_with fail
        go_roundw
        case rel => exact ⟨k + 1, K', by go_num, by omega, q3, lK', hK', hb'⟩
        case measure => simp [intOf]; omega
      · have hkn2 : k = n := by omega
        rw [hkn2] at hK hkn ⊢
        have hKr : K = List.replicate n ⟨-1, -1, -1⟩ := List.ext_getElem? fun j => by
          by_cases hj : j < n
          · rw [hK j hj, List.getElem?_replicate, if_pos hj]
          · rw [List.getElem?_eq_none (by rw [lK.out]; omega), List.getElem?_eq_none (by simp; omega)]
        replace hKr := Lib.hid hKr
        clear hK lK hkn2
        have c1 := hP.c1
        rw [lE0.out] at c1
        go_wp2_with fail
        clear c1
        go_loopw [8, 52] (fun _ p52 wr => ∃ (k : Nat) (E : List En), p52 = .int .i64 (k : Int) ∧ k ≤ m ∧ PM wr g bl be bs K E Z0 ∧ Hid (E.length = m) ∧ (∀ j, j < k → E[j]? = some ⟨-1, -1⟩) ∧ Below W.heap.size W wr)
          (fun _ p _ => m - (intOf p).toNat)
        case atStart => exact ⟨0, E0, rfl, by omega, hP, lE0, (fun j hj => by omega), hb⟩
        case round =>
          clear hP lE0 hb
          obtain ⟨k, E, rfl, hk, hP, lE, hE, hb⟩ := hrel
          by_cases hkm : k < m
          · obtain ⟨kk, hkk⟩ : ∃ kk, E[k]? = some kk := ⟨_, List.getElem?_eq_getElem (by rw [lE.out]; exact hkm)⟩
            have q1 := hP.drew.setEf hkk (-1)
            have q2 := q1.setEl (List.getElem?_set_self (by rw [lE.out]; exact hkm)) (-1)
            rw [List.set_set] at q2
            have lE' : Hid ((E.set k ⟨-1, -1⟩).length = m) := Lib.hid (by rw [List.length_set]; exact lE.out)
            have hE' : ∀ j, j < k + 1 → (E.set k ⟨-1, -1⟩)[j]? = some ⟨-1, -1⟩ := by
              intro j hj
              rw [List.getElem?_set]
              by_cases hjk : k = j
              · subst hjk; rw [if_pos rfl, if_pos (by rw [lE.out]; exact hkm)]
              · rw [if_neg hjk]; exact hE j (by omega)
            have hbe := hq be (.inr (.inr (.inl rfl)))
            have hb' := (hb.drew.setCell (p := ⟨be, k * 2, none⟩) hbe (.int .i64 (-1))).setCell (p := ⟨be, k * 2 + 1, none⟩) hbe (.int .i64 (-1))
            have c1 := hP.c1
            rw [lE.out] at c1
            obtain ⟨m0, m1⟩ := hP.en hkk
            have f0 := hP.fe
            obtain ⟨-, -, -, a0, a1⟩ := hP.gl
            have hxl : (k : Int) < (m : Int) := by omega
            clear hkk lE hE q1 hP hb hq hbe hKr hZ0 HG hkn
            generalize E.set k ⟨-1, -1⟩ = E' at *
            go_wp2_with fail
            go_still_tail 7, (by kernel_rfl)
            change wpList _ _ _ _ _ (World.drew _)
            replace f0 : ∀ i, wr.drew.frozen? ⟨be, i, none⟩ = false := f0
            replace m0 : wr.drew.cell? ⟨be, k * 2, none⟩ = _ := m0
            replace m1 : wr.drew.cell? ⟨be, k * 2 + 1, none⟩ = _ := m1
            clear c1 a0 a1
            generalize wr.drew = W3 at *
            go_wp2_with fail
            go_roundw
            case rel => exact ⟨k + 1, E', by go_num, by omega, q2, lE', hE', hb'⟩
            case measure => simp [intOf]; omega
          · have hkm2 : k = m := by omega
            rw [hkm2] at hE hkm ⊢
            have hEr : E = List.replicate m ⟨-1, -1⟩ := List.ext_getElem? fun j => by
              by_cases hj : j < m
              · rw [hE j hj, List.getElem?_replicate, if_pos hj]
              · rw [List.getElem?_eq_none (by rw [lE.out]; omega), List.getElem?_eq_none (by simp; omega)]
            have hfq := Fqp.new n m
            rw [← hKr.out, ← hEr, ← hZ0.out] at hfq
            clear hE hEr lE hkm2
            go_wp2_with fail
            go_ret2
            rw [← HG.out]
            exact ⟨rfl, hb, bl, be, bs, K, E, Z0, hq, hP, hfq⟩
  · have hpm : PM (((((W.alloc (Obj.cells zl 119)).alloc (Obj.cells zi 3)).alloc (Obj.cells ze 121)).alloc (Obj.cells #[.slice (some ⟨W.heap.size, 0, none⟩) n n, .slice (some ⟨W.heap.size + 1 + 1, 0, none⟩) m m, .slice (some ⟨W.heap.size + 1, 0, none⟩) m m] 117)).drew) (W.heap.size + 1 + 1 + 1) (W.heap.size) (W.heap.size + 1 + 1) (W.heap.size + 1) (List.replicate n ⟨0, 0, 0⟩) (List.replicate m ⟨0, 0⟩) (List.replicate m 0) := PMmade h2 h4 hG fL fE fI ((Blk.new' (by simp)).drew) (((((Blk.new' (by simp)).alloc _).alloc _).alloc _).drew) (((Blk.new' (by simp)).alloc _).drew) ((((Blk.new' (by simp)).alloc _).alloc _).drew) ((((((Below.refl _ W).alloc (Nat.le_refl _) _).alloc (by simp) _).alloc (by simp; omega) _).alloc (by simp; omega) _).drew) (by omega) (by omega) (by omega)
    have hbel : Below W.heap.size W (((((W.alloc (Obj.cells zl 119)).alloc (Obj.cells zi 3)).alloc (Obj.cells ze 121)).alloc (Obj.cells #[.slice (some ⟨W.heap.size, 0, none⟩) n n, .slice (some ⟨W.heap.size + 1 + 1, 0, none⟩) m m, .slice (some ⟨W.heap.size + 1, 0, none⟩) m m] 117)).drew) := (((((Below.refl _ W).alloc (Nat.le_refl _) _).alloc (by simp) _).alloc (by simp; omega) _).alloc (by simp; omega) _).drew
    clear mL mE mI fL fE fI hG
    generalize (((((W.alloc (Obj.cells zl 119)).alloc (Obj.cells zi 3)).alloc (Obj.cells ze 121)).alloc (Obj.cells #[.slice (some ⟨W.heap.size, 0, none⟩) n n, .slice (some ⟨W.heap.size + 1 + 1, 0, none⟩) m m, .slice (some ⟨W.heap.size + 1, 0, none⟩) m m] 117)).drew) = W1 at hpm hbel ⊢
    obtain ⟨g, hg⟩ : ∃ g, g = W.heap.size + 1 + 1 + 1 := ⟨_, rfl⟩
    obtain ⟨bl, hbl⟩ : ∃ b, b = W.heap.size := ⟨_, rfl⟩
    obtain ⟨be, hbe⟩ : ∃ b, b = W.heap.size + 1 + 1 := ⟨_, rfl⟩
    obtain ⟨bs, hbs⟩ : ∃ b, b = W.heap.size + 1 := ⟨_, rfl⟩
    rw [← hg] at hpm ⊢
    rw [← hbe] at hpm ⊢
    rw [← hbs] at hpm ⊢
    rw [← hbl] at hpm ⊢
    have hq : ∀ b, Qb g bl be bs b → W.heap.size ≤ b := by rintro b (e | e | e | e) <;> omega
    have HG := Lib.hid hg
    clear hg hbl hbe hbs
    obtain ⟨K0, hK0⟩ : ∃ K0 : List Lk, K0 = List.replicate n ⟨0, 0, 0⟩ := ⟨_, rfl⟩
    obtain ⟨E0, hE0⟩ : ∃ E0 : List En, E0 = List.replicate m ⟨0, 0⟩ := ⟨_, rfl⟩
    obtain ⟨Z0, hZ0⟩ : ∃ Z0 : List Int, Z0 = List.replicate m 0 := ⟨_, rfl⟩
    have lK0 : Hid (K0.length = n) := Lib.hid (by rw [hK0]; simp)
    have lE0 : Hid (E0.length = m) := Lib.hid (by rw [hE0]; simp)
    rw [← hK0, ← hE0, ← hZ0] at hpm
    replace hZ0 := Lib.hid hZ0
    clear hK0 hE0
    have c0 := hpm.c0
    rw [lK0.out] at c0
    go_wp2_with fail
    clear c0
    go_loopw [7, 36] (fun _ p36 wr => ∃ (k : Nat) (K : List Lk), p36 = .int .i64 (k : Int) ∧ k ≤ n ∧ PM wr g bl be bs K E0 Z0 ∧ Hid (K.length = n) ∧ (∀ j, j < k → K[j]? = some ⟨-1, -1, -1⟩) ∧ Below W.heap.size W wr)
      (fun _ p _ => n - (intOf p).toNat)
    case atStart => exact ⟨0, K0, rfl, by omega, hpm, lK0, (fun j hj => by omega), hbel⟩
    case round =>
      clear hpm hbel lK0
      obtain ⟨k, K, rfl, hk, hP, lK, hK, hb⟩ := hrel
      by_cases hkn : k < n
      · obtain ⟨kk, hkk⟩ : ∃ kk, K[k]? = some kk := ⟨_, List.getElem?_eq_getElem (by rw [lK.out]; exact hkn)⟩
        have q1 := hP.drew.setLq hkk (-1)
        have q2 := q1.setLp (lset K (by rw [lK.out]; exact hkn) _) (-1)
        have q3 := q2.setLx (List.getElem?_set_self (by rw [List.length_set, lK.out]; exact hkn)) (-1)
        rw [List.set_set, List.set_set] at q3
        have lK' : Hid ((K.set k ⟨-1, -1, -1⟩).length = n) := Lib.hid (by rw [List.length_set]; exact lK.out)
        have hK' : ∀ j, j < k + 1 → (K.set k ⟨-1, -1, -1⟩)[j]? = some ⟨-1, -1, -1⟩ := by
          intro j hj
          rw [List.getElem?_set]
          by_cases hjk : k = j
          · subst hjk; rw [if_pos rfl, if_pos (by rw [lK.out]; exact hkn)]
          · rw [if_neg hjk]; exact hK j (by omega)
        have hbl := hq bl (.inr (.inl rfl))
        have hb' := ((hb.drew.setCell (p := ⟨bl, k * 3, none⟩) hbl (.int .i64 (-1))).setCell (p := ⟨bl, k * 3 + 1, none⟩) hbl (.int .i64 (-1))).setCell (p := ⟨bl, k * 3 + 2, none⟩) hbl (.int .i64 (-1))
        have c0 := hP.c0
        rw [lK.out] at c0
        obtain ⟨m0, m1, m2⟩ := hP.lk hkk
        have f0 := hP.fl
        obtain ⟨a0, a1, a2, -, -⟩ := hP.gl
        have hxl : (k : Int) < (n : Int) := by omega
        clear hkk lK hK q1 q2 hP hb hq hbl lE0 hZ0 HG
        generalize K.set k ⟨-1, -1, -1⟩ = K' at *
        go_wp2_with fail
        go_still_tail 7, (by kernel_rfl)
        change wpList _ _ _ _ _ (World.drew _)
        replace f0 : ∀ i, wr.drew.frozen? ⟨bl, i, none⟩ = false := f0
        replace m0 : wr.drew.cell? ⟨bl, k * 3, none⟩ = _ := m0
        replace m1 : wr.drew.cell? ⟨bl, k * 3 + 1, none⟩ = _ := m1
        replace m2 : wr.drew.cell? ⟨bl, k * 3 + 2, none⟩ = _ := m2
        clear c0 a0 a1 a2
        generalize wr.drew = W3 at *
        go_wp2_with fail
        go_roundw
        case rel => exact ⟨k + 1, K', by go_num, by omega, q3, lK', hK', hb'⟩
        case measure => simp [intOf]; omega
      · have hkn2 : k = n := by omega
        rw [hkn2] at hK hkn ⊢
        have hKr : K = List.replicate n ⟨-1, -1, -1⟩ := List.ext_getElem? fun j => by
          by_cases hj : j < n
          · rw [hK j hj, List.getElem?_replicate, if_pos hj]
          · rw [List.getElem?_eq_none (by rw [lK.out]; omega), List.getElem?_eq_none (by simp; omega)]
        replace hKr := Lib.hid hKr
        clear hK lK hkn2
        have c1 := hP.c1
        rw [lE0.out] at c1
        go_wp2_with fail
        clear c1
        go_loopw [8, 52] (fun _ p52 wr => ∃ (k : Nat) (E : List En), p52 = .int .i64 (k : Int) ∧ k ≤ m ∧ PM wr g bl be bs K E Z0 ∧ Hid (E.length = m) ∧ (∀ j, j < k → E[j]? = some ⟨-1, -1⟩) ∧ Below W.heap.size W wr)
          (fun _ p _ => m - (intOf p).toNat)
        case atStart => exact ⟨0, E0, rfl, by omega, hP, lE0, (fun j hj => by omega), hb⟩
        case round =>
          clear hP lE0 hb
          obtain ⟨k, E, rfl, hk, hP, lE, hE, hb⟩ := hrel
          by_cases hkm : k < m
          · obtain ⟨kk, hkk⟩ : ∃ kk, E[k]? = some kk := ⟨_, List.getElem?_eq_getElem (by rw [lE.out]; exact hkm)⟩
            have q1 := hP.drew.setEf hkk (-1)
            have q2 := q1.setEl (List.getElem?_set_self (by rw [lE.out]; exact hkm)) (-1)
            rw [List.set_set] at q2
            have lE' : Hid ((E.set k ⟨-1, -1⟩).length = m) := Lib.hid (by rw [List.length_set]; exact lE.out)
            have hE' : ∀ j, j < k + 1 → (E.set k ⟨-1, -1⟩)[j]? = some ⟨-1, -1⟩ := by
              intro j hj
              rw [List.getElem?_set]
              by_cases hjk : k = j
              · subst hjk; rw [if_pos rfl, if_pos (by rw [lE.out]; exact hkm)]
              · rw [if_neg hjk]; exact hE j (by omega)
            have hbe := hq be (.inr (.inr (.inl rfl)))
            have hb' := (hb.drew.setCell (p := ⟨be, k * 2, none⟩) hbe (.int .i64 (-1))).setCell (p := ⟨be, k * 2 + 1, none⟩) hbe (.int .i64 (-1))
            have c1 := hP.c1
            rw [lE.out] at c1
            obtain ⟨m0, m1⟩ := hP.en hkk
            have f0 := hP.fe
            obtain ⟨-, -, -, a0, a1⟩ := hP.gl
            have hxl : (k : Int) < (m : Int) := by omega
            clear hkk lE hE q1 hP hb hq hbe hKr hZ0 HG hkn
            generalize E.set k ⟨-1, -1⟩ = E' at *
            go_wp2_with fail
            go_still_tail 7, (by kernel_rfl)
            change wpList _ _ _ _ _ (World.drew _)
            replace f0 : ∀ i, wr.drew.frozen? ⟨be, i, none⟩ = false := f0
            replace m0 : wr.drew.cell? ⟨be, k * 2, none⟩ = _ := m0
            replace m1 : wr.drew.cell? ⟨be, k * 2 + 1, none⟩ = _ := m1
            clear c1 a0 a1
            generalize wr.drew = W3 at *
            go_wp2_with fail
            go_roundw
            case rel => exact ⟨k + 1, E', by go_num, by omega, q2, lE', hE', hb'⟩
            case measure => simp [intOf]; omega
          · have hkm2 : k = m := by omega
            rw [hkm2] at hE hkm ⊢
            have hEr : E = List.replicate m ⟨-1, -1⟩ := List.ext_getElem? fun j => by
              by_cases hj : j < m
              · rw [hE j hj, List.getElem?_replicate, if_pos hj]
              · rw [List.getElem?_eq_none (by rw [lE.out]; omega), List.getElem?_eq_none (by simp; omega)]
            have hfq := Fqp.new n m
            rw [← hKr.out, ← hEr, ← hZ0.out] at hfq
            clear hE hEr lE hkm2
            go_wp2_with fail
            go_ret2
            rw [← HG.out]
            exact ⟨rfl, hb, bl, be, bs, K, E, Z0, hq, hP, hfq⟩
  · have hpm : PM (((((W.alloc (Obj.cells ze 121)).alloc (Obj.cells zl 119)).alloc (Obj.cells zi 3)).alloc (Obj.cells #[.slice (some ⟨W.heap.size + 1, 0, none⟩) n n, .slice (some ⟨W.heap.size, 0, none⟩) m m, .slice (some ⟨W.heap.size + 1 + 1, 0, none⟩) m m] 117)).drew) (W.heap.size + 1 + 1 + 1) (W.heap.size + 1) (W.heap.size) (W.heap.size + 1 + 1) (List.replicate n ⟨0, 0, 0⟩) (List.replicate m ⟨0, 0⟩) (List.replicate m 0) := PMmade h2 h4 hG fL fE fI ((Blk.new' (by simp)).drew) ((((Blk.new' (by simp)).alloc _).alloc _).drew) (((((Blk.new' (by simp)).alloc _).alloc _).alloc _).drew) (((Blk.new' (by simp)).alloc _).drew) ((((((Below.refl _ W).alloc (Nat.le_refl _) _).alloc (by simp) _).alloc (by simp; omega) _).alloc (by simp; omega) _).drew) (by omega) (by omega) (by omega)
    have hbel : Below W.heap.size W (((((W.alloc (Obj.cells ze 121)).alloc (Obj.cells zl 119)).alloc (Obj.cells zi 3)).alloc (Obj.cells #[.slice (some ⟨W.heap.size + 1, 0, none⟩) n n, .slice (some ⟨W.heap.size, 0, none⟩) m m, .slice (some ⟨W.heap.size + 1 + 1, 0, none⟩) m m] 117)).drew) := (((((Below.refl _ W).alloc (Nat.le_refl _) _).alloc (by simp) _).alloc (by simp; omega) _).alloc (by simp; omega) _).drew
    clear mL mE mI fL fE fI hG
    generalize (((((W.alloc (Obj.cells ze 121)).alloc (Obj.cells zl 119)).alloc (Obj.cells zi 3)).alloc (Obj.cells #[.slice (some ⟨W.heap.size + 1, 0, none⟩) n n, .slice (some ⟨W.heap.size, 0, none⟩) m m, .slice (some ⟨W.heap.size + 1 + 1, 0, none⟩) m m] 117)).drew) = W1 at hpm hbel ⊢
    obtain ⟨g, hg⟩ : ∃ g, g = W.heap.size + 1 + 1 + 1 := ⟨_, rfl⟩
    obtain ⟨bl, hbl⟩ : ∃ b, b = W.heap.size + 1 := ⟨_, rfl⟩
    obtain ⟨be, hbe⟩ : ∃ b, b = W.heap.size := ⟨_, rfl⟩
    obtain ⟨bs, hbs⟩ : ∃ b, b = W.heap.size + 1 + 1 := ⟨_, rfl⟩
    rw [← hg] at hpm ⊢
    rw [← hbs] at hpm ⊢
    rw [← hbl] at hpm ⊢
    rw [← hbe] at hpm ⊢
    have hq : ∀ b, Qb g bl be bs b → W.heap.size ≤ b := by rintro b (e | e | e | e) <;> omega
    have HG := Lib.hid hg
    clear hg hbl hbe hbs
    obtain ⟨K0, hK0⟩ : ∃ K0 : List Lk, K0 = List.replicate n ⟨0, 0, 0⟩ := ⟨_, rfl⟩
    obtain ⟨E0, hE0⟩ : ∃ E0 : List En, E0 = List.replicate m ⟨0, 0⟩ := ⟨_, rfl⟩
    obtain ⟨Z0, hZ0⟩ : ∃ Z0 : List Int, Z0 = List.replicate m 0 := ⟨_, rfl⟩
    have lK0 : Hid (K0.length = n) := Lib.hid (by rw [hK0]; simp)
    have lE0 : Hid (E0.length = m) := Lib.hid (by rw [hE0]; simp)
    rw [← hK0, ← hE0, ← hZ0] at hpm
    replace hZ0 := Lib.hid hZ0
    clear hK0 hE0
    have c0 := hpm.c0
    rw [lK0.out] at c0
    go_wp2_with fail
    clear c0
    go_loopw [7, 36] (fun _ p36 wr => ∃ (k : Nat) (K : List Lk), p36 = .int .i64 (k : Int) ∧ k ≤ n ∧ PM wr g bl be bs K E0 Z0 ∧ Hid (K.length = n) ∧ (∀ j, j < k → K[j]? = some ⟨-1, -1, -1⟩) ∧ Below W.heap.size W wr)
      (fun _ p _ => n - (intOf p).toNat)
    case atStart => exact ⟨0, K0, rfl, by omega, hpm, lK0, (fun j hj => by omega), hbel⟩
    case round =>
      clear hpm hbel lK0
      obtain ⟨k, K, rfl, hk, hP, lK, hK, hb⟩ := hrel
      by_cases hkn : k < n
      · obtain ⟨kk, hkk⟩ : ∃ kk, K[k]? = some kk := ⟨_, List.getElem?_eq_getElem (by rw [lK.out]; exact hkn)⟩
        have q1 := hP.drew.setLq hkk (-1)
        have q2 := q1.setLp (lset K (by rw [lK.out]; exact hkn) _) (-1)
        have q3 := q2.setLx (List.getElem?_set_self (by rw [List.length_set, lK.out]; exact hkn)) (-1)
        rw [List.set_set, List.set_set] at q3
        have lK' : Hid ((K.set k ⟨-1, -1, -1⟩).length = n) := Lib.hid (by rw [List.length_set]; exact lK.out)
        have hK' : ∀ j, j < k + 1 → (K.set k ⟨-1, -1, -1⟩)[j]? = some ⟨-1, -1, -1⟩ := by
          intro j hj
          rw [List.getElem?_set]
          by_cases hjk : k = j
          · subst hjk; rw [if_pos rfl, if_pos (by rw [lK.out]; exact hkn)]
          · rw [if_neg hjk]; exact hK j (by omega)
        have hbl := hq bl (.inr (.inl rfl))
        have hb' := ((hb.drew.setCell (p := ⟨bl, k * 3, none⟩) hbl (.int .i64 (-1))).setCell (p := ⟨bl, k * 3 + 1, none⟩) hbl (.int .i64 (-1))).setCell (p := ⟨bl, k * 3 + 2, none⟩) hbl (.int .i64 (-1))
        have c0 := hP.c0
        rw [lK.out] at c0
        obtain ⟨m0, m1, m2⟩ := hP.lk hkk
        have f0 := hP.fl
        obtain ⟨a0, a1, a2, -, -⟩ := hP.gl
        have hxl : (k : Int) < (n : Int) := by omega
        clear hkk lK hK q1 q2 hP hb hq hbl lE0 hZ0 HG
        generalize K.set k ⟨-1, -1, -1⟩ = K' at *
        go_wp2_with fail
        go_still_tail 7, (by kernel_rfl)
        change wpList _ _ _ _ _ (World.drew _)
        replace f0 : ∀ i, wr.drew.frozen? ⟨bl, i, none⟩ = false := f0
        replace m0 : wr.drew.cell? ⟨bl, k * 3, none⟩ = _ := m0
        replace m1 : wr.drew.cell? ⟨bl, k * 3 + 1, none⟩ = _ := m1
        replace m2 : wr.drew.cell? ⟨bl, k * 3 + 2, none⟩ = _ := m2
        clear c0 a0 a1 a2
        generalize wr.drew = W3 at *
        go_wp2_with fail
        go_roundw
        case rel => exact ⟨k + 1, K', by go_num, by omega, q3, lK', hK', hb'⟩
        case measure => simp [intOf]; omega
      · have hkn2 : k = n := by omega
        rw [hkn2] at hK hkn ⊢
        have hKr : K = List.replicate n ⟨-1, -1, -1⟩ := List.ext_getElem? fun j => by
          by_cases hj : j < n
          · rw [hK j hj, List.getElem?_replicate, if_pos hj]
          · rw [List.getElem?_eq_none (by rw [lK.out]; omega), List.getElem?_eq_none (by simp; omega)]
        replace hKr := Lib.hid hKr
        clear hK lK hkn2
        have c1 := hP.c1
        rw [lE0.out] at c1
        go_wp2_with fail
        clear c1
        go_loopw [8, 52] (fun _ p52 wr => ∃ (k : Nat) (E : List En), p52 = .int .i64 (k : Int) ∧ k ≤ m ∧ PM wr g bl be bs K E Z0 ∧ Hid (E.length = m) ∧ (∀ j, j < k → E[j]? = some ⟨-1, -1⟩) ∧ Below W.heap.size W wr)
          (fun _ p _ => m - (intOf p).toNat)
        case atStart => exact ⟨0, E0, rfl, by omega, hP, lE0, (fun j hj => by omega), hb⟩
        case round =>
          clear hP lE0 hb
          obtain ⟨k, E, rfl, hk, hP, lE, hE, hb⟩ := hrel
          by_cases hkm : k < m
          · obtain ⟨kk, hkk⟩ : ∃ kk, E[k]? = some kk := ⟨_, List.getElem?_eq_getElem (by rw [lE.out]; exact hkm)⟩
            have q1 := hP.drew.setEf hkk (-1)
            have q2 := q1.setEl (List.getElem?_set_self (by rw [lE.out]; exact hkm)) (-1)
            rw [List.set_set] at q2
            have lE' : Hid ((E.set k ⟨-1, -1⟩).length = m) := Lib.hid (by rw [List.length_set]; exact lE.out)
            have hE' : ∀ j, j < k + 1 → (E.set k ⟨-1, -1⟩)[j]? = some ⟨-1, -1⟩ := by
              intro j hj
              rw [List.getElem?_set]
              by_cases hjk : k = j
              · subst hjk; rw [if_pos rfl, if_pos (by rw [lE.out]; exact hkm)]
              · rw [if_neg hjk]; exact hE j (by omega)
            have hbe := hq be (.inr (.inr (.inl rfl)))
            have hb' := (hb.drew.setCell (p := ⟨be, k * 2, none⟩) hbe (.int .i64 (-1))).setCell (p := ⟨be, k * 2 + 1, none⟩) hbe (.int .i64 (-1))
            have c1 := hP.c1
            rw [lE.out] at c1
            obtain ⟨m0, m1⟩ := hP.en hkk
            have f0 := hP.fe
            obtain ⟨-, -, -, a0, a1⟩ := hP.gl
            have hxl : (k : Int) < (m : Int) := by omega
            clear hkk lE hE q1 hP hb hq hbe hKr hZ0 HG hkn
            generalize E.set k ⟨-1, -1⟩ = E' at *
            go_wp2_with fail
            go_still_tail 7, (by kernel_rfl)
            change wpList _ _ _ _ _ (World.drew _)
            replace f0 : ∀ i, wr.drew.frozen? ⟨be, i, none⟩ = false := f0
            replace m0 : wr.drew.cell? ⟨be, k * 2, none⟩ = _ := m0
            replace m1 : wr.drew.cell? ⟨be, k * 2 + 1, none⟩ = _ := m1
            clear c1 a0 a1
            generalize wr.drew = W3 at *
            go_wp2_with fail
            go_roundw
            case rel => exact ⟨k + 1, E', by go_num, by omega, q2, lE', hE', hb'⟩
            case measure => simp [intOf]; omega
          · have hkm2 : k = m := by omega
            rw [hkm2] at hE hkm ⊢
            have hEr : E = List.replicate m ⟨-1, -1⟩ := List.ext_getElem? fun j => by
              by_cases hj : j < m
              · rw [hE j hj, List.getElem?_replicate, if_pos hj]
              · rw [List.getElem?_eq_none (by rw [lE.out]; omega), List.getElem?_eq_none (by simp; omega)]
            have hfq := Fqp.new n m
            rw [← hKr.out, ← hEr, ← hZ0.out] at hfq
            clear hE hEr lE hkm2
            go_wp2_with fail
            go_ret2
            rw [← HG.out]
            exact ⟨rfl, hb, bl, be, bs, K, E, Z0, hq, hP, hfq⟩
  · have hpm : PM (((((W.alloc (Obj.cells ze 121)).alloc (Obj.cells zi 3)).alloc (Obj.cells zl 119)).alloc (Obj.cells #[.slice (some ⟨W.heap.size + 1 + 1, 0, none⟩) n n, .slice (some ⟨W.heap.size, 0, none⟩) m m, .slice (some ⟨W.heap.size + 1, 0, none⟩) m m] 117)).drew) (W.heap.size + 1 + 1 + 1) (W.heap.size + 1 + 1) (W.heap.size) (W.heap.size + 1) (List.replicate n ⟨0, 0, 0⟩) (List.replicate m ⟨0, 0⟩) (List.replicate m 0) := PMmade h2 h4 hG fL fE fI ((Blk.new' (by simp)).drew) (((Blk.new' (by simp)).alloc _).drew) (((((Blk.new' (by simp)).alloc _).alloc _).alloc _).drew) ((((Blk.new' (by simp)).alloc _).alloc _).drew) ((((((Below.refl _ W).alloc (Nat.le_refl _) _).alloc (by simp) _).alloc (by simp; omega) _).alloc (by simp; omega) _).drew) (by omega) (by omega) (by omega)
    have hbel : Below W.heap.size W (((((W.alloc (Obj.cells ze 121)).alloc (Obj.cells zi 3)).alloc (Obj.cells zl 119)).alloc (Obj.cells #[.slice (some ⟨W.heap.size + 1 + 1, 0, none⟩) n n, .slice (some ⟨W.heap.size, 0, none⟩) m m, .slice (some ⟨W.heap.size + 1, 0, none⟩) m m] 117)).drew) := (((((Below.refl _ W).alloc (Nat.le_refl _) _).alloc (by simp) _).alloc (by simp; omega) _).alloc (by simp; omega) _).drew
    clear mL mE mI fL fE fI hG
    generalize (((((W.alloc (Obj.cells ze 121)).alloc (Obj.cells zi 3)).alloc (Obj.cells zl 119)).alloc (Obj.cells #[.slice (some ⟨W.heap.size + 1 + 1, 0, none⟩) n n, .slice (some ⟨W.heap.size, 0, none⟩) m m, .slice (some ⟨W.heap.size + 1, 0, none⟩) m m] 117)).drew) = W1 at hpm hbel ⊢
    obtain ⟨g, hg⟩ : ∃ g, g = W.heap.size + 1 + 1 + 1 := ⟨_, rfl⟩
    obtain ⟨bl, hbl⟩ : ∃ b, b = W.heap.size + 1 + 1 := ⟨_, rfl⟩
    obtain ⟨be, hbe⟩ : ∃ b, b = W.heap.size := ⟨_, rfl⟩
    obtain ⟨bs, hbs⟩ : ∃ b, b = W.heap.size + 1 := ⟨_, rfl⟩
    rw [← hg] at hpm ⊢
    rw [← hbl] at hpm ⊢
    rw [← hbs] at hpm ⊢
    rw [← hbe] at hpm ⊢
    have hq : ∀ b, Qb g bl be bs b → W.heap.size ≤ b := by rintro b (e | e | e | e) <;> omega
    have HG := Lib.hid hg
    clear hg hbl hbe hbs
    obtain ⟨K0, hK0⟩ : ∃ K0 : List Lk, K0 = List.replicate n ⟨0, 0, 0⟩ := ⟨_, rfl⟩
    obtain ⟨E0, hE0⟩ : ∃ E0 : List En, E0 = List.replicate m ⟨0, 0⟩ := ⟨_, rfl⟩
    obtain ⟨Z0, hZ0⟩ : ∃ Z0 : List Int, Z0 = List.replicate m 0 := ⟨_, rfl⟩
    have lK0 : Hid (K0.length = n) := Lib.hid (by rw [hK0]; simp)
    have lE0 : Hid (E0.length = m) := Lib.hid (by rw [hE0]; simp)
    rw [← hK0, ← hE0, ← hZ0] at hpm
    replace hZ0 := Lib.hid hZ0
    clear hK0 hE0
    have c0 := hpm.c0
    rw [lK0.out] at c0
    go_wp2_with fail
    clear c0
    go_loopw [7, 36] (fun _ p36 wr => ∃ (k : Nat) (K : List Lk), p36 = .int .i64 (k : Int) ∧ k ≤ n ∧ PM wr g bl be bs K E0 Z0 ∧ Hid (K.length = n) ∧ (∀ j, j < k → K[j]? = some ⟨-1, -1, -1⟩) ∧ Below W.heap.size W wr)
      (fun _ p _ => n - (intOf p).toNat)
    case atStart => exact ⟨0, K0, rfl, by omega, hpm, lK0, (fun j hj => by omega), hbel⟩
    case round =>
      clear hpm hbel lK0
      obtain ⟨k, K, rfl, hk, hP, lK, hK, hb⟩ := hrel
      by_cases hkn : k < n
      · obtain ⟨kk, hkk⟩ : ∃ kk, K[k]? = some kk := ⟨_, List.getElem?_eq_getElem (by rw [lK.out]; exact hkn)⟩
        have q1 := hP.drew.setLq hkk (-1)
        have q2 := q1.setLp (lset K (by rw [lK.out]; exact hkn) _) (-1)
        have q3 := q2.setLx (List.getElem?_set_self (by rw [List.length_set, lK.out]; exact hkn)) (-1)
        rw [List.set_set, List.set_set] at q3
        have lK' : Hid ((K.set k ⟨-1, -1, -1⟩).length = n) := Lib.hid (by rw [List.length_set]; exact lK.out)
        have hK' : ∀ j, j < k + 1 → (K.set k ⟨-1, -1, -1⟩)[j]? = some ⟨-1, -1, -1⟩ := by
          intro j hj
          rw [List.getElem?_set]
          by_cases hjk : k = j
          · subst hjk; rw [if_pos rfl, if_pos (by rw [lK.out]; exact hkn)]
          · rw [if_neg hjk]; exact hK j (by omega)
        have hbl := hq bl (.inr (.inl rfl))
        have hb' := ((hb.drew.setCell (p := ⟨bl, k * 3, none⟩) hbl (.int .i64 (-1))).setCell (p := ⟨bl, k * 3 + 1, none⟩) hbl (.int .i64 (-1))).setCell (p := ⟨bl, k * 3 + 2, none⟩) hbl (.int .i64 (-1))
        have c0 := hP.c0
        rw [lK.out] at c0
        obtain ⟨m0, m1, m2⟩ := hP.lk hkk
        have f0 := hP.fl
        obtain ⟨a0, a1, a2, -, -⟩ := hP.gl
        have hxl : (k : Int) < (n : Int) := by omega
        clear hkk lK hK q1 q2 hP hb hq hbl lE0 hZ0 HG
        generalize K.set k ⟨-1, -1, -1⟩ = K' at *
        go_wp2_with fail
        go_still_tail 7, (by kernel_rfl)
        change wpList _ _ _ _ _ (World.drew _)
        replace f0 : ∀ i, wr.drew.frozen? ⟨bl, i, none⟩ = false := f0
        replace m0 : wr.drew.cell? ⟨bl, k * 3, none⟩ = _ := m0
        replace m1 : wr.drew.cell? ⟨bl, k * 3 + 1, none⟩ = _ := m1
        replace m2 : wr.drew.cell? ⟨bl, k * 3 + 2, none⟩ = _ := m2
        clear c0 a0 a1 a2
        generalize wr.drew = W3 at *
        go_wp2_with fail
        go_roundw
        case rel => exact ⟨k + 1, K', by go_num, by omega, q3, lK', hK', hb'⟩
        case measure => simp [intOf]; omega
      · have hkn2 : k = n := by omega
        rw [hkn2] at hK hkn ⊢
        have hKr : K = List.replicate n ⟨-1, -1, -1⟩ := List.ext_getElem? fun j => by
          by_cases hj : j < n
          · rw [hK j hj, List.getElem?_replicate, if_pos hj]
          · rw [List.getElem?_eq_none (by rw [lK.out]; omega), List.getElem?_eq_none (by simp; omega)]
        replace hKr := Lib.hid hKr
        clear hK lK hkn2
        have c1 := hP.c1
        rw [lE0.out] at c1
        go_wp2_with fail
        clear c1
        go_loopw [8, 52] (fun _ p52 wr => ∃ (k : Nat) (E : List En), p52 = .int .i64 (k : Int) ∧ k ≤ m ∧ PM wr g bl be bs K E Z0 ∧ Hid (E.length = m) ∧ (∀ j, j < k → E[j]? = some ⟨-1, -1⟩) ∧ Below W.heap.size W wr)
          (fun _ p _ => m - (intOf p).toNat)
        case atStart => exact ⟨0, E0, rfl, by omega, hP, lE0, (fun j hj => by omega), hb⟩
        case round =>
          clear hP lE0 hb
          obtain ⟨k, E, rfl, hk, hP, lE, hE, hb⟩ := hrel
          by_cases hkm : k < m
          · obtain ⟨kk, hkk⟩ : ∃ kk, E[k]? = some kk := ⟨_, List.getElem?_eq_getElem (by rw [lE.out]; exact hkm)⟩
            have q1 := hP.drew.setEf hkk (-1)
            have q2 := q1.setEl (List.getElem?_set_self (by rw [lE.out]; exact hkm)) (-1)
            rw [List.set_set] at q2
            have lE' : Hid ((E.set k ⟨-1, -1⟩).length = m) := Lib.hid (by rw [List.length_set]; exact lE.out)
            have hE' : ∀ j, j < k + 1 → (E.set k ⟨-1, -1⟩)[j]? = some ⟨-1, -1⟩ := by
              intro j hj
              rw [List.getElem?_set]
              by_cases hjk : k = j
              · subst hjk; rw [if_pos rfl, if_pos (by rw [lE.out]; exact hkm)]
              · rw [if_neg hjk]; exact hE j (by omega)
            have hbe := hq be (.inr (.inr (.inl rfl)))
            have hb' := (hb.drew.setCell (p := ⟨be, k * 2, none⟩) hbe (.int .i64 (-1))).setCell (p := ⟨be, k * 2 + 1, none⟩) hbe (.int .i64 (-1))
            have c1 := hP.c1
            rw [lE.out] at c1
            obtain ⟨m0, m1⟩ := hP.en hkk
            have f0 := hP.fe
            obtain ⟨-, -, -, a0, a1⟩ := hP.gl
            have hxl : (k : Int) < (m : Int) := by omega
            clear hkk lE hE q1 hP hb hq hbe hKr hZ0 HG hkn
            generalize E.set k ⟨-1, -1⟩ = E' at *
            go_wp2_with fail
            go_still_tail 7, (by kernel_rfl)
            change wpList _ _ _ _ _ (World.drew _)
            replace f0 : ∀ i, wr.drew.frozen? ⟨be, i, none⟩ = false := f0
            replace m0 : wr.drew.cell? ⟨be, k * 2, none⟩ = _ := m0
            replace m1 : wr.drew.cell? ⟨be, k * 2 + 1, none⟩ = _ := m1
            clear c1 a0 a1
            generalize wr.drew = W3 at *
            go_wp2_with fail
            go_roundw
            case rel => exact ⟨k + 1, E', by go_num, by omega, q2, lE', hE', hb'⟩
            case measure => simp [intOf]; omega
          · have hkm2 : k = m := by omega
            rw [hkm2] at hE hkm ⊢
            have hEr : E = List.replicate m ⟨-1, -1⟩ := List.ext_getElem? fun j => by
              by_cases hj : j < m
              · rw [hE j hj, List.getElem?_replicate, if_pos hj]
              · rw [List.getElem?_eq_none (by rw [lE.out]; omega), List.getElem?_eq_none (by simp; omega)]
            have hfq := Fqp.new n m
            rw [← hKr.out, ← hEr, ← hZ0.out] at hfq
            clear hE hEr lE hkm2
            go_wp2_with fail
            go_ret2
            rw [← HG.out]
            exact ⟨rfl, hb, bl, be, bs, K, E, Z0, hq, hP, hfq⟩
  · have hpm : PM (((((W.alloc (Obj.cells zi 3)).alloc (Obj.cells zl 119)).alloc (Obj.cells ze 121)).alloc (Obj.cells #[.slice (some ⟨W.heap.size + 1, 0, none⟩) n n, .slice (some ⟨W.heap.size + 1 + 1, 0, none⟩) m m, .slice (some ⟨W.heap.size, 0, none⟩) m m] 117)).drew) (W.heap.size + 1 + 1 + 1) (W.heap.size + 1) (W.heap.size + 1 + 1) (W.heap.size) (List.replicate n ⟨0, 0, 0⟩) (List.replicate m ⟨0, 0⟩) (List.replicate m 0) := PMmade h2 h4 hG fL fE fI ((Blk.new' (by simp)).drew) ((((Blk.new' (by simp)).alloc _).alloc _).drew) (((Blk.new' (by simp)).alloc _).drew) (((((Blk.new' (by simp)).alloc _).alloc _).alloc _).drew) ((((((Below.refl _ W).alloc (Nat.le_refl _) _).alloc (by simp) _).alloc (by simp; omega) _).alloc (by simp; omega) _).drew) (by omega) (by omega) (by omega)
    have hbel : Below W.heap.size W (((((W.alloc (Obj.cells zi 3)).alloc (Obj.cells zl 119)).alloc (Obj.cells ze 121)).alloc (Obj.cells #[.slice (some ⟨W.heap.size + 1, 0, none⟩) n n, .slice (some ⟨W.heap.size + 1 + 1, 0, none⟩) m m, .slice (some ⟨W.heap.size, 0, none⟩) m m] 117)).drew) := (((((Below.refl _ W).alloc (Nat.le_refl _) _).alloc (by simp) _).alloc (by simp; omega) _).alloc (by simp; omega) _).drew
    clear mL mE mI fL fE fI hG
    generalize (((((W.alloc (Obj.cells zi 3)).alloc (Obj.cells zl 119)).alloc (Obj.cells ze 121)).alloc (Obj.cells #[.slice (some ⟨W.heap.size + 1, 0, none⟩) n n, .slice (some ⟨W.heap.size + 1 + 1, 0, none⟩) m m, .slice (some ⟨W.heap.size, 0, none⟩) m m] 117)).drew) = W1 at hpm hbel ⊢
    obtain ⟨g, hg⟩ : ∃ g, g = W.heap.size + 1 + 1 + 1 := ⟨_, rfl⟩
    obtain ⟨bl, hbl⟩ : ∃ b, b = W.heap.size + 1 := ⟨_, rfl⟩
    obtain ⟨be, hbe⟩ : ∃ b, b = W.heap.size + 1 + 1 := ⟨_, rfl⟩
    obtain ⟨bs, hbs⟩ : ∃ b, b = W.heap.size := ⟨_, rfl⟩
    rw [← hg] at hpm ⊢
    rw [← hbe] at hpm ⊢
    rw [← hbl] at hpm ⊢
    rw [← hbs] at hpm ⊢
    have hq : ∀ b, Qb g bl be bs b → W.heap.size ≤ b := by rintro b (e | e | e | e) <;> omega
    have HG := Lib.hid hg
    clear hg hbl hbe hbs
    obtain ⟨K0, hK0⟩ : ∃ K0 : List Lk, K0 = List.replicate n ⟨0, 0, 0⟩ := ⟨_, rfl⟩
    obtain ⟨E0, hE0⟩ : ∃ E0 : List En, E0 = List.replicate m ⟨0, 0⟩ := ⟨_, rfl⟩
    obtain ⟨Z0, hZ0⟩ : ∃ Z0 : List Int, Z0 = List.replicate m 0 := ⟨_, rfl⟩
    have lK0 : Hid (K0.length = n) := Lib.hid (by rw [hK0]; simp)
    have lE0 : Hid (E0.length = m) := Lib.hid (by rw [hE0]; simp)
    rw [← hK0, ← hE0, ← hZ0] at hpm
    replace hZ0 := Lib.hid hZ0
    clear hK0 hE0
    have c0 := hpm.c0
    rw [lK0.out] at c0
    go_wp2_with fail
    clear c0
    go_loopw [7, 36] (fun _ p36 wr => ∃ (k : Nat) (K : List Lk), p36 = .int .i64 (k : Int) ∧ k ≤ n ∧ PM wr g bl be bs K E0 Z0 ∧ Hid (K.length = n) ∧ (∀ j, j < k → K[j]? = some ⟨-1, -1, -1⟩) ∧ Below W.heap.size W wr)
      (fun _ p _ => n - (intOf p).toNat)
    case atStart => exact ⟨0, K0, rfl, by omega, hpm, lK0, (fun j hj => by omega), hbel⟩
    case round =>
      clear hpm hbel lK0
      obtain ⟨k, K, rfl, hk, hP, lK, hK, hb⟩ := hrel
      by_cases hkn : k < n
      · obtain ⟨kk, hkk⟩ : ∃ kk, K[k]? = some kk := ⟨_, List.getElem?_eq_getElem (by rw [lK.out]; exact hkn)⟩
        have q1 := hP.drew.setLq hkk (-1)
        have q2 := q1.setLp (lset K (by rw [lK.out]; exact hkn) _) (-1)
        have q3 := q2.setLx (List.getElem?_set_self (by rw [List.length_set, lK.out]; exact hkn)) (-1)
        rw [List.set_set, List.set_set] at q3
        have lK' : Hid ((K.set k ⟨-1, -1, -1⟩).length = n) := Lib.hid (by rw [List.length_set]; exact lK.out)
        have hK' : ∀ j, j < k + 1 → (K.set k ⟨-1, -1, -1⟩)[j]? = some ⟨-1, -1, -1⟩ := by
          intro j hj
          rw [List.getElem?_set]
          by_cases hjk : k = j
          · subst hjk; rw [if_pos rfl, if_pos (by rw [lK.out]; exact hkn)]
          · rw [if_neg hjk]; exact hK j (by omega)
        have hbl := hq bl (.inr (.inl rfl))
        have hb' := ((hb.drew.setCell (p := ⟨bl, k * 3, none⟩) hbl (.int .i64 (-1))).setCell (p := ⟨bl, k * 3 + 1, none⟩) hbl (.int .i64 (-1))).setCell (p := ⟨bl, k * 3 + 2, none⟩) hbl (.int .i64 (-1))
        have c0 := hP.c0
        rw [lK.out] at c0
        obtain ⟨m0, m1, m2⟩ := hP.lk hkk
        have f0 := hP.fl
        obtain ⟨a0, a1, a2, -, -⟩ := hP.gl
        have hxl : (k : Int) < (n : Int) := by omega
        clear hkk lK hK q1 q2 hP hb hq hbl lE0 hZ0 HG
        generalize K.set k ⟨-1, -1, -1⟩ = K' at *
        go_wp2_with fail
        go_still_tail 7, (by kernel_rfl)
        change wpList _ _ _ _ _ (World.drew _)
        replace f0 : ∀ i, wr.drew.frozen? ⟨bl, i, none⟩ = false := f0
        replace m0 : wr.drew.cell? ⟨bl, k * 3, none⟩ = _ := m0
        replace m1 : wr.drew.cell? ⟨bl, k * 3 + 1, none⟩ = _ := m1
        replace m2 : wr.drew.cell? ⟨bl, k * 3 + 2, none⟩ = _ := m2
        clear c0 a0 a1 a2
        generalize wr.drew = W3 at *
        go_wp2_with fail
        go_roundw
        case rel => exact ⟨k + 1, K', by go_num, by omega, q3, lK', hK', hb'⟩
        case measure => simp [intOf]; omega
      · have hkn2 : k = n := by omega
        rw [hkn2] at hK hkn ⊢
        have hKr : K = List.replicate n ⟨-1, -1, -1⟩ := List.ext_getElem? fun j => by
          by_cases hj : j < n
          · rw [hK j hj, List.getElem?_replicate, if_pos hj]
          · rw [List.getElem?_eq_none (by rw [lK.out]; omega), List.getElem?_eq_none (by simp; omega)]
        replace hKr := Lib.hid hKr
        clear hK lK hkn2
        have c1 := hP.c1
        rw [lE0.out] at c1
        go_wp2_with fail
        clear c1
        go_loopw [8, 52] (fun _ p52 wr => ∃ (k : Nat) (E : List En), p52 = .int .i64 (k : Int) ∧ k ≤ m ∧ PM wr g bl be bs K E Z0 ∧ Hid (E.length = m) ∧ (∀ j, j < k → E[j]? = some ⟨-1, -1⟩) ∧ Below W.heap.size W wr)
          (fun _ p _ => m - (intOf p).toNat)
        case atStart => exact ⟨0, E0, rfl, by omega, hP, lE0, (fun j hj => by omega), hb⟩
        case round =>
          clear hP lE0 hb
          obtain ⟨k, E, rfl, hk, hP, lE, hE, hb⟩ := hrel
          by_cases hkm : k < m
          · obtain ⟨kk, hkk⟩ : ∃ kk, E[k]? = some kk := ⟨_, List.getElem?_eq_getElem (by rw [lE.out]; exact hkm)⟩
            have q1 := hP.drew.setEf hkk (-1)
            have q2 := q1.setEl (List.getElem?_set_self (by rw [lE.out]; exact hkm)) (-1)
            rw [List.set_set] at q2
            have lE' : Hid ((E.set k ⟨-1, -1⟩).length = m) := Lib.hid (by rw [List.length_set]; exact lE.out)
            have hE' : ∀ j, j < k + 1 → (E.set k ⟨-1, -1⟩)[j]? = some ⟨-1, -1⟩ := by
              intro j hj
              rw [List.getElem?_set]
              by_cases hjk : k = j
              · subst hjk; rw [if_pos rfl, if_pos (by rw [lE.out]; exact hkm)]
              · rw [if_neg hjk]; exact hE j (by omega)
            have hbe := hq be (.inr (.inr (.inl rfl)))
            have hb' := (hb.drew.setCell (p := ⟨be, k * 2, none⟩) hbe (.int .i64 (-1))).setCell (p := ⟨be, k * 2 + 1, none⟩) hbe (.int .i64 (-1))
            have c1 := hP.c1
            rw [lE.out] at c1
            obtain ⟨m0, m1⟩ := hP.en hkk
            have f0 := hP.fe
            obtain ⟨-, -, -, a0, a1⟩ := hP.gl
            have hxl : (k : Int) < (m : Int) := by omega
            clear hkk lE hE q1 hP hb hq hbe hKr hZ0 HG hkn
            generalize E.set k ⟨-1, -1⟩ = E' at *
            go_wp2_with fail
            go_still_tail 7, (by kernel_rfl)
            change wpList _ _ _ _ _ (World.drew _)
            replace f0 : ∀ i, wr.drew.frozen? ⟨be, i, none⟩ = false := f0
            replace m0 : wr.drew.cell? ⟨be, k * 2, none⟩ = _ := m0
            replace m1 : wr.drew.cell? ⟨be, k * 2 + 1, none⟩ = _ := m1
            clear c1 a0 a1
            generalize wr.drew = W3 at *
            go_wp2_with fail
            go_roundw
            case rel => exact ⟨k + 1, E', by go_num, by omega, q2, lE', hE', hb'⟩
            case measure => simp [intOf]; omega
          · have hkm2 : k = m := by omega
            rw [hkm2] at hE hkm ⊢
            have hEr : E = List.replicate m ⟨-1, -1⟩ := List.ext_getElem? fun j => by
              by_cases hj : j < m
              · rw [hE j hj, List.getElem?_replicate, if_pos hj]
              · rw [List.getElem?_eq_none (by rw [lE.out]; omega), List.getElem?_eq_none (by simp; omega)]
            have hfq := Fqp.new n m
            rw [← hKr.out, ← hEr, ← hZ0.out] at hfq
            clear hE hEr lE hkm2
            go_wp2_with fail
            go_ret2
            rw [← HG.out]
            exact ⟨rfl, hb, bl, be, bs, K, E, Z0, hq, hP, hfq⟩
  · have hpm : PM (((((W.alloc (Obj.cells zi 3)).alloc (Obj.cells ze 121)).alloc (Obj.cells zl 119)).alloc (Obj.cells #[.slice (some ⟨W.heap.size + 1 + 1, 0, none⟩) n n, .slice (some ⟨W.heap.size + 1, 0, none⟩) m m, .slice (some ⟨W.heap.size, 0, none⟩) m m] 117)).drew) (W.heap.size + 1 + 1 + 1) (W.heap.size + 1 + 1) (W.heap.size + 1) (W.heap.size) (List.replicate n ⟨0, 0, 0⟩) (List.replicate m ⟨0, 0⟩) (List.replicate m 0) := PMmade h2 h4 hG fL fE fI ((Blk.new' (by simp)).drew) (((Blk.new' (by simp)).alloc _).drew) ((((Blk.new' (by simp)).alloc _).alloc _).drew) (((((Blk.new' (by simp)).alloc _).alloc _).alloc _).drew) ((((((Below.refl _ W).alloc (Nat.le_refl _) _).alloc (by simp) _).alloc (by simp; omega) _).alloc (by simp; omega) _).drew) (by omega) (by omega) (by omega)
    have hbel : Below W.heap.size W (((((W.alloc (Obj.cells zi 3)).alloc (Obj.cells ze 121)).alloc (Obj.cells zl 119)).alloc (Obj.cells #[.slice (some ⟨W.heap.size + 1 + 1, 0, none⟩) n n, .slice (some ⟨W.heap.size + 1, 0, none⟩) m m, .slice (some ⟨W.heap.size, 0, none⟩) m m] 117)).drew) := (((((Below.refl _ W).alloc (Nat.le_refl _) _).alloc (by simp) _).alloc (by simp; omega) _).alloc (by simp; omega) _).drew
    clear mL mE mI fL fE fI hG
    generalize (((((W.alloc (Obj.cells zi 3)).alloc (Obj.cells ze 121)).alloc (Obj.cells zl 119)).alloc (Obj.cells #[.slice (some ⟨W.heap.size + 1 + 1, 0, none⟩) n n, .slice (some ⟨W.heap.size + 1, 0, none⟩) m m, .slice (some ⟨W.heap.size, 0, none⟩) m m] 117)).drew) = W1 at hpm hbel ⊢
    obtain ⟨g, hg⟩ : ∃ g, g = W.heap.size + 1 + 1 + 1 := ⟨_, rfl⟩
    obtain ⟨bl, hbl⟩ : ∃ b, b = W.heap.size + 1 + 1 := ⟨_, rfl⟩
    obtain ⟨be, hbe⟩ : ∃ b, b = W.heap.size + 1 := ⟨_, rfl⟩
    obtain ⟨bs, hbs⟩ : ∃ b, b = W.heap.size := ⟨_, rfl⟩
    rw [← hg] at hpm ⊢
    rw [← hbl] at hpm ⊢
    rw [← hbe] at hpm ⊢
    rw [← hbs] at hpm ⊢
    have hq : ∀ b, Qb g bl be bs b → W.heap.size ≤ b := by rintro b (e | e | e | e) <;> omega
    have HG := Lib.hid hg
    clear hg hbl hbe hbs
    obtain ⟨K0, hK0⟩ : ∃ K0 : List Lk, K0 = List.replicate n ⟨0, 0, 0⟩ := ⟨_, rfl⟩
    obtain ⟨E0, hE0⟩ : ∃ E0 : List En, E0 = List.replicate m ⟨0, 0⟩ := ⟨_, rfl⟩
    obtain ⟨Z0, hZ0⟩ : ∃ Z0 : List Int, Z0 = List.replicate m 0 := ⟨_, rfl⟩
    have lK0 : Hid (K0.length = n) := Lib.hid (by rw [hK0]; simp)
    have lE0 : Hid (E0.length = m) := Lib.hid (by rw [hE0]; simp)
    rw [← hK0, ← hE0, ← hZ0] at hpm
    replace hZ0 := Lib.hid hZ0
    clear hK0 hE0
    have c0 := hpm.c0
    rw [lK0.out] at c0
    go_wp2_with fail
    clear c0
    go_loopw [7, 36] (fun _ p36 wr => ∃ (k : Nat) (K : List Lk), p36 = .int .i64 (k : Int) ∧ k ≤ n ∧ PM wr g bl be bs K E0 Z0 ∧ Hid (K.length = n) ∧ (∀ j, j < k → K[j]? = some ⟨-1, -1, -1⟩) ∧ Below W.heap.size W wr)
      (fun _ p _ => n - (intOf p).toNat)
    case atStart => exact ⟨0, K0, rfl, by omega, hpm, lK0, (fun j hj => by omega), hbel⟩
    case round =>
      clear hpm hbel lK0
      obtain ⟨k, K, rfl, hk, hP, lK, hK, hb⟩ := hrel
      by_cases hkn : k < n
      · obtain ⟨kk, hkk⟩ : ∃ kk, K[k]? = some kk := ⟨_, List.getElem?_eq_getElem (by rw [lK.out]; exact hkn)⟩
        have q1 := hP.drew.setLq hkk (-1)
        have q2 := q1.setLp (lset K (by rw [lK.out]; exact hkn) _) (-1)
        have q3 := q2.setLx (List.getElem?_set_self (by rw [List.length_set, lK.out]; exact hkn)) (-1)
        rw [List.set_set, List.set_set] at q3
        have lK' : Hid ((K.set k ⟨-1, -1, -1⟩).length = n) := Lib.hid (by rw [List.length_set]; exact lK.out)
        have hK' : ∀ j, j < k + 1 → (K.set k ⟨-1, -1, -1⟩)[j]? = some ⟨-1, -1, -1⟩ := by
          intro j hj
          rw [List.getElem?_set]
          by_cases hjk : k = j
          · subst hjk; rw [if_pos rfl, if_pos (by rw [lK.out]; exact hkn)]
          · rw [if_neg hjk]; exact hK j (by omega)
        have hbl := hq bl (.inr (.inl rfl))
        have hb' := ((hb.drew.setCell (p := ⟨bl, k * 3, none⟩) hbl (.int .i64 (-1))).setCell (p := ⟨bl, k * 3 + 1, none⟩) hbl (.int .i64 (-1))).setCell (p := ⟨bl, k * 3 + 2, none⟩) hbl (.int .i64 (-1))
        have c0 := hP.c0
        rw [lK.out] at c0
        obtain ⟨m0, m1, m2⟩ := hP.lk hkk
        have f0 := hP.fl
        obtain ⟨a0, a1, a2, -, -⟩ := hP.gl
        have hxl : (k : Int) < (n : Int) := by omega
        clear hkk lK hK q1 q2 hP hb hq hbl lE0 hZ0 HG
        generalize K.set k ⟨-1, -1, -1⟩ = K' at *
        go_wp2_with fail
        go_still_tail 7, (by kernel_rfl)
        change wpList _ _ _ _ _ (World.drew _)
        replace f0 : ∀ i, wr.drew.frozen? ⟨bl, i, none⟩ = false := f0
        replace m0 : wr.drew.cell? ⟨bl, k * 3, none⟩ = _ := m0
        replace m1 : wr.drew.cell? ⟨bl, k * 3 + 1, none⟩ = _ := m1
        replace m2 : wr.drew.cell? ⟨bl, k * 3 + 2, none⟩ = _ := m2
        clear c0 a0 a1 a2
        generalize wr.drew = W3 at *
        go_wp2_with fail
        go_roundw
        case rel => exact ⟨k + 1, K', by go_num, by omega, q3, lK', hK', hb'⟩
        case measure => simp [intOf]; omega
      · have hkn2 : k = n := by omega
        rw [hkn2] at hK hkn ⊢
        have hKr : K = List.replicate n ⟨-1, -1, -1⟩ := List.ext_getElem? fun j => by
          by_cases hj : j < n
          · rw [hK j hj, List.getElem?_replicate, if_pos hj]
          · rw [List.getElem?_eq_none (by rw [lK.out]; omega), List.getElem?_eq_none (by simp; omega)]
        replace hKr := Lib.hid hKr
        clear hK lK hkn2
        have c1 := hP.c1
        rw [lE0.out] at c1
        go_wp2_with fail
        clear c1
        go_loopw [8, 52] (fun _ p52 wr => ∃ (k : Nat) (E : List En), p52 = .int .i64 (k : Int) ∧ k ≤ m ∧ PM wr g bl be bs K E Z0 ∧ Hid (E.length = m) ∧ (∀ j, j < k → E[j]? = some ⟨-1, -1⟩) ∧ Below W.heap.size W wr)
          (fun _ p _ => m - (intOf p).toNat)
        case atStart => exact ⟨0, E0, rfl, by omega, hP, lE0, (fun j hj => by omega), hb⟩
        case round =>
          clear hP lE0 hb
          obtain ⟨k, E, rfl, hk, hP, lE, hE, hb⟩ := hrel
          by_cases hkm : k < m
          · obtain ⟨kk, hkk⟩ : ∃ kk, E[k]? = some kk := ⟨_, List.getElem?_eq_getElem (by rw [lE.out]; exact hkm)⟩
            have q1 := hP.drew.setEf hkk (-1)
            have q2 := q1.setEl (List.getElem?_set_self (by rw [lE.out]; exact hkm)) (-1)
            rw [List.set_set] at q2
            have lE' : Hid ((E.set k ⟨-1, -1⟩).length = m) := Lib.hid (by rw [List.length_set]; exact lE.out)
            have hE' : ∀ j, j < k + 1 → (E.set k ⟨-1, -1⟩)[j]? = some ⟨-1, -1⟩ := by
              intro j hj
              rw [List.getElem?_set]
              by_cases hjk : k = j
              · subst hjk; rw [if_pos rfl, if_pos (by rw [lE.out]; exact hkm)]
              · rw [if_neg hjk]; exact hE j (by omega)
            have hbe := hq be (.inr (.inr (.inl rfl)))
            have hb' := (hb.drew.setCell (p := ⟨be, k * 2, none⟩) hbe (.int .i64 (-1))).setCell (p := ⟨be, k * 2 + 1, none⟩) hbe (.int .i64 (-1))
            have c1 := hP.c1
            rw [lE.out] at c1
            obtain ⟨m0, m1⟩ := hP.en hkk
            have f0 := hP.fe
            obtain ⟨-, -, -, a0, a1⟩ := hP.gl
            have hxl : (k : Int) < (m : Int) := by omega
            clear hkk lE hE q1 hP hb hq hbe hKr hZ0 HG hkn
            generalize E.set k ⟨-1, -1⟩ = E' at *
            go_wp2_with fail
            go_still_tail 7, (by kernel_rfl)
            change wpList _ _ _ _ _ (World.drew _)
            replace f0 : ∀ i, wr.drew.frozen? ⟨be, i, none⟩ = false := f0
            replace m0 : wr.drew.cell? ⟨be, k * 2, none⟩ = _ := m0
            replace m1 : wr.drew.cell? ⟨be, k * 2 + 1, none⟩ = _ := m1
            clear c1 a0 a1
            generalize wr.drew = W3 at *
            go_wp2_with fail
            go_roundw
            case rel => exact ⟨k + 1, E', by go_num, by omega, q2, lE', hE', hb'⟩
            case measure => simp [intOf]; omega
          · have hkm2 : k = m := by omega
            rw [hkm2] at hE hkm ⊢
            have hEr : E = List.replicate m ⟨-1, -1⟩ := List.ext_getElem? fun j => by
              by_cases hj : j < m
              · rw [hE j hj, List.getElem?_replicate, if_pos hj]
              · rw [List.getElem?_eq_none (by rw [lE.out]; omega), List.getElem?_eq_none (by simp; omega)]
            have hfq := Fqp.new n m
            rw [← hKr.out, ← hEr, ← hZ0.out] at hfq
            clear hE hEr lE hkm2
            go_wp2_with fail
            go_ret2
            rw [← HG.out]
            exact ⟨rfl, hb, bl, be, bs, K, E, Z0, hq, hP, hfq⟩
end Go.Proofs.YtdmjcjheanedgaaDoor
