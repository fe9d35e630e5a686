/-
  The contracts of package config's within, first, Symbol and its conditions.
-/
import Derived.Test.YtbkiipeoabbiiaaCfgS
import Derived.Lib.Hide
import Derived.Laws.EntriesVeiled
namespace Go.Proofs.Ytbkiipeoabbiiaa
open Go.RowKit
/-- Numbers that none is less than the least, or greater than the greatest. -/
def allK (lo hi : Int) (zs : List Int) : Bool := zs.all fun z => inK z lo hi
theorem within64_any (lo hi : Int) (b off cap n : Nat) (zs : List Int) (hl : zs.length ≤ 100) (hn : n = zs.length) (W : World)
    (hz : ∀ (i : Nat) (z : Int), zs[i]? = some z → W.cell? ⟨b, off + i, none⟩ = some (.int .i64 z)) :
    Calls Try.prog 30 #[.int .i64 lo, .int .i64 hi, .slice (some ⟨b, off, none⟩) n cap] W fun e w' => e = .returned (.bool (allK lo hi zs)) ∧ W = w' := by
  subst hn
  go_enter Try.func30, Try.ntmps30
  go_wp2
  go_loopg [11] zs.length (fun j p11 wr => wr = W ∧ ∃ q : Nat, q + j = zs.length ∧ p11 = .int .i64 (q : Int) ∧ Hid (allK lo hi (zs.take q) = true))
  case atStart => exact ⟨rfl, 0, by omega, rfl, by simp [Hid, allK]⟩
  case round =>
    obtain ⟨rfl, q, hq, rfl, hn⟩ := hrel
    by_cases hj : q < zs.length
    · obtain ⟨z, hx⟩ : ∃ z, zs[q]? = some z := ⟨zs[q], List.getElem?_eq_getElem hj⟩
      have hcz := hz q z hx
      have ht : zs.take (q + 1) = zs.take q ++ [z] := by rw [List.take_add_one, hx]; rfl
      have hin : allK lo hi (zs.take (q + 1)) = inK z lo hi := by
        rw [ht]
        unfold allK at hn ⊢
        rw [List.all_append, hn.out]
        simp
      have hbad : z < lo ∨ hi < z → allK lo hi zs = false := by
        intro h
        have hm : z ∈ zs := List.mem_of_getElem? hx
        have h2 : inK z lo hi = false := by unfold inK; simp; omega
        unfold allK
        rw [List.all_eq_false]
        exact ⟨z, hm, by rw [h2]; decide⟩
      have hgood : lo ≤ z → z ≤ hi → Hid (allK lo hi (zs.take (q + 1)) = true) := by
        intro h1 h2
        show _ = _
        rw [hin]
        unfold inK
        simp [h1, h2]
      clear hx hn ht hin hz
      go_wp2
      all_goals first
        | (go_roundg (zs.length - (q + 1))
           case measure => omega
           case rel => exact ⟨rfl, q + 1, by omega, by go_num, hgood (by omega) (by omega)⟩)
        | (go_ret; exact ⟨rfl, rfl⟩)
        | (rw [hbad (by omega)]; go_ret; exact ⟨rfl, rfl⟩)
    · have hqe : q = zs.length := by omega
      have hall : allK lo hi zs = true := by
        have := hn.out
        rwa [hqe, List.take_length] at this
      go_wp2
      go_ret
      rw [hall]
      exact ⟨rfl, rfl⟩
theorem within64_row (lo hi : Int) (zs : List Int) (n : Nat) (hl : zs.length ≤ 100) (hn : n = zs.length) (b cap : Nat) (W : World) {T : TypeId} {cs : Array Value} (hc : cs.toList = zs.map (Value.int .i64)) (h : Blk W b T cs) :
    Calls Try.prog 30 #[.int .i64 lo, .int .i64 hi, .slice (some ⟨b, 0, none⟩) n cap] W fun e w' => e = .returned (.bool (allK lo hi zs)) ∧ W = w' :=
  within64_any lo hi b 0 cap n zs hl hn W fun i z hz => by
    rw [Nat.zero_add]
    refine h.cell_eq i _ ?_
    rw [← Array.getElem?_toList, hc, List.getElem?_map, hz]
    rfl
theorem withinI_any (lo hi : Int) (b off cap n : Nat) (zs : List Int) (hl : zs.length ≤ 100) (hn : n = zs.length) (W : World)
    (hz : ∀ (i : Nat) (z : Int), zs[i]? = some z → W.cell? ⟨b, off + i, none⟩ = some (.int .i64 z)) :
    Calls Try.prog 23 #[.int .i64 lo, .int .i64 hi, .slice (some ⟨b, off, none⟩) n cap] W fun e w' => e = .returned (.bool (allK lo hi zs)) ∧ W = w' := by
  subst hn
  go_enter Try.func23, Try.ntmps23
  go_wp2
  go_loopg [11] zs.length (fun j p11 wr => wr = W ∧ ∃ q : Nat, q + j = zs.length ∧ p11 = .int .i64 (q : Int) ∧ Hid (allK lo hi (zs.take q) = true))
  case atStart => exact ⟨rfl, 0, by omega, rfl, by simp [Hid, allK]⟩
  case round =>
    obtain ⟨rfl, q, hq, rfl, hn⟩ := hrel
    by_cases hj : q < zs.length
    · obtain ⟨z, hx⟩ : ∃ z, zs[q]? = some z := ⟨zs[q], List.getElem?_eq_getElem hj⟩
      have hcz := hz q z hx
      have ht : zs.take (q + 1) = zs.take q ++ [z] := by rw [List.take_add_one, hx]; rfl
      have hin : allK lo hi (zs.take (q + 1)) = inK z lo hi := by
        rw [ht]
        unfold allK at hn ⊢
        rw [List.all_append, hn.out]
        simp
      have hbad : z < lo ∨ hi < z → allK lo hi zs = false := by
        intro h
        have hm : z ∈ zs := List.mem_of_getElem? hx
        have h2 : inK z lo hi = false := by unfold inK; simp; omega
        unfold allK
        rw [List.all_eq_false]
        exact ⟨z, hm, by rw [h2]; decide⟩
      have hgood : lo ≤ z → z ≤ hi → Hid (allK lo hi (zs.take (q + 1)) = true) := by
        intro h1 h2
        show _ = _
        rw [hin]
        unfold inK
        simp [h1, h2]
      clear hx hn ht hin hz
      go_wp2
      all_goals first
        | (go_roundg (zs.length - (q + 1))
           case measure => omega
           case rel => exact ⟨rfl, q + 1, by omega, by go_num, hgood (by omega) (by omega)⟩)
        | (go_ret; exact ⟨rfl, rfl⟩)
        | (rw [hbad (by omega)]; go_ret; exact ⟨rfl, rfl⟩)
    · have hqe : q = zs.length := by omega
      have hall : allK lo hi zs = true := by
        have := hn.out
        rwa [hqe, List.take_length] at this
      go_wp2
      go_ret
      rw [hall]
      exact ⟨rfl, rfl⟩
theorem withinI_row (lo hi : Int) (zs : List Int) (n : Nat) (hl : zs.length ≤ 100) (hn : n = zs.length) (b cap : Nat) (W : World) {T : TypeId} {cs : Array Value} (hc : cs.toList = zs.map (Value.int .i64)) (h : Blk W b T cs) :
    Calls Try.prog 23 #[.int .i64 lo, .int .i64 hi, .slice (some ⟨b, 0, none⟩) n cap] W fun e w' => e = .returned (.bool (allK lo hi zs)) ∧ W = w' :=
  withinI_any lo hi b 0 cap n zs hl hn W fun i z hz => by
    rw [Nat.zero_add]
    refine h.cell_eq i _ ?_
    rw [← Array.getElem?_toList, hc, List.getElem?_map, hz]
    rfl
/-- A condition: the fault, the function that tells whether it holds, and what it captured. -/
structure Cn where
  fault : Nat
  fn : Nat
  caps : Array Value
  ok : Bool
abbrev cCn (c : Cn) : Array Value := #[.int .i64 c.fault, .func (.func c.fn) #[] c.caps]
def firstF : List Cn → Nat
  | [] => 0
  | c :: t => if c.ok = true then firstF t else c.fault
/-- A function that is called as it stands. -/
def Enters (fn : Nat) : Prop := ∀ (args : Array Value) (w : World), (callFunc fn args).run Try.prog w = .ok (.enter fn args) w
structure CnOk (W : World) (c : Cn) : Prop where
  goes : Enters c.fn
  runs : ∀ w, Below W.heap.size W w → Calls Try.prog c.fn c.caps w fun e w' => e = .returned (.bool c.ok) ∧ Below w.heap.size w w'
theorem firstF_drop {cs : List Cn} {q : Nat} {c : Cn} (h : cs[q]? = some c) : firstF (cs.drop q) = if c.ok = true then firstF (cs.drop (q + 1)) else c.fault := by
  obtain ⟨hq, he⟩ := List.getElem?_eq_some_iff.1 h
  rw [List.drop_eq_getElem_cons hq, he]
  rfl
set_option maxHeartbeats 1000000 in
theorem first_any (cs : List Cn) (b cap n : Nat) (hl : cs.length ≤ 100) (hn : n = cs.length) (W : World)
    (hz : ∀ (i : Nat) (c : Cn), cs[i]? = some c → W.cell? ⟨b, i * 2, none⟩ = some (.int .i64 c.fault) ∧ W.cell? ⟨b, i * 2 + 1, none⟩ = some (.func (.func c.fn) #[] c.caps))
    (hC : ∀ c ∈ cs, CnOk W c) :
    Calls Try.prog 28 #[.slice (some ⟨b, 0, none⟩) n cap] W fun e w' => e = .returned (.int .i64 (firstF cs)) ∧ Below W.heap.size W w' := by
  subst hn
  by_cases hb : cs = []
  · subst hb
    go_enter Try.func28, Try.ntmps28
    go_wp2
    go_loopg [7] 0 (fun j p7 wr => wr = W ∧ p7 = .int .i64 0)
    case atStart => exact ⟨rfl, rfl⟩
    case round =>
      obtain ⟨rfl, rfl⟩ := hrel
      go_wp2
      go_ret
      exact ⟨rfl, Below.refl _ _⟩
  · have hbW : b < W.heap.size := by
      obtain ⟨c, hc⟩ : ∃ c, cs[0]? = some c := by
        cases cs with
        | nil => exact absurd rfl hb
        | cons c t => exact ⟨c, rfl⟩
      have h1 := (hz 0 c hc).1
      refine Classical.byContradiction fun hlt => ?_
      unfold World.cell? at h1
      rw [Array.getElem?_eq_none (by simpa using hlt)] at h1
      simp at h1
    clear hb
    go_enter Try.func28, Try.ntmps28
    go_wp2
    go_loopg [7] cs.length (fun j p7 wr => Below W.heap.size W wr ∧ ∃ q : Nat, q + j = cs.length ∧ p7 = .int .i64 (q : Int) ∧ Hid (firstF cs = firstF (cs.drop q)))
    case atStart => exact ⟨Below.refl _ _, 0, by omega, rfl, by simp [Hid]⟩
    case round =>
      obtain ⟨hB, q, hq, rfl, hF⟩ := hrel
      by_cases hj : q < cs.length
      · obtain ⟨c, hx⟩ : ∃ c, cs[q]? = some c := ⟨cs[q], List.getElem?_eq_getElem hj⟩
        obtain ⟨z0, z1⟩ := hz q c hx
        have y0 : wr.cell? ⟨b, q * 2, none⟩ = some (.int .i64 c.fault) := (hB.cell (p := ⟨b, q * 2, none⟩) hbW).trans z0
        have y1 : wr.cell? ⟨b, q * 2 + 1, none⟩ = some (.func (.func c.fn) #[] c.caps) := (hB.cell (p := ⟨b, q * 2 + 1, none⟩) hbW).trans z1
        obtain ⟨hG, cC⟩ := hC c (List.mem_of_getElem? hx)
        have hd := firstF_drop hx
        rw [← hF.out] at hd
        clear hx hz hC hF z0 z1
        obtain ⟨f, fn, caps, ok⟩ := c
        simp only at y0 y1 hd cC hG
        have hGo := hG caps
        cases ok with
        | true =>
          rw [if_pos rfl] at hd
          replace hd := Lib.hid hd
          go_wp2_with ((with_reducible refine (cC _ (hB.alloc hB.size _)).mono ?_); rintro e w1 ⟨rfl, hb1⟩; have hB1 := (hB.alloc hB.size _).trans (hb1.mono (by have := hB.size; simp; omega)))
          go_roundg (cs.length - (q + 1))
          case measure => omega
          case rel => exact ⟨hB1, q + 1, by omega, by go_num, hd⟩
        | false =>
          rw [if_neg (by decide)] at hd
          have hm : ∀ o, Blk (wr.alloc o) wr.heap.size 57 #[.int .i64 f, .func (.func fn) #[] caps] → (wr.alloc o).cell? ⟨wr.heap.size, 0, none⟩ = some (.int .i64 f) := fun o h => h.cell_eq 0 _ rfl
          go_wp2_with ((with_reducible refine (cC _ (hB.alloc hB.size _)).mono ?_); rintro e w1 ⟨rfl, hb1⟩; have hB1 := (hB.alloc hB.size _).trans (hb1.mono (by have := hB.size; simp; omega)); have hk := ((Blk.new wr 57 #[.int .i64 (f : Int), .func (.func fn) #[] caps]).below hb1 (by simp)).cell_eq 0 _ rfl)
          go_ret
          rw [hd]
          exact ⟨rfl, hB1⟩
      · have hqe : q = cs.length := by omega
        have hd := hF.out
        rw [hqe, List.drop_length] at hd
        go_wp2
        go_ret
        rw [hd]
        exact ⟨rfl, hB⟩
theorem enters_of {fn : Nat} {f : Func} (h : Try.prog.funcs[fn]? = some f) (h1 : (f.name == "runtime.NumGoroutine") = false) (h2 : f.body.isNone = false) : Enters fn := by
  intro args w
  unfold callFunc
  simp [go_sem, h]
  rw [if_neg (fun e => by rw [e] at h1; cases h1), if_neg (fun e => by rw [e] at h2; cases h2)]

theorem symC1_any (s : Symb) (b : Nat) (w : World) (h : Blk w b 35 (cSymb s)) :
    Calls Try.prog 29 #[.pointer (some ⟨b, 0, none⟩)] w fun e w' => e = .returned (.bool (allK 1 1099511627776 [s.grid, s.refp])) ∧ Below w.heap.size w w' := by
  have hb0 := fun o => Below.alK (Below.refl w.heap.size w) o
  have c1 := within64_row 1 1099511627776 [s.grid, s.refp] 2 (by simp) rfl w.heap.size
  obtain ⟨x0, x1, x2, x3, x4, x5, x6, x7, x8, x9, xa, xb, xc, xd, xe, xf⟩ := Symb.cells h
  clear h
  generalize allK 1 1099511627776 [s.grid, s.refp] = r at c1 ⊢
  obtain ⟨grid, refp, stat, dyn, win, move, lim, pau, ext, mext, col, wid, self, slots, levels, short⟩ := s
  simp only at *
  go_enter Try.func29, Try.ntmps29
  go_wp2_with (go_at_call 30; (refine (c1 _ _ rfl (Blk.new' rfl)).mono ?_); rintro e w1 ⟨rfl, rfl⟩)
  go_ret
  exact ⟨rfl, hb0 _⟩
theorem symC3_any (s : Symb) (b : Nat) (w : World) (h : Blk w b 35 (cSymb s)) :
    Calls Try.prog 33 #[.pointer (some ⟨b, 0, none⟩)] w fun e w' => e = .returned (.bool (allK 0 9999 [s.stat, s.dyn, s.move, s.col, s.wid, s.short])) ∧ Below w.heap.size w w' := by
  have hb0 := fun o => Below.alK (Below.refl w.heap.size w) o
  have c1 := withinI_row 0 9999 [s.stat, s.dyn, s.move, s.col, s.wid, s.short] 6 (by simp) rfl w.heap.size
  obtain ⟨x0, x1, x2, x3, x4, x5, x6, x7, x8, x9, xa, xb, xc, xd, xe, xf⟩ := Symb.cells h
  clear h
  generalize allK 0 9999 [s.stat, s.dyn, s.move, s.col, s.wid, s.short] = r at c1 ⊢
  obtain ⟨grid, refp, stat, dyn, win, move, lim, pau, ext, mext, col, wid, self, slots, levels, short⟩ := s
  simp only at *
  go_enter Try.func33, Try.ntmps33
  go_wp2_with (go_at_call 23; (refine (c1 _ _ rfl (Blk.new' rfl)).mono ?_); rintro e w1 ⟨rfl, rfl⟩)
  go_ret
  exact ⟨rfl, hb0 _⟩
theorem symC4_any (s : Symb) (b : Nat) (w : World) (h : Blk w b 35 (cSymb s)) :
    Calls Try.prog 34 #[.pointer (some ⟨b, 0, none⟩)] w fun e w' => e = .returned (.bool (allK 1 1099511627776 [s.win, s.lim, s.pau, s.ext])) ∧ Below w.heap.size w w' := by
  have hb0 := fun o => Below.alK (Below.refl w.heap.size w) o
  have c1 := within64_row 1 1099511627776 [s.win, s.lim, s.pau, s.ext] 4 (by simp) rfl w.heap.size
  obtain ⟨x0, x1, x2, x3, x4, x5, x6, x7, x8, x9, xa, xb, xc, xd, xe, xf⟩ := Symb.cells h
  clear h
  generalize allK 1 1099511627776 [s.win, s.lim, s.pau, s.ext] = r at c1 ⊢
  obtain ⟨grid, refp, stat, dyn, win, move, lim, pau, ext, mext, col, wid, self, slots, levels, short⟩ := s
  simp only at *
  go_enter Try.func34, Try.ntmps34
  go_wp2_with (go_at_call 30; (refine (c1 _ _ rfl (Blk.new' rfl)).mono ?_); rintro e w1 ⟨rfl, rfl⟩)
  go_ret
  exact ⟨rfl, hb0 _⟩
theorem symC5_any (s : Symb) (b : Nat) (w : World) (h : Blk w b 35 (cSymb s)) :
    Calls Try.prog 35 #[.pointer (some ⟨b, 0, none⟩)] w fun e w' => e = .returned (.bool (allK 0 10 [s.mext])) ∧ Below w.heap.size w w' := by
  have hb0 := fun o => Below.alK (Below.refl w.heap.size w) o
  have c1 := withinI_row 0 10 [s.mext] 1 (by simp) rfl w.heap.size
  obtain ⟨x0, x1, x2, x3, x4, x5, x6, x7, x8, x9, xa, xb, xc, xd, xe, xf⟩ := Symb.cells h
  clear h
  generalize allK 0 10 [s.mext] = r at c1 ⊢
  obtain ⟨grid, refp, stat, dyn, win, move, lim, pau, ext, mext, col, wid, self, slots, levels, short⟩ := s
  simp only at *
  go_enter Try.func35, Try.ntmps35
  go_wp2_with (go_at_call 23; (refine (c1 _ _ rfl (Blk.new' rfl)).mono ?_); rintro e w1 ⟨rfl, rfl⟩)
  go_ret
  exact ⟨rfl, hb0 _⟩
theorem symC6_any (s : Symb) (b : Nat) (w : World) (h : Blk w b 35 (cSymb s)) :
    Calls Try.prog 36 #[.pointer (some ⟨b, 0, none⟩)] w fun e w' => e = .returned (.bool (allK 0 3 [s.self])) ∧ Below w.heap.size w w' := by
  have hb0 := fun o => Below.alK (Below.refl w.heap.size w) o
  have c1 := withinI_row 0 3 [s.self] 1 (by simp) rfl w.heap.size
  obtain ⟨x0, x1, x2, x3, x4, x5, x6, x7, x8, x9, xa, xb, xc, xd, xe, xf⟩ := Symb.cells h
  clear h
  generalize allK 0 3 [s.self] = r at c1 ⊢
  obtain ⟨grid, refp, stat, dyn, win, move, lim, pau, ext, mext, col, wid, self, slots, levels, short⟩ := s
  simp only at *
  go_enter Try.func36, Try.ntmps36
  go_wp2_with (go_at_call 23; (refine (c1 _ _ rfl (Blk.new' rfl)).mono ?_); rintro e w1 ⟨rfl, rfl⟩)
  go_ret
  exact ⟨rfl, hb0 _⟩
theorem symC7_any (s : Symb) (b : Nat) (w : World) (h : Blk w b 35 (cSymb s)) :
    Calls Try.prog 37 #[.pointer (some ⟨b, 0, none⟩)] w fun e w' => e = .returned (.bool (allK 1 500 [s.slots])) ∧ Below w.heap.size w w' := by
  have hb0 := fun o => Below.alK (Below.refl w.heap.size w) o
  have c1 := withinI_row 1 500 [s.slots] 1 (by simp) rfl w.heap.size
  obtain ⟨x0, x1, x2, x3, x4, x5, x6, x7, x8, x9, xa, xb, xc, xd, xe, xf⟩ := Symb.cells h
  clear h
  generalize allK 1 500 [s.slots] = r at c1 ⊢
  obtain ⟨grid, refp, stat, dyn, win, move, lim, pau, ext, mext, col, wid, self, slots, levels, short⟩ := s
  simp only at *
  go_enter Try.func37, Try.ntmps37
  go_wp2_with (go_at_call 23; (refine (c1 _ _ rfl (Blk.new' rfl)).mono ?_); rintro e w1 ⟨rfl, rfl⟩)
  go_ret
  exact ⟨rfl, hb0 _⟩
theorem symC8_any (s : Symb) (b : Nat) (w : World) (h : Blk w b 35 (cSymb s)) :
    Calls Try.prog 38 #[.pointer (some ⟨b, 0, none⟩)] w fun e w' => e = .returned (.bool (allK 1 200 [s.levels])) ∧ Below w.heap.size w w' := by
  have hb0 := fun o => Below.alK (Below.refl w.heap.size w) o
  have c1 := withinI_row 1 200 [s.levels] 1 (by simp) rfl w.heap.size
  obtain ⟨x0, x1, x2, x3, x4, x5, x6, x7, x8, x9, xa, xb, xc, xd, xe, xf⟩ := Symb.cells h
  clear h
  generalize allK 1 200 [s.levels] = r at c1 ⊢
  obtain ⟨grid, refp, stat, dyn, win, move, lim, pau, ext, mext, col, wid, self, slots, levels, short⟩ := s
  simp only at *
  go_enter Try.func38, Try.ntmps38
  go_wp2_with (go_at_call 23; (refine (c1 _ _ rfl (Blk.new' rfl)).mono ?_); rintro e w1 ⟨rfl, rfl⟩)
  go_ret
  exact ⟨rfl, hb0 _⟩
def priceV (p g : Int) : Int := if g < 1 then 1 else if p < 1 ∨ 1099511627776 < p then 9 else if p % g = 0 then 0 else 8
theorem fprice_any (p g : Int) (hp : In64 p) (hg : In64 g) (w : World) :
    Calls Try.prog 32 #[.int .i64 p, .int .i64 g] w fun e w' => e = .returned (.int .i64 (priceV p g)) ∧ Below w.heap.size w w' := by
  obtain ⟨p0, p1⟩ := hp
  obtain ⟨g0, g1⟩ := hg
  unfold priceV
  by_cases h1 : g < 1
  · rw [if_pos h1]
    go_enter Try.func32, Try.ntmps32
    go_wp2
    all_goals first | (exfalso; omega) | go_ret
    all_goals exact ⟨rfl, Below.refl _ _⟩
  · rw [if_neg h1]
    have e0 : (g == 0) = false := by simp; omega
    by_cases h2 : p < 1 ∨ 1099511627776 < p
    · rw [if_pos h2]
      go_enter Try.func32, Try.ntmps32
      go_wp2
      all_goals first | (exfalso; omega) | go_ret
      all_goals exact ⟨rfl, Below.refl _ _⟩
    · rw [if_neg h2]
      have m0 := Int.emod_nonneg p (show g ≠ 0 by omega)
      have m1 := Int.emod_lt_of_pos p (show 0 < g by omega)
      have h3 : 1 ≤ p := by omega
      by_cases hz : p % g = 0
      · rw [if_pos hz]
        go_enter Try.func32, Try.ntmps32
        go_wp2
        all_goals first | (exfalso; omega) | go_ret
        all_goals exact ⟨rfl, Below.refl _ _⟩
      · rw [if_neg hz]
        have ez : (p % g == 0) = false := by simpa using hz
        go_enter Try.func32, Try.ntmps32
        go_wp2
        all_goals first | (exfalso; omega) | go_ret
        all_goals exact ⟨rfl, Below.refl _ _⟩

theorem symC2_any (s : Symb) (hF : s.Fit) (b : Nat) (w : World) (h : Blk w b 35 (cSymb s)) :
    Calls Try.prog 31 #[.pointer (some ⟨b, 0, none⟩)] w fun e w' => e = .returned (.bool (decide (priceV s.refp s.grid = 0))) ∧ Below w.heap.size w w' := by
  have c1 := fun w => fprice_any s.refp s.grid hF.refp hF.grid w
  obtain ⟨x0, x1, -⟩ := Symb.cells h
  clear h hF
  have hd : ((priceV s.refp s.grid) == 0) = decide (priceV s.refp s.grid = 0) := rfl
  rw [← hd]
  generalize priceV s.refp s.grid = r at c1 ⊢
  obtain ⟨grid, refp, stat, dyn, win, move, lim, pau, ext, mext, col, wid, self, slots, levels, short⟩ := s
  simp only at *
  go_enter Try.func31, Try.ntmps31
  go_wp2_with (go_at_call 32; (refine (c1 _).mono ?_); rintro e w1 ⟨rfl, hb⟩)
  go_ret
  exact ⟨rfl, hb⟩
theorem symC9_any (s : Symb) (b : Nat) (w : World) (h : Blk w b 35 (cSymb s)) :
    Calls Try.prog 39 #[.pointer (some ⟨b, 0, none⟩)] w fun e w' => e = .returned (.bool (decide (s.dyn ≤ s.stat))) ∧ Below w.heap.size w w' := by
  obtain ⟨x0, x1, x2, x3, -⟩ := Symb.cells h
  clear h
  obtain ⟨grid, refp, stat, dyn, win, move, lim, pau, ext, mext, col, wid, self, slots, levels, short⟩ := s
  simp only at *
  go_enter Try.func39, Try.ntmps39
  go_wp2
  go_ret
  exact ⟨rfl, Below.refl _ _⟩
abbrev symCs (b : Nat) (s : Symb) : List Cn := [
  ⟨9, 29, #[.pointer (some ⟨b, 0, none⟩)], allK 1 1099511627776 [s.grid, s.refp]⟩,
  ⟨8, 31, #[.pointer (some ⟨b, 0, none⟩)], decide (priceV s.refp s.grid = 0)⟩,
  ⟨9, 33, #[.pointer (some ⟨b, 0, none⟩)], allK 0 9999 [s.stat, s.dyn, s.move, s.col, s.wid, s.short]⟩,
  ⟨9, 34, #[.pointer (some ⟨b, 0, none⟩)], allK 1 1099511627776 [s.win, s.lim, s.pau, s.ext]⟩,
  ⟨9, 35, #[.pointer (some ⟨b, 0, none⟩)], allK 0 10 [s.mext]⟩,
  ⟨9, 36, #[.pointer (some ⟨b, 0, none⟩)], allK 0 3 [s.self]⟩,
  ⟨9, 37, #[.pointer (some ⟨b, 0, none⟩)], allK 1 500 [s.slots]⟩,
  ⟨9, 38, #[.pointer (some ⟨b, 0, none⟩)], allK 1 200 [s.levels]⟩,
  ⟨11, 39, #[.pointer (some ⟨b, 0, none⟩)], decide (s.dyn ≤ s.stat)⟩]
theorem symF_conds (b : Nat) (s : Symb) : firstF (symCs b s) = symF s := by
  have a1 : allK 1 1099511627776 [s.grid, s.refp] = symR1 s := by simp [allK, symR1]
  have a3 : allK 0 9999 [s.stat, s.dyn, s.move, s.col, s.wid, s.short] = symR2 s := by simp [allK, symR2]
  have a4 : (allK 1 1099511627776 [s.win, s.lim, s.pau, s.ext] && (allK 0 10 [s.mext] && (allK 0 3 [s.self] && (allK 1 500 [s.slots] && allK 1 200 [s.levels])))) = symR3 s := by simp [allK, symR3, Bool.and_assoc]
  unfold symCs symF
  simp only [firstF]
  rw [a1, a3]
  cases h1 : symR1 s with
  | false => simp
  | true =>
    have g1 := h1
    unfold symR1 at g1
    simp only [Bool.and_eq_true, inK_true] at g1
    have hp : priceV s.refp s.grid = 0 ↔ s.refp.tmod s.grid = 0 := by
      unfold priceV
      rw [if_neg (by omega), if_neg (by omega), Int.tmod_eq_emod_of_nonneg (by omega)]
      by_cases h : s.refp % s.grid = 0
      · simp [h]
      · simp [h]
    by_cases hg : s.refp.tmod s.grid = 0
    · have hd : decide (priceV s.refp s.grid = 0) = true := by simp [hp, hg]
      rw [hd, ← a4]
      simp only [hg, ne_eq, not_true_eq_false, if_false, if_true]
      have hd4 : decide (s.dyn ≤ s.stat) = !decide (s.stat < s.dyn) := by by_cases h : s.stat < s.dyn <;> simp [h] <;> omega
      rw [hd4]
      generalize symR2 s = p0
      generalize allK 1 1099511627776 [s.win, s.lim, s.pau, s.ext] = p1
      generalize allK 0 10 [s.mext] = p2
      generalize allK 0 3 [s.self] = p3
      generalize allK 1 500 [s.slots] = p4
      generalize allK 1 200 [s.levels] = p5
      by_cases h4 : s.stat < s.dyn
      · rw [decide_eq_true h4, if_pos h4]
        cases p0 <;> cases p1 <;> cases p2 <;> cases p3 <;> cases p4 <;> cases p5 <;> rfl
      · rw [decide_eq_false h4, if_neg h4]
        cases p0 <;> cases p1 <;> cases p2 <;> cases p3 <;> cases p4 <;> cases p5 <;> rfl
    · have hd : decide (priceV s.refp s.grid = 0) = false := by simp [hp, hg]
      rw [hd]
      simp [hg]
theorem symCs_ok (W : World) (b : Nat) (s : Symb) (hF : s.Fit) (h : Blk W b 35 (cSymb s)) : ∀ c ∈ symCs b s, CnOk W c := by
  have hk : ∀ w, Below W.heap.size W w → Blk w b 35 (cSymb s) := fun w hb => h.below hb h.lt
  intro c hc
  simp only [symCs, List.mem_cons, List.not_mem_nil, or_false] at hc
  rcases hc with rfl | rfl | rfl | rfl | rfl | rfl | rfl | rfl | rfl
  · exact ⟨enters_of Try.func29 (by kernel_rfl) (by kernel_rfl), fun w hb => symC1_any s b w (hk w hb)⟩
  · exact ⟨enters_of Try.func31 (by kernel_rfl) (by kernel_rfl), fun w hb => symC2_any s hF b w (hk w hb)⟩
  · exact ⟨enters_of Try.func33 (by kernel_rfl) (by kernel_rfl), fun w hb => symC3_any s b w (hk w hb)⟩
  · exact ⟨enters_of Try.func34 (by kernel_rfl) (by kernel_rfl), fun w hb => symC4_any s b w (hk w hb)⟩
  · exact ⟨enters_of Try.func35 (by kernel_rfl) (by kernel_rfl), fun w hb => symC5_any s b w (hk w hb)⟩
  · exact ⟨enters_of Try.func36 (by kernel_rfl) (by kernel_rfl), fun w hb => symC6_any s b w (hk w hb)⟩
  · exact ⟨enters_of Try.func37 (by kernel_rfl) (by kernel_rfl), fun w hb => symC7_any s b w (hk w hb)⟩
  · exact ⟨enters_of Try.func38 (by kernel_rfl) (by kernel_rfl), fun w hb => symC8_any s b w (hk w hb)⟩
  · exact ⟨enters_of Try.func39 (by kernel_rfl) (by kernel_rfl), fun w hb => symC9_any s b w (hk w hb)⟩
end Go.Proofs.Ytbkiipeoabbiiaa
