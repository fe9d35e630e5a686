/-
  The contracts of counted: a number of elements goes through a function value; a copy of a list with as many.
-/
import Derived.Test.YtbkiipeoabbiiaaPassW
import Derived.Test.YtbkiipeoabbiiaaCfgV
import Derived.Laws.CopyRow
import Derived.Laws.MakeOwn
namespace Go.Proofs.Ytbkiipeoabbiiaa
open Go.RowKit
theorem run_copy_sz {P : Program} (w : World) (dT sT ty elem : TypeId) (sz g o dLen dCap : Nat) (a : Addr) (sLen sCap : Nat) (cur : Array Value) (t : TypeId) (cs : List Value)
    (hu : P.underlying dT = some (.slice elem)) (hs : (P.info? elem).map (·.size) = some sz)
    (hg : w.heap[g]? = some (.cells cur t (0, 0))) (hn : cs.length = Nat.min sLen dLen * sz)
    (hsrc : ∀ j v, cs[j]? = some v → w.cell? (a.add j) = some v) (hfit : o + cs.length ≤ cur.size) (h1 : ∀ v ∈ cs, v.oneCell' = true) :
    (Builtin.copy_ #[dT, sT] ty #[.slice (some ⟨g, o, none⟩) dLen dCap, .slice (some a) sLen sCap]).run P w =
      .ok (goInt (Nat.min sLen dLen)) (w.setRow g (cur.toList.take o ++ cs ++ cur.toList.drop (o + cs.length)).toArray) := by
  have hl := run_firstCells_some (P := P) (w := w) sz (Nat.min sLen dLen) a sLen sCap cs hn hsrc
  have hst := run_storeCells_at P g o t cs 0 cur w hg (by simpa using hfit) h1
  cases hq : P.info? elem with
  | none => simp [hq] at hs
  | some i =>
    have hi : i.size = sz := by simpa [hq] using hs
    simp [Builtin.copy_, run_underlying hu, Builtin.lenOf, sizeOf, typeInfo, hq, hi, hl, hst]
/-- As many numbers: those that there are, then zeros. -/
def fitL (n : Nat) (us : List Int) : List Int := us.take n ++ List.replicate (n - us.length) 0
theorem fit_cells (us : List Int) (n m k : Nat) (h : us.length = n * k) : ((Cv [] (List.replicate (m * k) 0) []).toList.take 0 ++ (us.take (Nat.min n m * k)).map (Value.int .i64) ++ (Cv [] (List.replicate (m * k) 0) []).toList.drop (0 + ((us.take (Nat.min n m * k)).map (Value.int .i64)).length)).toArray = Cv [] (fitL (m * k) us) [] := by
  have hmin : Nat.min n m * k = Nat.min (n * k) (m * k) := (Nat.mul_min_mul_right n m k).symm
  have e1 : us.take (Nat.min n m * k) = us.take (m * k) := by
    rw [hmin, ← h]
    rw [List.take_eq_take_iff]
    show min (min us.length (m * k)) us.length = min (m * k) us.length
    omega
  rw [e1]
  unfold Cv fitL
  simp only [List.nil_append, List.append_nil, Nat.zero_add, List.take_zero, List.length_map, List.length_take, List.map_append, List.map_replicate, List.drop_replicate]
  congr 3
  omega
theorem run_copy_none {P : Program} (w : World) (dT sT ty elem : TypeId) (a : Addr) (dLen dCap c : Nat) (hu : P.underlying dT = some (.slice elem)) (hs : ((P.info? elem).map (·.size)).isSome = true) :
    (Builtin.copy_ #[dT, sT] ty #[.slice (some a) dLen dCap, .slice none 0 c]).run P w = .ok (goInt 0) w := by
  cases hq : P.info? elem with
  | none => simp [hq] at hs
  | some i => simp [Builtin.copy_, run_underlying hu, Builtin.lenOf, Builtin.firstCells, sizeOf, typeInfo, hq, storeCells]
theorem setRow_same {w : World} {g : Nat} {t : TypeId} {c : Array Value} (h : Blk w g t c) : w.setRow g c = w := by
  have e : (w.setRow g c).heap = w.heap := by
    apply Array.ext
    · simp [World.setRow]
    · intro i h1 h2
      by_cases hg : g = i
      · subst hg
        have h3 := h
        unfold Blk at h3
        have h4 := (h.setRow c)
        unfold Blk at h4
        rw [Array.getElem?_eq_getElem h1] at h4
        rw [Array.getElem?_eq_getElem h2] at h3
        rw [Option.some.inj h4, Option.some.inj h3]
      · simp only [World.setRow, Array.getElem_modify]
        rw [if_neg hg]
  cases w
  simp only [World.setRow] at e ⊢
  simp only [e]
theorem flat_get {α : Type} (f : α → List Int) (k : Nat) (hk : ∀ x, (f x).length = k) : ∀ (l : List α) (j : Nat) (v : Int), (l.flatMap f)[j]? = some v → ∃ i m r, l[i]? = some m ∧ (f m)[r]? = some v ∧ j = i * k + r
  | [], j, v, h => by simp at h
  | x :: t, j, v, h => by
    rw [List.flatMap_cons] at h
    by_cases hj : j < k
    · rw [List.getElem?_append_left (by rw [hk]; exact hj)] at h
      exact ⟨0, x, j, rfl, h, by omega⟩
    · rw [List.getElem?_append_right (by rw [hk]; omega), hk] at h
      obtain ⟨i, m, r, h1, h2, h3⟩ := flat_get f k hk t (j - k) v h
      exact ⟨i + 1, m, r, by simpa using h1, h2, by rw [Nat.add_mul]; omega⟩
theorem flat_at {α : Type} (f : α → List Int) (k : Nat) (hk : ∀ x, (f x).length = k) : ∀ (l : List α) (i r : Nat) (m : α) (v : Int), l[i]? = some m → (f m)[r]? = some v → (l.flatMap f)[i * k + r]? = some v
  | [], i, r, m, v, h, _ => by simp at h
  | x :: t, 0, r, m, v, h, h2 => by
    obtain rfl : x = m := by simpa using h
    rw [List.flatMap_cons, Nat.zero_mul, Nat.zero_add, List.getElem?_append_left]
    · exact h2
    · exact (List.getElem?_eq_some_iff.1 h2).1
  | x :: t, i + 1, r, m, v, h, h2 => by
    rw [List.flatMap_cons, List.getElem?_append_right (by rw [hk, Nat.add_mul]; omega), hk, show (i + 1) * k + r - k = i * k + r by rw [Nat.add_mul]; omega]
    exact flat_at f k hk t i r m v (by simpa using h) h2
theorem flat_len {α : Type} (f : α → List Int) (k : Nat) (hk : ∀ x, (f x).length = k) : ∀ l : List α, (l.flatMap f).length = l.length * k
  | [] => by simp
  | x :: t => by rw [List.flatMap_cons, List.length_append, hk, flat_len f k hk t, List.length_cons, Nat.add_mul]; omega
theorem made_zero (z : Array Value) (h0 : 0 < z.size) (hz : ∀ r, r < z.size → z[r]! = .int .i64 0) (n : Nat) : madeCells z n = Cv [] (List.replicate n 0) [] := by
  apply Array.ext'
  unfold madeCells Cv
  simp only [List.nil_append, List.append_nil, List.map_replicate, Array.toList_map, Array.toList_range]
  rw [List.eq_replicate_iff]
  refine ⟨by simp, fun v hv => ?_⟩
  obtain ⟨i, hi, rfl⟩ := List.mem_map.1 hv
  exact hz _ (Nat.mod_lt _ h0)
abbrev rowL2 (r : Rowp) : List Int := [r.tick, r.phase]
theorem fitL_length (n : Nat) (us : List Int) : (fitL n us).length = n := by
  unfold fitL
  rw [List.length_append, List.length_take, List.length_replicate]
  omega
section
variable {σ : Type} {gn : Nat} {gc : Array Value} {I : σ → (Nat → Prop) → World → Prop} {ok : Int → Prop} {ans : σ → Int → Int} {nx : σ → Int → σ} {fu : σ → Nat}
theorem Symb.ofGet (m : Symb) (j : Nat) (v : Int) (h : (fieldsL m)[j]? = some v) : (cSymb m)[j]? = some (.int .i64 v) := by
  have e : (cSymb m).toList = (fieldsL m).map (Value.int .i64) := rfl
  rw [← Array.getElem?_toList, e, List.getElem?_map, h]
  rfl
theorem Symb.toGet (m : Symb) (j : Nat) (v : Value) (h : (cSymb m)[j]? = some v) : ∃ n, v = .int .i64 n ∧ (fieldsL m)[j]? = some n := by
  have e : (cSymb m).toList = (fieldsL m).map (Value.int .i64) := rfl
  rw [← Array.getElem?_toList, e, List.getElem?_map, Option.map_eq_some_iff] at h
  obtain ⟨n, h1, h2⟩ := h
  exact ⟨n, h2.symm, h1⟩
theorem Symbs.flat {w : World} {b off cap : Nat} {l : List Symb} (h : Symbs w (some ⟨b, off, none⟩) cap l) : ∀ (j : Nat) (v : Int), (l.flatMap fieldsL)[j]? = some v → w.cell? ⟨b, off + j, none⟩ = some (.int .i64 v) := by
  intro j v hj
  obtain ⟨i, m, r, h1, h2, rfl⟩ := flat_get fieldsL 16 (fun _ => rfl) l j v hj
  rcases h.at' with h0 | ⟨b', off', ha, hl⟩
  · subst h0; simp at h1
  · cases ha
    rw [← Nat.add_assoc]
    exact hl i m h1 r _ (m.ofGet r v h2)
theorem Symbs.of_blk {w : World} {b : Nat} {T : TypeId} {l : List Symb} (hl : l.length ≤ 1000) (h : Blk w b T (Cv [] (l.flatMap fieldsL) [])) : Symbs w (some ⟨b, 0, none⟩) l.length l := by
  refine ⟨Nat.le_refl _, by unfold maxLen; omega, .inr ⟨b, 0, rfl, fun i m hi j v hj => ?_⟩⟩
  obtain ⟨n, rfl, hn⟩ := m.toGet j v hj
  have h2 := flat_at fieldsL 16 (fun _ => rfl) l i j m n hi hn
  rw [Nat.zero_add]
  refine h.cell_eq _ _ ?_
  unfold Cv
  simpa using h2
theorem madeSymb (n : Nat) : madeCells #[.int .i64 0, .int .i64 0, .int .i64 0, .int .i64 0, .int .i64 0, .int .i64 0, .int .i64 0, .int .i64 0, .int .i64 0, .int .i64 0, .int .i64 0, .int .i64 0, .int .i64 0, .int .i64 0, .int .i64 0, .int .i64 0] n = Cv [] (List.replicate n 0) [] :=
  made_zero _ (by decide) (fun r hr => by
    match r, hr with
    | 0, _ => rfl
    | 1, _ => rfl
    | 2, _ => rfl
    | 3, _ => rfl
    | 4, _ => rfl
    | 5, _ => rfl
    | 6, _ => rfl
    | 7, _ => rfl
    | 8, _ => rfl
    | 9, _ => rfl
    | 10, _ => rfl
    | 11, _ => rfl
    | 12, _ => rfl
    | 13, _ => rfl
    | 14, _ => rfl
    | 15, _ => rfl
    | r + 16, hr => exact absurd hr (by simp)) n
theorem infoCSymb : (Try.prog.info? 35).map (fun i => (i.zero, i.size, i.bytes)) = some (some (.agg #[.int .i64 0, .int .i64 0, .int .i64 0, .int .i64 0, .int .i64 0, .int .i64 0, .int .i64 0, .int .i64 0, .int .i64 0, .int .i64 0, .int .i64 0, .int .i64 0, .int .i64 0, .int .i64 0, .int .i64 0, .int .i64 0]), 16, 128) := by kernel_rfl
theorem sizeSymb : (Try.prog.info? 35).map (·.size) = some 16 := by kernel_rfl
theorem Rowp.ofGet (m : Rowp) (j : Nat) (v : Int) (h : (rowL2 m)[j]? = some v) : (cRowp m)[j]? = some (.int .i64 v) := by
  have e : (cRowp m).toList = (rowL2 m).map (Value.int .i64) := rfl
  rw [← Array.getElem?_toList, e, List.getElem?_map, h]
  rfl
theorem Rowp.toGet (m : Rowp) (j : Nat) (v : Value) (h : (cRowp m)[j]? = some v) : ∃ n, v = .int .i64 n ∧ (rowL2 m)[j]? = some n := by
  have e : (cRowp m).toList = (rowL2 m).map (Value.int .i64) := rfl
  rw [← Array.getElem?_toList, e, List.getElem?_map, Option.map_eq_some_iff] at h
  obtain ⟨n, h1, h2⟩ := h
  exact ⟨n, h2.symm, h1⟩
theorem Rowps.flat {w : World} {b off cap : Nat} {l : List Rowp} (h : Rowps w (some ⟨b, off, none⟩) cap l) : ∀ (j : Nat) (v : Int), (l.flatMap rowL2)[j]? = some v → w.cell? ⟨b, off + j, none⟩ = some (.int .i64 v) := by
  intro j v hj
  obtain ⟨i, m, r, h1, h2, rfl⟩ := flat_get rowL2 2 (fun _ => rfl) l j v hj
  rcases h.at' with h0 | ⟨b', off', ha, hl⟩
  · subst h0; simp at h1
  · cases ha
    rw [← Nat.add_assoc]
    exact hl i m h1 r _ (m.ofGet r v h2)
theorem Rowps.of_blk {w : World} {b : Nat} {T : TypeId} {l : List Rowp} (hl : l.length ≤ 1000) (h : Blk w b T (Cv [] (l.flatMap rowL2) [])) : Rowps w (some ⟨b, 0, none⟩) l.length l := by
  refine ⟨Nat.le_refl _, by unfold maxLen; omega, .inr ⟨b, 0, rfl, fun i m hi j v hj => ?_⟩⟩
  obtain ⟨n, rfl, hn⟩ := m.toGet j v hj
  have h2 := flat_at rowL2 2 (fun _ => rfl) l i j m n hi hn
  rw [Nat.zero_add]
  refine h.cell_eq _ _ ?_
  unfold Cv
  simpa using h2
theorem madeRowp (n : Nat) : madeCells #[.int .i64 0, .int .i64 0] n = Cv [] (List.replicate n 0) [] :=
  made_zero _ (by decide) (fun r hr => by
    match r, hr with
    | 0, _ => rfl
    | 1, _ => rfl
    | r + 2, hr => exact absurd hr (by simp)) n
theorem infoCRowp : (Try.prog.info? 49).map (fun i => (i.zero, i.size, i.bytes)) = some (some (.agg #[.int .i64 0, .int .i64 0]), 2, 16) := by kernel_rfl
theorem sizeRowp : (Try.prog.info? 49).map (·.size) = some 2 := by kernel_rfl
set_option maxRecDepth 8000 in
set_option maxHeartbeats 2000000 in
theorem countedSymb_any (hN : Nm σ gn gc I ok ans nx fu) {W : World} {S0 : Nat → Prop} {bs : Nat} {T : TypeId} {ob : List (Nat × TypeId × Array Value)} {s : σ} {cs : Array Value} {ao : Option Addr} {cap : Nat} {l : List Symb} (hl : l.length ≤ 100)
    (hK : ∀ s' w', PJ I W S0 bs T ob s' cs w' → Symbs w' ao cap l) (hok : ok (l.length : Int)) (hfu : 0 < fu s) (h0 : 0 ≤ ans s (l.length : Int)) {w : World} (hP : PJ I W S0 bs T ob s cs w) :
    Calls Try.prog 64 #[.slice ao l.length cap, .int .i64 8, .func (.func gn) #[] gc] w fun e w' => (8 < ans s l.length ∧ e = .returned (.tuple #[.slice none 0 0, .bool false]) ∧ PJ I W S0 bs T ob (nx s l.length) cs w') ∨
      (ans s l.length ≤ 8 ∧ ∃ g, w.heap.size ≤ g ∧ e = .returned (.tuple #[.slice (some ⟨g, 0, none⟩) (ans s l.length).toNat (ans s l.length).toNat, .bool true]) ∧ PJ I W S0 bs T ((g, 35, Cv [] (fitL ((ans s l.length).toNat * 16) (l.flatMap fieldsL)) []) :: ob) (nx s l.length) cs w') := by
  obtain ⟨i1, hi1, hz1, hs1, hb1⟩ := info_parts infoCSymb
  have hGo := fun w => hN.goes (#[.int .i64 (l.length : Int)] ++ gc) w
  have cC := hP.call2 hN hok hfu
  generalize ans s (l.length : Int) = a at *
  generalize nx s (l.length : Int) = s1 at *
  by_cases ha : 8 < a
  · clear hK hi1 hz1 hs1 hb1
    go_enter Try.func64, Try.ntmps64
    go_wp2_with (refine cC.mono ?_; rintro e w1 ⟨rfl, hP1⟩)
    go_ret2
    exact .inl ⟨ha, rfl, hP1.1⟩
  · obtain ⟨m, rfl⟩ : ∃ m : Nat, a = m := ⟨a.toNat, by omega⟩
    have hm : m ≤ 8 := by omega
    have hmk : ∀ w, (Instr.makeSlice 22 (.int .i64 (m : Int)) (.int .i64 (m : Int))).run Try.prog w = .ok (.slice (some ⟨w.heap.size, 0, none⟩) m m) (w.alloc (.cells (Cv [] (List.replicate (m * 16) 0) []) 35)) := by
      intro w
      have h := run_makeSlice (P := Try.prog) (w := w) 22 35 i1 _ Try.underlying22 hi1 hz1 .i64 .i64 (m : Int) (m : Int) (by omega) (by omega) (by rw [hs1]; simp; omega) (by rw [hb1]; omega) (by omega)
      rw [hs1] at h
      simp only [Int.toNat_natCast] at h
      rw [h]
      show Result.ok _ (w.alloc (.cells (madeCells #[.int .i64 0, .int .i64 0, .int .i64 0, .int .i64 0, .int .i64 0, .int .i64 0, .int .i64 0, .int .i64 0, .int .i64 0, .int .i64 0, .int .i64 0, .int .i64 0, .int .i64 0, .int .i64 0, .int .i64 0, .int .i64 0] (m * 16)) 35)) = _
      rw [madeSymb]
    have hcp : ∀ w1, PJ I W S0 bs T ob s1 cs w1 → ∀ ty, (Builtin.copy_ #[22, 22] ty #[.slice (some ⟨w1.heap.size, 0, none⟩) m m, .slice ao l.length cap]).run Try.prog (w1.alloc (.cells (Cv [] (List.replicate (m * 16) 0) []) 35)) = .ok (goInt (Nat.min l.length m)) ((w1.alloc (.cells (Cv [] (List.replicate (m * 16) 0) []) 35)).setRow w1.heap.size (Cv [] (fitL (m * 16) (l.flatMap fieldsL)) [])) := by
      intro w1 hP1 ty
      have hX := hK _ _ (hP1.alloc hN (.cells (Cv [] (List.replicate (m * 16) 0) []) 35))
      have hB := Blk.new w1 35 (Cv [] (List.replicate (m * 16) 0) [])
      generalize w1.alloc (.cells (Cv [] (List.replicate (m * 16) 0) []) 35) = w2 at *
      cases ao with
      | none =>
        have hl0 : l = [] := by
          rcases hX.at' with h | ⟨b, off, h, -⟩
          · exact h
          · cases h
        subst hl0
        have e : Cv [] (fitL (m * 16) (([] : List Symb).flatMap fieldsL)) [] = Cv [] (List.replicate (m * 16) 0) [] := by simp [fitL]
        rw [e, setRow_same hB]
        have h := run_copy_none (P := Try.prog) w2 22 22 ty 35 ⟨w1.heap.size, 0, none⟩ m m cap Try.underlying22 (by rw [sizeSymb]; rfl)
        have e0 : Nat.min ([] : List Symb).length m = 0 := Nat.zero_min m
        rw [e0]
        exact h
      | some a =>
        have hfl := flat_len fieldsL 16 (fun _ => rfl) l
        have hsz : (Cv [] (List.replicate (m * 16) 0) []).size = m * 16 := by simp [Cv]
        have hmn : Nat.min l.length m * 16 ≤ l.length * 16 := Nat.mul_le_mul_right _ (Nat.min_le_left _ _)
        have hmn2 : Nat.min l.length m * 16 ≤ m * 16 := Nat.mul_le_mul_right _ (Nat.min_le_right _ _)
        have h := run_copy_sz (P := Try.prog) w2 22 22 ty 35 16 w1.heap.size 0 m m a l.length cap _ 35 (((l.flatMap fieldsL).take (Nat.min l.length m * 16)).map (Value.int .i64)) Try.underlying22 sizeSymb hB (by rw [List.length_map, List.length_take, hfl]; omega) (fun j v hj => by
          rw [List.getElem?_map, Option.map_eq_some_iff] at hj
          obtain ⟨n, hn, rfl⟩ := hj
          have hn2 : (l.flatMap fieldsL)[j]? = some n := by
            rw [List.getElem?_take] at hn
            split at hn
            · exact hn
            · cases hn
          rcases hX.at' with h0 | ⟨b, off, h0, -⟩
          · subst h0; simp at hn2
          · cases h0
            have := hX.flat j n hn2
            rw [Addr.add_mid]
            exact this) (by rw [List.length_map, List.length_take, hfl, hsz]; omega) (fun v hv => by
          obtain ⟨n, -, rfl⟩ := List.mem_map.1 hv
          rfl)
        rw [h]
        rw [fit_cells (l.flatMap fieldsL) l.length m 16 hfl]
    go_enter Try.func64, Try.ntmps64
    go_wp2_with (refine cC.mono ?_; rintro e w1 ⟨rfl, hP1⟩; have hcp1 := hcp w1 hP1.1; have hPn := hP1.1.newRow hN 35 (Cv [] (List.replicate (m * 16) 0) []) (Cv [] (fitL (m * 16) (l.flatMap fieldsL)) []))
    go_ret2
    exact .inr ⟨by omega, w1.heap.size, hP1.2, by simp, hPn⟩
set_option maxRecDepth 8000 in
set_option maxHeartbeats 2000000 in
theorem countedRowp_any (hN : Nm σ gn gc I ok ans nx fu) {W : World} {S0 : Nat → Prop} {bs : Nat} {T : TypeId} {ob : List (Nat × TypeId × Array Value)} {s : σ} {cs : Array Value} {ao : Option Addr} {cap : Nat} {l : List Rowp} (hl : l.length ≤ 100)
    (hK : ∀ s' w', PJ I W S0 bs T ob s' cs w' → Rowps w' ao cap l) (hok : ok (l.length : Int)) (hfu : 0 < fu s) (h0 : 0 ≤ ans s (l.length : Int)) {w : World} (hP : PJ I W S0 bs T ob s cs w) :
    Calls Try.prog 67 #[.slice ao l.length cap, .int .i64 20, .func (.func gn) #[] gc] w fun e w' => (20 < ans s l.length ∧ e = .returned (.tuple #[.slice none 0 0, .bool false]) ∧ PJ I W S0 bs T ob (nx s l.length) cs w') ∨
      (ans s l.length ≤ 20 ∧ ∃ g, w.heap.size ≤ g ∧ e = .returned (.tuple #[.slice (some ⟨g, 0, none⟩) (ans s l.length).toNat (ans s l.length).toNat, .bool true]) ∧ PJ I W S0 bs T ((g, 49, Cv [] (fitL ((ans s l.length).toNat * 2) (l.flatMap rowL2)) []) :: ob) (nx s l.length) cs w') := by
  obtain ⟨i1, hi1, hz1, hs1, hb1⟩ := info_parts infoCRowp
  have hGo := fun w => hN.goes (#[.int .i64 (l.length : Int)] ++ gc) w
  have cC := hP.call2 hN hok hfu
  generalize ans s (l.length : Int) = a at *
  generalize nx s (l.length : Int) = s1 at *
  by_cases ha : 20 < a
  · clear hK hi1 hz1 hs1 hb1
    go_enter Try.func67, Try.ntmps67
    go_wp2_with (refine cC.mono ?_; rintro e w1 ⟨rfl, hP1⟩)
    go_ret2
    exact .inl ⟨ha, rfl, hP1.1⟩
  · obtain ⟨m, rfl⟩ : ∃ m : Nat, a = m := ⟨a.toNat, by omega⟩
    have hm : m ≤ 20 := by omega
    have hmk : ∀ w, (Instr.makeSlice 23 (.int .i64 (m : Int)) (.int .i64 (m : Int))).run Try.prog w = .ok (.slice (some ⟨w.heap.size, 0, none⟩) m m) (w.alloc (.cells (Cv [] (List.replicate (m * 2) 0) []) 49)) := by
      intro w
      have h := run_makeSlice (P := Try.prog) (w := w) 23 49 i1 _ Try.underlying23 hi1 hz1 .i64 .i64 (m : Int) (m : Int) (by omega) (by omega) (by rw [hs1]; simp; omega) (by rw [hb1]; omega) (by omega)
      rw [hs1] at h
      simp only [Int.toNat_natCast] at h
      rw [h]
      show Result.ok _ (w.alloc (.cells (madeCells #[.int .i64 0, .int .i64 0] (m * 2)) 49)) = _
      rw [madeRowp]
    have hcp : ∀ w1, PJ I W S0 bs T ob s1 cs w1 → ∀ ty, (Builtin.copy_ #[23, 23] ty #[.slice (some ⟨w1.heap.size, 0, none⟩) m m, .slice ao l.length cap]).run Try.prog (w1.alloc (.cells (Cv [] (List.replicate (m * 2) 0) []) 49)) = .ok (goInt (Nat.min l.length m)) ((w1.alloc (.cells (Cv [] (List.replicate (m * 2) 0) []) 49)).setRow w1.heap.size (Cv [] (fitL (m * 2) (l.flatMap rowL2)) [])) := by
      intro w1 hP1 ty
      have hX := hK _ _ (hP1.alloc hN (.cells (Cv [] (List.replicate (m * 2) 0) []) 49))
      have hB := Blk.new w1 49 (Cv [] (List.replicate (m * 2) 0) [])
      generalize w1.alloc (.cells (Cv [] (List.replicate (m * 2) 0) []) 49) = w2 at *
      cases ao with
      | none =>
        have hl0 : l = [] := by
          rcases hX.at' with h | ⟨b, off, h, -⟩
          · exact h
          · cases h
        subst hl0
        have e : Cv [] (fitL (m * 2) (([] : List Rowp).flatMap rowL2)) [] = Cv [] (List.replicate (m * 2) 0) [] := by simp [fitL]
        rw [e, setRow_same hB]
        have h := run_copy_none (P := Try.prog) w2 23 23 ty 49 ⟨w1.heap.size, 0, none⟩ m m cap Try.underlying23 (by rw [sizeRowp]; rfl)
        have e0 : Nat.min ([] : List Rowp).length m = 0 := Nat.zero_min m
        rw [e0]
        exact h
      | some a =>
        have hfl := flat_len rowL2 2 (fun _ => rfl) l
        have hsz : (Cv [] (List.replicate (m * 2) 0) []).size = m * 2 := by simp [Cv]
        have hmn : Nat.min l.length m * 2 ≤ l.length * 2 := Nat.mul_le_mul_right _ (Nat.min_le_left _ _)
        have hmn2 : Nat.min l.length m * 2 ≤ m * 2 := Nat.mul_le_mul_right _ (Nat.min_le_right _ _)
        have h := run_copy_sz (P := Try.prog) w2 23 23 ty 49 2 w1.heap.size 0 m m a l.length cap _ 49 (((l.flatMap rowL2).take (Nat.min l.length m * 2)).map (Value.int .i64)) Try.underlying23 sizeRowp hB (by rw [List.length_map, List.length_take, hfl]; omega) (fun j v hj => by
          rw [List.getElem?_map, Option.map_eq_some_iff] at hj
          obtain ⟨n, hn, rfl⟩ := hj
          have hn2 : (l.flatMap rowL2)[j]? = some n := by
            rw [List.getElem?_take] at hn
            split at hn
            · exact hn
            · cases hn
          rcases hX.at' with h0 | ⟨b, off, h0, -⟩
          · subst h0; simp at hn2
          · cases h0
            have := hX.flat j n hn2
            rw [Addr.add_mid]
            exact this) (by rw [List.length_map, List.length_take, hfl, hsz]; omega) (fun v hv => by
          obtain ⟨n, -, rfl⟩ := List.mem_map.1 hv
          rfl)
        rw [h]
        rw [fit_cells (l.flatMap rowL2) l.length m 2 hfl]
    go_enter Try.func67, Try.ntmps67
    go_wp2_with (refine cC.mono ?_; rintro e w1 ⟨rfl, hP1⟩; have hcp1 := hcp w1 hP1.1; have hPn := hP1.1.newRow hN 49 (Cv [] (List.replicate (m * 2) 0) []) (Cv [] (fitL (m * 2) (l.flatMap rowL2)) []))
    go_ret2
    exact .inr ⟨by omega, w1.heap.size, hP1.2, by simp, hPn⟩
end
end Go.Proofs.Ytbkiipeoabbiiaa
