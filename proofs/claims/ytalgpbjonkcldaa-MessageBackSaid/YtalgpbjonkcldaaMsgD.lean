/-
  The contract of the document's Decode of messages.
-/
import Derived.Test.YtalgpbjonkcldaaMsgF
import Derived.Test.YtalgpbjonkcldaaOctT
import Derived.RegionTactic
namespace Go.Proofs.Ytalgpbjonkcldaa
open Go.RowKit
/-- A part that was read, as cells. -/
def pc (r : Res) : List Value := [.int .u64 (r.n : Int), .int .i64 r.s, .slice none 0 0, .int .i64 (r.size : Int), .int .i64 (r.f : Int)]
def pz : List Value := [.int .u64 0, .int .i64 0, .slice none 0 0, .int .i64 0, .int .i64 0]
/-- Parts that were read, and m that are still zero. -/
def parr (rs : List Res) (m : Nat) : Array Value := (rs.flatMap pc ++ (List.replicate m pz).flatten).toArray
theorem pc_len (rs : List Res) : (rs.flatMap pc).length = rs.length * 5 := by
  induction rs with
  | nil => rfl
  | cons r t ih => rw [List.flatMap_cons, List.length_append, ih, List.length_cons]; show 5 + _ = _; omega
theorem parr_old (rs : List Res) (m j : Nat) (v : Value) (hj : pz[j]? = some v) : (parr rs (m + 1))[rs.length * 5 + j]? = some v := by
  have hlt : j < 5 := (List.getElem?_eq_some_iff.1 hj).1
  unfold parr
  rw [List.getElem?_toArray, List.getElem?_append_right (by rw [pc_len]; omega), pc_len, List.replicate_succ, List.flatten_cons, List.getElem?_append_left (by show _ < 5; omega), show rs.length * 5 + j - rs.length * 5 = j by omega]
  exact hj
theorem parr_set (rs : List Res) (m : Nat) (r : Res) :
    (((((parr rs (m + 1)).setIfInBounds (rs.length * 5) (.int .u64 (r.n : Int))).setIfInBounds (rs.length * 5 + 1) (.int .i64 r.s)).setIfInBounds (rs.length * 5 + 2) (.slice none 0 0)).setIfInBounds (rs.length * 5 + 3) (.int .i64 (r.size : Int))).setIfInBounds (rs.length * 5 + 4) (.int .i64 (r.f : Int)) = parr (rs ++ [r]) m := by
  have h0 := pc_len rs
  unfold parr
  rw [List.flatMap_append, List.replicate_succ, List.flatten_cons, ← h0]
  generalize rs.flatMap pc = A
  generalize (List.replicate m pz).flatten = B
  simp [pc, pz]
theorem parr_get (rs : List Res) (m i j : Nat) (r : Res) (v : Value) (hi : rs[i]? = some r) (hj : (pc r)[j]? = some v) : (parr rs m)[i * 5 + j]? = some v := by
  have hlt : j < 5 := (List.getElem?_eq_some_iff.1 hj).1
  have at1 : ∀ (l : List Res) (i : Nat), l[i]? = some r → (l.flatMap pc)[i * 5 + j]? = some v := by
    intro l
    induction l with
    | nil => intro i hi; simp at hi
    | cons x t ih =>
      intro i hi
      have hx : (pc x).length = 5 := rfl
      rw [List.flatMap_cons]
      cases i with
      | zero =>
        obtain rfl : x = r := by simpa using hi
        rw [List.getElem?_append_left (by rw [hx]; omega), Nat.zero_mul, Nat.zero_add]
        exact hj
      | succ i =>
        rw [List.getElem?_append_right (by rw [hx]; omega), hx, show (i + 1) * 5 + j - 5 = i * 5 + j by omega]
        exact ih i (by simpa using hi)
  unfold parr
  have hl := (List.getElem?_eq_some_iff.1 hi).1
  rw [List.getElem?_toArray, List.getElem?_append_left (by rw [pc_len]; omega)]
  exact at1 rs i hi
theorem pz_parr : parr [] 9 = #[.int .u64 0, .int .i64 0, .slice none 0 0, .int .i64 0, .int .i64 0, .int .u64 0, .int .i64 0, .slice none 0 0, .int .i64 0, .int .i64 0, .int .u64 0, .int .i64 0, .slice none 0 0, .int .i64 0, .int .i64 0, .int .u64 0, .int .i64 0, .slice none 0 0, .int .i64 0, .int .i64 0, .int .u64 0, .int .i64 0, .slice none 0 0, .int .i64 0, .int .i64 0, .int .u64 0, .int .i64 0, .slice none 0 0, .int .i64 0, .int .i64 0, .int .u64 0, .int .i64 0, .slice none 0 0, .int .i64 0, .int .i64 0, .int .u64 0, .int .i64 0, .slice none 0 0, .int .i64 0, .int .i64 0, .int .u64 0, .int .i64 0, .slice none 0 0, .int .i64 0, .int .i64 0] := rfl
/-- The result that is still zero, the parts, and all that was there. -/
structure Pa (W w : World) (rs : List Res) (m : Nat) : Prop where
  res : Blk w W.heap.size 23 (cMsg Msg.zero)
  arr : Blk w (W.heap.size + 1) 62 (parr rs m)
  bel : Below W.heap.size W w
theorem Pa.keep {W w w' : World} {rs : List Res} {m : Nat} (h : Pa W w rs m) (hb : Below w.heap.size w w') : Pa W w' rs m :=
  ⟨h.res.below hb h.res.lt, h.arr.below hb h.arr.lt, h.bel.trans (hb.mono h.bel.size)⟩
theorem Pa.set {W w : World} {rs : List Res} {m : Nat} (h : Pa W w rs (m + 1)) (r : Res) (q : Nat) (hq : q = rs.length) :
    Pa W (((((w.setCell ⟨W.heap.size + 1, q * 5, none⟩ (.int .u64 (r.n : Int))).setCell ⟨W.heap.size + 1, q * 5 + 1, none⟩ (.int .i64 r.s)).setCell ⟨W.heap.size + 1, q * 5 + 2, none⟩ (.slice none 0 0)).setCell ⟨W.heap.size + 1, q * 5 + 3, none⟩ (.int .i64 (r.size : Int))).setCell ⟨W.heap.size + 1, q * 5 + 4, none⟩ (.int .i64 (r.f : Int))) (rs ++ [r]) m := by
  subst hq
  have hne : W.heap.size + 1 ≠ W.heap.size := by omega
  have hle : W.heap.size ≤ W.heap.size + 1 := by omega
  have b0 := h.bel.setCell (p := ⟨W.heap.size + 1, rs.length * 5, none⟩) hle (.int .u64 (r.n : Int))
  have b1 := b0.setCell (p := ⟨W.heap.size + 1, rs.length * 5 + 1, none⟩) hle (.int .i64 r.s)
  have b2 := b1.setCell (p := ⟨W.heap.size + 1, rs.length * 5 + 2, none⟩) hle (.slice none 0 0)
  have b3 := b2.setCell (p := ⟨W.heap.size + 1, rs.length * 5 + 3, none⟩) hle (.int .i64 (r.size : Int))
  have b4 := b3.setCell (p := ⟨W.heap.size + 1, rs.length * 5 + 4, none⟩) hle (.int .i64 (r.f : Int))
  refine ⟨((((h.res.other (a := ⟨W.heap.size + 1, rs.length * 5, none⟩) hne _).other (a := ⟨W.heap.size + 1, rs.length * 5 + 1, none⟩) hne _).other (a := ⟨W.heap.size + 1, rs.length * 5 + 2, none⟩) hne _).other (a := ⟨W.heap.size + 1, rs.length * 5 + 3, none⟩) hne _).other (a := ⟨W.heap.size + 1, rs.length * 5 + 4, none⟩) hne _, ?_, b4⟩
  rw [← parr_set]
  exact ((((h.arr.set _ _).set _ _).set _ _).set _ _).set _ _
theorem Pa.old {W w : World} {rs : List Res} {m : Nat} (h : Pa W w rs (m + 1)) (q : Nat) (hq : q = rs.length) :
    w.cell? ⟨W.heap.size + 1, q * 5, none⟩ = some (.int .u64 0) ∧ w.cell? ⟨W.heap.size + 1, q * 5 + 1, none⟩ = some (.int .i64 0) ∧ w.cell? ⟨W.heap.size + 1, q * 5 + 2, none⟩ = some (.slice none 0 0) ∧ w.cell? ⟨W.heap.size + 1, q * 5 + 3, none⟩ = some (.int .i64 0) ∧ w.cell? ⟨W.heap.size + 1, q * 5 + 4, none⟩ = some (.int .i64 0) := by
  subst hq
  exact ⟨h.arr.cell_eq _ _ (parr_old rs m 0 _ rfl), h.arr.cell_eq _ _ (parr_old rs m 1 _ rfl), h.arr.cell_eq _ _ (parr_old rs m 2 _ rfl), h.arr.cell_eq _ _ (parr_old rs m 3 _ rfl), h.arr.cell_eq _ _ (parr_old rs m 4 _ rfl)⟩
theorem no8_parr (rs : List Res) (m : Nat) : ∀ (i : Nat) (x : Int), (parr rs m)[i]? ≠ some (.int .u8 x) := by
  intro i x h
  unfold parr at h
  rw [List.getElem?_toArray] at h
  have hm := List.mem_of_getElem? h
  rw [List.mem_append] at hm
  rcases hm with hm | hm
  · obtain ⟨r, _, hr⟩ := List.mem_flatMap.1 hm
    simp [pc] at hr
  · obtain ⟨l, hl, hx⟩ := List.mem_flatten.1 hm
    rw [List.eq_of_mem_replicate hl] at hx
    simp [pz] at hx
/-- What one of the nine reads is. -/
theorem fmtM_at (k : Nat) (hk : k < 9) : fmtM.drop k = (if k < 3 then (1, 1) else if k < 5 then (3, 0) else (2, 0)) :: fmtM.drop (k + 1) := by
  have h : k = 0 ∨ k = 1 ∨ k = 2 ∨ k = 3 ∨ k = 4 ∨ k = 5 ∨ k = 6 ∨ k = 7 ∨ k = 8 := by omega
  rcases h with rfl | rfl | rfl | rfl | rfl | rfl | rfl | rfl | rfl <;> rfl
/-- How far the reads have come. -/
def Came (b : List Nat) (k : Nat) (rs : List Res) (ys : List Nat) : Prop := rs.length = k ∧ rdL fmtM b 0 = (rs ++ (rdL (fmtM.drop k) ys 0).1, (rdL (fmtM.drop k) ys 0).2)
theorem Came.start (b : List Nat) : Came b 0 [] b := ⟨rfl, rfl⟩
theorem Came.step {b : List Nat} {k : Nat} {rs : List Res} {ys : List Nat} (h : Came b k rs ys) (hk : k < 9) {q z : Int} (hq : (if k < 3 then ((1, 1) : Int × Int) else if k < 5 then (3, 0) else (2, 0)) = (q, z)) {r : Res} (hr : stepR q z ys 0 = r) (h0 : r.f = 0) :
    Came b (k + 1) (rs ++ [r]) (ys.drop r.size) := by
  obtain ⟨h1, h2⟩ := h
  refine ⟨by rw [List.length_append, h1]; rfl, ?_⟩
  rw [h2, fmtM_at k hk, hq, rdL_cons hr, h0]
  simp
theorem Came.stop {b : List Nat} {k : Nat} {rs : List Res} {ys : List Nat} (h : Came b k rs ys) (hk : k < 9) {q z : Int} (hq : (if k < 3 then ((1, 1) : Int × Int) else if k < 5 then (3, 0) else (2, 0)) = (q, z)) {r : Res} (hr : stepR q z ys 0 = r) (h0 : r.f ≠ 0) :
    decM b = (Msg.zero, r.f) := by
  obtain ⟨_, h2⟩ := h
  have h3 : (rdL fmtM b 0).2.2 = r.f := by
    rw [h2, fmtM_at k hk, hq, rdL_cons hr]
    exact rdL_fault _ _ _ h0
  unfold decM
  rw [if_pos (by rw [h3]; exact h0), h3]
theorem rdM1_raw (ys : List Nat) : (stepR 1 1 ys 0).raw = [] := by
  rw [step1]; repeat' split
  all_goals rfl
theorem rdM2_raw (ys : List Nat) : (stepR 2 0 ys 0).raw = [] := by
  rw [step2]; split <;> rfl
theorem step_sizeM (q z : Int) (ys : List Nat) : (stepR q z ys 0).size ≤ ys.length := rd_size q z ys
theorem fiveM_frm (w : World) (b o0 o1 o2 o3 o4 : Nat) (v0 v1 v2 v3 v4 : Value) : Frm (fun q => q = b) w (((((w.setCell ⟨b, o0, none⟩ v0).setCell ⟨b, o1, none⟩ v1).setCell ⟨b, o2, none⟩ v2).setCell ⟨b, o3, none⟩ v3).setCell ⟨b, o4, none⟩ v4) := by
  have h0 := (Frm.refl (fun q => q = b) w).setCell ⟨b, o0, none⟩ v0 (.inl rfl)
  have h1 := h0.setCell ⟨b, o1, none⟩ v1 (.inl rfl)
  have h2 := h1.setCell ⟨b, o2, none⟩ v2 (.inl rfl)
  have h3 := h2.setCell ⟨b, o3, none⟩ v3 (.inl rfl)
  exact h3.setCell ⟨b, o4, none⟩ v4 (.inl rfl)
theorem le_of_dec {M n : Int} (h : decide (M < n) = false) : n ≤ M := by simpa using h
theorem conv_of_u64 {T : TypeId} (hT : Try.prog.underlying T = some (.int .i64)) (n : Nat) (hn : (n : Int) < 9223372036854775808) (w : World) : (convert 48 T (.int .u64 (n : Int))).run Try.prog w = .ok (.int .i64 (n : Int)) w := by
  have hU := Try.underlying48
  have e : IntKind.i64.wrap (n : Int) = (n : Int) := by rw [IntKind.wrap_i64]; omega
  simp [convert, go_sem, run_underlying hT, run_underlying hU, e]
/-- All nine have been read. -/
theorem Came.done {b : List Nat} {rs : List Res} {ys : List Nat} (h : Came b 9 rs ys) (hb : ∀ x ∈ b, x < 256) : ∃ k s c q t i o p y : Res, rs = [k, s, c, q, t, i, o, p, y] ∧ k.n < 256 ∧ s.n < 256 ∧ c.n < 256 ∧
    (ys = [] → rightM (ofM rs) = true → decM b = (ofM rs, 0)) ∧ ((ys ≠ [] ∨ rightM (ofM rs) = false) → decM b = (Msg.zero, 4)) := by
  obtain ⟨_, h2⟩ := h
  have h3 : rdL fmtM b 0 = (rs, ys, 0) := by
    rw [h2]
    show (rs ++ [], ys, 0) = _
    rw [List.append_nil]
  have h4 := rdL_back fmtM fmtM_nums b hb (by rw [h3])
  rw [h3] at h4
  have e2 := h4.2
  simp only at e2
  unfold fmtM at e2
  obtain ⟨k, rs, rfl, fk, e2⟩ := e2.consM
  obtain ⟨s, rs, rfl, fs, e2⟩ := e2.consM
  obtain ⟨c, rs, rfl, fc, e2⟩ := e2.consM
  obtain ⟨q, rs, rfl, fq, e2⟩ := e2.consM
  obtain ⟨t, rs, rfl, ft, e2⟩ := e2.consM
  obtain ⟨i, rs, rfl, fi, e2⟩ := e2.consM
  obtain ⟨o, rs, rfl, fo, e2⟩ := e2.consM
  obtain ⟨p, rs, rfl, fp, e2⟩ := e2.consM
  obtain ⟨y, rs, rfl, fy, e2⟩ := e2.consM
  obtain rfl := e2.nilM
  have k1 : k.n < 256 := (fk.1 rfl).1
  have s1 : s.n < 256 := (fs.1 rfl).1
  have c1 : c.n < 256 := (fc.1 rfl).1
  refine ⟨k, s, c, q, t, i, o, p, y, rfl, k1, s1, c1, fun hy hr => ?_, fun hw => ?_⟩
  · unfold decM
    rw [h3]
    simp only [ne_eq, not_true_eq_false, if_false]
    rw [if_pos ⟨hr, hy⟩]
  · unfold decM
    rw [h3]
    simp only [ne_eq, not_true_eq_false, if_false]
    rw [if_neg]
    rintro ⟨h5, h6⟩
    rcases hw with hw | hw
    · exact hw h6
    · rw [hw] at h5; cases h5
set_option maxRecDepth 8000 in
set_option maxHeartbeats 2000000 in
theorem refDecodeM_any (kb cb : Nat) (ab : Option Addr) (b : List Nat) (W : World) (hB : Bt W kb ab cb b) :
    Calls Try.prog 15 #[.slice ab b.length cb] W fun e w' => e = .returned (.tuple #[vMsg (decM b).1, .int .i64 ((decM b).2 : Int)]) ∧ Below W.heap.size W w' := by
  have hP0 : Pa W ((W.alloc (.cells #[.int .i64 0, .int .i64 0, .int .i64 0, .int .i64 0, .int .i64 0, .int .i64 0, .int .i64 0, .int .i64 0, .int .i64 0] 23)).alloc (.cells #[.int .u64 0, .int .i64 0, .slice none 0 0, .int .i64 0, .int .i64 0, .int .u64 0, .int .i64 0, .slice none 0 0, .int .i64 0, .int .i64 0, .int .u64 0, .int .i64 0, .slice none 0 0, .int .i64 0, .int .i64 0, .int .u64 0, .int .i64 0, .slice none 0 0, .int .i64 0, .int .i64 0, .int .u64 0, .int .i64 0, .slice none 0 0, .int .i64 0, .int .i64 0, .int .u64 0, .int .i64 0, .slice none 0 0, .int .i64 0, .int .i64 0, .int .u64 0, .int .i64 0, .slice none 0 0, .int .i64 0, .int .i64 0, .int .u64 0, .int .i64 0, .slice none 0 0, .int .i64 0, .int .i64 0, .int .u64 0, .int .i64 0, .slice none 0 0, .int .i64 0, .int .i64 0] 62)) [] 9 := ⟨(Blk.new _ _ _).alloc _, Blk.new' (by simp), ((Below.refl _ _).alloc (Nat.le_refl _) _).alloc (by simp) _⟩
  have hB0 := (hB.alloc (.cells #[.int .i64 0, .int .i64 0, .int .i64 0, .int .i64 0, .int .i64 0, .int .i64 0, .int .i64 0, .int .i64 0, .int .i64 0] 23)).alloc (.cells #[.int .u64 0, .int .i64 0, .slice none 0 0, .int .i64 0, .int .i64 0, .int .u64 0, .int .i64 0, .slice none 0 0, .int .i64 0, .int .i64 0, .int .u64 0, .int .i64 0, .slice none 0 0, .int .i64 0, .int .i64 0, .int .u64 0, .int .i64 0, .slice none 0 0, .int .i64 0, .int .i64 0, .int .u64 0, .int .i64 0, .slice none 0 0, .int .i64 0, .int .i64 0, .int .u64 0, .int .i64 0, .slice none 0 0, .int .i64 0, .int .i64 0, .int .u64 0, .int .i64 0, .slice none 0 0, .int .i64 0, .int .i64 0, .int .u64 0, .int .i64 0, .slice none 0 0, .int .i64 0, .int .i64 0, .int .u64 0, .int .i64 0, .slice none 0 0, .int .i64 0, .int .i64 0] 62)
  have hC0 := Lib.hid (Came.start b)
  have hby := Lib.hid hB.lt
  go_enter Try.func15, Try.ntmps15
  go_wp2_with fail
  go_loopg [0, 5] 9 (fun j p0 p5 wr => ∃ (k kb cb : Nat) (ab : Option Addr) (ys : List Nat) (rs : List Res), k + j = 9 ∧ p5 = .int .i64 (k : Int) ∧ p0 = .slice ab ys.length cb ∧ Bt wr kb ab cb ys ∧ Pa W wr rs j ∧ Hid (Came b k rs ys))
  case atStart => exact ⟨0, kb, cb, ab, b, [], rfl, rfl, rfl, hB0, hP0, hC0⟩
  case round =>
    obtain ⟨k, kb, cb, ab, ys, rs, hk, rfl, rfl, hB, hP, hC⟩ := hrel
    have hlen := hB.len
    have hmax := hB.top
    unfold maxLen at hmax
    by_cases hj : k < 9
    · obtain ⟨m, rfl⟩ : ∃ m, gk = m + 1 := ⟨gk - 1, by omega⟩
      by_cases h3 : k < 3
      · obtain ⟨⟨n, s, raw, z, f⟩, hr⟩ : ∃ r, Hid (stepR 1 1 ys 0 = r) := ⟨_, Lib.hid rfl⟩
        obtain rfl : raw = [] := by have := rdM1_raw ys; rw [hr.out] at this; exact this
        have hz : z ≤ ys.length := by have := step_sizeM 1 1 ys; rw [hr.out] at this; exact this
        have cU := refReadUint_any kb cb ab ys 1 wr hB
        rw [show rd 1 1 ys = ⟨n, s, [], z, f⟩ from hr.out] at cU
        unfold rv at cU
        obtain ⟨a2, c2, hsl, hB2⟩ := slice_from kb cb ab ys z hz wr hB
        obtain ⟨kF, hF⟩ : ∃ x, ((f : Int) != 0) = x := ⟨_, rfl⟩
        have hF1 : Hid (kF = true → f ≠ 0) := Lib.hid fun h => by rw [h] at hF; simpa using hF
        have hF0 : Hid (kF = false → f = 0) := Lib.hid fun h => by rw [h] at hF; simpa using hF
        go_wp2_with (go_at_call 32; (with_reducible refine cU.mono ?_); rintro e w1 ⟨rfl, hb1⟩; have hP1 := hP.keep hb1; obtain ⟨o0, o1, o2, o3, o4⟩ := hP1.old k hC.out.1.symm; have hfr := hP1.arr.free; have hfr2 := hP1.res.free; obtain ⟨y0, y1, y2, y3, y4, y5, y6, y7, y8⟩ := Msg.cells hP1.res; have hB1 := hB.below hb1)
        all_goals first
          | (have e : decM b = (Msg.zero, f) := hC.out.stop hj (if_pos h3) hr.out (hF1.out (by assumption))
             replace e := Lib.hid e
             go_region
             all_goals
               go_wp2
               refine bodyPost_ret (v := .tuple #[vMsg Msg.zero, .int .i64 (f : Int)]) ?_ rfl ⟨by rw [e.out], ?_⟩
               · obtain ⟨z0, z1, z2, z3, z4, z5, z6, z7, z8⟩ := Msg.cells (Msg.lay (hP1.set ⟨n, s, [], z, f⟩ k hC.out.1.symm).res 0 0 0 0 0 0 0 0 0).drew
                 simp [results, Try.results15, go_sem, z0, z1, z2, z3, z4, z5, z6, z7, z8, Msg.zero]
               · exact (Msg.below (hP1.set ⟨n, s, [], z, f⟩ k hC.out.1.symm).bel (Nat.le_refl _) (.int .i64 0) (.int .i64 0) (.int .i64 0) (.int .i64 0) (.int .i64 0) (.int .i64 0) (.int .i64 0) (.int .i64 0) (.int .i64 0)).drew)
          | (go_roundg m
             case measure => omega
             case rel => exact ⟨k + 1, kb, c2, a2, ys.drop z, rs ++ [⟨n, s, [], z, f⟩], by omega, by go_num, by rw [List.length_drop], hB2 _ (hB1.part hP1.arr (no8_parr _ _) (fiveM_frm _ _ _ _ _ _ _ _ _ _ _ _)), (hP1.set ⟨n, s, [], z, f⟩ k hC.out.1.symm), Lib.hid (hC.out.step hj (if_pos h3) hr.out (hF0.out (by assumption)))⟩)
      · by_cases h5 : k < 5
        · obtain ⟨⟨n, s, raw, z, f⟩, hr⟩ : ∃ r, Hid (stepR 3 0 ys 0 = r) := ⟨_, Lib.hid rfl⟩
          obtain rfl : raw = [] := by have : (stepR 3 0 ys 0).raw = [] := rfl; rw [hr.out] at this; exact this
          have hz : z ≤ ys.length := by have := step_sizeM 3 0 ys; rw [hr.out] at this; exact this
          have cU := refReadNum_any kb cb ab ys 0 wr hB
          rw [show rd 3 0 ys = ⟨n, s, [], z, f⟩ from hr.out] at cU
          unfold rv at cU
          obtain ⟨a2, c2, hsl, hB2⟩ := slice_from kb cb ab ys z hz wr hB
          obtain ⟨kF, hF⟩ : ∃ x, ((f : Int) != 0) = x := ⟨_, rfl⟩
          have hF1 : Hid (kF = true → f ≠ 0) := Lib.hid fun h => by rw [h] at hF; simpa using hF
          have hF0 : Hid (kF = false → f = 0) := Lib.hid fun h => by rw [h] at hF; simpa using hF
          go_wp2_with (go_at_call 33; (with_reducible refine cU.mono ?_); rintro e w1 ⟨rfl, hb1⟩; have hP1 := hP.keep hb1; obtain ⟨o0, o1, o2, o3, o4⟩ := hP1.old k hC.out.1.symm; have hfr := hP1.arr.free; have hfr2 := hP1.res.free; obtain ⟨y0, y1, y2, y3, y4, y5, y6, y7, y8⟩ := Msg.cells hP1.res; have hB1 := hB.below hb1)
          all_goals first
            | (have e : decM b = (Msg.zero, f) := hC.out.stop hj ((if_neg h3).trans (if_pos h5)) hr.out (hF1.out (by assumption))
               replace e := Lib.hid e
               go_region
               all_goals
                 go_wp2
                 refine bodyPost_ret (v := .tuple #[vMsg Msg.zero, .int .i64 (f : Int)]) ?_ rfl ⟨by rw [e.out], ?_⟩
                 · obtain ⟨z0, z1, z2, z3, z4, z5, z6, z7, z8⟩ := Msg.cells (Msg.lay (hP1.set ⟨n, s, [], z, f⟩ k hC.out.1.symm).res 0 0 0 0 0 0 0 0 0).drew
                   simp [results, Try.results15, go_sem, z0, z1, z2, z3, z4, z5, z6, z7, z8, Msg.zero]
                 · exact (Msg.below (hP1.set ⟨n, s, [], z, f⟩ k hC.out.1.symm).bel (Nat.le_refl _) (.int .i64 0) (.int .i64 0) (.int .i64 0) (.int .i64 0) (.int .i64 0) (.int .i64 0) (.int .i64 0) (.int .i64 0) (.int .i64 0)).drew)
            | (go_roundg m
               case measure => omega
               case rel => exact ⟨k + 1, kb, c2, a2, ys.drop z, rs ++ [⟨n, s, [], z, f⟩], by omega, by go_num, by rw [List.length_drop], hB2 _ (hB1.part hP1.arr (no8_parr _ _) (fiveM_frm _ _ _ _ _ _ _ _ _ _ _ _)), (hP1.set ⟨n, s, [], z, f⟩ k hC.out.1.symm), Lib.hid (hC.out.step hj ((if_neg h3).trans (if_pos h5)) hr.out (hF0.out (by assumption)))⟩)
        · obtain ⟨⟨n, s, raw, z, f⟩, hr⟩ : ∃ r, Hid (stepR 2 0 ys 0 = r) := ⟨_, Lib.hid rfl⟩
          obtain rfl : raw = [] := by have := rdM2_raw ys; rw [hr.out] at this; exact this
          have hz : z ≤ ys.length := by have := step_sizeM 2 0 ys; rw [hr.out] at this; exact this
          have cU := refReadInt_any kb cb ab ys 0 wr hB
          rw [show rd 2 0 ys = ⟨n, s, [], z, f⟩ from hr.out] at cU
          unfold rv at cU
          obtain ⟨a2, c2, hsl, hB2⟩ := slice_from kb cb ab ys z hz wr hB
          obtain ⟨kF, hF⟩ : ∃ x, ((f : Int) != 0) = x := ⟨_, rfl⟩
          have hF1 : Hid (kF = true → f ≠ 0) := Lib.hid fun h => by rw [h] at hF; simpa using hF
          have hF0 : Hid (kF = false → f = 0) := Lib.hid fun h => by rw [h] at hF; simpa using hF
          go_wp2_with (go_at_call 34; (with_reducible refine cU.mono ?_); rintro e w1 ⟨rfl, hb1⟩; have hP1 := hP.keep hb1; obtain ⟨o0, o1, o2, o3, o4⟩ := hP1.old k hC.out.1.symm; have hfr := hP1.arr.free; have hfr2 := hP1.res.free; obtain ⟨y0, y1, y2, y3, y4, y5, y6, y7, y8⟩ := Msg.cells hP1.res; have hB1 := hB.below hb1)
          all_goals first
            | (have e : decM b = (Msg.zero, f) := hC.out.stop hj ((if_neg h3).trans (if_neg h5)) hr.out (hF1.out (by assumption))
               replace e := Lib.hid e
               go_region
               all_goals
                 go_wp2
                 refine bodyPost_ret (v := .tuple #[vMsg Msg.zero, .int .i64 (f : Int)]) ?_ rfl ⟨by rw [e.out], ?_⟩
                 · obtain ⟨z0, z1, z2, z3, z4, z5, z6, z7, z8⟩ := Msg.cells (Msg.lay (hP1.set ⟨n, s, [], z, f⟩ k hC.out.1.symm).res 0 0 0 0 0 0 0 0 0).drew
                   simp [results, Try.results15, go_sem, z0, z1, z2, z3, z4, z5, z6, z7, z8, Msg.zero]
                 · exact (Msg.below (hP1.set ⟨n, s, [], z, f⟩ k hC.out.1.symm).bel (Nat.le_refl _) (.int .i64 0) (.int .i64 0) (.int .i64 0) (.int .i64 0) (.int .i64 0) (.int .i64 0) (.int .i64 0) (.int .i64 0) (.int .i64 0)).drew)
            | (go_roundg m
               case measure => omega
               case rel => exact ⟨k + 1, kb, c2, a2, ys.drop z, rs ++ [⟨n, s, [], z, f⟩], by omega, by go_num, by rw [List.length_drop], hB2 _ (hB1.part hP1.arr (no8_parr _ _) (fiveM_frm _ _ _ _ _ _ _ _ _ _ _ _)), (hP1.set ⟨n, s, [], z, f⟩ k hC.out.1.symm), Lib.hid (hC.out.step hj ((if_neg h3).trans (if_neg h5)) hr.out (hF0.out (by assumption)))⟩)
    · obtain rfl : k = 9 := by omega
      obtain rfl : gk = 0 := by omega
      obtain ⟨r0, r1, r2, r3, r4, r5, r6, r7, r8, rfl, n0, n1, n2, hw, hw4⟩ := hC.out.done hby.out
      have e0 : wr.cell? ⟨W.heap.size + 1, 0, none⟩ = some (.int .u64 (r0.n : Int)) := hP.arr.cell_eq 0 _ (parr_get _ 0 0 0 r0 _ rfl rfl)
      have e1 : wr.cell? ⟨W.heap.size + 1, 5, none⟩ = some (.int .u64 (r1.n : Int)) := hP.arr.cell_eq 5 _ (parr_get _ 0 1 0 r1 _ rfl rfl)
      have e2 : wr.cell? ⟨W.heap.size + 1, 10, none⟩ = some (.int .u64 (r2.n : Int)) := hP.arr.cell_eq 10 _ (parr_get _ 0 2 0 r2 _ rfl rfl)
      have e3 : wr.cell? ⟨W.heap.size + 1, 15, none⟩ = some (.int .u64 (r3.n : Int)) := hP.arr.cell_eq 15 _ (parr_get _ 0 3 0 r3 _ rfl rfl)
      have e4 : wr.cell? ⟨W.heap.size + 1, 20, none⟩ = some (.int .u64 (r4.n : Int)) := hP.arr.cell_eq 20 _ (parr_get _ 0 4 0 r4 _ rfl rfl)
      have e5 : wr.cell? ⟨W.heap.size + 1, 26, none⟩ = some (.int .i64 r5.s) := hP.arr.cell_eq 26 _ (parr_get _ 0 5 1 r5 _ rfl rfl)
      have e6 : wr.cell? ⟨W.heap.size + 1, 31, none⟩ = some (.int .i64 r6.s) := hP.arr.cell_eq 31 _ (parr_get _ 0 6 1 r6 _ rfl rfl)
      have e7 : wr.cell? ⟨W.heap.size + 1, 36, none⟩ = some (.int .i64 r7.s) := hP.arr.cell_eq 36 _ (parr_get _ 0 7 1 r7 _ rfl rfl)
      have e8 : wr.cell? ⟨W.heap.size + 1, 41, none⟩ = some (.int .i64 r8.s) := hP.arr.cell_eq 41 _ (parr_get _ 0 8 1 r8 _ rfl rfl)
      obtain ⟨y0, y1, y2, y3, y4, y5, y6, y7, y8⟩ := Msg.cells hP.res
      have yf := hP.res.free
      have hlt := hP.arr.lt
      have hltW : W.heap.size < wr.heap.size := by omega
      have v0 := fun w => conv_of_u64 Try.underlying3 r0.n (by omega) w
      have v1 := fun w => conv_of_u64 Try.underlying3 r1.n (by omega) w
      have v2 := fun w => conv_of_u64 Try.underlying3 r2.n (by omega) w
      obtain ⟨k3, hk3⟩ : ∃ x, decide ((4611686018427387904 : Int) < (r3.n : Int)) = x := ⟨_, rfl⟩
      obtain ⟨k4, hk4⟩ : ∃ x, decide ((4611686018427387904 : Int) < (r4.n : Int)) = x := ⟨_, rfl⟩
      have v3 : k3 = false → ∀ w, (convert 48 2 (.int .u64 (r3.n : Int))).run Try.prog w = .ok (.int .i64 (r3.n : Int)) w := fun h w => conv_of_u64 Try.underlying2 r3.n (by rw [h] at hk3; have := le_of_dec hk3; omega) w
      have v4 : k4 = false → ∀ w, (convert 48 2 (.int .u64 (r4.n : Int))).run Try.prog w = .ok (.int .i64 (r4.n : Int)) w := fun h w => conv_of_u64 Try.underlying2 r4.n (by rw [h] at hk4; have := le_of_dec hk4; omega) w
      obtain ⟨kR, hR⟩ : ∃ x, rightM ⟨(r0.n : Int), (r1.n : Int), (r3.n : Int), (r4.n : Int), r5.s, r6.s, r7.s, r8.s, (r2.n : Int)⟩ = x := ⟨_, rfl⟩
      have E1 : Hid (0 < ys.length → decM b = (Msg.zero, 4)) := Lib.hid fun h => hw4 (.inl (by rintro rfl; simp at h))
      have E2 : Hid (k3 = true → decM b = (Msg.zero, 4)) := Lib.hid fun h => hw4 (.inr (by
        apply Bool.eq_false_iff.2
        intro hr
        have := ((rightM_iff _).1 hr).seq.2
        rw [h] at hk3
        have h6 : (4611686018427387904 : Int) < (r3.n : Int) := by simpa using hk3
        simp only [ofM] at this
        omega))
      have E3 : Hid (k4 = true → decM b = (Msg.zero, 4)) := Lib.hid fun h => hw4 (.inr (by
        apply Bool.eq_false_iff.2
        intro hr
        have := ((rightM_iff _).1 hr).tick.2
        rw [h] at hk4
        have h6 : (4611686018427387904 : Int) < (r4.n : Int) := by simpa using hk4
        simp only [ofM] at this
        omega))
      have E4 : Hid ((!kR) = true → decM b = (Msg.zero, 4)) := Lib.hid fun h => hw4 (.inr (hR.trans (by simpa using h)))
      have E5 : Hid (¬ 0 < ys.length → (!kR) = false → decM b = (⟨(r0.n : Int), (r1.n : Int), (r3.n : Int), (r4.n : Int), r5.s, r6.s, r7.s, r8.s, (r2.n : Int)⟩, 0)) := Lib.hid fun h h2 => hw (List.eq_nil_of_length_eq_zero (by omega)) (hR.trans (by simpa using h2))
      have cG : ∀ w, Calls Try.prog 11 #[vMsg ⟨(r0.n : Int), (r1.n : Int), (r3.n : Int), (r4.n : Int), r5.s, r6.s, r7.s, r8.s, (r2.n : Int)⟩] w fun e w' => e = .returned (.bool kR) ∧ Below w.heap.size w w' := fun w => (refRightM_any _ w).mono fun e w' h => ⟨h.1.trans (by rw [hR]), h.2⟩
      clear hw hw4 hR n0 n1 n2 hC hB
      generalize ys.length = l at *
      obtain ⟨kY, hY⟩ : ∃ x, decide (0 < l) = x := ⟨_, rfl⟩
      replace E1 : Hid (kY = true → decM b = (Msg.zero, 4)) := Lib.hid fun h => E1.out (by rw [h] at hY; simpa using hY)
      go_wp2_with (go_at_call 11; (with_reducible refine (cG _).mono ?_); rintro e w2 ⟨rfl, hb2⟩; have hZ := (hP.keep ((Below.refl _ _).alloc (Nat.le_refl _) (.cells (cMsg ⟨(r0.n : Int), (r1.n : Int), (r3.n : Int), (r4.n : Int), r5.s, r6.s, r7.s, r8.s, (r2.n : Int)⟩) 23))).keep hb2; have hX : Blk w2 wr.heap.size 23 (cMsg ⟨(r0.n : Int), (r1.n : Int), (r3.n : Int), (r4.n : Int), r5.s, r6.s, r7.s, r8.s, (r2.n : Int)⟩) := (Blk.new wr _ _).below hb2 (by simp); clear cG y0 y1 y2 y3 y4 y5 y6 y7 y8 yf; obtain ⟨y0, y1, y2, y3, y4, y5, y6, y7, y8⟩ := Msg.cells hZ.res; obtain ⟨x0, x1, x2, x3, x4, x5, x6, x7, x8⟩ := Msg.cells hX; have yf := hZ.res.free)
      all_goals first
        | (have e := E1.out (by assumption)
           replace e := Lib.hid e
           refine bodyPost_ret (v := .tuple #[vMsg Msg.zero, .int .i64 4]) ?_ rfl ⟨by rw [e.out]; rfl, ?_⟩
           · obtain ⟨z0, z1, z2, z3, z4, z5, z6, z7, z8⟩ := Msg.cells (Msg.lay hP.res 0 0 0 0 0 0 0 0 0)
             simp [results, Try.results15, go_sem, z0, z1, z2, z3, z4, z5, z6, z7, z8, Msg.zero]
           · exact Msg.below hP.bel (Nat.le_refl _) (.int .i64 0) (.int .i64 0) (.int .i64 0) (.int .i64 0) (.int .i64 0) (.int .i64 0) (.int .i64 0) (.int .i64 0) (.int .i64 0))
        | (have e := E2.out (by assumption)
           replace e := Lib.hid e
           refine bodyPost_ret (v := .tuple #[vMsg Msg.zero, .int .i64 4]) ?_ rfl ⟨by rw [e.out]; rfl, ?_⟩
           · obtain ⟨z0, z1, z2, z3, z4, z5, z6, z7, z8⟩ := Msg.cells (Msg.lay hP.res 0 0 0 0 0 0 0 0 0)
             simp [results, Try.results15, go_sem, z0, z1, z2, z3, z4, z5, z6, z7, z8, Msg.zero]
           · exact Msg.below hP.bel (Nat.le_refl _) (.int .i64 0) (.int .i64 0) (.int .i64 0) (.int .i64 0) (.int .i64 0) (.int .i64 0) (.int .i64 0) (.int .i64 0) (.int .i64 0))
        | (have e := E3.out (by assumption)
           replace e := Lib.hid e
           refine bodyPost_ret (v := .tuple #[vMsg Msg.zero, .int .i64 4]) ?_ rfl ⟨by rw [e.out]; rfl, ?_⟩
           · obtain ⟨z0, z1, z2, z3, z4, z5, z6, z7, z8⟩ := Msg.cells (Msg.lay hP.res 0 0 0 0 0 0 0 0 0)
             simp [results, Try.results15, go_sem, z0, z1, z2, z3, z4, z5, z6, z7, z8, Msg.zero]
           · exact Msg.below hP.bel (Nat.le_refl _) (.int .i64 0) (.int .i64 0) (.int .i64 0) (.int .i64 0) (.int .i64 0) (.int .i64 0) (.int .i64 0) (.int .i64 0) (.int .i64 0))
        | (have e := E4.out (by assumption)
           replace e := Lib.hid e
           refine bodyPost_ret (v := .tuple #[vMsg Msg.zero, .int .i64 4]) ?_ rfl ⟨by rw [e.out]; rfl, ?_⟩
           · obtain ⟨z0, z1, z2, z3, z4, z5, z6, z7, z8⟩ := Msg.cells (Msg.lay hZ.res 0 0 0 0 0 0 0 0 0)
             simp [results, Try.results15, go_sem, z0, z1, z2, z3, z4, z5, z6, z7, z8, Msg.zero]
           · exact Msg.below hZ.bel (Nat.le_refl _) (.int .i64 0) (.int .i64 0) (.int .i64 0) (.int .i64 0) (.int .i64 0) (.int .i64 0) (.int .i64 0) (.int .i64 0) (.int .i64 0))
        | (have e := E5.out (by first | assumption | (intro hl0; simp_all)) (by assumption)
           replace e := Lib.hid e
           refine bodyPost_ret (v := .tuple #[vMsg ⟨(r0.n : Int), (r1.n : Int), (r3.n : Int), (r4.n : Int), r5.s, r6.s, r7.s, r8.s, (r2.n : Int)⟩, .int .i64 0]) ?_ rfl ⟨by rw [e.out]; rfl, ?_⟩
           · simp [results, Try.results15, go_sem, y0, y1, y2, y3, y4, y5, y6, y7, y8]
           · exact Msg.below hZ.bel (Nat.le_refl _) _ _ _ _ _ _ _ _ _)
end Go.Proofs.Ytalgpbjonkcldaa
