/-
  The contract of wide's Text: for every number, its digits in decimal.
-/
import Derived.Test.YtdenijkcjgjpkaaDiv
import Derived.Test.YtdenijkcjgjpkaaDec
import Derived.Test.YtdenijkcjgjpkaaMem
import Derived.Deep.LoopGhost
import Derived.Laws.BytesString
import Derived.Deep.DeepMust
import Derived.Deep.DeepFit
namespace Go.Proofs.Ytdenijkcjgjpkaa
open Go.RowKit Go.Shelf

/-- What the loop of Text keeps. 'b': the first block that the call makes; 'v': what is left of the number; 's': the digits that are laid. -/
structure TextMem (b : Nat) (v : Int) (s : List Nat) (cs : Array Value) (w wr : World) : Prop where
  box : Blk wr b 25 #[.int .u64 (hi v), .int .u64 (lo v)]
  dig : Blk wr (b + 1) 58 cs
  fst : Blk wr (b + 1 + 1) 3 #[.int .i64 (39 - (s.length : Int))]
  size : cs.size = 39
  tail : cs.toList.drop (39 - s.length) = s.map fun (x : Nat) => Value.int .u8 (x : Int)
  below : Below b w wr

theorem collect_any (d f k : Nat) (x : Int) (cs : Array Value) (W : World) (hd : Blk W d 58 cs) (hf : Blk W f 3 #[.int .i64 ((k : Int) + 1)]) (hdf : d ≠ f) (hk : k < 39) (hx0 : 0 ≤ x) (hx1 : x ≤ 9) (hsz : cs.size = 39) :
    Calls Try.prog 36 #[.int .u64 x, .pointer (some ⟨f, 0, none⟩), .pointer (some ⟨d, 0, none⟩)] W fun e w' => e = .returned (.tuple #[]) ∧ w' = (W.setCell ⟨f, 0, none⟩ (.int .i64 k)).setCell ⟨d, k, none⟩ (.int .u8 (48 + x)) := by
  have f0 := hf.cell_eq 0 (.int .i64 ((k : Int) + 1)) rfl
  have f1 := hf.free 0
  have hf2 := hf.set 0 (.int .i64 k)
  have f2 := hf2.cell_eq 0 (.int .i64 k) rfl
  have hd2 := hd.other (a := ⟨f, 0, none⟩) (fun e => hdf e.symm) (.int .i64 k)
  obtain ⟨u, hu⟩ : ∃ u, cs[k]? = some u := ⟨cs[k], Array.getElem?_eq_getElem (by omega)⟩
  have d0 := hd2.cell_eq k u hu
  have d1 := hd2.free k
  have hk0 : (0 : Int) ≤ k := by omega
  have hk1 : (k : Int) < 39 := by omega
  clear hf hf2 hd hd2 hsz hu
  go_enter Try.func36, Try.ntmps36
  go_wp2
  refine bodyPost_end (v := .tuple #[]) ?_ rfl ⟨rfl, rfl⟩
  simp [results, Try.results36, go_sem]

theorem after_digit {b k : Nat} {v x : Int} {q0 q1 : Value} {cs : Array Value} {t1 t2 t3 t4 : TypeId} {w w2 w3 : World} {y : Value} {h0 h1 : Value}
    (box : Blk w2 b t1 #[h0, h1]) (dig : Blk w2 (b + 1) t2 cs) (fst : Blk w2 (b + 1 + 1) t3 #[y]) (below : Below b w w2) (_hk : k < 39) (_hs : True ∨ v = x) (_z : True)
    (hw : w3 = ((w2.alloc (.cells #[q0, q1] t4)).setCell ⟨b + 1 + 1, 0, none⟩ (.int .i64 k)).setCell ⟨b + 1, k, none⟩ (.int .u8 (48 + x))) :
    Blk w3 b t1 #[h0, h1] ∧ Blk w3 (b + 1) t2 (cs.setIfInBounds k (.int .u8 (48 + x))) ∧ Blk w3 (b + 1 + 1) t3 #[.int .i64 k] ∧ Blk w3 w2.heap.size t4 #[q0, q1] ∧ Below b w w3 ∧ w3.heap.size = w2.heap.size + 1 := by
  subst hw
  have z := fst.lt
  refine ⟨((box.alloc _).other (by simp; omega) _).other (by simp) _, (((dig.alloc _).other (by simp) _).set k _), (((fst.alloc _).set 0 _).other (by simp) _), ((Blk.new _ _ _).other (by simp; omega) _).other (by simp; omega) _, ((below.alloc (by omega) _).setCell (by simp; omega) _).setCell (by simp) _, by simp [World.setCell]⟩

theorem arrayLen39 : Try.prog.arrayLen 58 = 39 := by kernel_rfl
theorem elem39 : Try.prog.elem 58 = 5 := by kernel_rfl
theorem under39 : Try.prog.underlying 58 = some (.array 39 5) := by kernel_rfl
theorem slice_tail (d k : Nat) (hk : k < 39) (W : World) : (Instr.sliceAt 58 (.pointer (some ⟨d, 0, none⟩)) (some (.int .i64 k)) none none).run Try.prog W = .ok (.slice (some ⟨d, k, none⟩) (39 - k) (39 - k)) W := by
  rw [run_sliceAt_array_l (P := Try.prog) W 58 ⟨d, 0, none⟩ (by rw [arrayLen39, elem39]; exact under39) .i64 k (by omega) (by rw [arrayLen39]; omega), arrayLen39, elem39, Try.sizeOf5]
  have e : (⟨d, 0, none⟩ : Addr).add (k * 1) = ⟨d, k, none⟩ := by rw [Addr.add_mid]; simp
  simp only [Result.andThen, slicedAt, Int.toNat_natCast]
  rw [if_neg (by omega), e]
theorem fold_push : ∀ (l : List Nat) (s : ByteArray), ((l.map fun (x : Nat) => (x : Int)).foldl (fun r n => r.push (UInt8.ofNat n.toNat)) s) = ⟨s.data ++ (l.map UInt8.ofNat).toArray⟩ := by
  intro l
  induction l with
  | nil => intro s; simp
  | cons x l ih =>
    intro s
    rw [List.map_cons, List.foldl_cons, ih]
    congr 1
    simp [ByteArray.push]
theorem conv_text (d k : Nat) (cs : Array Value) (l : List Nat) (W : World) (dig : Blk W d 58 cs) (hs : cs.size = 39) (tail : cs.toList.drop k = l.map fun (x : Nat) => Value.int .u8 (x : Int)) :
    (convert 60 9 (.slice (some ⟨d, k, none⟩) (39 - k) (39 - k))).run Try.prog W = .ok (.string ⟨(l.map UInt8.ofNat).toArray⟩) W := by
  have hlen : l.length = 39 - k := by
    have := congrArg List.length tail
    simp [hs] at this
    omega
  have hl : (loadCells ⟨d, k, none⟩ (39 - k)).run Try.prog W = .ok ((l.map fun (x : Nat) => (x : Int)).map (Value.int .u8)).toArray W := by
    have := run_loadCells_list (P := Try.prog) W ⟨d, k, none⟩ (l.map fun (x : Nat) => Value.int .u8 (x : Int)) (fun j v hv => by
      rw [Addr.add_mid, dig.cell, ← Array.getElem?_toList, ← hv, ← tail, List.getElem?_drop])
    rw [List.length_map, hlen] at this
    rw [this, List.map_map]
    rfl
  rw [run_convert_bytes_string (P := Try.prog) W 60 9 5 _ _ _ Try.underlying60 Try.underlying5 Try.underlying9, run_bytesToString (P := Try.prog) W _ _ _ _ hl, fold_push]
  simp
theorem tail_set {cs : Array Value} {s : List Nat} {k x : Nat} (hs : cs.size = 39) (hk : k + s.length + 1 = 39) (tail : cs.toList.drop (39 - s.length) = s.map fun (x : Nat) => Value.int .u8 (x : Int)) :
    (cs.setIfInBounds k (.int .u8 (48 + (x : Int)))).toList.drop k = ((48 + x) :: s).map fun (x : Nat) => Value.int .u8 (x : Int) := by
  rw [show 39 - s.length = k + 1 by omega] at tail
  rw [Array.toList_setIfInBounds, List.drop_eq_getElem_cons (by simp; omega), List.getElem_set_self, List.drop_set_of_lt (by omega), tail]
  simp

set_option maxRecDepth 100000 in
set_option maxHeartbeats 1000000 in
theorem text_any (r : Int) (h : Two r) (w : World) :
    Calls Try.prog 29 #[.agg #[.int .u64 (hi r), .int .u64 (lo r)]] w fun e w' =>
      e = .returned (.string (text r.toNat)) ∧ Below w.heap.size w w' := by
  go_enter Try.func29, Try.ntmps29
  go_wp2
  go_loopg [6] 39 (fun n s6 wr => ∃ (v : Int) (s : List Nat) (cs : Array Value), n + s.length = 39 ∧ Two v ∧ decs r.toNat = decs v.toNat ++ s ∧ v.toNat * 10 ^ s.length ≤ r.toNat ∧ (s ≠ [] → v ≠ 0) ∧ TextMem w.heap.size v s cs w wr)
  case atStart =>
    exact ⟨r, [], _, rfl, h, by simp, by simp, fun e => absurd rfl e, ((Blk.new _ _ _).alloc _).alloc _, (Blk.new' (by simp)).alloc _, Blk.new' (by simp), rfl, rfl,
      (((Below.refl _ _).alloc (Nat.le_refl _) _).alloc (by simp) _).alloc (by simp; omega) _⟩
  case round =>
    obtain ⟨v, s, cs, hn, hv, hdec, hle, hne, hm⟩ := hrel
    have hs : s.length ≤ 38 := by
      by_cases he : s = []
      · simp [he]
      · have hv0 := hne he
        have hv1 : 1 ≤ v.toNat := by have := hv.1; omega
        have h10 : 10 ^ s.length ≤ r.toNat := Nat.le_trans (Nat.le_mul_of_pos_left _ hv1) hle
        have hr : r.toNat < 10 ^ 39 := by obtain ⟨h0, h1⟩ := h; omega
        have := (Nat.pow_lt_pow_iff_right (a := 10) (by decide)).1 (Nat.lt_of_le_of_lt h10 hr)
        omega
    obtain ⟨box, dig, fst, size, tail, below⟩ := hm
    have c0 := box.cell_eq 0 (.int .u64 (hi v)) rfl
    have c1 := box.cell_eq 1 (.int .u64 (lo v)) rfl
    have z2 := fst.lt
    obtain ⟨k, hk⟩ : ∃ k, 38 - s.length = k := ⟨_, rfl⟩
    rw [show 39 - (s.length : Int) = (k : Int) + 1 by omega] at fst
    have hk39 : k < 39 := by omega
    have hq : Two (v / 10) := by obtain ⟨h0, h1⟩ := hv; exact ⟨by omega, by omega⟩
    have hx0 : 0 ≤ v % 10 := by omega
    have hx1 : v % 10 ≤ 9 := by omega
    have e10 : v.toNat / 10 = (v / 10).toNat := by omega
    have e11 : ((v.toNat % 10 : Nat) : Int) = v % 10 := by have := hv.1; omega
    have hv10 : (v / 10).toNat * 10 ≤ v.toNat := by omega
    have hst := decs_step v.toNat (by obtain ⟨h0, h1⟩ := hv; omega)
    rw [e10] at hst
    have hge : 0 ≤ v / 10 := hq.1
    have H0 := Lib.hid hst
    have H1 := Lib.hid hdec
    have H2 := Lib.hid tail
    have H3 := Lib.hid size
    have H4 := Lib.hid hn
    have H5 := Lib.hid hk
    have hks : k + s.length + 1 = 39 := by omega
    have H6 := Lib.hid e10
    have H7 := Lib.hid e11
    clear hdec tail size hn hst hk e10 e11
    have hdiv := fun W => div_pos v 10 hv (by decide) (by decide) W
    generalize hQ : v / 10 = q at *
    generalize hD : v % 10 = x at *
    clear hQ hD
    have ht := tail_set (x := v.toNat % 10) H3.out (by omega) H2.out
    rw [H7.out] at ht
    have Ht := Lib.hid ht
    by_cases hq0 : q = 0
    · have t1 : (hi q == 0) = true := by subst hq0; rfl
      have t2 : (lo q == 0) = true := by subst hq0; rfl
      have Hq := Lib.hid hq0
      clear hq0
      have hk0 : (0 : Int) ≤ k := by omega
      have hk1 : (k : Int) < 39 := by omega
      have hsl := slice_tail (w.heap.size + 1) k hk39
      go_wp2_with (first
      | (go_at_call 26; refine (hdiv _).mono ?_; rintro e w2 ⟨rfl, hb⟩; clear hdiv; have box2 := box.below hb (by omega); have dig2 := dig.below hb (by omega); have fst2 := fst.below hb (by omega); have hs2 := hb.size; have below2 := below.trans (hb.mono (by omega)))
      | (go_at_call 36; go_must (refine (collect_any (w.heap.size + 1) (w.heap.size + 1 + 1) k x cs _ (dig2.alloc _) (fst2.alloc _) (by omega) hk39 hx0 hx1 H3.out).mono ?_; rintro e w3 ⟨rfl, hw3⟩; obtain ⟨box3, dig3, fst3, quo3, below3, hs3⟩ := after_digit (v := x) box2 dig2 fst2 below2 hk39 (Or.inl trivial) trivial hw3; clear hw3; have q0 := quo3.cell_eq 0 (.int .u64 (hi q)) rfl; have q1 := quo3.cell_eq 1 (.int .u64 (lo q)) rfl; have b0 := box3.cell_eq 0 (.int .u64 (hi v)) rfl; have b1 := box3.cell_eq 1 (.int .u64 (lo v)) rfl; have b2 := box3.free 0; have b3 := box3.free 1; have g0 := fst3.cell_eq 0 (.int .i64 k) rfl; have hcv := conv_text _ _ _ _ _ dig3 (by simp [H3.out]) Ht.out)))
      go_ret
      refine ⟨?_, below3⟩
      have e := H1.out
      rw [H0.out, Hq.out] at e
      unfold text
      rw [e]
      simp
    · have hq2 : (hi q == 0) = false ∨ ((hi q == 0) = true ∧ (lo q == 0) = false) := by
        have e := hi_lo q
        by_cases h0 : hi q = 0
        · right; exact ⟨by simpa using h0, by simp; intro h1; rw [h0, h1] at e; omega⟩
        · left; simpa using h0
      have Hq := Lib.hid hq0
      have hnext : decs r.toNat = decs q.toNat ++ ((48 + v.toNat % 10) :: s) := by
        rw [H1.out, H0.out, if_neg (by omega)]; simp
      have hle2 : q.toNat * 10 ^ ((48 + v.toNat % 10) :: s).length ≤ r.toNat := by
        rw [List.length_cons, Nat.pow_succ, Nat.mul_comm (10 ^ s.length) 10, ← Nat.mul_assoc]
        exact Nat.le_trans (Nat.mul_le_mul_right _ hv10) hle
      have Hn := Lib.hid hnext
      have Hl := Lib.hid hle2
      have hk0 : (0 : Int) ≤ k := by omega
      have hk1 : (k : Int) < 39 := by omega
      clear hq0 hnext hle2 hle hv10 ht
      rcases hq2 with t1 | ⟨t1, t2⟩
      all_goals
        go_wp2_with (first
        | (go_at_call 26; refine (hdiv _).mono ?_; rintro e w2 ⟨rfl, hb⟩; clear hdiv; have box2 := box.below hb (by omega); have dig2 := dig.below hb (by omega); have fst2 := fst.below hb (by omega); have hs2 := hb.size; have below2 := below.trans (hb.mono (by omega)))
        | (go_at_call 36; go_must (refine (collect_any (w.heap.size + 1) (w.heap.size + 1 + 1) k x cs _ (dig2.alloc _) (fst2.alloc _) (by omega) hk39 hx0 hx1 H3.out).mono ?_; rintro e w3 ⟨rfl, hw3⟩; obtain ⟨box3, dig3, fst3, quo3, below3, hs3⟩ := after_digit (v := x) box2 dig2 fst2 below2 hk39 (Or.inl trivial) trivial hw3; clear hw3; have q0 := quo3.cell_eq 0 (.int .u64 (hi q)) rfl; have q1 := quo3.cell_eq 1 (.int .u64 (lo q)) rfl; have b0 := box3.cell_eq 0 (.int .u64 (hi v)) rfl; have b1 := box3.cell_eq 1 (.int .u64 (lo v)) rfl; have b2 := box3.free 0; have b3 := box3.free 1; have g0 := fst3.cell_eq 0 (.int .i64 k) rfl)))
        go_roundg (gk - 1)
        case measure => (have := H4.out; omega)
        case rel =>
          exact ⟨q, _, _, by have := H4.out; simp; omega, hq, Hn.out, Hl.out, fun _ => Hq.out, box3.set2 _ _, (dig3.other (by simp) _).other (by simp) _, by
            have e : (39 - (((48 + v.toNat % 10) :: s).length : Int)) = k := by simp; omega
            rw [e]
            exact (fst3.other (by simp; omega) _).other (by simp; omega) _, by simp [H3.out], by
            rw [show 39 - ((48 + v.toNat % 10) :: s).length = k by simp; omega]
            exact Ht.out, (below3.setCell (by simp) _).setCell (by simp) _⟩
end Go.Proofs.Ytdenijkcjgjpkaa
