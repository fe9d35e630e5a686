/-
  The contract of the document's answer Text: a number's digits in decimal.
-/
import Derived.Test.YtdenijkcjgjpkaaDivs
import Derived.Test.YtdenijkcjgjpkaaMovesAny
namespace Go.Proofs.Ytdenijkcjgjpkaa
open Go.RowKit
def str (l : List Nat) : ByteArray := ⟨(l.map UInt8.ofNat).toArray⟩
theorem conv_one (w : World) (x : Nat) : (convert 60 9 (.slice (some ⟨w.heap.size, 0, none⟩) 1 1)).run Try.prog (w.alloc (.cells #[.int .u8 (48 + (x : Int))] 5)) = .ok (.string (str [48 + x])) (w.alloc (.cells #[.int .u8 (48 + (x : Int))] 5)) := by
  have hl : (loadCells ⟨w.heap.size, 0, none⟩ 1).run Try.prog (w.alloc (.cells #[.int .u8 (48 + (x : Int))] 5)) = .ok (([((48 + x : Nat) : Int)]).map (Value.int .u8)).toArray (w.alloc (.cells #[.int .u8 (48 + (x : Int))] 5)) := by
    have := run_loadCells_list (P := Try.prog) (w.alloc (.cells #[.int .u8 (48 + (x : Int))] 5)) ⟨w.heap.size, 0, none⟩ [Value.int .u8 (48 + (x : Int))] (fun j v hv => by
      rw [Addr.add_mid, (Blk.new _ _ _).cell, Nat.zero_add]
      simpa using hv)
    simpa using this
  rw [run_convert_bytes_string (P := Try.prog) _ 60 9 5 _ _ _ Try.underlying60 Try.underlying5 Try.underlying9, run_bytesToString (P := Try.prog) _ _ _ _ _ hl]
  rfl
theorem Mem.setOne {w0 w : World} {b : Nat} {t : TypeId} {c1 : Array Value} (m : Mem w0 [(b, t, c1)] w) (c : Array Value) (hb : w0.heap.size ≤ b) : Mem w0 [(b, t, c)] (w.setRow b c) :=
  ⟨fun p hp => by
    simp only [List.mem_cons, List.not_mem_nil, or_false] at hp
    subst hp
    exact (m.blk b t c1 (by simp)).setRow _, below_setRow m.below hb _⟩
theorem decsF_len : ∀ (f V : Nat), (decsF f V).length ≤ f := by
  intro f
  induction f with
  | zero => intro V; exact Nat.le_refl _
  | succ f ih =>
    intro V
    rw [decsF_succ]
    have := ih (V / 10)
    split <;> simp <;> omega
theorem str_cons (a : Nat) (l : List Nat) : str [a] ++ str l = str (a :: l) := by
  apply ByteArray.ext
  rw [ByteArray.data_append]
  simp [str]
theorem len_zero (q : Nat) (hq : q < 340282366920938463463374607431768211456) : (q = 0 → lenB (BitVec.ofNat 128 q) 128 = 0) ∧ (q ≠ 0 → lenB (BitVec.ofNat 128 q) 128 ≠ 0) := by
  obtain ⟨l1, l2, -⟩ := lenB_spec (BitVec.ofNat 128 q) 128
  have e : (BitVec.ofNat 128 q).toNat = q := by rw [BitVec.toNat_ofNat]; exact Nat.mod_eq_of_lt hq
  rw [e, Nat.mod_eq_of_lt (show q < 2 ^ 128 by omega)] at l1
  rw [e] at l2
  constructor
  · intro h0
    subst h0
    by_cases h : lenB (BitVec.ofNat 128 0) 128 = 0
    · exact h
    · have := l2 h
      simp at this
  · intro h0 h
    rw [h] at l1
    omega
set_option maxRecDepth 100000 in
set_option maxHeartbeats 4000000 in
theorem rtext_any (V : Nat) (hV : V < 340282366920938463463374607431768211456) (w : World) :
    Calls Try.prog 30 #[.agg (arr (nb V))] w fun e w' => e = .returned (.string (text V)) ∧ Below w.heap.size w w' := by
  have zv := zero28
  have m0 := (Mem.start w).new 28 (arr (nb V))
  have HV := Lib.hid hV
  clear hV
  go_enter Try.func30, Try.ntmps30
  go_wp2
  go_loopg [3] V (fun n s3 wr => ∃ (v : Nat) (l : List Nat) (B : ByteArray), n = v ∧ v ≤ V ∧ s3 = .string B ∧ B = str l ∧ decs V = decs v ++ l ∧ Mem w [(w.heap.size, 28, arr (nb v))] wr)
  case atStart => exact ⟨V, [], _, rfl, Nat.le_refl _, rfl, rfl, by simp, m0⟩
  case round =>
    obtain ⟨v, l, B, rfl, hle, rfl, hs, hdec, hm⟩ := hrel
    clear m0
    have hlt : gk < 340282366920938463463374607431768211456 := by have := HV.out; omega
    have hst := decs_step gk (by omega)
    have cD : ∀ W, Calls Try.prog 27 #[.agg (arr (nb gk)), .int .u64 10] W fun e w' => e = .returned (.tuple #[.agg (arr (nb (gk / 10))), .agg (arr (nb (gk % 10)))]) ∧ Below W.heap.size W w' := rdiv_any gk 10 hlt (by decide) (by decide)
    have hH := halves_any (BitVec.ofNat 128 (gk % 10))
    have e2 : (BitVec.ofNat 128 (gk % 10)).toNat = gk % 10 := by rw [BitVec.toNat_ofNat]; exact Nat.mod_eq_of_lt (by omega)
    rw [e2, Nat.div_eq_of_lt (show gk % 10 < 18446744073709551616 by omega), Nat.mod_eq_of_lt (show gk % 10 < 18446744073709551616 by omega)] at hH
    have cN := rlen_any (BitVec.ofNat 128 (gk / 10))
    change ∀ W, Calls Try.prog _ #[.agg (arr (nb (gk / 10)))] W _ at cN
    change ∀ W, Calls Try.prog _ #[.agg (arr (nb (gk % 10)))] W _ at hH
    have hx9 : gk % 10 ≤ 9 := by omega
    have Hst := Lib.hid hst
    have Hdec := Lib.hid hdec
    have Hle := Lib.hid hle
    generalize hx : gk % 10 = x at *
    generalize hq : gk / 10 = q at *
    have Hq := Lib.hid hq
    clear hst hdec hle e2 hx hq hlt
    have hx0 : (0 : Int) ≤ (x : Int) := by omega
    have hx1 : (x : Int) ≤ 9 := by omega
    have hcv := fun W => conv_one W x
    generalize hS : str [48 + x] = S1 at *
    have HS := Lib.hid hS
    clear hS
    have hll : l.length ≤ 41 := by
      have h1 := decsF_len 41 V
      have h2 := congrArg List.length Hdec.out
      rw [List.length_append] at h2
      unfold decs at h2
      omega
    have hsz : ¬ 9223372036854775807 < S1.size + B.size := by
      have h1 : B.size = l.length := by rw [hs]; simp [str, ByteArray.size]
      have h2 : S1.size = 1 := by rw [← HS.out]; simp [str, ByteArray.size]
      omega
    have Hs := Lib.hid hs
    clear hs hll
    have hqlt : q < 340282366920938463463374607431768211456 := by have := HV.out; have := Hle.out; have := Hq.out; omega
    have hz := len_zero q hqlt
    clear hqlt
    generalize lenB (BitVec.ofNat 128 q) 128 = n at *
    by_cases hq0 : q = 0
    · have hn := hz.1 hq0
      rw [hn] at cN
      have Hq0 := Lib.hid hq0
      clear hz hn hq0
      go_wp2_with (first
        | (refine ld28 rfl (.tmp 1) rfl w.heap.size rfl (nb gk) (hm.blk _ _ _ (by simp)) ?_)
        | (go_at_call 27; (with_reducible refine (cD _).mono ?_); rintro e w4 ⟨rfl, hb3⟩; have m3 := hm.keep hb3; clear hm hb3)
        | (refine st28 rfl (.tmp 4) (.tmp 11) rfl w4.heap.size (nb q) (fun _ => false) rfl rfl ((Blk.new' rfl).alloc _) ?_; refine st28 rfl (.tmp 5) (.tmp 12) rfl (w4.heap.size + 1) (nb x) (fun _ => false) rfl rfl ((Blk.new' (by simp)).setRow_other (by omega) _) ?_; have m4 := two_rows m3 28 (arr fun _ => false) (arr (nb q)) (arr (nb x)); generalize (((w4.alloc (.cells (arr fun _ => false) 28)).alloc (.cells (arr fun _ => false) 28)).setRow w4.heap.size (arr (nb q))).setRow (w4.heap.size + 1) (arr (nb x)) = W4 at *; generalize w4.heap.size = g1 at *; clear m3)
        | (refine ld28 rfl (.tmp 5) rfl (g1 + 1) rfl (nb x) (m4.blk _ _ _ (by simp)) ?_)
        | (go_at_call 28; (with_reducible refine (hH _).mono ?_); rintro e w5 ⟨rfl, hb5⟩; have m5 := (m4.keep hb5).new 5 #[.int .u8 (48 + (x : Int))]; clear m4 hb5)
        | (refine ld28 rfl (.tmp 4) rfl g1 rfl (nb q) (m5.blk _ _ _ (by simp)) ?_)
        | (go_at_call 25; (with_reducible refine (cN _).mono ?_); rintro e w6 ⟨rfl, hb6⟩; have m7 := m5.keep hb6; clear m5 hb6)
        | (refine ld28 rfl (.tmp 4) rfl g1 rfl (nb q) (m7.blk _ _ _ (by simp)) ?_)
        | (refine st28 rfl (.tmp 1) (.tmp 29) rfl w.heap.size (nb q) (nb gk) rfl rfl (m7.blk _ _ _ (by simp)) ?_))
      go_ret
      refine ⟨?_, m7.below⟩
      have e := Hdec.out
      rw [Hst.out, if_pos Hq0.out] at e
      have e2 : S1 ++ B = text V := by rw [← HS.out, Hs.out, str_cons]; unfold text str; rw [e]; simp
      rw [e2]
      rfl
    · have hn : ((n : Int) == 0) = false := by have := hz.2 hq0; simp; omega
      have Hq0 := Lib.hid hq0
      clear hz hq0
      go_wp2_with (first
        | (refine ld28 rfl (.tmp 1) rfl w.heap.size rfl (nb gk) (hm.blk _ _ _ (by simp)) ?_)
        | (go_at_call 27; (with_reducible refine (cD _).mono ?_); rintro e w4 ⟨rfl, hb3⟩; have m3 := hm.keep hb3; clear hm hb3)
        | (refine st28 rfl (.tmp 4) (.tmp 11) rfl w4.heap.size (nb q) (fun _ => false) rfl rfl ((Blk.new' rfl).alloc _) ?_; refine st28 rfl (.tmp 5) (.tmp 12) rfl (w4.heap.size + 1) (nb x) (fun _ => false) rfl rfl ((Blk.new' (by simp)).setRow_other (by omega) _) ?_; have m4 := two_rows m3 28 (arr fun _ => false) (arr (nb q)) (arr (nb x)); generalize (((w4.alloc (.cells (arr fun _ => false) 28)).alloc (.cells (arr fun _ => false) 28)).setRow w4.heap.size (arr (nb q))).setRow (w4.heap.size + 1) (arr (nb x)) = W4 at *; generalize w4.heap.size = g1 at *; clear m3)
        | (refine ld28 rfl (.tmp 5) rfl (g1 + 1) rfl (nb x) (m4.blk _ _ _ (by simp)) ?_)
        | (go_at_call 28; (with_reducible refine (hH _).mono ?_); rintro e w5 ⟨rfl, hb5⟩; have m5 := (m4.keep hb5).new 5 #[.int .u8 (48 + (x : Int))]; clear m4 hb5)
        | (refine ld28 rfl (.tmp 4) rfl g1 rfl (nb q) (m5.blk _ _ _ (by simp)) ?_)
        | (go_at_call 25; (with_reducible refine (cN _).mono ?_); rintro e w6 ⟨rfl, hb6⟩; have m7 := m5.keep hb6; clear m5 hb6)
        | (refine ld28 rfl (.tmp 4) rfl g1 rfl (nb q) (m7.blk _ _ _ (by simp)) ?_)
        | (refine st28 rfl (.tmp 1) (.tmp 29) rfl w.heap.size (nb q) (nb gk) rfl rfl (m7.blk _ _ _ (by simp)) ?_))
      go_roundg q
      case measure => (have := Hq.out; have := Hq0.out; omega)
      case rel =>
        refine ⟨q, (48 + x) :: l, _, rfl, by have := Hq.out; have := Hle.out; omega, rfl, by rw [← HS.out, Hs.out, str_cons], by rw [Hdec.out, Hst.out, if_neg Hq0.out]; simp, ?_⟩
        have m8 : Mem w [(w.heap.size, 28, arr (nb gk))] w6 := ⟨fun p hp => (by simp at hp; subst hp; exact m7.blk _ _ _ (by simp)), m7.below⟩
        exact m8.setOne _ (Nat.le_refl _)
end Go.Proofs.Ytdenijkcjgjpkaa
