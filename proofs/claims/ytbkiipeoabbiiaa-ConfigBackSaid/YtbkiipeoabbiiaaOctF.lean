/-
  The document's answers for the bytes that are put, and the statements' form and put, for every input.
-/
import Derived.Test.YtbkiipeoabbiiaaOctW
import Derived.WideShapes
namespace Go.Proofs.Ytbkiipeoabbiiaa
open Go.RowKit

/-- A string of these bytes. -/
def str8 (l : List Nat) : ByteArray := ⟨(l.map UInt8.ofNat).toArray⟩
theorem str8_inj {l m : List Nat} (hl : ∀ x ∈ l, x < 256) (hm : ∀ x ∈ m, x < 256) (h : str8 l = str8 m) : l = m := by
  have e : l.map UInt8.ofNat = m.map UInt8.ofNat := by
    have := congrArg (fun s => s.data.toList) h
    simpa [str8] using this
  have back : ∀ q : List Nat, (∀ x ∈ q, x < 256) → (q.map UInt8.ofNat).map UInt8.toNat = q := by
    intro q hq
    rw [List.map_map]
    conv => rhs; rw [← List.map_id q]
    refine List.map_congr_left fun x hx => ?_
    have := hq x hx
    show (UInt8.ofNat x).toNat = x
    rw [UInt8.toNat_ofNat']
    exact Nat.mod_eq_of_lt this
  rw [← back l hl, ← back m hm, e]
theorem fold_str8 : ∀ (l : List Nat) (s : ByteArray), ((l.map fun (x : Nat) => (x : Int)).foldl (fun r n => r.push (UInt8.ofNat n.toNat)) s) = ⟨s.data ++ (l.map UInt8.ofNat).toArray⟩ := by
  intro l
  induction l with
  | nil => intro s; simp
  | cons x l ih =>
    intro s
    rw [List.map_cons, List.foldl_cons, ih]
    congr 1
    simp [ByteArray.push]
theorem run_text {w : World} {k cap : Nat} {ao : Option Addr} {xs : List Nat} (hB : Bt w k ao cap xs) : (convert 37 9 (.slice ao xs.length cap)).run Try.prog w = .ok (.string (str8 xs)) w := by
  rw [run_convert_bytes_string (P := Try.prog) w 37 9 5 _ _ _ Try.underlying37 Try.underlying5 Try.underlying9]
  cases ao with
  | none =>
    have h0 := hB.bare rfl
    have h1 := hB.len
    have hx0 : xs = [] := List.eq_nil_of_length_eq_zero (by omega)
    subst hx0 h0
    simp [Conv.bytesToString]
    rfl
  | some a =>
    have hl : (loadCells a xs.length).run Try.prog w = .ok ((xs.map fun (x : Nat) => (x : Int)).map (Value.int .u8)).toArray w := by
      have := run_loadCells_list (P := Try.prog) w a (vs xs) (fun j v hv => by
        obtain ⟨x, hx, rfl⟩ := vs_get hv
        rcases hB.at' with h0 | ⟨off, ha, hc⟩
        · subst h0; simp at hx
        · cases ha
          rw [Addr.add_mid]
          exact hc j x hx)
      rw [vs_length] at this
      rw [this, List.map_map]
      rfl
    rw [run_bytesToString (P := Try.prog) w _ _ _ _ hl, fold_str8]
    simp [str8]
theorem same_any {k cap j bcap : Nat} {ao bo : Option Addr} {xs ys : List Nat} (W : World) (hA : Bt W k ao cap xs) (hB : Bt W j bo bcap ys) :
    Calls Try.prog 17 #[.slice ao xs.length cap, .slice bo ys.length bcap] W fun e w' => e = .returned (.bool (decide (xs = ys))) ∧ W = w' := by
  have eA := run_text hA
  have eB := run_text hB
  have hd : decide (xs = ys) = decide (str8 xs = str8 ys) := by
    by_cases h : xs = ys
    · rw [h]; simp
    · rw [decide_eq_false h, decide_eq_false (fun e => h (str8_inj hA.lt hB.lt e))]
  rw [hd]
  clear hd hA hB
  generalize str8 xs = sx at eA ⊢
  generalize str8 ys = sy at eB ⊢
  go_enter Try.func17, Try.ntmps17
  go_wp2
  go_ret
  refine ⟨congrArg (fun z => Ending.returned (Value.bool z)) ?_, rfl⟩
  rw [ByteArray.toList_eq, ByteArray.toList_eq]
  by_cases h : sx = sy
  · rw [h]; simp
  · rw [decide_eq_false h]
    exact beq_false_of_ne fun e => h (Go.WideShapes.bytes_inj e)
/-- A slice of the bytes xs; nothing that was there has turned. -/
def Given (W w' : World) (v : Value) (xs : List Nat) : Prop := ∃ ao cap k', v = .slice ao xs.length cap ∧ Bt w' k' ao cap xs ∧ Below W.heap.size W w'
theorem Fresh.given {W w' : World} {v : Value} {xs : List Nat} (h : Fresh W w' v xs) : Given W w' v xs := by
  obtain ⟨ao, cap, k', h1, h2, h3, _⟩ := h
  exact ⟨ao, cap, k', h1, h2, h3⟩
theorem refNum_any (n : Nat) (hn : n < 18446744073709551616) (W : World) :
    Calls Try.prog 45 #[.int .u64 (n : Int)] W fun e w' => ∃ v, e = .returned v ∧ Given W w' v (num n) := by
  go_enter Try.func45, Try.ntmps45
  go_wp2_with fail
  go_loopg [0, 3] n (fun j p0 p3 wr => p0 = .int .u64 (j : Int) ∧ j < 18446744073709551616 ∧ ∃ k ao cap xs, p3 = .slice ao xs.length cap ∧ Hid (xs ++ num j = num n) ∧ Ow wr k ao cap xs ∧ Below W.heap.size W wr ∧ (k = W.heap.size ∨ W.heap.size ≤ k))
  case atStart => exact ⟨rfl, hn, W.heap.size, none, 0, [], rfl, rfl, Ow.nil _ _, Below.refl _ _, .inl rfl⟩
  case round =>
    obtain ⟨rfl, hj, k, ao, cap, xs, rfl, hz, ho, hbel, hk⟩ := hrel
    have hzl : xs.length ≤ 10 := by
      have h1 := congrArg List.length hz.out
      have h2 := num_ten hn
      rw [List.length_append] at h1
      omega
    have hk0 : W.heap.size ≤ k := by rcases hk with rfl | h <;> omega
    clear hk
    by_cases hs : gk < 128
    · have hz2 : Hid (xs ++ [gk] = num n) := by
        show _ = _
        rw [← hz.out, num_small hs]
      have hx8 : gk < 256 := by omega
      clear hz
      have hbel2 := hbel.alloc hbel.size (.cells #[.int .u8 (gk : Int)] 5)
      go_wp2_with (at_builtin; refine wpList_app rfl (.tmp 15) (.tmp 18) rfl (ho.alloc _) (Ow.one wr gk hx8).bt rfl rfl rfl rfl (by simp; omega) ?_; intro ao' cap' k2 w' ho' hf' hk2)
      go_ret
      have hb' := hbel2.trans (hf'.below (by have := hbel.size; simp; omega) (by rintro b rfl; exact hk0))
      rw [hz2.out] at ho'
      have hl := congrArg List.length hz2.out
      rw [List.length_append] at hl
      exact ⟨_, rfl, ao', cap', k2, by rw [← hl]; rfl, ho'.bt, hb'⟩
    · obtain ⟨y, hy⟩ : ∃ y, y = gk % 128 + 128 := ⟨_, rfl⟩
      obtain ⟨q, hq⟩ : ∃ q, q = gk / 128 := ⟨_, rfl⟩
      have hz2 : Hid ((xs ++ [y]) ++ num q = num n) := by
        show _ = _
        rw [← hz.out, num_big hs, hy, hq, List.append_assoc]
        rfl
      have e1 : (gk : Int) % 128 + 128 = (y : Int) := by omega
      have e2 : (gk : Int) / 128 = (q : Int) := by omega
      have hx8 : y < 256 := by omega
      have hj2 : q < 18446744073709551616 ∧ q < gk := by omega
      clear hz hy hq
      have hbel2 := hbel.alloc hbel.size (.cells #[.int .u8 (y : Int)] 5)
      go_wp2_with (at_builtin; refine wpList_app rfl (.tmp 6) (.tmp 11) rfl (ho.alloc _) (Ow.one wr y hx8).bt rfl rfl rfl rfl (by simp; omega) ?_; intro ao' cap' k2 w' ho' hf' hk2)
      have hb' := hbel2.trans (hf'.below (by have := hbel.size; simp; omega) (by rintro b rfl; exact hk0))
      have hk' : k2 = W.heap.size ∨ W.heap.size ≤ k2 := by
        have := hbel.size
        rcases hk2 with rfl | hk2
        · exact .inr hk0
        · simp at hk2; exact .inr (by omega)
      clear e1 e2
      go_roundg q
      case measure => exact hj2.2
      case rel => exact ⟨rfl, hj2.1, k2, ao', cap', _, by simp, hz2, ho', hb', hk'⟩
/-- A part, as Go's value. -/
def pv (p : Prt) (ro : Option Addr) (rc : Nat) : Value := .agg #[.int .i64 p.kind, .int .i64 p.size, .int .u64 (p.n : Int), .int .i64 p.s, .slice ro p.raw.length rc]
/-- Its numbers fit. -/
structure Prt.Ok (p : Prt) : Prop where
  n : p.n < 18446744073709551616
  s0 : -9223372036854775808 ≤ p.s
  s1 : p.s < 9223372036854775808
  r : p.raw.length ≤ 60
theorem given_back {W w0 w1 : World} {v : Value} {xs : List Nat} (hb : Below W.heap.size W w0) (h : Given w0 w1 v xs) : Given W w1 v xs := by
  obtain ⟨ao, cap, k', h1, h2, h3⟩ := h
  exact ⟨ao, cap, k', h1, h2, hb.trans (h3.mono hb.size)⟩
theorem wrote_back {W w0 w1 : World} {g k : Nat} {ys : List Nat} (h0 : Frm (fun _ => False) W w0) (h : Wrote w0 g k w1 ys) : Wrote W g k w1 ys := Wrote.trans (h0.mono fun _ _ f => f.elim) (.inl rfl) h
end Go.Proofs.Ytbkiipeoabbiiaa
