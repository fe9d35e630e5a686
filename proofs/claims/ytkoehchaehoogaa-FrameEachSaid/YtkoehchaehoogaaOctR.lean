/-
  The contracts of octets.Reader, for every input.
-/
import Derived.Test.YtkoehchaehoogaaOctF
import Derived.Deep.Cut
namespace Go.Proofs.Ytkoehchaehoogaa
open Go.RowKit

/-- A reader at block g: what is left is xs, the fault f. -/
def Rr (w : World) (g : Nat) (xs : List Nat) (f : Nat) : Prop := ∃ k ao cap, Blk w g 67 #[.slice ao xs.length cap, .int .i64 (f : Int)] ∧ Bt w k ao cap xs ∧ g ≠ k
theorem Rr.below {w w' : World} {g f : Nat} {xs : List Nat} (h : Rr w g xs f) (hf : Below w.heap.size w w') : Rr w' g xs f := by
  obtain ⟨k, ao, cap, h1, h2, h3⟩ := h
  exact ⟨k, ao, cap, h1.below hf h1.lt, h2.below hf, h3⟩
section
variable {w : World} {k cap n : Nat} {ao : Option Addr} {xs : List Nat}
theorem Bt.take (h : Bt w k ao cap xs) (hn : n ≤ xs.length) : Bt w k ao cap (xs.take n) := by
  refine ⟨by have := h.len; rw [List.length_take]; omega, h.top, h.bare, fun x hx => h.lt x (List.mem_of_mem_take hx), ?_⟩
  rcases h.at' with h0 | ⟨off, ha, hc⟩
  · subst h0; exact .inl (by simp)
  · refine .inr ⟨off, ha, fun j x hj => hc j x ?_⟩
    rw [List.getElem?_take] at hj
    split at hj
    · exact hj
    · cases hj
theorem Bt.dropAll (h : Bt w k ao cap xs) (hn : n = cap) (hx : n ≤ xs.length) : Bt w k ao 0 (xs.drop n) := by
  have hl := h.len
  have e : xs.drop n = [] := List.drop_eq_nil_of_le (by omega)
  rw [e]
  exact ⟨Nat.le_refl _, Nat.zero_le _, fun _ => rfl, by simp, .inl rfl⟩
theorem Bt.drop (h : Bt w k ao cap xs) (hx : n ≤ xs.length) : Bt w k (Option.map (fun x => x.add n) ao) (cap - n) (xs.drop n) := by
  have hl := h.len
  have ht := h.top
  refine ⟨by rw [List.length_drop]; omega, by omega, fun e => ?_, fun x hx => h.lt x (List.mem_of_mem_drop hx), ?_⟩
  · cases ao with
    | none => have := h.bare rfl; omega
    | some a => simp at e
  · rcases h.at' with h0 | ⟨off, ha, hc⟩
    · subst h0; exact .inl (by simp)
    · refine .inr ⟨off + n, by rw [ha, Option.map_some, Addr.add_mid], fun j x hj => ?_⟩
      rw [List.getElem?_drop] at hj
      rw [Nat.add_assoc]
      exact hc (n + j) x hj
end
theorem fault_any (g f : Nat) (xs : List Nat) (W : World) (hR : Rr W g xs f) :
    Calls Try.prog 26 #[.pointer (some ⟨g, 0, none⟩)] W fun e w' => e = .returned (.int .i64 (f : Int)) ∧ W = w' := by
  obtain ⟨k, ao, cap, hb, hB, hg⟩ := hR
  have c0 : W.cell? ⟨g, 1, none⟩ = some (.int .i64 (f : Int)) := hb.cell_eq 1 _ rfl
  go_enter Try.func26, Try.ntmps26
  go_wp2
  go_ret
  exact ⟨rfl, rfl⟩
theorem fault_nil (W : World) :
    Calls Try.prog 26 #[.pointer none] W fun e w' => e = .returned (.int .i64 3) ∧ W = w' := by
  go_enter Try.func26, Try.ntmps26
  go_wp2
  go_ret
  exact ⟨rfl, rfl⟩
/-- What take answers of what is left, and what it leaves. -/
def tk (n : Nat) (xs : List Nat) (f : Nat) : List Nat × List Nat × Nat := if f ≠ 0 then ([], xs, f) else if xs.length < n then ([], xs, 3) else (xs.take n, xs.drop n, 0)
theorem take_any (g f : Nat) (xs : List Nat) (n : Nat) (hn : (n : Int) ≤ 9223372036854775807) (W : World) (hR : Rr W g xs f) :
    Calls Try.prog 33 #[.pointer (some ⟨g, 0, none⟩), .int .i64 (n : Int)] W fun e w' => ∃ ao cap k, e = .returned (.slice ao (tk n xs f).1.length cap) ∧ Bt w' k ao cap (tk n xs f).1 ∧
      Rr w' g (tk n xs f).2.1 (tk n xs f).2.2 ∧ Frm (fun b => b = g) W w' := by
  have cF := fun w h => fault_any g f xs w h
  have hR' := hR
  obtain ⟨k, ao, cap, hb, hB, hg⟩ := hR
  have c0 : W.cell? ⟨g, 0, none⟩ = some (.slice ao xs.length cap) := hb.cell_eq 0 _ rfl
  have c1 : W.cell? ⟨g, 1, none⟩ = some (.int .i64 (f : Int)) := hb.cell_eq 1 _ rfl
  have c2 := hb.free 0
  have c3 := hb.free 1
  have hlen := hB.len
  have hmax := hB.top
  unfold maxLen at hmax
  unfold tk
  by_cases hf : f = 0
  · subst hf
    rw [if_neg (by simp)]
    by_cases hx : xs.length < n
    · rw [if_pos hx]
      go_enter Try.func33, Try.ntmps33
      go_wp2_with (go_at_call 26; refine (cF _ hR').mono ?_; rintro e w1 ⟨rfl, rfl⟩)
      go_ret
      refine ⟨none, 0, 0, rfl, Bt.nil _ _, ⟨k, ao, cap, hb.set 1 _, hB.keep fun _ => Below.heap_setCell _ _ _ _ (fun e => hg e.symm), hg⟩, (Frm.refl _ _).setCell _ _ (.inl rfl)⟩
    · rw [if_neg hx]
      go_enter Try.func33, Try.ntmps33
      go_wp2_with (go_at_call 26; refine (cF _ hR').mono ?_; rintro e w1 ⟨rfl, rfl⟩)
      all_goals go_ret
      all_goals first
        | (have hcn : cap = n := by omega
           subst hcn
           exact ⟨_, _, by rw [Nat.min_eq_left (by omega)]; rfl, ⟨k, (hB.keep fun _ => Below.heap_setCell _ _ _ _ (fun e => hg e.symm)).take (by omega)⟩,
            ⟨k, _, _, by rw [List.length_drop]; exact hb.set 0 _, (hB.keep fun _ => Below.heap_setCell _ _ _ _ (fun e => hg e.symm)).dropAll rfl (by omega), hg⟩, (Frm.refl _ _).setCell _ _ (.inl rfl)⟩)
        | exact ⟨_, _, by rw [Nat.min_eq_left (by omega)]; rfl, ⟨k, (hB.keep fun _ => Below.heap_setCell _ _ _ _ (fun e => hg e.symm)).take (by omega)⟩,
            ⟨k, _, _, by rw [List.length_drop]; exact hb.set 0 _, (hB.keep fun _ => Below.heap_setCell _ _ _ _ (fun e => hg e.symm)).drop (by omega), hg⟩, (Frm.refl _ _).setCell _ _ (.inl rfl)⟩
  · rw [if_pos hf]
    go_enter Try.func33, Try.ntmps33
    go_wp2_with (go_at_call 26; refine (cF _ hR').mono ?_; rintro e w1 ⟨rfl, rfl⟩)
    go_ret
    exact ⟨none, 0, 0, rfl, Bt.nil _ _, hR', Frm.refl _ _⟩
theorem take_nil (n : Int) (W : World) :
    Calls Try.prog 33 #[.pointer none, .int .i64 n] W fun e w' => e = .returned (.slice none 0 0) ∧ W = w' := by
  have cF := fun w => fault_nil w
  go_enter Try.func33, Try.ntmps33
  go_wp2_with (go_at_call 26; refine (cF _).mono ?_; rintro e w1 ⟨rfl, rfl⟩)
  go_ret
  exact ⟨rfl, rfl⟩
theorem or_byte (a b : Nat) (_ha : a < 72057594037927936) (hb : b < 256) : bits .or .u64 ((a : Int) * 256) (b : Int) = ((a * 256 + b : Nat) : Int) := by
  show IntKind.u64.wrap ((BitVec.ofInt 64 ((a : Int) * 256) ||| BitVec.ofInt 64 (b : Int)).toNat : Int) = _
  have e1 : BitVec.ofInt 64 ((a : Int) * 256) = BitVec.ofNat 64 (a * 256) := by rw [← BitVec.ofInt_natCast]; congr 1
  have e2 : BitVec.ofInt 64 (b : Int) = BitVec.ofNat 64 b := BitVec.ofInt_natCast ..
  have e3 : a * 256 ||| b = a * 256 + b := by
    have := Nat.two_pow_add_eq_or_of_lt (i := 8) (b := b) (by omega) a
    rw [show 2 ^ 8 * a = a * 256 by omega] at this
    exact this.symm
  rw [e1, e2, BitVec.toNat_or, BitVec.toNat_ofNat, BitVec.toNat_ofNat, Nat.mod_eq_of_lt (by omega), Nat.mod_eq_of_lt (by omega), e3, IntKind.wrap_u64]
  omega
theorem val_take (ys : List Nat) (q x : Nat) (h : ys[q]? = some x) : val (ys.take (q + 1)) = val (ys.take q) * 256 + x := by
  rw [List.take_add_one, h]
  exact val_snoc _ _
theorem val_small (ys : List Nat) (q : Nat) (hq : q < 8) (h : ∀ x ∈ ys, x < 256) : val (ys.take q) < 72057594037927936 := by
  have h1 := val_lt (ys.take q) fun x hx => h x (List.mem_of_mem_take hx)
  have h2 : (ys.take q).length ≤ 7 := by rw [List.length_take]; omega
  have h3 : 256 ^ (ys.take q).length ≤ 256 ^ 7 := Nat.pow_le_pow_right (by decide) h2
  omega
theorem joined_any (u : Option Addr) (K : Nat) (_hK : K ≤ 8) (ys : List Nat) (hy : ys.length ≤ 8) (W : World) (R : World → Prop)
    (cT : Calls Try.prog 33 #[.pointer u, .int .i64 (K : Int)] W fun e w' => ∃ ao cap k, e = .returned (.slice ao ys.length cap) ∧ Bt w' k ao cap ys ∧ R w') :
    Calls Try.prog 32 #[.func (Fn.func 33) #[.pointer u] #[], .int .i64 (K : Int)] W fun e w' => e = .returned (.int .u64 (val ys : Int)) ∧ R w' := by
  go_enter Try.func32, Try.ntmps32
  go_wp2_with (go_at_call 33; refine cT.mono ?_; rintro e w1 ⟨ao, cap, k, rfl, hB, hR⟩)
  go_loopg [5, 7, 12] ys.length (fun j p5 _ p12 wr => wr = w1 ∧ ∃ q n : Nat, q + j = ys.length ∧ p12 = .int .i64 (q : Int) ∧ p5 = .int .u64 (n : Int) ∧ Hid (n = val (ys.take q)))
  case atStart => exact ⟨rfl, 0, 0, by omega, rfl, rfl, by simp [Hid, val]⟩
  case round =>
    obtain ⟨rfl, q, n, hq, rfl, rfl, hn⟩ := hrel
    by_cases hj : q < ys.length
    · obtain ⟨x, hx⟩ : ∃ x, ys[q]? = some x := ⟨ys[q], List.getElem?_eq_getElem hj⟩
      obtain ⟨off, rfl, hc⟩ : ∃ off, ao = some ⟨k, off, none⟩ ∧ wr.cell? ⟨k, off + q, none⟩ = some (.int .u8 (x : Int)) := by
        rcases hB.at' with h0 | ⟨off, ha, hc⟩
        · subst h0; simp at hx
        · exact ⟨off, ha, hc q x hx⟩
      have hx8 : x < 256 := hB.lt x (List.mem_of_getElem? hx)
      have hn8 : n < 72057594037927936 := by rw [hn.out]; exact val_small ys q (by omega) hB.lt
      have eo := or_byte n x hn8 hx8
      have hn2 : Hid (n * 256 + x = val (ys.take (q + 1))) := by
        show _ = _
        rw [val_take ys q x hx, hn.out]
      generalize n * 256 + x = m at eo hn2
      clear hx hn cT
      go_wp2
      go_roundg (ys.length - (q + 1))
      case measure => omega
      case rel => exact ⟨rfl, q + 1, m, by omega, by go_num, rfl, hn2⟩
    · have hqe : q = ys.length := by omega
      subst hqe
      rw [List.take_length] at hn
      go_wp2
      go_ret
      refine ⟨?_, hR⟩
      rw [← hn.out]
      rfl
theorem low7' (x : Nat) (h : x < 256) : bits .andNot .u8 (x : Int) 128 = ((x % 128 : Nat) : Int) :=
  (by decide +kernel : ∀ x : Fin 256, bits .andNot .u8 ((x.val : Nat) : Int) 128 = ((x.val % 128 : Nat) : Int)) ⟨x, h⟩
theorem or_group (n d i : Nat) (hn : n < 128 ^ i) (hd : d < 128) (hi : i ≤ 9) (h9 : i = 9 → d ≤ 1) : bits .or .u64 (n : Int) (IntKind.u64.wrap ((d : Int) * 2 ^ (7 * i))) = ((n + d * 128 ^ i : Nat) : Int) := by
  have e0 : (2 : Nat) ^ (7 * i) = 128 ^ i := by rw [Nat.pow_mul]
  have hp : d * 128 ^ i < 9223372036854775808 + 1 ∧ n < 9223372036854775808 := by
    rcases Nat.lt_or_ge i 9 with h | h
    · have h1 : 128 ^ i ≤ 128 ^ 8 := Nat.pow_le_pow_right (by decide) (by omega)
      have h2 : d * 128 ^ i ≤ 127 * 128 ^ 8 := Nat.mul_le_mul (by omega) h1
      exact ⟨by omega, by omega⟩
    · have h1 : i = 9 := by omega
      subst h1
      have h2 : d * 128 ^ 9 ≤ 1 * 128 ^ 9 := Nat.mul_le_mul_right _ (h9 rfl)
      exact ⟨by omega, by omega⟩
  have e1 : ((d : Int) * 2 ^ (7 * i)) = ((d * 128 ^ i : Nat) : Int) := by rw [← e0]; simp
  have e2 : IntKind.u64.wrap ((d * 128 ^ i : Nat) : Int) = ((d * 128 ^ i : Nat) : Int) := by rw [IntKind.wrap_u64]; omega
  rw [e1, e2]
  have e3 : n ||| d * 128 ^ i = n + d * 128 ^ i := by
    have := Nat.two_pow_add_eq_or_of_lt (i := 7 * i) (b := n) (by rw [e0]; exact hn) d
    rw [e0, Nat.mul_comm (128 ^ i) d] at this
    rw [Nat.or_comm, ← this, Nat.add_comm]
  show IntKind.u64.wrap ((BitVec.ofInt 64 (n : Int) ||| BitVec.ofInt 64 ((d * 128 ^ i : Nat) : Int)).toNat : Int) = _
  rw [BitVec.ofInt_natCast, BitVec.ofInt_natCast, BitVec.toNat_or, BitVec.toNat_ofNat, BitVec.toNat_ofNat, Nat.mod_eq_of_lt (by omega), Nat.mod_eq_of_lt (by omega), e3, IntKind.wrap_u64]
  omega
theorem rn_fault (xs : List Nat) (h : (rn xs 10 0 0).2.2 ≠ 0) : (rn xs 10 0 0).1 = 0 ∧ (rn xs 10 0 0).2.1 = 0 := by
  rcases (rn_size xs 10 0 0).2 with h0 | h0 | h0
  · exact absurd h0 h
  · rw [h0]; exact ⟨rfl, rfl⟩
  · rw [h0]; exact ⟨rfl, rfl⟩
end Go.Proofs.Ytkoehchaehoogaa
