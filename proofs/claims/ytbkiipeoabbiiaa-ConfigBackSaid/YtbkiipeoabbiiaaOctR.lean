/-
  The contracts of octets.Reader, for every input.
-/
import Derived.Test.YtbkiipeoabbiiaaOctF
import Derived.Deep.Cut
namespace Go.Proofs.Ytbkiipeoabbiiaa
open Go.RowKit

/-- A reader at block g: what is left is xs, the fault f. -/
def Rr (w : World) (g : Nat) (xs : List Nat) (f : Nat) : Prop := ∃ k ao cap, Blk w g 109 #[.slice ao xs.length cap, .int .i64 (f : Int)] ∧ Bt w k ao cap xs ∧ g ≠ k
theorem Rr.below {w w' : World} {g f : Nat} {xs : List Nat} (h : Rr w g xs f) (hf : Below w.heap.size w w') : Rr w' g xs f := by
  obtain ⟨k, ao, cap, h1, h2, h3⟩ := h
  exact ⟨k, ao, cap, h1.below hf h1.lt, h2.below hf, h3⟩
section
variable {w : World} {k cap n : Nat} {ao : Option Addr} {xs : List Nat}
theorem Bt.take (h : Bt w k ao cap xs) (hn : n ≤ xs.length) : Bt w k ao cap (xs.take n) := by
  refine ⟨by have := h.len; rw [List.length_take]; omega, h.top, h.bare, fun x hx => h.lt x (List.mem_of_mem_take hx), ?_⟩
  rcases h.at' with h0 | ⟨off, ha, hc⟩
  · subst h0; exact .inl (by simp)
  · refine .inr ⟨off, ha, fun j x hj => hc j x ?_⟩
    rw [List.getElem?_take] at hj
    split at hj
    · exact hj
    · cases hj
theorem Bt.dropAll (h : Bt w k ao cap xs) (hn : n = cap) (hx : n ≤ xs.length) : Bt w k ao 0 (xs.drop n) := by
  have hl := h.len
  have e : xs.drop n = [] := List.drop_eq_nil_of_le (by omega)
  rw [e]
  exact ⟨Nat.le_refl _, Nat.zero_le _, fun _ => rfl, by simp, .inl rfl⟩
theorem Bt.drop (h : Bt w k ao cap xs) (hx : n ≤ xs.length) : Bt w k (Option.map (fun x => x.add n) ao) (cap - n) (xs.drop n) := by
  have hl := h.len
  have ht := h.top
  refine ⟨by rw [List.length_drop]; omega, by omega, fun e => ?_, fun x hx => h.lt x (List.mem_of_mem_drop hx), ?_⟩
  · cases ao with
    | none => have := h.bare rfl; omega
    | some a => simp at e
  · rcases h.at' with h0 | ⟨off, ha, hc⟩
    · subst h0; exact .inl (by simp)
    · refine .inr ⟨off + n, by rw [ha, Option.map_some, Addr.add_mid], fun j x hj => ?_⟩
      rw [List.getElem?_drop] at hj
      rw [Nat.add_assoc]
      exact hc (n + j) x hj
end
theorem left_any (g f : Nat) (xs : List Nat) (W : World) (hR : Rr W g xs f) :
    Calls Try.prog 53 #[.pointer (some ⟨g, 0, none⟩)] W fun e w' => e = .returned (.int .i64 (xs.length : Int)) ∧ W = w' := by
  obtain ⟨k, ao, cap, hb, hB, hg⟩ := hR
  have c0 : W.cell? ⟨g, 0, none⟩ = some (.slice ao xs.length cap) := hb.cell_eq 0 _ rfl
  go_enter Try.func53, Try.ntmps53
  go_wp2
  go_ret
  exact ⟨rfl, rfl⟩
theorem left_nil (W : World) :
    Calls Try.prog 53 #[.pointer none] W fun e w' => e = .returned (.int .i64 0) ∧ W = w' := by
  go_enter Try.func53, Try.ntmps53
  go_wp2
  go_ret
  exact ⟨rfl, rfl⟩
theorem fault_any (g f : Nat) (xs : List Nat) (W : World) (hR : Rr W g xs f) :
    Calls Try.prog 52 #[.pointer (some ⟨g, 0, none⟩)] W fun e w' => e = .returned (.int .i64 (f : Int)) ∧ W = w' := by
  obtain ⟨k, ao, cap, hb, hB, hg⟩ := hR
  have c0 : W.cell? ⟨g, 1, none⟩ = some (.int .i64 (f : Int)) := hb.cell_eq 1 _ rfl
  go_enter Try.func52, Try.ntmps52
  go_wp2
  go_ret
  exact ⟨rfl, rfl⟩
theorem fault_nil (W : World) :
    Calls Try.prog 52 #[.pointer none] W fun e w' => e = .returned (.int .i64 3) ∧ W = w' := by
  go_enter Try.func52, Try.ntmps52
  go_wp2
  go_ret
  exact ⟨rfl, rfl⟩
theorem look_any (g f : Nat) (xs : List Nat) (i : Nat) (_hi : i ≤ 1000) (W : World) (hR : Rr W g xs f) :
    Calls Try.prog 72 #[.pointer (some ⟨g, 0, none⟩), .int .i64 (i : Int)] W fun e w' => e = .returned (match xs[i]? with | none => .tuple #[.int .u8 0, .bool false] | some x => .tuple #[.int .u8 (x : Int), .bool true]) ∧ W = w' := by
  obtain ⟨k, ao, cap, hb, hB, hg⟩ := hR
  have c0 : W.cell? ⟨g, 0, none⟩ = some (.slice ao xs.length cap) := hb.cell_eq 0 _ rfl
  have hlen := hB.len
  have hmax := hB.top
  unfold maxLen at hmax
  cases hx : xs[i]? with
  | none =>
    have hge : xs.length ≤ i := List.getElem?_eq_none_iff.1 hx
    clear hx
    go_enter Try.func72, Try.ntmps72
    go_wp2
    go_ret2
    exact ⟨rfl, rfl⟩
  | some x =>
    have hlt : i < xs.length := (List.getElem?_eq_some_iff.1 hx).1
    obtain ⟨off, rfl, hc⟩ : ∃ off, ao = some ⟨k, off, none⟩ ∧ W.cell? ⟨k, off + i, none⟩ = some (.int .u8 (x : Int)) := by
      rcases hB.at' with h0 | ⟨off, ha, hc⟩
      · subst h0; simp at hx
      · exact ⟨off, ha, hc i x hx⟩
    clear hx
    go_enter Try.func72, Try.ntmps72
    go_wp2
    go_ret2
    exact ⟨rfl, rfl⟩
/-- What take answers of what is left, and what it leaves. -/
def tk (n : Nat) (xs : List Nat) (f : Nat) : List Nat × List Nat × Nat := if f ≠ 0 then ([], xs, f) else if xs.length < n then ([], xs, 3) else (xs.take n, xs.drop n, 0)
theorem take_any (g f : Nat) (xs : List Nat) (n : Nat) (hn : (n : Int) ≤ 9223372036854775807) (W : World) (hR : Rr W g xs f) :
    Calls Try.prog 73 #[.pointer (some ⟨g, 0, none⟩), .int .i64 (n : Int)] W fun e w' => ∃ ao cap k, e = .returned (.slice ao (tk n xs f).1.length cap) ∧ Bt w' k ao cap (tk n xs f).1 ∧
      Rr w' g (tk n xs f).2.1 (tk n xs f).2.2 ∧ Frm (fun b => b = g) W w' := by
  have cF := fun w h => fault_any g f xs w h
  have hR' := hR
  obtain ⟨k, ao, cap, hb, hB, hg⟩ := hR
  have c0 : W.cell? ⟨g, 0, none⟩ = some (.slice ao xs.length cap) := hb.cell_eq 0 _ rfl
  have c1 : W.cell? ⟨g, 1, none⟩ = some (.int .i64 (f : Int)) := hb.cell_eq 1 _ rfl
  have c2 := hb.free 0
  have c3 := hb.free 1
  have hlen := hB.len
  have hmax := hB.top
  unfold maxLen at hmax
  unfold tk
  by_cases hf : f = 0
  · subst hf
    rw [if_neg (by simp)]
    by_cases hx : xs.length < n
    · rw [if_pos hx]
      go_enter Try.func73, Try.ntmps73
      go_wp2_with (go_at_call 52; refine (cF _ hR').mono ?_; rintro e w1 ⟨rfl, rfl⟩)
      go_ret
      refine ⟨none, 0, 0, rfl, Bt.nil _ _, ⟨k, ao, cap, hb.set 1 _, hB.keep fun _ => Below.heap_setCell _ _ _ _ (fun e => hg e.symm), hg⟩, (Frm.refl _ _).setCell _ _ (.inl rfl)⟩
    · rw [if_neg hx]
      go_enter Try.func73, Try.ntmps73
      go_wp2_with (go_at_call 52; refine (cF _ hR').mono ?_; rintro e w1 ⟨rfl, rfl⟩)
      all_goals go_ret
      all_goals first
        | (have hcn : cap = n := by omega
           subst hcn
           exact ⟨_, _, by rw [Nat.min_eq_left (by omega)]; rfl, ⟨k, (hB.keep fun _ => Below.heap_setCell _ _ _ _ (fun e => hg e.symm)).take (by omega)⟩,
            ⟨k, _, _, by rw [List.length_drop]; exact hb.set 0 _, (hB.keep fun _ => Below.heap_setCell _ _ _ _ (fun e => hg e.symm)).dropAll rfl (by omega), hg⟩, (Frm.refl _ _).setCell _ _ (.inl rfl)⟩)
        | exact ⟨_, _, by rw [Nat.min_eq_left (by omega)]; rfl, ⟨k, (hB.keep fun _ => Below.heap_setCell _ _ _ _ (fun e => hg e.symm)).take (by omega)⟩,
            ⟨k, _, _, by rw [List.length_drop]; exact hb.set 0 _, (hB.keep fun _ => Below.heap_setCell _ _ _ _ (fun e => hg e.symm)).drop (by omega), hg⟩, (Frm.refl _ _).setCell _ _ (.inl rfl)⟩
  · rw [if_pos hf]
    go_enter Try.func73, Try.ntmps73
    go_wp2_with (go_at_call 52; refine (cF _ hR').mono ?_; rintro e w1 ⟨rfl, rfl⟩)
    go_ret
    exact ⟨none, 0, 0, rfl, Bt.nil _ _, hR', Frm.refl _ _⟩
theorem take_nil (n : Int) (W : World) :
    Calls Try.prog 73 #[.pointer none, .int .i64 n] W fun e w' => e = .returned (.slice none 0 0) ∧ W = w' := by
  have cF := fun w => fault_nil w
  go_enter Try.func73, Try.ntmps73
  go_wp2_with (go_at_call 52; refine (cF _).mono ?_; rintro e w1 ⟨rfl, rfl⟩)
  go_ret
  exact ⟨rfl, rfl⟩
theorem or_byte (a b : Nat) (_ha : a < 72057594037927936) (hb : b < 256) : bits .or .u64 ((a : Int) * 256) (b : Int) = ((a * 256 + b : Nat) : Int) := by
  show IntKind.u64.wrap ((BitVec.ofInt 64 ((a : Int) * 256) ||| BitVec.ofInt 64 (b : Int)).toNat : Int) = _
  have e1 : BitVec.ofInt 64 ((a : Int) * 256) = BitVec.ofNat 64 (a * 256) := by rw [← BitVec.ofInt_natCast]; congr 1
  have e2 : BitVec.ofInt 64 (b : Int) = BitVec.ofNat 64 b := BitVec.ofInt_natCast ..
  have e3 : a * 256 ||| b = a * 256 + b := by
    have := Nat.two_pow_add_eq_or_of_lt (i := 8) (b := b) (by omega) a
    rw [show 2 ^ 8 * a = a * 256 by omega] at this
    exact this.symm
  rw [e1, e2, BitVec.toNat_or, BitVec.toNat_ofNat, BitVec.toNat_ofNat, Nat.mod_eq_of_lt (by omega), Nat.mod_eq_of_lt (by omega), e3, IntKind.wrap_u64]
  omega
theorem val_take (ys : List Nat) (q x : Nat) (h : ys[q]? = some x) : val (ys.take (q + 1)) = val (ys.take q) * 256 + x := by
  rw [List.take_add_one, h]
  exact val_snoc _ _
theorem val_small (ys : List Nat) (q : Nat) (hq : q < 8) (h : ∀ x ∈ ys, x < 256) : val (ys.take q) < 72057594037927936 := by
  have h1 := val_lt (ys.take q) fun x hx => h x (List.mem_of_mem_take hx)
  have h2 : (ys.take q).length ≤ 7 := by rw [List.length_take]; omega
  have h3 : 256 ^ (ys.take q).length ≤ 256 ^ 7 := Nat.pow_le_pow_right (by decide) h2
  omega
theorem low7' (x : Nat) (h : x < 256) : bits .andNot .u8 (x : Int) 128 = ((x % 128 : Nat) : Int) :=
  (by decide +kernel : ∀ x : Fin 256, bits .andNot .u8 ((x.val : Nat) : Int) 128 = ((x.val % 128 : Nat) : Int)) ⟨x, h⟩
theorem or_group (n d i : Nat) (hn : n < 128 ^ i) (hd : d < 128) (hi : i ≤ 9) (h9 : i = 9 → d ≤ 1) : bits .or .u64 (n : Int) (IntKind.u64.wrap ((d : Int) * 2 ^ (7 * i))) = ((n + d * 128 ^ i : Nat) : Int) := by
  have e0 : (2 : Nat) ^ (7 * i) = 128 ^ i := by rw [Nat.pow_mul]
  have hp : d * 128 ^ i < 9223372036854775808 + 1 ∧ n < 9223372036854775808 := by
    rcases Nat.lt_or_ge i 9 with h | h
    · have h1 : 128 ^ i ≤ 128 ^ 8 := Nat.pow_le_pow_right (by decide) (by omega)
      have h2 : d * 128 ^ i ≤ 127 * 128 ^ 8 := Nat.mul_le_mul (by omega) h1
      exact ⟨by omega, by omega⟩
    · have h1 : i = 9 := by omega
      subst h1
      have h2 : d * 128 ^ 9 ≤ 1 * 128 ^ 9 := Nat.mul_le_mul_right _ (h9 rfl)
      exact ⟨by omega, by omega⟩
  have e1 : ((d : Int) * 2 ^ (7 * i)) = ((d * 128 ^ i : Nat) : Int) := by rw [← e0]; simp
  have e2 : IntKind.u64.wrap ((d * 128 ^ i : Nat) : Int) = ((d * 128 ^ i : Nat) : Int) := by rw [IntKind.wrap_u64]; omega
  rw [e1, e2]
  have e3 : n ||| d * 128 ^ i = n + d * 128 ^ i := by
    have := Nat.two_pow_add_eq_or_of_lt (i := 7 * i) (b := n) (by rw [e0]; exact hn) d
    rw [e0, Nat.mul_comm (128 ^ i) d] at this
    rw [Nat.or_comm, ← this, Nat.add_comm]
  show IntKind.u64.wrap ((BitVec.ofInt 64 (n : Int) ||| BitVec.ofInt 64 ((d * 128 ^ i : Nat) : Int)).toNat : Int) = _
  rw [BitVec.ofInt_natCast, BitVec.ofInt_natCast, BitVec.toNat_or, BitVec.toNat_ofNat, BitVec.toNat_ofNat, Nat.mod_eq_of_lt (by omega), Nat.mod_eq_of_lt (by omega), e3, IntKind.wrap_u64]
  omega
set_option maxRecDepth 4000 in
set_option maxHeartbeats 1000000 in
theorem grouped_any (g f : Nat) (xs : List Nat) (W : World) (hR : Rr W g xs f) :
    Calls Try.prog 71 #[.func (Fn.func 72) #[.pointer (some ⟨g, 0, none⟩)] #[]] W fun e w' => e = .returned (.tuple #[.int .u64 ((rn xs 10 0 0).1 : Int), .int .i64 ((rn xs 10 0 0).2.1 : Int), .int .i64 ((rn xs 10 0 0).2.2 : Int)]) ∧ W = w' := by
  have hlt : ∀ x ∈ xs, x < 256 := by obtain ⟨_, _, _, _, hB, _⟩ := hR; exact hB.lt
  have cL := fun i hi => look_any g f xs i hi W hR
  clear hR
  obtain ⟨rv, rs, rf, hr⟩ : ∃ rv rs rf, Hid (rn xs 10 0 0 = (rv, rs, rf)) := ⟨_, _, _, rfl⟩
  rw [hr.out]
  go_enter Try.func71, Try.ntmps71
  go_wp2_with fail
  go_loopg [5, 6, 7, 8] 10 (fun j p5 p6 _ _ wr => wr = W ∧ ∃ i n : Nat, i + j = 10 ∧ i ≤ 9 ∧ p6 = .int .i64 (i : Int) ∧ p5 = .int .u64 (n : Int) ∧ n < 128 ^ i ∧ Hid (rn xs j i n = (rv, rs, rf)))
  case atStart => exact ⟨rfl, 0, 0, rfl, by decide, rfl, rfl, by decide, hr⟩
  case round =>
    obtain ⟨rfl, i, n, hi, hi9, rfl, rfl, hn, hrn⟩ := hrel
    have cL' := cL i (by omega)
    clear cL hr
    cases hx : xs[i]? with
    | none =>
      rw [hx] at cL'
      cases gk with
      | zero => omega
      | succ j =>
        have := (rn_end hx).symm.trans hrn.out
        simp only [Prod.mk.injEq] at this
        obtain ⟨rfl, rfl, rfl⟩ := this
        clear hx hrn
        go_wp2_with (go_at_call 72; refine cL'.mono ?_; rintro e w1 ⟨rfl, rfl⟩)
        go_ret3
        exact ⟨rfl, rfl⟩
    | some x =>
      rw [hx] at cL'
      have hx8 := hlt x (List.mem_of_getElem? hx)
      have e1 := low7' x hx8
      cases gk with
      | zero => omega
      | succ j =>
        obtain ⟨d, hd⟩ : ∃ d, d = x % 128 := ⟨_, rfl⟩
        rw [← hd] at e1
        obtain ⟨z, ez⟩ : ∃ z : Int, bits BinOp.or IntKind.u64 (n : Int) (IntKind.u64.wrap ((d : Int) * 2 ^ (7 * i))) = z := ⟨_, rfl⟩
        have hd7 : d < 128 := by omega
        have hz : ¬ (i = 9 ∧ 1 < x) → Hid (z = ((n + d * 128 ^ i : Nat) : Int)) := fun hb => ez.symm.trans (or_group n d i hn hd7 hi9 (fun h => by omega))
        have HZ : Hid (¬ (i = 9 ∧ 1 < x) → Hid (z = ((n + d * 128 ^ i : Nat) : Int))) := hz
        clear hz
        have HN : Hid (n < 128 ^ i) := hn
        have HR : Hid (rn xs (j + 1) i n = (rv, rs, rf)) := hrn.out
        have HD : Hid (d = x % 128) := hd
        have HX : Hid (xs[i]? = some x) := hx
        clear hx hrn hlt hn hd
        go_upto_region 6 with (go_at_call 72; refine cL'.mono ?_; rintro e w1 ⟨rfl, rfl⟩)
        clear ez e1 cL'
        by_cases hb1 : i = 9 ∧ 1 < x
        · have := (rn_bad HX.out (.inl hb1)).symm.trans HR.out
          simp only [Prod.mk.injEq] at this
          obtain ⟨rfl, rfl, rfl⟩ := this
          obtain ⟨rfl, hb⟩ := hb1
          clear HX HR HN HD HZ
          go_wp2_with fail
          go_ret3
          exact ⟨rfl, rfl⟩
        · have hz := HZ.out hb1
          clear HZ
          by_cases hb2 : 0 < i ∧ x = 0
          · have := (rn_bad HX.out (.inr hb2)).symm.trans HR.out
            simp only [Prod.mk.injEq] at this
            obtain ⟨rfl, rfl, rfl⟩ := this
            obtain ⟨hb, rfl⟩ := hb2
            clear HX HR HN HD hz hb1
            go_wp2_with fail
            all_goals go_ret3
            all_goals exact ⟨rfl, rfl⟩
          · have hbb : ¬ ((i = 9 ∧ 1 < x) ∨ (0 < i ∧ x = 0)) := by omega
            by_cases hx7 : x < 128
            · have := (rn_last HX.out hbb hx7).symm.trans HR.out
              simp only [Prod.mk.injEq] at this
              obtain ⟨hv, rfl, rfl⟩ := this
              have hdx : d = x := by rw [HD.out]; omega
              have hzv : Hid (z = (rv : Int)) := by show _ = _; rw [hz.out, hdx, hv]
              clear HX HR HN HD hz hv hdx hbb
              have hcase : (9 ≤ i ∧ x ≤ 1 ∧ 1 ≤ x) ∨ i ≤ 0 ∨ (1 ≤ i ∧ i ≤ 8 ∧ 1 ≤ x) := by omega
              clear hb1 hb2
              rcases hcase with ⟨h1, h2, h3⟩ | h1 | ⟨h1, h2, h3⟩
              all_goals go_wp2_with fail
              all_goals first
                | (go_ret3; exact ⟨by rw [← hzv.out]; rfl, rfl⟩)
                | (have hie : i = 9 := by omega
                   subst hie
                   go_ret3
                   refine ⟨?_, rfl⟩
                   rw [← hzv.out]
                   rfl)
                | (exfalso; omega)
            · obtain ⟨m, hm⟩ : ∃ m, m = n + d * 128 ^ i := ⟨_, rfl⟩
              have hi8 : i < 9 := by omega
              have hmz : Hid (z = (m : Int)) := by show _ = _; rw [hz.out, hm]
              have hm2 : Hid (m < 128 ^ (i + 1)) := by
                show _ < _
                have h1 : d * 128 ^ i ≤ 127 * 128 ^ i := Nat.mul_le_mul_right _ (by omega)
                have hn := HN.out
                rw [hm, Nat.pow_succ]
                omega
              have hrn2 : Hid (rn xs j (i + 1) m = (rv, rs, rf)) := by
                show _ = _
                rw [← HR.out, rn_more HX.out hbb hx7, hm]
                have : d = x - 128 := by rw [HD.out]; omega
                rw [this]
              clear HX HR HN HD hz hm hbb
              have h128 : 128 ≤ x := by omega
              clear hb1 hb2 hx7 hi9
              go_wp2_with fail
              all_goals (try (exfalso; omega))
              all_goals go_roundg j
              all_goals first
                | (show _ < _; omega)
                | exact ⟨rfl, i + 1, m, by omega, by omega, by go_num, congrArg (Value.int IntKind.u64) hmz.out, hm2.out, hrn2⟩
theorem rn_fault (xs : List Nat) (h : (rn xs 10 0 0).2.2 ≠ 0) : (rn xs 10 0 0).1 = 0 ∧ (rn xs 10 0 0).2.1 = 0 := by
  rcases (rn_size xs 10 0 0).2 with h0 | h0 | h0
  · exact absurd h0 h
  · rw [h0]; exact ⟨rfl, rfl⟩
  · rw [h0]; exact ⟨rfl, rfl⟩
/-- What a reader's Num answers, and what it leaves. -/
theorem rnum_any (g : Nat) (xs : List Nat) (f : Nat) (W : World) (hR : Rr W g xs f) :
    Calls Try.prog 51 #[.pointer (some ⟨g, 0, none⟩)] W fun e w' => e = .returned (.int .u64 ((stepR 3 0 xs f).n : Int)) ∧ Rr w' g (xs.drop (stepR 3 0 xs f).size) (stepR 3 0 xs f).f ∧ Frm (fun b => b = g) W w' := by
  have cF := fault_any g f xs W hR
  by_cases hf : f = 0
  · subst hf
    have e : stepR 3 0 xs 0 = ⟨(rn xs 10 0 0).1, 0, [], (rn xs 10 0 0).2.1, (rn xs 10 0 0).2.2⟩ := rfl
    rw [e]
    have cG := grouped_any g 0 xs W hR
    have hsz := (rn_size xs 10 0 0).1
    have hflt := rn_fault xs
    have cT : (rn xs 10 0 0).2.2 = 0 → _ := fun _ => take_any g 0 xs (rn xs 10 0 0).2.1 (by
      obtain ⟨_, _, _, _, hB, _⟩ := hR
      have h1 := hB.len
      have h2 := hB.top
      unfold maxLen at h2
      omega) W hR
    generalize rn xs 10 0 0 = r at cG hsz hflt cT ⊢
    obtain ⟨rv, rs, rf⟩ := r
    simp only at cG hsz hflt cT ⊢
    by_cases h0 : rf = 0
    · subst h0
      have cT' := cT rfl
      have et : tk rs xs 0 = (xs.take rs, xs.drop rs, 0) := by unfold tk; rw [if_neg (by simp), if_neg (by omega)]
      rw [et] at cT'
      clear cT et hflt
      go_enter Try.func51, Try.ntmps51
      go_wp2_with (first | (go_at_call 52; refine cF.mono ?_; rintro e w1 ⟨rfl, rfl⟩) | (go_at_call 71; refine cG.mono ?_; rintro e w1 ⟨rfl, rfl⟩) | (go_at_call 73; refine cT'.mono ?_; rintro e w1 ⟨ao, cap, k, rfl, hB, hR2, hF⟩))
      go_ret
      exact ⟨rfl, hR2, hF⟩
    · obtain ⟨rfl, rfl⟩ := hflt h0
      obtain ⟨k, ao, cap, hb, hB, hg⟩ := hR
      have c1 : W.cell? ⟨g, 1, none⟩ = some (.int .i64 ((0 : Nat) : Int)) := hb.cell_eq 1 _ rfl
      have c3 := hb.free 1
      have t0 : ((rf : Int) == 0) = false := by simp; omega
      clear cT h0 hflt hsz
      go_enter Try.func51, Try.ntmps51
      go_wp2_with (first | (go_at_call 52; refine cF.mono ?_; rintro e w1 ⟨rfl, rfl⟩) | (go_at_call 71; refine cG.mono ?_; rintro e w1 ⟨rfl, rfl⟩))
      all_goals go_ret
      all_goals exact ⟨rfl, ⟨k, ao, cap, hb.set 1 _, hB.keep fun _ => Below.heap_setCell _ _ _ _ (fun e => hg e.symm), hg⟩, (Frm.refl _ _).setCell _ _ (.inl rfl)⟩
  · have e : stepR 3 0 xs f = ⟨0, 0, [], 0, f⟩ := if_neg hf
    rw [e]
    have t0 : ((f : Int) == 0) = false := by simp; omega
    go_enter Try.func51, Try.ntmps51
    go_wp2_with (go_at_call 52; refine cF.mono ?_; rintro e w1 ⟨rfl, rfl⟩)
    go_ret
    exact ⟨rfl, hR, Frm.refl _ _⟩
end Go.Proofs.Ytbkiipeoabbiiaa
