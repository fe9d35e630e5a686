/-
  The contracts of octets.Writer, for every input.
-/
import Derived.Test.YtbkiipeoabbiiaaByt
import Derived.Test.YtbkiipeoabbiiaaOct
import Derived.Deep.LoopGhost
import Derived.Deep.DeepMust
import Derived.Deep.DeepFit
import Derived.Laws.BitsAllLaws
import Derived.WalkSpells
import Derived.WalkMore
namespace Go.Proofs.Ytbkiipeoabbiiaa
open Go.RowKit

theorem xor_none (a : Int) (h0 : 0 ≤ a) (h1 : a < 18446744073709551616) : bits .xor .u64 a 0 = a := by
  show IntKind.u64.wrap ((BitVec.ofInt 64 a ^^^ BitVec.ofInt 64 0).toNat : Int) = _
  have e1 : BitVec.ofInt 64 0 = 0#64 := by decide
  rw [e1, BitVec.xor_zero, BitVec.toNat_ofInt, IntKind.wrap_u64]
  omega
theorem xor_all (a : Int) (h0 : 0 ≤ a) (h1 : a < 18446744073709551616) : bits .xor .u64 a 18446744073709551615 = 18446744073709551615 - a := by
  show IntKind.u64.wrap ((BitVec.ofInt 64 a ^^^ BitVec.ofInt 64 18446744073709551615).toNat : Int) = _
  have e1 : BitVec.ofInt 64 18446744073709551615 = BitVec.allOnes 64 := by decide
  rw [e1, BitVec.xor_allOnes, BitVec.toNat_not, BitVec.toNat_ofInt, IntKind.wrap_u64]
  omega
/-- A writer at block g, whose bytes are xs, in block k. -/
def Wr (w : World) (g k : Nat) (xs : List Nat) : Prop := ∃ ao cap, Blk w g 63 #[.slice ao xs.length cap] ∧ Ow w k ao cap xs ∧ g ≠ k
theorem Wr.frm {S : Nat → Prop} {w w' : World} {g k : Nat} {xs : List Nat} (h : Wr w g k xs) (hf : Frm S w w') (hg : ¬ S g) (hk : ¬ S k) : Wr w' g k xs := by
  obtain ⟨ao, cap, h1, h2, h3⟩ := h
  exact ⟨ao, cap, (hf.block g h1.lt hg).trans h1, h2.frm hf (fun _ => hk), h3⟩
theorem Wr.below {w w' : World} {g k : Nat} {xs : List Nat} (h : Wr w g k xs) (hf : Below w.heap.size w w') : Wr w' g k xs := by
  obtain ⟨ao, cap, h1, h2, h3⟩ := h
  exact ⟨ao, cap, h1.below hf h1.lt, h2.below hf, h3⟩
/-- The writer at block g, of block k, has become one of the bytes zs; nothing else has turned. -/
def Wrote (W : World) (g k : Nat) (w : World) (zs : List Nat) : Prop := ∃ k', Wr w g k' zs ∧ Frm (fun b => b = g ∨ b = k) W w ∧ (k' = k ∨ W.heap.size ≤ k')
theorem Wrote.refl {W : World} {g k : Nat} {xs : List Nat} (h : Wr W g k xs) : Wrote W g k W xs := ⟨k, h, Frm.refl _ _, .inl rfl⟩
theorem Wrote.trans {W w1 w2 : World} {g k k1 : Nat} {ys : List Nat} (hf : Frm (fun b => b = g ∨ b = k) W w1) (hk : k1 = k ∨ W.heap.size ≤ k1) (h : Wrote w1 g k1 w2 ys) : Wrote W g k w2 ys := by
  obtain ⟨k2, h1, h2, h3⟩ := h
  refine ⟨k2, h1, hf.trans h2 ?_, ?_⟩
  · rintro b (rfl | rfl)
    · exact .inl (.inl rfl)
    · rcases hk with rfl | hk
      · exact .inl (.inr rfl)
      · exact .inr hk
  · rcases h3 with rfl | h3
    · exact hk
    · exact .inr (Nat.le_trans hf.size h3)
/-- Behind an append to what the writer has, and the store of it. -/
theorem wrote_app {wr w0 w' : World} {g k k2 cap cap' : Nat} {ao ao' : Option Addr} {zs ys : List Nat} {m : Nat} (hb : Blk wr g 63 #[.slice ao zs.length cap]) (hg : g ≠ k) (h0 : Frm (fun _ => False) wr w0)
    (ho : Ow w' k2 ao' cap' (zs ++ ys)) (hf : Frm (fun b => b = k) w0 w') (hk : k2 = k ∨ w0.heap.size ≤ k2) (hm : m = zs.length + ys.length) : Wrote wr g k (w'.setCell ⟨g, 0, none⟩ (.slice ao' m cap')) (zs ++ ys) := by
  have hlt := hb.lt
  have hs0 := h0.size
  have hg2 : g ≠ k2 := by rcases hk with rfl | hk <;> omega
  have hf2 : Frm (fun b => b = k) wr w' := (h0.mono (fun _ _ f => f.elim)).trans hf (fun b hb => .inl hb)
  have hb2 : Blk w' g 63 #[.slice ao zs.length cap] := (hf2.block g hlt hg).trans hb
  have hb3 := hb2.set 0 (.slice ao' m cap')
  refine ⟨k2, ⟨ao', cap', by rw [List.length_append, ← hm]; exact hb3, ho.keep fun _ => Below.heap_setCell _ _ _ _ (fun e => hg2 e.symm), hg2⟩, (hf2.mono (fun _ _ e => Or.inr e)).setCell _ _ (.inl (.inl rfl)), ?_⟩
  rcases hk with rfl | hk
  · exact .inl rfl
  · exact .inr (by omega)
/-- The writer's own cell, behind the append. -/
theorem cell_app {wr w0 w' : World} {g k : Nat} {v : Value} (hb : Blk wr g 63 #[v]) (hg : g ≠ k) (h0 : Frm (fun _ => False) wr w0) (hf : Frm (fun b => b = k) w0 w') : w'.cell? ⟨g, 0, none⟩ = some v ∧ w'.frozen? ⟨g, 0, none⟩ = false := by
  have hlt := hb.lt
  have hf2 : Frm (fun b => b = k) wr w' := (h0.mono (fun _ _ f => f.elim)).trans hf (fun b hb => .inl hb)
  have hb2 : Blk w' g 63 #[v] := (hf2.block g hlt hg).trans hb
  exact ⟨hb2.cell_eq 0 _ rfl, hb2.free 0⟩
theorem shift_byte (n j : Nat) (_hj : j ≤ 7) : IntKind.u8.wrap ((n : Int) / 2 ^ (8 * ((j : Int) + 1) - 8).toNat) = ((n / 256 ^ j % 256 : Nat) : Int) := by
  have e1 : (8 * ((j : Int) + 1) - 8).toNat = 8 * j := by omega
  have e2 : (2 : Int) ^ (8 * j) = ((256 ^ j : Nat) : Int) := by rw [Int.pow_mul]; simp
  rw [e1, e2, IntKind.wrap_u8, ← Int.natCast_ediv]
  omega
/-- A slice of the bytes xs in new memory; nothing that was there has turned. -/
def Fresh (W w' : World) (v : Value) (xs : List Nat) : Prop := ∃ ao cap k', v = .slice ao xs.length cap ∧ Bt w' k' ao cap xs ∧ Below W.heap.size W w' ∧ W.heap.size ≤ k'
theorem clone_any (k cap : Nat) (ao : Option Addr) (xs : List Nat) (hx : xs.length ≤ 2000000) (W : World) (hB : Bt W k ao cap xs) :
    Calls Try.prog 70 #[.slice ao xs.length cap] W fun e w' => ∃ v, e = .returned v ∧ Fresh W w' v xs := by
  have eN : ∀ (w : World) (b : Option Addr) (n c : Nat), (binOp .eql 37 (.slice b n c) (.slice none 0 0)).run Try.prog w = .ok (.bool b.isNone) w := fun w b n c => Lib.run_eql_slice_nil w _ _ b n c 0 0 Try.underlying37
  cases ao with
  | none =>
    have h0 := hB.bare rfl
    have h1 := hB.len
    have hx0 : xs = [] := List.eq_nil_of_length_eq_zero (by omega)
    subst hx0 h0
    go_enter Try.func70, Try.ntmps70
    go_wp2
    go_ret
    exact ⟨_, rfl, none, 0, W.heap.size, rfl, Bt.nil _ _, Below.refl _ _, Nat.le_refl _⟩
  | some a =>
    go_enter Try.func70, Try.ntmps70
    go_wp2_with (at_builtin; refine wpList_app rfl (.tmp 5) (.tmp 6) rfl (Ow.zero W) (hB.alloc _) rfl rfl rfl rfl (by simp; omega) ?_; intro ao' cap' k2 w' ho' hf' hk2)
    go_ret
    refine ⟨_, rfl, ao', cap', k2, by simp, by simpa using ho'.bt, ?_, ?_⟩
    · exact ((Below.refl _ W).alloc (Nat.le_refl _) _).trans (hf'.below (by simp) (by rintro b rfl; exact Nat.le_refl _))
    · rcases hk2 with rfl | hk2
      · exact Nat.le_refl _
      · exact Nat.le_trans (by simp) hk2
theorem bytes_any (g k : Nat) (xs : List Nat) (hx : xs.length ≤ 2000000) (W : World) (hW : Wr W g k xs) :
    Calls Try.prog 44 #[.pointer (some ⟨g, 0, none⟩)] W fun e w' => ∃ v, e = .returned v ∧ Fresh W w' v xs := by
  obtain ⟨ao, cap, hb, ho, hg⟩ := hW
  have c0 : W.cell? ⟨g, 0, none⟩ = some (.slice ao xs.length cap) := hb.cell_eq 0 _ rfl
  have cC := clone_any k cap ao xs hx W ho.bt
  go_enter Try.func44, Try.ntmps44
  go_wp2_with (go_at_call 70; refine cC.mono ?_; rintro e w1 ⟨v, rfl, ao', cap', k', rfl, hF⟩)
  go_ret
  exact ⟨_, rfl, ao', cap', k', rfl, hF⟩
theorem bytes_nil (W : World) :
    Calls Try.prog 44 #[.pointer none] W fun e w' => e = .returned (.slice none 0 0) ∧ Below W.heap.size W w' := by
  go_enter Try.func44, Try.ntmps44
  go_wp2
  go_ret
  exact ⟨rfl, Below.refl _ _⟩
theorem num_nil (n : Int) (W : World) :
    Calls Try.prog 43 #[.pointer none, .int .u64 n] W fun e w' => e = .returned (.pointer none) ∧ Below W.heap.size W w' := by
  go_enter Try.func43, Try.ntmps43
  go_wp2_with fail
  go_step3
  go_wp2
  rw [Exit.noGoto_ret]
  go_ret
  exact ⟨rfl, Below.refl _ _⟩
theorem low7 (m : Nat) : bits .andNot .u8 (IntKind.u8.wrap (m : Int)) 128 = ((m % 128 : Nat) : Int) := by
  have e : IntKind.u8.wrap (m : Int) = ((m % 256 : Nat) : Int) := by rw [IntKind.wrap_u8]; omega
  have := (by decide +kernel : ∀ x : Fin 256, bits .andNot .u8 ((x.val : Nat) : Int) 128 = ((x.val % 128 : Nat) : Int)) ⟨m % 256, Nat.mod_lt _ (by decide)⟩
  rw [e, this]
  congr 1
  show m % 256 % 128 = _
  omega
theorem more7 (x : Nat) (h : x < 128) : bits .or .u8 (x : Int) 128 = ((x + 128 : Nat) : Int) :=
  (by decide +kernel : ∀ x : Fin 128, bits .or .u8 ((x.val : Nat) : Int) 128 = ((x.val + 128 : Nat) : Int)) ⟨x, h⟩
theorem num_any (n : Nat) (hn : n < 18446744073709551616) (g k : Nat) (xs : List Nat) (hx : xs.length ≤ 1000000) (W : World) (hW : Wr W g k xs) :
    Calls Try.prog 43 #[.pointer (some ⟨g, 0, none⟩), .int .u64 (n : Int)] W fun e w' => e = .returned (.pointer (some ⟨g, 0, none⟩)) ∧ Wrote W g k w' (xs ++ num n) := by
  go_enter Try.func43, Try.ntmps43
  go_wp2_with fail
  go_step3
  go_wp2_with fail
  go_step3
  go_wp2_with fail
  go_loopg [1, 5] n (fun j p _ wr => p = .int .u64 (j : Int) ∧ j < 18446744073709551616 ∧ ∃ k' zs, Hid (zs ++ num j = xs ++ num n) ∧ Wr wr g k' zs ∧ Frm (fun b => b = g ∨ b = k) W wr ∧ (k' = k ∨ W.heap.size ≤ k'))
  case atStart => exact ⟨rfl, hn, k, xs, rfl, hW, Frm.refl _ _, .inl rfl⟩
  case round =>
    obtain ⟨rfl, hj, k', zs, hz, ⟨ao, cap, hb, ho, hg⟩, hf, hk'⟩ := hrel
    have hzl : zs.length ≤ 1000010 := by
      have h1 := congrArg List.length hz.out
      have h2 := num_ten hn
      rw [List.length_append, List.length_append] at h1
      omega
    have c0 : wr.cell? ⟨g, 0, none⟩ = some (.slice ao zs.length cap) := hb.cell_eq 0 _ rfl
    have c1 := hb.free 0
    have eg := low7 gk
    obtain ⟨x, hx7⟩ : ∃ x, x = gk % 128 := ⟨_, rfl⟩
    rw [← hx7] at eg
    have eg2 : bits .andNot .u8 ((gk : Int) % 256) 128 = (x : Int) := by rw [← eg, IntKind.wrap_u8]
    have eo := more7 x (by omega)
    by_cases hs : gk < 128
    · have hz2 : Hid (zs ++ [x] = xs ++ num n) := by
        show _ = _
        rw [← hz.out, num_small hs, hx7, Nat.mod_eq_of_lt hs]
      have eq0 : (gk : Int) / 128 = 0 := by omega
      have ew : IntKind.u8.wrap (gk : Int) = (gk : Int) := by rw [IntKind.wrap_u8]; omega
      rw [ew] at eg
      clear ew
      have hx8 : x < 256 := by omega
      clear hz hx7 eo
      have c2 : (wr.alloc (.cells #[.int .u8 (x : Int)] 5)).cell? ⟨g, 0, none⟩ = some (.slice ao zs.length cap) := (hb.alloc _).cell_eq 0 _ rfl
      have c3 := (hb.alloc (.cells #[.int .u8 (x : Int)] 5)).free 0
      have h0 : Frm (fun _ => False) wr (wr.alloc (.cells #[.int .u8 (x : Int)] 5)) := (Frm.refl _ wr).alloc _
      go_wp2_with (at_builtin; go_must (refine wpList_app rfl (.tmp 31) (.tmp 33) rfl (ho.alloc _) (Ow.one wr x hx8).bt rfl rfl rfl rfl (by simp; omega) ?_); intro ao' cap' k2 w' ho' hf' hk2; obtain ⟨c0', c1'⟩ := cell_app hb hg h0 hf')
      rw [Exit.noGoto_ret]
      go_ret
      have R := Wrote.trans hf hk' (wrote_app (m := zs.length + 1) hb hg h0 ho' hf' hk2 rfl)
      rw [hz2.out] at R
      exact ⟨rfl, R⟩
    · have hz2 : Hid ((zs ++ [x + 128]) ++ num (gk / 128) = xs ++ num n) := by
        show _ = _
        rw [← hz.out, num_big hs, hx7, List.append_assoc]
        rfl
      have eq1 : ((gk : Int) / 128 == 0) = false := by simp; omega
      have eq2 : (gk : Int) / 128 = ((gk / 128 : Nat) : Int) := by omega
      have hx8 : x + 128 < 256 := by omega
      have hj2 : gk / 128 < 18446744073709551616 ∧ gk / 128 < gk := by omega
      generalize gk / 128 = q at hz2 eq2 hj2
      rw [eq2] at eq1
      clear hz hx7
      generalize x + 128 = y at hz2 eo hx8
      have c2 : (wr.alloc (.cells #[.int .u8 (y : Int)] 5)).cell? ⟨g, 0, none⟩ = some (.slice ao zs.length cap) := (hb.alloc _).cell_eq 0 _ rfl
      have c3 := (hb.alloc (.cells #[.int .u8 (y : Int)] 5)).free 0
      have h0 : Frm (fun _ => False) wr (wr.alloc (.cells #[.int .u8 (y : Int)] 5)) := (Frm.refl _ wr).alloc _
      go_wp2_with (at_builtin; refine wpList_app rfl (.tmp 18) (.tmp 21) rfl (ho.alloc _) (Ow.one wr y hx8).bt rfl rfl rfl rfl (by simp; omega) ?_; intro ao' cap' k2 w' ho' hf' hk2; obtain ⟨c0', c1'⟩ := cell_app hb hg h0 hf')
      have R := Wrote.trans hf hk' (wrote_app (m := zs.length + 1) hb hg h0 ho' hf' hk2 rfl)
      clear ho' hf' hk2 c0 c1 c2 c3 c0' c1' h0 hb ho eo eg eg2 eq1 eq2
      go_roundg q
      case measure => exact hj2.2
      case rel => exact ⟨rfl, hj2.1, R.choose, _, hz2, R.choose_spec⟩
end Go.Proofs.Ytbkiipeoabbiiaa
