/-
  A reader and a command that is filled, side by side; the contracts of a Reader's numbers, each under a letter.
-/
import Derived.Test.YtjleebfdbkfgmaaCmdG
import Derived.Test.YtjleebfdbkfgmaaPart
import Derived.Test.YtjleebfdbkfgmaaOctT
namespace Go.Proofs.Ytjleebfdbkfgmaa
open Go.RowKit
theorem cc_no8 (c : Cmd) : ∀ (i : Nat) (x : Int), (cc c)[i]? ≠ some (.int .u8 x) := by
  intro i x h
  match i, h with
  | 0, h => simp at h
  | 1, h => simp at h
  | 2, h => simp at h
  | 3, h => simp at h
  | 4, h => simp at h
  | 5, h => simp at h
  | 6, h => simp at h
  | 7, h => simp at h
  | 8, h => simp at h
  | i + 9, h => simp at h
theorem Rr.lt' {w : World} {g f : Nat} {xs : List Nat} (h : Rr w g xs f) : g < w.heap.size := by obtain ⟨_, _, _, hb, _, _⟩ := h; exact hb.lt
/-- A reader, a result that is still zero, and the command that is filled, side by side. -/
structure Rc (W : World) (g b : Nat) (w : World) (xs : List Nat) (f : Nat) (c : Cmd) : Prop where
  rr : Rr w g xs f
  res : Blk w b 23 (cc Cmd.zero)
  cmd : Blk w (b + 1) 23 (cc c)
  frm : Frm (fun q => q = g) W w
  lt : g < b
  hb : b = W.heap.size
theorem Rc.call {W w w' : World} {g b f f' : Nat} {xs ys : List Nat} {c : Cmd} (h : Rc W g b w xs f c) (hr : Rr w' g ys f') (hf : Frm (fun q => q = g) w w') : Rc W g b w' ys f' c := by
  have h1 := h.lt
  exact ⟨hr, h.res.frm hf (by omega), h.cmd.frm hf (by omega), h.frm.trans hf (fun _ e => .inl e), h.lt, h.hb⟩
theorem Rc.set {W w : World} {g b f : Nat} {xs : List Nat} {c c' : Cmd} (h : Rc W g b w xs f c) (j : Nat) (v : Int) (hc : (cc c).setIfInBounds j (.int .i64 v) = cc c') : Rc W g b (w.setCell ⟨b + 1, j, none⟩ (.int .i64 v)) xs f c' := by
  have h1 := h.lt
  have h2 := h.hb
  refine ⟨h.rr.part h.cmd (cc_no8 c) (by omega) ((Frm.refl _ w).setCell ⟨b + 1, j, none⟩ _ (.inl rfl)), h.res.other (by show b + 1 ≠ b; omega) _, ?_, h.frm.setCell _ _ (.inr (by show _ ≤ b + 1; omega)), h.lt, h.hb⟩
  rw [← hc]
  exact h.cmd.set j _
theorem Rc.start {W : World} {g f : Nat} {xs : List Nat} (hR : Rr W g xs f) : Rc W g W.heap.size ((W.alloc (.cells (cc ⟨0, 0, 0, 0, 0, 0, 0, 0, 0⟩) 23)).alloc (.cells (cc ⟨0, 0, 0, 0, 0, 0, 0, 0, 0⟩) 23)) xs f ⟨0, 0, 0, 0, 0, 0, 0, 0, 0⟩ :=
  ⟨hR.below (((Below.refl _ _).alloc (Nat.le_refl _) _).alloc (by simp) _), (Blk.new _ _ _).alloc _, Blk.new' (by simp), ((Frm.refl _ _).alloc _).alloc _, hR.lt', rfl⟩
theorem nine_frm {S : Nat → Prop} {W w : World} {b : Nat} (h : Frm S W w) (hb : S b ∨ W.heap.size ≤ b) (v0 v1 v2 v3 v4 v5 v6 v7 v8 : Value) :
    Frm S W (((((((((w.setCell ⟨b, 0, none⟩ v0).setCell ⟨b, 1, none⟩ v1).setCell ⟨b, 2, none⟩ v2).setCell ⟨b, 3, none⟩ v3).setCell ⟨b, 4, none⟩ v4).setCell ⟨b, 5, none⟩ v5).setCell ⟨b, 6, none⟩ v6).setCell ⟨b, 7, none⟩ v7).setCell ⟨b, 8, none⟩ v8) := by
  have h0 := h.setCell ⟨b, 0, none⟩ v0 hb
  have h1 := h0.setCell ⟨b, 1, none⟩ v1 hb
  have h2 := h1.setCell ⟨b, 2, none⟩ v2 hb
  have h3 := h2.setCell ⟨b, 3, none⟩ v3 hb
  have h4 := h3.setCell ⟨b, 4, none⟩ v4 hb
  have h5 := h4.setCell ⟨b, 5, none⟩ v5 hb
  have h6 := h5.setCell ⟨b, 6, none⟩ v6 hb
  have h7 := h6.setCell ⟨b, 7, none⟩ v7 hb
  exact h7.setCell ⟨b, 8, none⟩ v8 hb
/-- The result is laid. -/
theorem Rc.done {W w : World} {g b f : Nat} {xs : List Nat} {c : Cmd} (h : Rc W g b w xs f c) (v0 v1 v2 v3 v4 v5 v6 v7 v8 : Value) :
    Rr (((((((((w.setCell ⟨b, 0, none⟩ v0).setCell ⟨b, 1, none⟩ v1).setCell ⟨b, 2, none⟩ v2).setCell ⟨b, 3, none⟩ v3).setCell ⟨b, 4, none⟩ v4).setCell ⟨b, 5, none⟩ v5).setCell ⟨b, 6, none⟩ v6).setCell ⟨b, 7, none⟩ v7).setCell ⟨b, 8, none⟩ v8) g xs f ∧
    Frm (fun q => q = g) W (((((((((w.setCell ⟨b, 0, none⟩ v0).setCell ⟨b, 1, none⟩ v1).setCell ⟨b, 2, none⟩ v2).setCell ⟨b, 3, none⟩ v3).setCell ⟨b, 4, none⟩ v4).setCell ⟨b, 5, none⟩ v5).setCell ⟨b, 6, none⟩ v6).setCell ⟨b, 7, none⟩ v7).setCell ⟨b, 8, none⟩ v8) := by
  have h1 := h.lt
  have h2 : W.heap.size ≤ b := Nat.le_of_eq h.hb.symm
  exact ⟨h.rr.part h.res (cc_no8 _) (by omega) (nine_frm (S := fun q => q = b) (b := b) (Frm.refl _ w) (.inl rfl) v0 v1 v2 v3 v4 v5 v6 v7 v8), nine_frm h.frm (.inr h2) v0 v1 v2 v3 v4 v5 v6 v7 v8⟩
theorem step_byte (xs : List Nat) (f : Nat) (h : ∀ x ∈ xs, x < 256) : (stepR 1 1 xs f).n < 256 := by
  by_cases hf : f = 0
  · subst hf
    rw [step1, if_pos (by decide)]
    split
    · exact (by decide : 0 < 256)
    · have hl := val_lt (xs.take 1) fun x hx => h x (List.mem_of_mem_take hx)
      have h2 : (xs.take 1).length ≤ 1 := by rw [List.length_take]; omega
      exact Nat.lt_of_lt_of_le hl (Nat.pow_le_pow_right (n := 256) (by decide) h2)
  · rw [step_fault hf]; exact (by decide : 0 < 256)
theorem step_first (x : Nat) (t : List Nat) : stepR 1 1 (x :: t) 0 = ⟨x, 0, [], 1, 0⟩ := by
  rw [step1, if_pos (by decide), if_neg (by simp)]
  simp [val]
theorem Rr.bytes {w : World} {g f : Nat} {xs : List Nat} (h : Rr w g xs f) : ∀ x ∈ xs, x < 256 := by obtain ⟨_, _, _, _, hB, _⟩ := h; exact hB.lt
/-- A number of one byte is read. -/
theorem rbyte_any (g f : Nat) (xs : List Nat) (W : World) (hR : Rr W g xs f) :
    Calls Try.prog 35 #[.pointer (some ⟨g, 0, none⟩), .int .i64 1] W fun e w' => ∃ r : Res, Hid (stepR 1 1 xs f = r) ∧ e = .returned (.int .u64 (r.n : Int)) ∧ (r.n : Int) < 256 ∧ Rr w' g (xs.drop r.size) r.f ∧ Frm (fun b => b = g) W w' :=
  (ruint_any g f xs 1 W hR).mono fun _ _ h => ⟨_, Lib.hid rfl, h.1, by have := step_byte xs f hR.bytes; omega, h.2.1, h.2.2⟩
/-- A number, and the lesser one of it and M. -/
def Least (n : Nat) (M : Int) (T : TypeId) (m : Nat) : Prop := (∀ ts t w, (Builtin.min_ ts t #[.int .u64 (n : Int), .int .u64 M]).run Try.prog w = .ok (.int .u64 (m : Int)) w) ∧ (∀ w, (convert 41 T (.int .u64 (m : Int))).run Try.prog w = .ok (.int .i64 (m : Int)) w) ∧ Hid ((m : Int) = min (n : Int) M)
theorem least_of (n : Nat) (M : Int) (T : TypeId) (hT : Try.prog.underlying T = some (.int .i64)) (h0 : 0 ≤ M) (h1 : M < 9223372036854775808) : ∃ m, Least n M T m := by
  have hU := Try.underlying41
  refine ⟨(min (n : Int) M).toNat, fun ts t w => ?_, fun w => ?_, ?_⟩
  · rw [run_min_int2]
    congr 2
    split <;> omega
  · obtain ⟨x, hx⟩ : ∃ x : Nat, (min (n : Int) M).toNat = x := ⟨_, rfl⟩
    have hxm : (x : Int) < 9223372036854775808 := by omega
    have e : IntKind.i64.wrap (x : Int) = (x : Int) := by rw [IntKind.wrap_i64]; omega
    rw [hx]
    simp [convert, go_sem, run_underlying hT, run_underlying hU, e]
  · exact Lib.hid (by omega)
theorem rgroups_any (M : Int) (T : TypeId) (hT : Try.prog.underlying T = some (.int .i64)) (h0 : 0 ≤ M) (h1 : M < 9223372036854775808) (g f : Nat) (xs : List Nat) (W : World) (hR : Rr W g xs f) :
    Calls Try.prog 36 #[.pointer (some ⟨g, 0, none⟩)] W fun e w' => ∃ (r : Res) (m : Nat), Hid (stepR 3 0 xs f = r) ∧ e = .returned (.int .u64 (r.n : Int)) ∧ Least r.n M T m ∧ Rr w' g (xs.drop r.size) r.f ∧ Frm (fun b => b = g) W w' :=
  (rnum_any g xs f W hR).mono fun _ _ h => by
    obtain ⟨m, hm⟩ := least_of (stepR 3 0 xs f).n M T hT h0 h1
    exact ⟨_, m, Lib.hid rfl, h.1, hm, h.2.1, h.2.2⟩
theorem rsigned_any (g f : Nat) (xs : List Nat) (W : World) (hR : Rr W g xs f) :
    Calls Try.prog 37 #[.pointer (some ⟨g, 0, none⟩)] W fun e w' => ∃ r : Res, Hid (stepR 2 0 xs f = r) ∧ e = .returned (.int .i64 r.s) ∧ Rr w' g (xs.drop r.size) r.f ∧ Frm (fun b => b = g) W w' :=
  (rint_any g f xs W hR).mono fun _ _ h => ⟨_, Lib.hid rfl, h.1, h.2.1, h.2.2⟩
end Go.Proofs.Ytjleebfdbkfgmaa
