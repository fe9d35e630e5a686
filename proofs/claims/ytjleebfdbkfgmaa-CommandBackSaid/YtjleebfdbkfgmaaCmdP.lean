/-
  The document's reader and a command that is filled, side by side.
-/
import Derived.Test.YtjleebfdbkfgmaaCmdI
import Derived.Test.YtjleebfdbkfgmaaRdr
namespace Go.Proofs.Ytjleebfdbkfgmaa
open Go.RowKit
/-- The document's reader, a result that is still zero, and the command that is filled, side by side. -/
structure Rp (W : World) (g b d : Nat) (w : World) (xs : List Nat) (f : Nat) (c : Cmd) : Prop where
  rr : Rq w g xs f
  res : Blk w b 23 (cc Cmd.zero)
  cmd : Blk w d 23 (cc c)
  bel : Below b W w
  bg : b < g
  gd : g < d
theorem Rp.call {W w w' : World} {g b d f f' : Nat} {xs ys : List Nat} {c : Cmd} (h : Rp W g b d w xs f c) (hr : Rq w' g ys f') (hf : Frm (fun q => q = g) w w') : Rp W g b d w' ys f' c := by
  have h1 := h.bg
  have h2 := h.gd
  exact ⟨hr, h.res.frm hf (by omega), h.cmd.frm hf (by omega), h.bel.trans (hf.below (Nat.le_of_lt h.res.lt) (by rintro x rfl; omega)), h.bg, h.gd⟩
theorem Rp.below {W w w' : World} {g b d f : Nat} {xs : List Nat} {c : Cmd} (h : Rp W g b d w xs f c) (hb : Below w.heap.size w w') : Rp W g b d w' xs f c :=
  ⟨h.rr.below hb, h.res.below hb h.res.lt, h.cmd.below hb h.cmd.lt, h.bel.trans (hb.mono (Nat.le_of_lt h.res.lt)), h.bg, h.gd⟩
theorem Rp.set {W w : World} {g b d f : Nat} {xs : List Nat} {c c' : Cmd} (h : Rp W g b d w xs f c) (j : Nat) (v : Int) (hc : (cc c).setIfInBounds j (.int .i64 v) = cc c') : Rp W g b d (w.setCell ⟨d, j, none⟩ (.int .i64 v)) xs f c' := by
  have h1 := h.bg
  have h2 := h.gd
  refine ⟨h.rr.part h.cmd (cc_no8 c) (by omega) ((Frm.refl _ w).setCell ⟨d, j, none⟩ _ (.inl rfl)), h.res.other (by show d ≠ b; omega) _, ?_, h.bel.setCell (p := ⟨d, j, none⟩) (by show b ≤ d; omega) _, h.bg, h.gd⟩
  rw [← hc]
  exact h.cmd.set j _
/-- The same with the command not laid yet. -/
structure Rp0 (W : World) (g b : Nat) (w : World) (xs : List Nat) (f : Nat) : Prop where
  rr : Rq w g xs f
  res : Blk w b 23 (cc Cmd.zero)
  bel : Below b W w
  bg : b < g
theorem Rp0.call {W w w' : World} {g b f f' : Nat} {xs ys : List Nat} (h : Rp0 W g b w xs f) (hr : Rq w' g ys f') (hf : Frm (fun q => q = g) w w') : Rp0 W g b w' ys f' := by
  have h1 := h.bg
  exact ⟨hr, h.res.frm hf (by omega), h.bel.trans (hf.below (Nat.le_of_lt h.res.lt) (by rintro x rfl; omega)), h.bg⟩
theorem Rp0.lay {W w : World} {g b f : Nat} {xs : List Nat} (h : Rp0 W g b w xs f) (c : Cmd) : Rp W g b w.heap.size (w.alloc (.cells (cc c) 23)) xs f c :=
  ⟨h.rr.below ((Below.refl _ _).alloc (Nat.le_refl _) _), h.res.alloc _, Blk.new _ _ _, h.bel.alloc (Nat.le_of_lt h.res.lt) _, h.bg, h.rr.lt⟩
/-- Where a slice's bytes lie, if not in this block, none of whose cells is a byte. -/
theorem Bt.apart' {w : World} {k cap g : Nat} {ao : Option Addr} {xs : List Nat} {T : TypeId} {cs : Array Value} (h : Bt w k ao cap xs) (hc : ∀ (i : Nat) (x : Int), cs[i]? ≠ some (.int .u8 x)) (hb : Blk w g T cs) : ∃ k2, Bt w k2 ao cap xs ∧ g ≠ k2 := by
  by_cases hx : xs = []
  · exact ⟨g + 1, ⟨h.len, h.top, h.bare, h.lt, .inl hx⟩, by omega⟩
  · refine ⟨k, h, fun e => ?_⟩
    subst e
    rcases h.at' with h0 | ⟨off, _, hc'⟩
    · exact hx h0
    · match xs, hx with
      | x :: _, _ =>
        have h1 := hc' 0 x rfl
        rw [hb.cell] at h1
        exact hc _ _ h1
theorem conv_i64 {T : TypeId} (hT : Try.prog.underlying T = some (.int .i64)) (n : Nat) (hn : (n : Int) < 9223372036854775808) (w : World) : (convert 41 T (.int .u64 (n : Int))).run Try.prog w = .ok (.int .i64 (n : Int)) w := by
  have hU := Try.underlying41
  have e : IntKind.i64.wrap (n : Int) = (n : Int) := by rw [IntKind.wrap_i64]; omega
  simp [convert, go_sem, run_underlying hT, run_underlying hU, e]
/-- What a number that was read is, against the greatest that may be. -/
def Atmost (n : Nat) (M : Int) (T : TypeId) (k : Bool) : Prop := decide (M < (n : Int)) = k ∧ (k = false → ∀ w, (convert 41 T (.int .u64 (n : Int))).run Try.prog w = .ok (.int .i64 (n : Int)) w)
theorem atmost_of (n : Nat) (M : Int) (T : TypeId) (hT : Try.prog.underlying T = some (.int .i64)) (h1 : M < 9223372036854775808) : ∃ k, Atmost n M T k := by
  refine ⟨_, rfl, fun h w => conv_i64 hT n ?_ w⟩
  have : ¬ M < (n : Int) := by simpa using h
  omega
end Go.Proofs.Ytjleebfdbkfgmaa
