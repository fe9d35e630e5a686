/-
  A known block beside an owned row of bytes; conversions of small numbers; bytes and a fault as an answer.
-/
import Derived.Test.YtbkiipeoabbiiaaOctB
namespace Go.Proofs.Ytbkiipeoabbiiaa
open Go.RowKit
theorem conv_u64 {T : TypeId} (hT : Try.prog.underlying T = some (.int .i64)) (n : Nat) (hn : (n : Int) < 9223372036854775808) (w : World) : (convert T 67 (.int .i64 (n : Int))).run Try.prog w = .ok (.int .u64 (n : Int)) w := by
  have hU := Try.underlying67
  have e : IntKind.u64.wrap (n : Int) = (n : Int) := by rw [IntKind.wrap_u64]; omega
  simp [convert, go_sem, run_underlying hT, run_underlying hU, e]
theorem conv_u8 {T : TypeId} (hT : Try.prog.underlying T = some (.int .i64)) (n : Nat) (hn : n < 256) (w : World) : (convert T 5 (.int .i64 (n : Int))).run Try.prog w = .ok (.int .u8 (n : Int)) w := by
  have hU := Try.underlying5
  have e : IntKind.u8.wrap (n : Int) = (n : Int) := by rw [IntKind.wrap_u8]; omega
  simp [convert, go_sem, run_underlying hT, run_underlying hU, e]
/-- Bytes and a fault have come out; they lie in what the call may use. -/
def Coded (W w' : World) (e : Ending) (xs : List Nat) (f : Nat) : Prop := ∃ ao cap k, e = .returned (.tuple #[.slice ao xs.length cap, .int .i64 (f : Int)]) ∧ Bt w' k ao cap xs ∧ Below W.heap.size W w'
/-- A block of cells, known whole, and a slice of bytes that owns its row, side by side. -/
structure Fm (W : World) (b : Nat) (T : TypeId) (cs : Array Value) (w : World) (k : Nat) (ao : Option Addr) (cap n : Nat) (xs : List Nat) : Prop where
  blk : Blk w b T cs
  ow : Ow w k ao cap xs
  bel : Below b W w
  lt : b < k
  n : n = xs.length
theorem Fm.call {W w w' : World} {b k cap n : Nat} {T : TypeId} {cs : Array Value} {ao : Option Addr} {xs : List Nat} (h : Fm W b T cs w k ao cap n xs) (hb : Below w.heap.size w w') : Fm W b T cs w' k ao cap n xs :=
  ⟨h.blk.below hb h.blk.lt, h.ow.below hb, h.bel.trans (hb.mono (Nat.le_of_lt h.blk.lt)), h.lt, h.n⟩
theorem Fm.app {W w w' : World} {b k k2 cap cap' n m : Nat} {T : TypeId} {cs : Array Value} {ao ao' : Option Addr} {xs ys : List Nat} (h : Fm W b T cs w k ao cap n xs) (ho : Ow w' k2 ao' cap' (xs ++ ys)) (hf : Frm (fun b => b = k) w w') (hk : k2 = k ∨ w.heap.size ≤ k2) (hm : m = ys.length) :
    Fm W b T cs w' k2 ao' cap' (n + m) (xs ++ ys) := by
  have h1 := h.lt
  have h2 := h.blk.lt
  refine ⟨h.blk.frm hf (by omega), ho, h.bel.trans (hf.below (by omega) (by rintro x rfl; omega)), by omega, by rw [List.length_append, h.n, hm]⟩
end Go.Proofs.Ytbkiipeoabbiiaa
