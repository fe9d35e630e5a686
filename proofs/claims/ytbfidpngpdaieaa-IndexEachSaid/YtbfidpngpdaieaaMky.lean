/-
  The keys of the index's map: a struct of two numbers; what it reads as.
-/
import Derived.Test.YtbfidpngpdaieaaInd
import Derived.Test.YtbfidpngpdaieaaChecked
import Derived.Maps.OwnSet
import Derived.Maps.RangeWalk
import Derived.Maps.Ext
import Derived.DeepKeys4
import Derived.WideKeyArgs2
namespace Go.Proofs.Ytbfidpngpdaieaa
open Go.RowKit Go.WideMaps Go.WideElems
abbrev vKey (s d : Int) : Value := .agg #[.int .i64 s, .int .i64 d]
def kl (s d : Int) : Lit := .string (keyBytes [.int .i64 s, .int .i64 d])
theorem key_laid : laidOutB Try.prog = true := by kernel_rfl
theorem key_wide : (match Try.prog.underlying 43 with | some (.array _ _) | some (.struct _) => true | _ => false) = true := by kernel_rfl
theorem key_law : Maps.Keyed Try.prog 43 :=
  Maps.Keyed.of_law (deep_law_laid key_laid (m := 2) (by omega) (of_decide_eq_true (by kernel_rfl)) (by kernel_rfl) key_wide)
theorem key_type : Try.prog.keyType 43 = true := by kernel_rfl
theorem key_cells : Try.prog.cellsOf 43 = 2 := by kernel_rfl
theorem key_c1 : Try.prog.cellsOf 3 = 1 := by kernel_rfl
theorem key_c2 : Try.prog.cellsOf 2 = 1 := by kernel_rfl
theorem key_size : ∃ m, Try.prog.types.size = m + 1 := by
  have h : 0 < Try.prog.types.size := of_decide_eq_true (by kernel_rfl)
  exact ⟨Try.prog.types.size - 1, by omega⟩
theorem wf_of_in64 {x : Int} (h : In64 x) : (Lit.int .i64 x).wf = true := by
  unfold In64 at h
  simp [Lit.wf, IntKind.min, IntKind.max, IntKind.signed, IntKind.bits]
  omega
theorem keyLit_one {t : TypeId} (h : Try.prog.underlying t = some (.int .i64)) (m : Nat) (a : Value) (L : List Lit) : Try.prog.keyLits (m + 1) t [a] = some L ↔ ∃ n, In64 n ∧ a = .int .i64 n ∧ L = [.int .i64 n] := by
  unfold Program.keyLits
  rw [h]
  cases a with
  | int q n =>
    dsimp only
    constructor
    · intro g
      split at g
      · rename_i e
        obtain ⟨rfl, e2⟩ := e
        cases g
        exact ⟨n, in64_of_wf e2, rfl, rfl⟩
      · cases g
    · rintro ⟨n', hn, e, rfl⟩
      cases e
      rw [if_pos ⟨rfl, wf_of_in64 hn⟩]
  | _ => simp
theorem keyLits_iff (cs : List Value) (L : List Lit) : Try.prog.keyLits (Try.prog.types.size + 1) 43 cs = some L ↔ ∃ s d, In64 s ∧ In64 d ∧ cs = [.int .i64 s, .int .i64 d] ∧ L = [.int .i64 s, .int .i64 d] := by
  have hu := Try.underlying43
  have h1 := fun m => keyLit_one Try.underlying3 m
  have h2 := fun m => keyLit_one Try.underlying2 m
  have c := key_cells
  have c1 := key_c1
  have c2 := key_c2
  obtain ⟨m, hm⟩ := key_size
  rw [hm]
  constructor
  · intro h
    unfold Program.keyLits at h
    rw [hu] at h
    simp only [c] at h
    split at h
    · rename_i hl
      match cs, hl.1 with
      | [a, b], _ =>
        simp [c1, c2] at h
        cases ha : Try.prog.keyLits (m + 1) 3 [a] with
        | none => rw [ha] at h; simp at h
        | some l1 =>
          cases hb : Try.prog.keyLits (m + 1) 2 [b] with
          | none => rw [ha, hb] at h; simp at h
          | some l2 =>
            rw [ha, hb] at h
            obtain ⟨s, hs, rfl, rfl⟩ := (h1 m a l1).1 ha
            obtain ⟨d, hd, rfl, rfl⟩ := (h2 m b l2).1 hb
            refine ⟨s, d, hs, hd, rfl, ?_⟩
            simpa using h.symm
    · cases h
  · rintro ⟨s, d, hs, hd, rfl, rfl⟩
    have e1 := (h1 m (.int .i64 s) _).2 ⟨s, hs, rfl, rfl⟩
    have e2 := (h2 m (.int .i64 d) _).2 ⟨d, hd, rfl, rfl⟩
    unfold Program.keyLits
    rw [hu]
    simp [c, c1, c2, e1, e2]
theorem keyOf_mk {s d : Int} (hs : In64 s) (hd : In64 d) : keyOf Try.prog 43 (vKey s d) = some (kl s d) := by
  have hu := Try.underlying43
  have e := (keyLits_iff [.int .i64 s, .int .i64 d] _).2 ⟨s, d, hs, hd, rfl, rfl⟩
  have ef : (vKey s d).formed Try.prog 43 = true := by simp [Value.formed, hu, key_cells]
  unfold keyOf
  rw [hu]
  simp only [key_type, ef, Bool.and_self, if_true]
  rw [show (vKey s d).cells.toList = [.int .i64 s, .int .i64 d] from rfl, e]
  rfl
theorem keyOf_inv {v : Value} {l : Lit} (h : keyOf Try.prog 43 v = some l) : ∃ s d, In64 s ∧ In64 d ∧ v = vKey s d ∧ l = kl s d := by
  obtain ⟨xs, L, rfl, h2, rfl⟩ := keyOf_top key_wide h
  obtain ⟨s, d, hs, hd, e, rfl⟩ := (keyLits_iff _ _).1 h2
  exact ⟨s, d, hs, hd, by rw [vKey, ← e], rfl⟩
theorem kl_inj {s d s' d' : Int} (hs : In64 s) (hd : In64 d) (hs' : In64 s') (hd' : In64 d') (h : kl s d = kl s' d') : s = s' ∧ d = d' := by
  have := key_law.inj (keyOf_mk hs hd) (by rw [h]; exact keyOf_mk hs' hd')
  simpa using this
end Go.Proofs.Ytbfidpngpdaieaa
