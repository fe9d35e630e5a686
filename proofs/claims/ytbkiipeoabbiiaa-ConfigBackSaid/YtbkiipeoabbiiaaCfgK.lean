/-
  Where a configuration is wrong first (plain), and what a call of Check gives.
-/
import Derived.Test.YtbkiipeoabbiiaaCfgS
import Derived.Test.YtbkiipeoabbiiaaLists
namespace Go.Proofs.Ytbkiipeoabbiiaa
open Go.RowKit
theorem check_syms {c : Cfg} (h : c.syms.length < 1 ∨ 8 < c.syms.length) : checkF c = (9, 0) := if_pos h
theorem check_sym {c : Cfg} {q : Nat} {s : Symb} (hn : 1 ≤ c.syms.length ∧ c.syms.length ≤ 8) (hs : c.syms[q]? = some s) (h : ∀ x ∈ c.syms.take q, symF x = 0) (hb : symF s ≠ 0) : checkF c = (symF s, q) := by
  unfold checkF
  rw [if_neg (by omega), syF_at hs h hb, if_pos hb]
theorem check_rows {c : Cfg} (hn : 1 ≤ c.syms.length ∧ c.syms.length ≤ 8) (h : ∀ x ∈ c.syms, symF x = 0) (h2 : c.rows.length < 1 ∨ 20 < c.rows.length) : checkF c = (9, 0) := by
  unfold checkF
  rw [if_neg (by omega), if_neg (fun g => g ((syF_ok _ 0).2 h)), if_pos h2]
theorem check_row {c : Cfg} {q : Nat} {r : Rowp} {f : Nat} (hn : 1 ≤ c.syms.length ∧ c.syms.length ≤ 8) (h : ∀ x ∈ c.syms, symF x = 0) (hm : 1 ≤ c.rows.length ∧ c.rows.length ≤ 20) (hr : c.rows[q]? = some r) (h2 : (roF (c.rows.take q) none 0).1 = 0) (hf : rowF (aheadT c.rows q) r = f) (hb : f ≠ 0) : checkF c = (f, q) := by
  subst hf
  unfold checkF
  rw [if_neg (by omega), if_neg (fun g => g ((syF_ok _ 0).2 h)), if_neg (by omega), roF_at hr h2 hb, if_pos hb]
theorem check_tail {c : Cfg} (hn : 1 ≤ c.syms.length ∧ c.syms.length ≤ 8) (h : ∀ x ∈ c.syms, symF x = 0) (hm : 1 ≤ c.rows.length ∧ c.rows.length ≤ 20) (h2 : (roF c.rows none 0).1 = 0) : checkF c = (tailF c, 0) := by
  unfold checkF
  rw [if_neg (by omega), if_neg (fun g => g ((syF_ok _ 0).2 h)), if_neg (by omega), if_neg (fun g => g h2)]
def Checked (W w' : World) (e : Ending) (p : Nat × Nat) : Prop := e = .returned (.tuple #[.int .i64 (p.1 : Int), .int .i64 (p.2 : Int)]) ∧ Below W.heap.size W w'
end Go.Proofs.Ytbkiipeoabbiiaa
