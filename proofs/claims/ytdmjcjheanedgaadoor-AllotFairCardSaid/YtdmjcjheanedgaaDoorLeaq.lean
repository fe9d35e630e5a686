/-
  The contracts of slices.Clone of levels, of list, and of Each: what the function that it hands back yields.
-/
import Derived.Test.YtdmjcjheanedgaaDoorGL
import Derived.Test.YtdmjcjheanedgaaDoorGI
import Derived.Test.YtdmjcjheanedgaaDoorGM
import Derived.Lib.SliceRun
import Derived.Shelf.Abstract
import Derived.WalkKit
import Derived.OwnWalkIn
import Derived.TacticsInMore
import Derived.LoopNIn
import Derived.LoopIn
import Derived.Stop.RegionWithIn
import Derived.Sort.QuietTacIn
import Derived.Great.BuildSlice
namespace Go.Proofs.YtdmjcjheanedgaaDoor
open Go.RowKit
attribute [local go_sem] Oper.semAt_some
section
variable {w w' W : World} {g : Nat} {S T : Nat → Prop} {ko : Option Nat} {ao : Option Addr} {cap : Nat} {buy : Bool} {P : List Lvl} {F : List Nat}
set_option maxHeartbeats 1000000 in
theorem pclone_any (h : OwG 133 4 W ko ao cap P.length (lcs P)) (hl : P.length ≤ 200) :
    Calls Tryd.prog 98 #[.slice ao P.length cap] W fun e w' => ∃ ao' cap', e = .returned (.slice ao' P.length cap') ∧ Lvls w' ao' cap' P ∧ (∀ b off s, ao' = some ⟨b, off, s⟩ → W.heap.size ≤ b ∧ b < w'.heap.size) ∧ Below W.heap.size W w' := by
  have eN : ∀ (w : World) (b : Option Addr) (n c : Nat), (binOp .eql 122 (.slice b n c) (.slice none 0 0)).run Tryd.prog w = .ok (.bool b.isNone) w := fun w b n c => Lib.run_eql_slice_nil w _ _ b n c 0 0 Tryd.underlying122
  cases ao with
  | none =>
    have h0 : P = [] := by
      rcases h.at' with ⟨-, -, h0⟩ | ⟨k, cur, -, h0, -⟩
      · have := h.len; exact List.eq_nil_of_length_eq_zero (by omega)
      · cases h0
    subst h0
    go_enter Tryd.func98, Tryd.ntmps98
    go_wp2
    go_ret
    exact ⟨_, _, rfl, Lvls.nil _, (fun b off s h => by cases h), Below.refl _ _⟩
  | some a =>
    obtain ⟨i1, hi1, e1⟩ := Option.map_eq_some_iff.1 infoLv
    simp only [Prod.mk.injEq] at e1
    obtain ⟨hz1, hs1, hb1⟩ := e1
    have hsrc := (h.alloc (.cells #[] 133)).src (lcs_one P)
    go_enter Tryd.func98, Tryd.ntmps98
    go_wp2_with (at_builtin; refine wpList_appG rfl (.tmp 5) (.tmp 6) 122 133 i1 _ 4 32 Tryd.underlying122 hi1 hz1 hs1 hb1 rfl (by decide) rfl (OwG.emptyG _ _ W) hsrc rfl rfl (by omega) (by omega) ?_; intro oo' oc' ko' w3 ho hf3 hm3)
    go_ret
    rw [List.nil_append] at ho
    have hown : ∀ k, ko' = some k → W.heap.size ≤ k := by
      intro k hk
      rcases hm3 with h1 | h1 | ⟨k2, h1, h2⟩
      · rw [h1] at hk; cases hk
      · rw [h1] at hk; cases hk; exact Nat.le_refl _
      · rw [h1] at hk; cases hk; simp at h2; omega
    rw [Nat.zero_add] at ho
    refine ⟨oo', oc', rfl, Lvls.of_own ho, ?_, ?_⟩
    · intro b off s h
      rcases ho.at' with ⟨-, h0, -⟩ | ⟨k, cur, h1, h2, -⟩
      · rw [h0] at h; cases h
      · rw [h2] at h; cases h; subst h1; exact ⟨hown _ rfl, ho.lt⟩
    · exact ((Below.refl _ W).alloc (Nat.le_refl _) _).trans (hf3.below (by simp) (by intro k h; cases h; exact Nat.le_refl _))
theorem plist_any (h : PmB W g S ko ao cap buy P F) :
    Calls Tryd.prog 92 #[.pointer (some ⟨g, 0, none⟩)] W fun e w' => ∃ ao' cap', e = .returned (.slice ao' P.length cap') ∧ Lvls w' ao' cap' P ∧ (∀ b off s, ao' = some ⟨b, off, s⟩ → W.heap.size ≤ b ∧ b < w'.heap.size) ∧ Below W.heap.size W w' := by
  have cC := pclone_any h.how h.len
  have c1 := h.c1
  go_enter Tryd.func92, Tryd.ntmps92
  go_wp2_with (go_at_call 98; refine cC.mono ?_; rintro e w1 ⟨ao', cap', rfl, k1, k2, k3⟩)
  go_ret
  exact ⟨_, _, rfl, k1, k2, k3⟩
theorem plistNil_any (W : World) :
    Calls Tryd.prog 92 #[.pointer none] W fun e w' => e = .returned (.slice none 0 0) ∧ w' = W := by
  go_enter Tryd.func92, Tryd.ntmps92
  go_wp2_with fail
  go_ret
  exact ⟨rfl, rfl⟩
end
set_option maxRecDepth 8000 in
set_option maxHeartbeats 1000000 in
/-- Each hands back a function that knows the pointer. -/
theorem peach_any (p : Option Addr) (W : World) : Calls Tryd.prog 81 #[.pointer p] W fun e w' =>
    e = .returned (.func (.func 91) #[] #[.pointer (some ⟨W.heap.size, 0, none⟩)]) ∧ Below W.heap.size W w' ∧ ∃ T1, Blk w' W.heap.size T1 #[.pointer p] := by
  go_enter Tryd.func81, Tryd.ntmps81
  have hA : Blk (W.alloc (.cells #[.pointer p] 71)) W.heap.size 71 #[.pointer p] := Blk.new _ _ _
  have hbel : Below W.heap.size W (W.alloc (.cells #[.pointer p] 71)) := (Below.refl _ _).alloc (Nat.le_refl _) _
  go_wp2_with fail
  go_ret
  exact ⟨rfl, hbel, _, hA⟩
def encL (x : Lvl) : Array Value := #[vLvl x]
/-- What is handed to a round: the next one. -/
def goodL (P : List Lvl) (pre : List Lvl) (x : Lvl) (_ : World) : Prop := P[pre.length]? = some x
theorem goodL_put (P : List Lvl) (pre : List Lvl) (x : Lvl) (A : World) (l : Nat) (o o' : Obj) (h : goodL P pre x A) (_ : A.heap[l]? = some o) (_ : o.isCells = false) : goodL P pre x (A.putObj l o') := h
theorem blk_frm {S : Nat → Prop} {w w' : World} {g : Nat} {t : TypeId} {cs : Array Value} (h : Blk w g t cs) (hf : Frm S w w') (hg : ¬ S g) : Blk w' g t cs := (hf.block g h.lt hg).trans h
theorem Lvls.frm {S : Nat → Prop} {w w' : World} {ao : Option Addr} {cap : Nat} {l : List Lvl} (h : Lvls w ao cap l) (hf : Frm S w w') (hk : ∀ b off s, ao = some ⟨b, off, s⟩ → ¬ S b) : Lvls w' ao cap l := by
  refine ⟨h.len, h.top, ?_⟩
  rcases h.at' with h0 | ⟨b, off, ha, hl⟩
  · exact .inl h0
  · refine .inr ⟨b, off, ha, fun i m hi j v hj => ?_⟩
    have hc := hl i m hi j v hj
    have hlt : b < w.heap.size := World.block_lt_of_cell? w ⟨b, off + i * 4 + j, none⟩ hc
    exact (World.cell?_of_block (a := ⟨b, off + i * 4 + j, none⟩) (hf.block b hlt (hk b off none ha))).trans hc
theorem wide_fn (f : FuncId) : Fence.wide.fn f = True := by simp [Fence.wide]
attribute [local go_sem] wide_fn
theorem merge3 {e : Ending} {A B : Prop} (h : (e = .returned (.bool true) ∧ A) ∨ (e = .returned (.bool false) ∧ B)) : ∃ k, e = .returned (.bool k) ∧ ((k = true ∧ A) ∨ (k = false ∧ B)) := by
  rcases h with ⟨h1, h2⟩ | ⟨h1, h2⟩
  · exact ⟨true, h1, .inl ⟨rfl, h2⟩⟩
  · exact ⟨false, h1, .inr ⟨rfl, h2⟩⟩
set_option maxRecDepth 100000 in
set_option maxHeartbeats 2000000 in
theorem peachNil_seqs (F : Fence) (hF : F = Fence.wide) (n : Nat) (hn : 1 ≤ n) (t1 : Nat) (T1 : TypeId) (w : World) (hb1 : Blk w t1 T1 #[.pointer none]) (T : Nat → Prop) :
    SeqsT F n Tryd.prog 91 #[.pointer (some ⟨t1, 0, none⟩)] encL (fun _ _ _ => False) T (fun ys => ys = []) (fun _ => False) 0 w := by
  intro lb J Jx W hW _ _ hJ hY h0
  subst hF
  have hl1 := hb1.lt
  have cL := fun w => plistNil_any w
  refine callsIn_of_wp Tryd.func91 rfl trivial ?_ rfl
  simp only [Tryd.ntmps91, List.size_toArray, List.length_cons, List.length_nil, Nat.reduceAdd, Nat.reduceSub, Array.replicate_succ, Array.replicate_zero, List.push_toArray, List.append_toArray, List.nil_append, List.cons_append]
  have cb1 := (hb1.below hW hl1).cell_eq 0 _ rfl
  clear hY hJ
  gi_wp2_with (gi_at_call 92; refine (callsIn_wide.2 (cL _)).mono ?_; rintro e w1 ⟨rfl, hw1⟩; subst w1)
  gi_loopw [10] (fun p10 wr => p10 = .int .i64 0 ∧ wr = W) (fun _ _ => 0)
  case atStart => exact ⟨rfl, rfl⟩
  case round =>
    obtain ⟨rfl, rfl⟩ := hrel
    gi_wp2
    exact bodyPost_end (results_none rfl _ _ _) rfl ⟨⟨_, rfl⟩, .inl ⟨[], rfl, h0⟩⟩
end Go.Proofs.YtdmjcjheanedgaaDoor
