/-
  The function value of package config's Read: numbers of a reader, the great ones cut.
-/
import Derived.Test.YtbkiipeoabbiiaaRrk
import Derived.Test.YtbkiipeoabbiiaaNm
namespace Go.Proofs.Ytbkiipeoabbiiaa
open Go.RowKit
structure RdS where
  zs : List Nat
  f : Nat
  big : Bool
  j : Nat
def bigN (n : Nat) : Bool := decide (4611686018427387904 < n)
def cutN (n : Nat) : Nat := if 4611686018427387904 < n then 4611686018427387904 else n
def ansR (s : RdS) (_ : Int) : Int := (cutN (stepR 3 0 s.zs s.f).n : Nat)
def nxR (s : RdS) (_ : Int) : RdS := ⟨s.zs.drop (stepR 3 0 s.zs s.f).size, (stepR 3 0 s.zs s.f).f, s.big || bigN (stepR 3 0 s.zs s.f).n, s.j - 1⟩
def IR (g k tb bb : Nat) (s : RdS) (S : Nat → Prop) (w : World) : Prop :=
  RrK w g k s.zs s.f ∧ Blk w tb 75 #[.pointer (some ⟨g, 0, none⟩)] ∧ Blk w bb 4 #[.bool s.big] ∧ (g ≠ tb ∧ g ≠ bb ∧ tb ≠ bb ∧ (s.zs ≠ [] → k ≠ tb ∧ k ≠ bb)) ∧ S = fun b => b = g ∨ b = tb ∨ b = bb ∨ (s.zs ≠ [] ∧ b = k)
theorem least_facts (n : Nat) (M : Int) (h0 : 0 ≤ M) (h1 : M < 9223372036854775808) (m : Nat) (hm : m = (min (n : Int) M).toNat) : (∀ ts t w, (Builtin.min_ ts t #[.int .u64 (n : Int), .int .u64 M]).run Try.prog w = .ok (.int .u64 (m : Int)) w) ∧ (∀ w, (convert 67 2 (.int .u64 (m : Int))).run Try.prog w = .ok (.int .i64 (m : Int)) w) := by
  have hU := Try.underlying67
  have hT := Try.underlying2
  subst hm
  refine ⟨fun ts t w => ?_, fun w => ?_⟩
  · rw [run_min_int2]
    by_cases h : M < (n : Int)
    · have e : (((min (n : Int) M).toNat : Nat) : Int) = M := by omega
      rw [if_pos h, e]
    · have e : (((min (n : Int) M).toNat : Nat) : Int) = (n : Int) := by omega
      rw [if_neg h, e]
  · obtain ⟨x, hx⟩ : ∃ x : Nat, (min (n : Int) M).toNat = x := ⟨_, rfl⟩
    have hxm : (x : Int) < 9223372036854775808 := by omega
    have e : IntKind.i64.wrap (x : Int) = (x : Int) := by rw [IntKind.wrap_i64]; omega
    rw [hx]
    clear hxm hx h0 h1
    simp [convert, go_sem, run_underlying hT, run_underlying hU, e]
theorem cut_facts (n : Nat) : (∀ ts t w, (Builtin.min_ ts t #[.int .u64 (n : Int), .int .u64 4611686018427387904]).run Try.prog w = .ok (.int .u64 (cutN n : Int)) w) ∧ (∀ w, (convert 67 2 (.int .u64 (cutN n : Int))).run Try.prog w = .ok (.int .i64 (cutN n : Int)) w) :=
  least_facts n 4611686018427387904 (by decide) (by decide) (cutN n) (by unfold cutN; split <;> omega)
set_option maxHeartbeats 1000000 in
theorem read1_any (g k tb bb : Nat) (s : RdS) (n : Int) (W : World) (hR : RrK W g k s.zs s.f) (ht : Blk W tb 75 #[.pointer (some ⟨g, 0, none⟩)]) (hb : Blk W bb 4 #[.bool s.big]) (h2 : g ≠ bb) (h4 : s.zs ≠ [] → k ≠ tb ∧ k ≠ bb) :
    Calls Try.prog 50 #[.int .i64 n, .pointer (some ⟨tb, 0, none⟩), .pointer (some ⟨bb, 0, none⟩)] W fun e w' => e = .returned (.int .i64 (ansR s n)) ∧ RrK w' g k (nxR s n).zs (nxR s n).f ∧ Blk w' bb 4 #[.bool (nxR s n).big] ∧ Frm (fun b => b = g ∨ b = bb) W w' := by
  have cN := rnumK_any g k s.zs s.f W hR
  obtain ⟨hm, hc⟩ := cut_facts (stepR 3 0 s.zs s.f).n
  have hbig : ∀ N : Nat, decide ((4611686018427387904 : Int) < (N : Int)) = bigN N := fun N => by unfold bigN; by_cases h : 4611686018427387904 < N <;> simp [h] <;> omega
  have hbig' := hbig (stepR 3 0 s.zs s.f).n
  unfold ansR nxR
  simp only
  generalize (stepR 3 0 s.zs s.f).n = N at cN hm hc hbig' ⊢
  generalize (stepR 3 0 s.zs s.f).size = sz at cN ⊢
  generalize (stepR 3 0 s.zs s.f).f = f' at cN ⊢
  generalize cutN N = m at hm hc ⊢
  generalize bigN N = kb at hbig' ⊢
  obtain ⟨zs, f, big, j⟩ := s
  simp only at *
  have x0 := ht.cell_eq 0 _ rfl
  have fin : ∀ w1 : World, RrK w1 g k (zs.drop sz) f' → Frm (fun b => b = g) W w1 → ∀ v, RrK (w1.setCell ⟨bb, 0, none⟩ (.bool v)) g k (zs.drop sz) f' ∧ Blk (w1.setCell ⟨bb, 0, none⟩ (.bool v)) bb 4 #[.bool v] ∧ Frm (fun b => b = g ∨ b = bb) W (w1.setCell ⟨bb, 0, none⟩ (.bool v)) := fun w1 hr hf v => by
    have hs : Frm (fun b => b = bb) w1 (w1.setCell ⟨bb, 0, none⟩ (.bool v)) := (Frm.refl _ w1).setCell _ _ (.inl rfl)
    have hb1 : Blk w1 bb 4 #[.bool big] := (hf.block bb hb.lt (fun e => h2 e.symm)).trans hb
    exact ⟨hr.frm hs h2 (fun hx => (h4 (drop_some hx)).2), hb1.set 0 _, (hf.mono fun _ _ h => .inl h).trans hs (fun _ h => .inl (.inr h))⟩
  have hb1 : ∀ w1, Frm (fun b => b = g) W w1 → Blk w1 bb 4 #[.bool big] := fun w1 hf => (hf.block bb hb.lt (fun e => h2 e.symm)).trans hb
  clear hbig ht hR
  obtain rfl | rfl : big = true ∨ big = false := by cases big <;> simp
  all_goals go_enter Try.func50, Try.ntmps50
  all_goals go_wp2_with (go_at_call 51; refine cN.mono ?_; rintro e w1 ⟨rfl, hR1, hF1⟩; have y0 := (hb1 _ hF1).cell_eq 0 _ rfl; have y1 := (hb1 _ hF1).free 0)
  all_goals go_ret
  all_goals exact ⟨rfl, fin _ hR1 hF1 _⟩
theorem nmR (g k tb bb : Nat) : Nm RdS 50 #[.pointer (some ⟨tb, 0, none⟩), .pointer (some ⟨bb, 0, none⟩)] (IR g k tb bb) (fun _ => True) ansR nxR RdS.j := by
  refine ⟨enters_of Try.func50 (by kernel_rfl) (by kernel_rfl), ?_, ?_, ?_, fun s n => by simp [nxR]; omega⟩
  · rintro s S w ⟨hr, ht, hb, -, rfl⟩ b (rfl | rfl | rfl | ⟨hz, rfl⟩)
    · exact hr.lt.1
    · exact ht.lt
    · exact hb.lt
    · exact hr.lt.2 hz
  · rintro s S w w' T ⟨hr, ht, hb, hd, rfl⟩ hf hT
    exact ⟨hr.frm hf (fun h => hT _ h (.inl rfl)) (fun hz h => hT _ h (.inr (.inr (.inr ⟨hz, rfl⟩)))), ht.frm hf (fun h => hT _ h (.inr (.inl rfl))), hb.frm hf (fun h => hT _ h (.inr (.inr (.inl rfl)))), hd, rfl⟩
  · rintro s S w n ⟨hr, ht, hb, ⟨d1, d2, d3, d4⟩, rfl⟩ - -
    refine (read1_any g k tb bb s n w hr ht hb d2 d4).mono fun e w' h => ⟨h.1, ?_⟩
    obtain ⟨-, hr', hb', hF⟩ := h
    refine ⟨fun b => b = g ∨ b = tb ∨ b = bb ∨ ((nxR s n).zs ≠ [] ∧ b = k), ⟨hr', ht.frm hF (by rintro (h | h); exact d1 h.symm; exact d3 h), hb', ⟨d1, d2, d3, fun hz => d4 (drop_some hz)⟩, rfl⟩, hF.mono fun b _ h => ?_, fun b h => .inl ?_⟩
    · rcases h with h | h
      · exact .inl h
      · exact .inr (.inr (.inl h))
    · rcases h with h | h | h | ⟨h, h'⟩
      · exact .inl h
      · exact .inr (.inl h)
      · exact .inr (.inr (.inl h))
      · exact .inr (.inr (.inr ⟨drop_some h, h'⟩))
end Go.Proofs.Ytbkiipeoabbiiaa
