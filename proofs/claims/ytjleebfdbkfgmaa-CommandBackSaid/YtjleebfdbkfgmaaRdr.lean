/-
  The document's reader of commands: take, one, num, signed.
-/
import Derived.Test.YtjleebfdbkfgmaaCmdR
import Derived.RegionTactic
namespace Go.Proofs.Ytjleebfdbkfgmaa
open Go.RowKit
/-- The document's reader: what is left, and the first fault. -/
def Rq (w : World) (g : Nat) (xs : List Nat) (f : Nat) : Prop := ∃ k ao cap, Blk w g 56 #[.slice ao xs.length cap, .int .i64 (f : Int)] ∧ Bt w k ao cap xs ∧ g ≠ k
theorem Rq.below {w w' : World} {g f : Nat} {xs : List Nat} (h : Rq w g xs f) (hf : Below w.heap.size w w') : Rq w' g xs f := by
  obtain ⟨k, ao, cap, h1, h2, h3⟩ := h
  exact ⟨k, ao, cap, h1.below hf h1.lt, h2.below hf, h3⟩
theorem Rq.part {w w' : World} {g f b : Nat} {xs : List Nat} {t : TypeId} {cs : Array Value} (h : Rq w g xs f) (hb : Blk w b t cs) (hc : ∀ (i : Nat) (x : Int), cs[i]? ≠ some (.int .u8 x)) (hg : g ≠ b) (hf : Frm (fun q => q = b) w w') : Rq w' g xs f := by
  obtain ⟨k, ao, cap, h1, h2, h3⟩ := h
  exact ⟨k, ao, cap, (hf.block g h1.lt hg).trans h1, h2.part hb hc hf, h3⟩
theorem Rq.lt {w : World} {g f : Nat} {xs : List Nat} (h : Rq w g xs f) : g < w.heap.size := by obtain ⟨_, _, _, hb, _, _⟩ := h; exact hb.lt
theorem slice_from (k cap : Nat) (ao : Option Addr) (xs : List Nat) (m : Nat) (hm : m ≤ xs.length) (w : World) (hB : Bt w k ao cap xs) :
    ∃ ao2 cap2, (∀ w, (Instr.slice 24 (.slice ao xs.length cap) (some (.int .i64 (m : Int))) none none).run Try.prog w = .ok (.slice ao2 (xs.length - m) cap2) w) ∧ ∀ w', Bt w' k ao cap xs → Bt w' k ao2 cap2 (xs.drop m) := by
  have hl := hB.len
  have ht := hB.top
  unfold maxLen at ht
  by_cases h : cap = m
  · subst h
    refine ⟨ao, 0, fun w => ?_, fun w' h' => h'.dropAll rfl hm⟩
    simp [go_sem, Instr.slice]
    intro h; omega
  · refine ⟨Option.map (fun x => x.add m) ao, cap - m, fun w => ?_, fun w' h' => h'.drop hm⟩
    simp [go_sem, Instr.slice]
    rw [if_pos hm, if_neg h]
theorem part_no8 (n : Nat) (s : Int) (ao : Option Addr) (l cap : Nat) (z ff : Int) : ∀ (i : Nat) (x : Int), (#[.int .u64 (n : Int), .int .i64 s, .slice ao l cap, .int .i64 z, .int .i64 ff] : Array Value)[i]? ≠ some (.int .u8 x) := by
  intro i x h
  match i, h with
  | 0, h => simp at h
  | 1, h => simp at h
  | 2, h => simp at h
  | 3, h => simp at h
  | 4, h => simp at h
  | i + 5, h => simp at h
theorem rtake_fault (g f : Nat) (hf : f ≠ 0) (xs : List Nat) (n z ff : Nat) (s : Int) (W : World) (hR : Rq W g xs f) :
    Calls Try.prog 38 #[.pointer (some ⟨g, 0, none⟩), .agg #[.int .u64 (n : Int), .int .i64 s, .slice none 0 0, .int .i64 (z : Int), .int .i64 (ff : Int)]] W fun e w' => e = .returned (.agg #[.int .u64 0, .int .i64 0, .slice none 0 0, .int .i64 0, .int .i64 0]) ∧ Rq w' g xs f ∧ Frm (fun b => b = g) W w' := by
  have hR0 := hR
  obtain ⟨k, ao, cap, hb, hB, hg⟩ := hR
  have c1 := hb.cell_eq 1 (.int .i64 (f : Int)) rfl
  have q1 : ((f : Int) != 0) = true := by simp; omega
  have q2 : ((f : Int) == 0) = false := by simp; omega
  clear hf
  have hlt := hb.lt
  go_enter Try.func38, Try.ntmps38
  go_wp2
  refine bodyPost_ret (v := .agg #[.int .u64 0, .int .i64 0, .slice none 0 0, .int .i64 0, .int .i64 0]) ?_ rfl ⟨rfl, hR0.below (((Below.refl _ _).alloc (Nat.le_refl _) _).alloc (by simp) _), ((Frm.refl _ _).alloc _).alloc _⟩
  simp [results, Try.results38, go_sem]
set_option maxHeartbeats 1000000 in
theorem rtake_ok (g : Nat) (xs : List Nat) (n z ff : Nat) (s : Int) (hz : z ≤ xs.length) (W : World) (hR : Rq W g xs 0) :
    Calls Try.prog 38 #[.pointer (some ⟨g, 0, none⟩), .agg #[.int .u64 (n : Int), .int .i64 s, .slice none 0 0, .int .i64 (z : Int), .int .i64 (ff : Int)]] W fun e w' => e = .returned (.agg #[.int .u64 (n : Int), .int .i64 s, .slice none 0 0, .int .i64 (z : Int), .int .i64 (ff : Int)]) ∧ Rq w' g (xs.drop z) ff ∧ Frm (fun b => b = g) W w' := by
  obtain ⟨k, ao, cap, hb, hB, hg⟩ := hR
  obtain ⟨ao2, cap2, hsl, hB2⟩ := slice_from k cap ao xs z hz W hB
  have hlt := hb.lt
  have c1 := hb.cell_eq 1 (.int .i64 0) rfl
  have c0 := hb.cell_eq 0 (.slice ao xs.length cap) rfl
  have c2 := hb.free 0
  have c3 := hb.free 1
  have hl : (xs.drop z).length = xs.length - z := List.length_drop
  go_enter Try.func38, Try.ntmps38
  go_wp2
  go_region
  all_goals
    go_wp2
    refine bodyPost_ret (v := .agg #[.int .u64 (n : Int), .int .i64 s, .slice none 0 0, .int .i64 (z : Int), .int .i64 (ff : Int)]) ?_ rfl ⟨rfl, ?_, ?_⟩
    · simp [results, Try.results38, go_sem]
    · have h1 : Rq ((W.setCell ⟨g, 1, none⟩ (.int .i64 (ff : Int))).setCell ⟨g, 0, none⟩ (.slice ao2 (xs.length - z) cap2)) g (xs.drop z) ff := by
        refine ⟨k, ao2, cap2, ?_, hB2 _ ((hB.keep fun _ => Below.heap_setCell _ _ _ _ (fun e => hg e.symm)).keep fun _ => Below.heap_setCell _ _ _ _ (fun e => hg e.symm)), hg⟩
        rw [hl]
        exact (hb.set 1 _).set 0 _
      exact h1.below ((((Below.refl _ _).alloc (Nat.le_refl _) _).alloc (by simp) _).drew)
    · exact ((((Frm.refl (fun b => b = g) W).setCell ⟨g, 1, none⟩ _ (.inl rfl)).setCell ⟨g, 0, none⟩ _ (.inl rfl)).alloc _).alloc _ |>.drew
/-- What take answers, whatever has been wrong before. -/
theorem rtake_any (g f : Nat) (xs : List Nat) (r : Res) (hr : r.raw = []) (hz : r.size ≤ xs.length) (W : World) (hR : Rq W g xs f) :
    Calls Try.prog 38 #[.pointer (some ⟨g, 0, none⟩), rv r none 0] W fun e w' => ∃ q : Res, Hid ((if f = 0 then r else ⟨0, 0, [], 0, f⟩) = q) ∧ (∃ ff : Nat, e = .returned (.agg #[.int .u64 (q.n : Int), .int .i64 q.s, .slice none 0 0, .int .i64 (q.size : Int), .int .i64 (ff : Int)])) ∧ Rq w' g (xs.drop q.size) q.f ∧ Frm (fun b => b = g) W w' := by
  obtain ⟨n, s, raw, z, ff⟩ := r
  simp only at hr hz
  subst hr
  by_cases hf : f = 0
  · subst hf
    exact (rtake_ok g xs n z ff s hz W hR).mono fun _ _ h => ⟨⟨n, s, [], z, ff⟩, Lib.hid (if_pos rfl), ⟨ff, h.1⟩, h.2.1, h.2.2⟩
  · exact (rtake_fault g f hf xs n z ff s W hR).mono fun _ _ h => ⟨⟨0, 0, [], 0, f⟩, Lib.hid (if_neg hf), ⟨0, h.1⟩, h.2.1, h.2.2⟩
theorem field_n (a b c d e : Value) (w : World) : (Instr.field 67 (.agg #[a, b, c, d, e]) 0).run Try.prog w = .ok a w := by kernel_rfl
theorem field_s (a b c d e : Value) (w : World) : (Instr.field 67 (.agg #[a, b, c, d, e]) 1).run Try.prog w = .ok b w := by kernel_rfl
theorem rd1_raw (K : Int) (xs : List Nat) : (rd 1 K xs).raw = [] := by
  have e : rd 1 K xs = if 1 ≤ K ∧ K ≤ 8 then (if xs.length < K.toNat then ⟨0, 0, [], 0, 3⟩ else ⟨val (xs.take K.toNat), 0, [], K.toNat, 0⟩) else ⟨0, 0, [], 0, 0⟩ := rfl
  rw [e]; repeat' split
  all_goals rfl
theorem rd2_raw (S : Int) (xs : List Nat) : (rd 2 S xs).raw = [] := by
  have e : rd 2 S xs = if xs.length < 8 then ⟨0, 0, [], 0, 3⟩ else ⟨0, unzig (val (xs.take 8)), [], 8, 0⟩ := rfl
  rw [e]; split <;> rfl
theorem Rq.bytes {w : World} {g f : Nat} {xs : List Nat} (h : Rq w g xs f) : ∀ x ∈ xs, x < 256 := by obtain ⟨_, _, _, _, hB, _⟩ := h; exact hB.lt
theorem Frm.behind {S : Nat → Prop} {W w w' : World} (hb : Below W.heap.size W w) (hf : Frm S w w') (hS : ∀ k, S k → S k ∨ W.heap.size ≤ k := by intro k h; exact .inl h) : Frm S W w' :=
  (Frm.of_below hb).trans hf hS
theorem one_any (g f : Nat) (xs : List Nat) (W : World) (hR : Rq W g xs f) :
    Calls Try.prog 27 #[.pointer (some ⟨g, 0, none⟩)] W fun e w' => ∃ r : Res, Hid (stepR 1 1 xs f = r) ∧ e = .returned (.int .i64 (r.n : Int)) ∧ (r.n : Int) < 256 ∧ Rq w' g (xs.drop r.size) r.f ∧ Frm (fun b => b = g) W w' := by
  have hR0 := hR
  have hby := hR.bytes
  obtain ⟨k, ao, cap, hb, hB, hg⟩ := hR
  have c0 := hb.cell_eq 0 (.slice ao xs.length cap) rfl
  have cU := refReadUint_any k cap ao xs 1 W hB
  have cT := fun w h => rtake_any g f xs (rd 1 1 xs) (rd1_raw 1 xs) (rd_size 1 1 xs) w h
  have eS : ∀ q, (if f = 0 then rd 1 1 xs else ⟨0, 0, [], 0, f⟩) = q → stepR 1 1 xs f = q ∧ (q.n : Int) < 256 := fun q h => by
    have h1 : stepR 1 1 xs f = q := h
    have h2 := step_byte xs f hby
    rw [h1] at h2
    exact ⟨h1, by omega⟩
  unfold rv at cU cT
  have fN := field_n
  go_enter Try.func27, Try.ntmps27
  go_wp2_with (first
    | (go_at_call 39; refine cU.mono ?_; rintro e w1 ⟨rfl, hb1⟩)
    | (go_at_call 38; refine (cT _ (hR0.below hb1)).mono ?_; rintro e w2 ⟨q, hq, ⟨ff, rfl⟩, hR2, hf2⟩; obtain ⟨hs, hl⟩ := eS _ hq.out; replace hs := Lib.hid hs; clear eS hq))
  go_ret
  exact ⟨q, hs, rfl, hl, hR2, hf2.behind hb1⟩
theorem num_any5 (g f : Nat) (xs : List Nat) (W : World) (hR : Rq W g xs f) :
    Calls Try.prog 28 #[.pointer (some ⟨g, 0, none⟩)] W fun e w' => ∃ r : Res, Hid (stepR 3 0 xs f = r) ∧ e = .returned (.int .u64 (r.n : Int)) ∧ Rq w' g (xs.drop r.size) r.f ∧ Frm (fun b => b = g) W w' := by
  have hR0 := hR
  obtain ⟨k, ao, cap, hb, hB, hg⟩ := hR
  have c0 := hb.cell_eq 0 (.slice ao xs.length cap) rfl
  have cU := refReadNum_any k cap ao xs 0 W hB
  have cT := fun w h => rtake_any g f xs (rd 3 0 xs) rfl (rd_size 3 0 xs) w h
  have eS : ∀ q, (if f = 0 then rd 3 0 xs else ⟨0, 0, [], 0, f⟩) = q → stepR 3 0 xs f = q := fun q h => h
  unfold rv at cU cT
  have fN := field_n
  go_enter Try.func28, Try.ntmps28
  go_wp2_with (first
    | (go_at_call 40; refine cU.mono ?_; rintro e w1 ⟨rfl, hb1⟩)
    | (go_at_call 38; refine (cT _ (hR0.below hb1)).mono ?_; rintro e w2 ⟨q, hq, ⟨ff, rfl⟩, hR2, hf2⟩; have hs := Lib.hid (eS _ hq.out); clear eS hq))
  go_ret
  exact ⟨q, hs, rfl, hR2, hf2.behind hb1⟩
theorem signed_any (g f : Nat) (xs : List Nat) (W : World) (hR : Rq W g xs f) :
    Calls Try.prog 29 #[.pointer (some ⟨g, 0, none⟩)] W fun e w' => ∃ r : Res, Hid (stepR 2 0 xs f = r) ∧ e = .returned (.int .i64 r.s) ∧ Rq w' g (xs.drop r.size) r.f ∧ Frm (fun b => b = g) W w' := by
  have hR0 := hR
  obtain ⟨k, ao, cap, hb, hB, hg⟩ := hR
  have c0 := hb.cell_eq 0 (.slice ao xs.length cap) rfl
  have cU := refReadInt_any k cap ao xs 0 W hB
  have cT := fun w h => rtake_any g f xs (rd 2 0 xs) (rd2_raw 0 xs) (rd_size 2 0 xs) w h
  have eS : ∀ q, (if f = 0 then rd 2 0 xs else ⟨0, 0, [], 0, f⟩) = q → stepR 2 0 xs f = q := fun q h => h
  unfold rv at cU cT
  have fS := field_s
  go_enter Try.func29, Try.ntmps29
  go_wp2_with (first
    | (go_at_call 41; refine cU.mono ?_; rintro e w1 ⟨rfl, hb1⟩)
    | (go_at_call 38; refine (cT _ (hR0.below hb1)).mono ?_; rintro e w2 ⟨q, hq, ⟨ff, rfl⟩, hR2, hf2⟩; have hs := Lib.hid (eS _ hq.out); clear eS hq))
  go_ret
  exact ⟨q, hs, rfl, hR2, hf2.behind hb1⟩
end Go.Proofs.Ytjleebfdbkfgmaa
