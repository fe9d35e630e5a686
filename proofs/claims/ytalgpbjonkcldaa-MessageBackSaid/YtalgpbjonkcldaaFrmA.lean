/-
  The document's All, for every slice of bytes (up to two million).
-/
import Derived.Test.YtalgpbjonkcldaaFrmT
import Derived.Test.YtalgpbjonkcldaaLists
namespace Go.Proofs.Ytalgpbjonkcldaa
open Go.RowKit

theorem infoBs : (Try.prog.info? 24).map (fun i => (i.zero, i.size, i.bytes)) = some (some (Value.slice none 0 0), 1, 24) := by kernel_rfl
theorem infoInt : (Try.prog.info? 3).map (fun i => (i.zero, i.size, i.bytes)) = some (some (Value.int .i64 0), 1, 8) := by kernel_rfl
/-- The cells of a list of numbers. -/
def nv (zs : List Nat) : List Value := zs.map fun (z : Nat) => Value.int .i64 (z : Int)
def AllR (W w' : World) (e : Ending) (k : Nat) (t : List (List Nat) × Nat × Nat) : Prop := ∃ kA aA cA kO aO cO, e = .returned (.tuple #[.slice aA t.1.length cA, .slice aO t.1.length cO, .int .i64 (t.2.1 : Int), .int .i64 (t.2.2 : Int)]) ∧
  OwG 3 1 w' kA aA cA t.1.length (nv (ats 0 t.1)) ∧ Lo (· = k) w' kO aO cO t.1 ∧ Below W.heap.size W w' ∧ (∀ q, kA = some q → W.heap.size ≤ q) ∧ (∀ q, kO = some q → W.heap.size ≤ q)
/-- Behind the append to the places: the payloads stand. -/
theorem first_app {W w1 w2 : World} {k cap' : Nat} {ao' : Option Addr} {kA kO : Option Nat} {aO : Option Addr} {cO : Nat} {pre : List (List Nat)} {p : List Nat} {o : Obj} (hkl : k < W.heap.size) (hkA : ∀ q, kA = some q → W.heap.size ≤ q ∧ kO ≠ some q) (hO : Lo (· = k) w1 kO aO cO pre) (hB : Bt w1 k ao' cap' p)
    (hf : Frm (fun b => kA = some b) (w1.alloc o) w2) : Lo (· = k) w2 kO aO cO pre ∧ Bt w2 k ao' cap' p := by
  have hal : Below w1.heap.size w1 (w1.alloc o) := (Below.refl _ w1).alloc (Nat.le_refl _) _
  refine ⟨(hO.below hal).frm hf (fun q hq hs => (hkA q hs).2 hq) (fun q _ _ hq hs => ?_), (hB.below hal).frm hf (fun _ hs => ?_)⟩
  · have := (hkA q hs).1
    rw [hq] at this
    omega
  · have := (hkA k hs).1
    omega
/-- Behind both appends. -/
theorem second_app {W wr w1 w2 w3 : World} {k cap' n cA' cO' : Nat} {ao' aA' aO' : Option Addr} {kA kO kA' kO' : Option Nat} {aO : Option Addr} {cO : Nat} {pre : List (List Nat)} {p : List Nat} {o1 o2 : Obj} {na cs : List Value} (hkl : k < W.heap.size)
    (hbel : Below W.heap.size W wr) (hb1 : Below wr.heap.size wr w1) (hO : Lo (· = k) w1 kO aO cO pre) (hA' : OwG 3 1 w2 kA' aA' cA' n na) (hf2 : Frm (fun b => kA = some b) (w1.alloc o1) w2) (hm2 : Moved (w1.alloc o1) kA kA')
    (hB2 : Bt w2 k ao' cap' p) (hO2 : Els (· = k) w2 kO pre cs) (hO' : OwG 24 1 w3 kO' aO' cO' (pre.length + 1) (cs ++ [.slice ao' p.length cap'])) (hf3 : Frm (fun b => kO = some b) (w2.alloc o2) w3) (hm3 : Moved (w2.alloc o2) kO kO')
    (hkA : ∀ q, kA = some q → W.heap.size ≤ q ∧ kO ≠ some q) (hkO : ∀ q, kO = some q → W.heap.size ≤ q) :
    OwG 3 1 w3 kA' aA' cA' n na ∧ Lo (· = k) w3 kO' aO' cO' (pre ++ [p]) ∧ Below W.heap.size W w3 ∧ (∀ q, kA' = some q → W.heap.size ≤ q ∧ kO' ≠ some q) ∧ (∀ q, kO' = some q → W.heap.size ≤ q) := by
  have s1 := hbel.size
  have s2 := hb1.size
  have s3 : w1.heap.size + 1 ≤ w2.heap.size := by have := hf2.size; simpa using this
  have s4 : w2.heap.size + 1 ≤ w3.heap.size := by have := hf3.size; simpa using this
  have hal2 : Below w2.heap.size w2 (w2.alloc o2) := (Below.refl _ w2).alloc (Nat.le_refl _) _
  have hOlt : ∀ q, kO = some q → q < w1.heap.size := fun q e => by subst e; exact hO.lt
  have hkA' : ∀ q, kA' = some q → W.heap.size ≤ q ∧ kO ≠ some q := by
    intro q hq
    rcases hm2 with h | h | ⟨q2, h, h2⟩
    · rw [h] at hq; cases hq
    · rw [h] at hq; exact hkA q hq
    · rw [h] at hq
      cases hq
      have h2' : w1.heap.size + 1 ≤ q := by simpa using h2
      exact ⟨by omega, fun e => by have := hOlt _ e; omega⟩
  have hAlt : ∀ q, kA' = some q → q < w2.heap.size := fun q e => by subst e; exact hA'.lt
  have hkO' : ∀ q, kO' = some q → W.heap.size ≤ q := by
    intro q hq
    rcases hm3 with h | h | ⟨q2, h, h2⟩
    · rw [h] at hq; cases hq
    · rw [h] at hq; exact hkO q hq
    · rw [h] at hq
      cases hq
      have h2' : w2.heap.size + 1 ≤ q := by simpa using h2
      omega
  have hE : Els (· = k) (w2.alloc o2) kO (pre ++ [p]) (cs ++ [.slice ao' p.length cap']) := by
    refine Els.append (hO2.frm (Frm.of_below (S := fun _ => False) hal2) (fun _ _ _ _ f => f)) (Els.single (hB2.alloc _) fun _ => ⟨fun e => ?_, rfl⟩)
    have := hkO k e
    omega
  refine ⟨(hA'.below hal2).frm hf3 (fun q hq hs => (hkA' q hq).2 hs), ⟨_, by rw [List.length_append]; exact hO', hE.moved hf3 hm3⟩, ?_, ?_, hkO'⟩
  · have b1 : Below W.heap.size W (w1.alloc o1) := (hbel.trans (hb1.mono s1)).alloc (by omega) _
    have b2 : Below W.heap.size W (w2.alloc o2) := (b1.trans (hf2.below b1.size (fun q hq => (hkA q hq).1))).alloc (by omega) _
    exact b2.trans (hf3.below b2.size hkO)
  · intro q hq
    refine ⟨(hkA' q hq).1, fun e => ?_⟩
    rcases hm3 with h | h | ⟨q2, h, h2⟩
    · rw [h] at e; cases e
    · rw [h] at e; exact (hkA' q hq).2 e
    · rw [h] at e
      cases e
      have h2' : w2.heap.size + 1 ≤ q := by simpa using h2
      have := hAlt q hq
      omega
theorem nv_snoc (l : List (List Nat)) (p : List Nat) (i : Nat) (h : i = tot l) : nv (ats 0 l) ++ [.int .i64 (i : Int)] = nv (ats 0 (l ++ [p])) := by
  rw [ats_snoc, Nat.zero_add, h]
  simp [nv]
theorem all_any (k cap : Nat) (ao : Option Addr) (xs : List Nat) (hx : xs.length ≤ 2000000) (W : World) (hB : Bt W k ao cap xs) :
    Calls Try.prog 39 #[.slice ao xs.length cap] W fun e w' => AllR W w' e k (allF xs) := by
  have hl := hB.len
  have hm := hB.top
  unfold maxLen at hm
  obtain ⟨i1, hi1, hz1, hs1, hb1⟩ := info_parts infoInt
  obtain ⟨i2, hi2, hz2, hs2, hb2⟩ := info_parts infoBs
  go_enter Try.func39, Try.ntmps39
  go_wp2_with fail
  go_loopg [6, 7, 8] xs.length (fun j p6 p7 p8 wr => ∃ (i : Nat) (pre : List (List Nat)) (kA : Option Nat) (aA : Option Addr) (cA : Nat) (kO : Option Nat) (aO : Option Addr) (cO : Nat), i + j = xs.length ∧ p6 = .slice aA pre.length cA ∧ p7 = .slice aO pre.length cO ∧ p8 = .int .i64 (i : Int) ∧ pre.length ≤ i ∧
    OwG 3 1 wr kA aA cA pre.length (nv (ats 0 pre)) ∧ Lo (· = k) wr kO aO cO pre ∧ Below W.heap.size W wr ∧ Hid (i = tot pre) ∧ Hid (allF xs = (pre ++ (allF (xs.drop i)).1, i + (allF (xs.drop i)).2.1, (allF (xs.drop i)).2.2)) ∧ Hid (∀ q, kA = some q → W.heap.size ≤ q ∧ kO ≠ some q) ∧ Hid (∀ q, kO = some q → W.heap.size ≤ q))
  case atStart => exact ⟨0, [], none, none, 0, none, none, 0, by omega, rfl, rfl, rfl, by simp, OwG.nil _ _ _, Lo.nil _ _, Below.refl _ _, rfl, by simp [Hid], (by intro q e; cases e), (by intro q e; cases e)⟩
  case round =>
    obtain ⟨i, pre, kA, aA, cA, kO, aO, cO, hij, rfl, rfl, rfl, hni, hA, hO, hbel, htot, hall, hkA, hkO⟩ := hrel
    by_cases hj : i < xs.length
    · obtain ⟨off, rfl, -⟩ := hB.open (by rintro rfl; simp at hj)
      have hBi := Bt.drop (n := i) (hB.below (hbel.mono (Nat.le_refl _))) (by omega)
      have hli : (xs.drop i).length = xs.length - i := List.length_drop
      have cT := rtake_any k (cap - i) _ (xs.drop i) wr hBi
      rw [hli] at cT
      simp only [Option.map_some, Addr.add_mid] at cT
      have hci : ¬ cap = i := by omega
      rcases takeF_cases (xs.drop i) with h0 | h0 | ⟨p, h0, hp1, hp2⟩
      · have hE := run_stop hj h0 (by decide) hall.out
        rw [h0] at cT
        clear hall h0 hBi hli
        go_wp2_with (go_at_call 52; refine cT.mono ?_; rintro e w1 ⟨ao', cap', rfl, hB1, hb1'⟩)
        refine bodyPost_ret (v := .tuple #[.slice aA pre.length cA, .slice aO pre.length cO, .int .i64 (i : Int), .int .i64 3]) (by simp [results, Try.results39, go_sem]) rfl ?_
        rw [hE]
        exact ⟨kA, aA, cA, kO, aO, cO, rfl, hA.below hb1', hO.below hb1', hbel.trans (hb1'.mono hbel.size), fun q e => (hkA.out q e).1, hkO.out⟩
      · have hE := run_stop hj h0 (by decide) hall.out
        rw [h0] at cT
        clear hall h0 hBi hli
        go_wp2_with (go_at_call 52; refine cT.mono ?_; rintro e w1 ⟨ao', cap', rfl, hB1, hb1'⟩)
        refine bodyPost_ret (v := .tuple #[.slice aA pre.length cA, .slice aO pre.length cO, .int .i64 (i : Int), .int .i64 4]) (by simp [results, Try.results39, go_sem]) rfl ?_
        rw [hE]
        exact ⟨kA, aA, cA, kO, aO, cO, rfl, hA.below hb1', hO.below hb1', hbel.trans (hb1'.mono hbel.size), fun q e => (hkA.out q e).1, hkO.out⟩
      · have hE : Hid _ := run_step hj h0 hall.out
        have hp3 : i + (2 + p.length) ≤ xs.length := by omega
        have hkl : k < W.heap.size := hB.size (by rintro rfl; simp at hj)
        have hsz := hbel.size
        rw [h0] at cT
        clear hall h0 hBi hli
        have hpl : (pre ++ [p]).length = pre.length + 1 := by simp
        go_wp2_with (first
          | (go_at_call 52; refine cT.mono ?_; rintro e w1 ⟨ao', cap', rfl, hB1, hb1'⟩; replace hA := hA.below hb1'; replace hO := hO.below hb1'; have hz1' := hb1'.size)
          | (at_builtin; refine wpList_appG rfl (.tmp 30) (.tmp 32) 71 3 i1 _ 1 8 Try.underlying71 hi1 hz1 hs1 hb1 rfl (by decide) rfl (hA.alloc _) (SrcG.one1 _ _ rfl _) rfl rfl (by omega) (by omega) ?_; intro aA' cA' kA' w2 hA' hf2 hm2; obtain ⟨hO2, hB2⟩ := first_app hkl hkA.out hO hB1 hf2; obtain ⟨cs, hO2a, hO2b⟩ := hO2)
          | (at_builtin; refine wpList_appG rfl (.tmp 34) (.tmp 36) 72 24 i2 _ 1 24 Try.underlying72 hi2 hz2 hs2 hb2 rfl (by decide) rfl (hO2a.alloc _) (SrcG.one1 _ _ rfl _) rfl rfl (by omega) (by omega) ?_; intro aO' cO' kO' w3 hO' hf3 hm3))
        go_roundg (xs.length - (i + (2 + p.length)))
        case measure => omega
        case rel =>
          obtain ⟨r1, r2, r3, r4, r5⟩ := second_app hkl hbel hb1' hO hA' hf2 hm2 hB2 hO2b hO' hf3 hm3 hkA.out hkO.out
          rw [nv_snoc pre p i htot.out, ← hpl] at r1
          refine ⟨i + (2 + p.length), pre ++ [p], kA', aA', cA', kO', aO', cO', by omega, by rw [hpl], by rw [hpl], by go_num, by omega, r1, r2, r3, ?_, hE, r4, r5⟩
          show _ = _
          rw [tot_snoc, ← htot.out]
    · have hE := run_end (by omega) hall.out
      clear hall
      go_wp2_with fail
      refine bodyPost_ret (v := .tuple #[.slice aA pre.length cA, .slice aO pre.length cO, .int .i64 (i : Int), .int .i64 0]) (by simp [results, Try.results39, go_sem]) rfl ?_
      rw [hE]
      exact ⟨kA, aA, cA, kO, aO, cO, rfl, hA, hO, hbel, fun q e => (hkA.out q e).1, hkO.out⟩
end Go.Proofs.Ytalgpbjonkcldaa
