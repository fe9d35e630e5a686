/-
  The contract of the document's All of messages; what both Alls keep.
-/
import Derived.Test.YtalgpbjonkcldaaMsgD
import Derived.Test.YtalgpbjonkcldaaFrmA
namespace Go.Proofs.Ytalgpbjonkcldaa
open Go.RowKit
theorem infoMsg : (Try.prog.info? 23).map (fun i => (i.zero, i.size, i.bytes)) = some (some (vMsg Msg.zero), 9, 72) := by kernel_rfl
/-- Messages that one grows: they own their row. -/
structure Om (V wr : World) (l : List Msg) (ko : Option Nat) (oc : Nat) (oo : Option Addr) : Prop where
  ow : OwG 23 9 wr ko oo oc l.length (l.flatMap fun m => (cMsg m).toList)
  own : ∀ k, ko = some k → V.heap.size ≤ k
  bel : Below V.heap.size V wr
theorem Om.start (V : World) : Om V V [] none 0 none := ⟨OwG.nil _ _ _, fun k h => (by cases h), Below.refl _ _⟩
theorem Om.call {V wr w2 : World} {l : List Msg} {ko : Option Nat} {oc : Nat} {oo : Option Addr} (h : Om V wr l ko oc oo) (hb : Below wr.heap.size wr w2) : Om V w2 l ko oc oo :=
  ⟨h.ow.below hb, h.own, h.bel.trans (hb.mono h.bel.size)⟩
theorem Om.alloc {V wr : World} {l : List Msg} {ko : Option Nat} {oc : Nat} {oo : Option Addr} (h : Om V wr l ko oc oo) (o : Obj) : Om V (wr.alloc o) l ko oc oo := h.call ((Below.refl _ wr).alloc (Nat.le_refl _) o)
theorem Om.app {V w2 w3 : World} {l : List Msg} {ko ko' : Option Nat} {oc oc' : Nat} {oo oo' : Option Addr} {m : Msg} (h : Om V w2 l ko oc oo)
    (ho : OwG 23 9 w3 ko' oo' oc' (l.length + 1) ((l.flatMap fun m => (cMsg m).toList) ++ (cMsg m).toList)) (hf : Frm (fun b => ko = some b) w2 w3) (hm : Moved w2 ko ko') : Om V w3 (l ++ [m]) ko' oc' oo' := by
  have hs := h.bel.size
  refine ⟨?_, ?_, h.bel.trans (hf.below hs h.own)⟩
  · rw [List.length_append, List.flatMap_append]
    simpa using ho
  · intro k hk
    rcases hm with h1 | h1 | ⟨k2, h1, h2⟩
    · rw [h1] at hk; cases hk
    · rw [h1] at hk; exact h.own k hk
    · rw [h1] at hk; cases hk; omega
theorem SrcG.msg {w : World} {n : Nat} {T : TypeId} {m : Msg} (h : Blk w n T (cMsg m)) : SrcG 9 w (some ⟨n, 0, none⟩) 1 1 (cMsg m).toList := by
  refine ⟨rfl, by simp; exact ⟨rfl, rfl, rfl, rfl, rfl, rfl, rfl, rfl, rfl⟩, .inr ⟨_, rfl, fun j u hj => ?_⟩⟩
  rw [Addr.add_mid, Nat.zero_add]
  exact h.cell_eq j u (by simpa using hj)
theorem all_bad {b p : List Nat} {q : Nat} (hp : (allF b).1[q]? = some p) (h : (decLs ((allF b).1.take q)).2 = 0) (hb : (decM p).2 ≠ 0) : allM b = ([], (decM p).2) := by
  have e : (allF b).1 = ((allF b).1.take q ++ [p]) ++ (allF b).1.drop (q + 1) := by
    have h1 : (allF b).1.take (q + 1) = (allF b).1.take q ++ [p] := by rw [List.take_add_one, hp]; rfl
    rw [← h1, List.take_append_drop]
  have h2 := decLs_snoc_bad _ p h hb
  have h3 : (decLs ((allF b).1.take q ++ [p])).2 ≠ 0 := by rw [h2]; simp only; exact hb
  have h4 := decLs_stop _ ((allF b).1.drop (q + 1)) h3
  rw [← e, h2] at h4
  simp only at h4
  unfold allM
  rw [h4]
  simp only
  rw [if_pos hb]
theorem all_next {b p : List Nat} {q : Nat} {l : List Msg} (hp : (allF b).1[q]? = some p) (h : decLs ((allF b).1.take q) = (l, 0)) (hb : (decM p).2 = 0) : decLs ((allF b).1.take (q + 1)) = (l ++ [(decM p).1], 0) := by
  have h1 : (allF b).1.take (q + 1) = (allF b).1.take q ++ [p] := by rw [List.take_add_one, hp]; rfl
  rw [h1, decLs_snoc_ok _ p (by rw [h]) hb, h]
theorem all_fault {b : List Nat} {l : List Msg} (h : decLs (allF b).1 = (l, 0)) (hf : (allF b).2.2 ≠ 0) : allM b = ([], (allF b).2.2) := by
  unfold allM
  rw [h]
  exact (if_neg (fun h => h rfl)).trans (if_pos hf)
theorem all_fine {b : List Nat} {l : List Msg} (h : decLs (allF b).1 = (l, 0)) (hf : (allF b).2.2 = 0) : allM b = (l, 0) := by
  unfold allM
  rw [h]
  exact (if_neg (fun h => h rfl)).trans (if_neg (fun h => h hf))
theorem decLs_len {ps : List (List Nat)} {l : List Msg} (h : decLs ps = (l, 0)) : l.length = ps.length := by
  induction ps generalizing l with
  | nil => cases h; rfl
  | cons p t ih =>
    obtain ⟨hp, ht⟩ := decLs_ok (p := p) (t := t) (by rw [h])
    rw [decLs_cons_ok hp ht] at h
    cases h
    have e : decLs t = ((decLs t).1, 0) := Prod.ext rfl ht
    simp [ih e]
/-- What All tells. -/
def AllM (W w' : World) (e : Ending) (b : List Nat) : Prop := ∃ ao cap, e = .returned (.tuple #[.slice ao (allM b).1.length cap, .int .i64 ((allM b).2 : Int)]) ∧ Msgs w' ao cap (allM b).1 ∧ Below W.heap.size W w'
theorem allM_none {W w' : World} {b : List Nat} {f : Nat} (h : allM b = ([], f)) (hb : Below W.heap.size W w') : AllM W w' (.returned (.tuple #[.slice none 0 0, .int .i64 (f : Int)])) b := by
  unfold AllM
  rw [h]
  exact ⟨none, 0, rfl, Msgs.nil _, hb⟩
theorem allM_some {W w' : World} {b : List Nat} {l : List Msg} {ao : Option Addr} {cap : Nat} (h : allM b = (l, 0)) (hm : Msgs w' ao cap l) (hb : Below W.heap.size W w') : AllM W w' (.returned (.tuple #[.slice ao l.length cap, .int .i64 0])) b := by
  unfold AllM
  rw [h]
  exact ⟨ao, cap, rfl, hm, hb⟩
set_option maxRecDepth 8000 in
set_option maxHeartbeats 2000000 in
theorem rall_any (k cap : Nat) (ao : Option Addr) (b : List Nat) (hx : b.length ≤ 2000000) (W : World) (hB : Bt W k ao cap b) :
    Calls Try.prog 19 #[.slice ao b.length cap] W fun e w' => AllM W w' e b := by
  obtain ⟨i1, hi1, hz1, hs1, hb1⟩ := info_parts infoMsg
  have cA := all_any k cap ao b hx W hB
  have hps : 2 * (allF b).1.length ≤ b.length := by
    have h1 := length_le_tot (allF b).1
    have h2 := (allF_size b).1
    rw [tot_allF] at h1
    omega
  go_enter Try.func19, Try.ntmps19
  go_wp2_with (go_at_call 39; refine cA.mono ?_; rintro e w1 ⟨kA, aA, cA', kO, aO, cO, rfl, -, hO, hbel, -, -⟩; have hL := hO.lb; clear hO cA)
  go_loopg [4, 9] (allF b).1.length (fun j p4 p9 wr => ∃ (q : Nat) (l : List Msg) (ko : Option Nat) (oc : Nat) (oo : Option Addr), q + j = (allF b).1.length ∧ p9 = .int .i64 (q : Int) ∧ p4 = .slice oo l.length oc ∧ Om w1 wr l ko oc oo ∧ Hid (decLs ((allF b).1.take q) = (l, 0)))
  case atStart => exact ⟨0, [], none, 0, none, by omega, rfl, rfl, Om.start _, rfl⟩
  case round =>
    obtain ⟨q, l, ko, oc, oo, hq, rfl, rfl, hM, hD⟩ := hrel
    have hll : l.length ≤ 1000000 := by have h := decLs_len hD.out; rw [List.length_take] at h; omega
    by_cases hj : q < (allF b).1.length
    · obtain ⟨p, hp⟩ : ∃ p, (allF b).1[q]? = some p := ⟨(allF b).1[q], List.getElem?_eq_getElem hj⟩
      obtain ⟨bb, off, kp, eo, ec, rfl, hg⟩ := hL.get hp
      obtain ⟨hP, cp⟩ := hg wr (hM.bel.mono (Nat.le_refl _))
      have cD := refDecodeM_any kp ec eo p wr hP
      have tBad := fun e : (decM p).2 ≠ 0 => all_bad hp (by rw [hD.out]) e
      have tNext := fun e : (decM p).2 = 0 => all_next hp hD.out e
      clear hg hp hD hL hP
      generalize decM p = d at cD tBad tNext
      obtain ⟨m, f⟩ := d
      simp only at cD tBad tNext
      by_cases hf : f = 0
      · subst hf
        have tN := tNext rfl
        clear tNext tBad
        replace tN := Lib.hid tN
        have hMm := fun (w2 : World) (h : Below wr.heap.size wr w2) => hM.call h
        have hXX := fun (w2 w3 : World) (ko' : Option Nat) (oc' : Nat) (oo' : Option Addr) (h : Om w1 w2 l ko oc oo) => h.app (w3 := w3) (ko' := ko') (oc' := oc') (oo' := oo') (m := m)
        obtain ⟨kind, sym, seq, tick, id, other, price, qty, code⟩ := m
        go_wp2_with (first
          | (go_at_call 15; refine cD.mono ?_; rintro e w2 ⟨rfl, hb2⟩; have hM2 := (hMm _ hb2).alloc (.cells (cMsg ⟨kind, sym, seq, tick, id, other, price, qty, code⟩) 23); clear hMm hM hb2 cD)
          | (at_builtin; refine wpList_appG rfl (.tmp 36) (.tmp 38) 35 23 i1 _ 9 72 Try.underlying35 hi1 hz1 hs1 hb1 rfl (by decide) rfl (hM2.alloc _).ow (SrcG.msg (m := ⟨kind, sym, seq, tick, id, other, price, qty, code⟩) (Blk.new' (by simp))) rfl rfl (by omega) (by omega) ?_; intro oo' oc' ko' w3 ho hf3 hm3; have hM3 := hXX _ _ _ _ _ (hM2.alloc _) ho hf3 hm3; clear hXX hM2 ho hf3 hm3))
        go_roundg ((allF b).1.length - (q + 1))
        case measure => omega
        case rel => exact ⟨q + 1, _, ko', oc', oo', by omega, by go_num, by rw [List.length_append]; rfl, hM3, tN⟩
      · have tB := tBad hf
        clear tNext tBad
        have hMm := fun (w2 : World) (h : Below wr.heap.size wr w2) => hM.call h
        obtain ⟨kind, sym, seq, tick, id, other, price, qty, code⟩ := m
        have q1 : ((f : Int) != 0) = true := by simp; omega
        have q2 : ((f : Int) == 0) = false := by simp; omega
        clear hf
        go_wp2_with (go_at_call 15; refine cD.mono ?_; rintro e w2 ⟨rfl, hb2⟩; have hM2 := (hMm _ hb2).alloc (.cells (cMsg ⟨kind, sym, seq, tick, id, other, price, qty, code⟩) 23); clear hMm hM hb2 cD)
        go_ret2
        exact allM_none tB (hbel.trans (hM2.bel.mono hbel.size))
    · have hqe : q = (allF b).1.length := by omega
      have hD2 := hD.out
      rw [hqe, List.take_length] at hD2
      clear hL hD
      by_cases hf : (allF b).2.2 = 0
      · have hA := all_fine hD2 hf
        have q1 : ((((allF b).2.2 : Nat) : Int) != 0) = false := by rw [hf]; rfl
        clear hD2 hf
        go_wp2_with fail
        go_ret2
        exact allM_some hA (Msgs.of_own hM.ow) (hbel.trans (hM.bel.mono hbel.size))
      · have hA := all_fault hD2 hf
        have q1 : ((((allF b).2.2 : Nat) : Int) != 0) = true := by simp; omega
        clear hD2 hf
        go_wp2_with fail
        go_ret2
        exact allM_none hA (hbel.trans (hM.bel.mono hbel.size))
end Go.Proofs.Ytalgpbjonkcldaa
