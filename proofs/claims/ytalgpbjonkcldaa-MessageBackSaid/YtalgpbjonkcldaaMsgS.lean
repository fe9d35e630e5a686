/-
  The contracts of package message's framed and Stream, and of the document's Stream.
-/
import Derived.Test.YtalgpbjonkcldaaMsgE
import Derived.Test.YtalgpbjonkcldaaFrmA
namespace Go.Proofs.Ytalgpbjonkcldaa
open Go.RowKit
theorem encMB_right {m : Msg} (h : rightM m = true) : encMB m = formM m := if_pos h
theorem encMF_right {m : Msg} (h : rightM m = true) : encMF m = 0 := if_pos h
theorem encMB_wrong {m : Msg} (h : rightM m = false) : encMB m = [] := if_neg (by rw [h]; decide)
theorem encMF_wrong {m : Msg} (h : rightM m = false) : encMF m = 1 := if_neg (by rw [h]; decide)
theorem framed_right (m : Msg) (hf : m.Fit) (hr : rightM m = true) (W : World) : Calls Try.prog 35 #[vMsg m] W fun e w' => Coded W w' e (putF (formM m)) 0 := by
  have cE := fun w => mencode_any m hf w
  rw [encMB_right hr, encMF_right hr] at cE
  have hl := formM_len m ((rightM_iff m).1 hr)
  have cP := fun k cap ao w (hB : Bt w k ao cap (formM m)) => fput_ok k cap ao (formM m) (by omega) w hB
  clear hl hr hf
  generalize putF (formM m) = Y at cP ⊢
  generalize formM m = X at cE cP
  have hb0 := fun o => Below.al (Below.refl W.heap.size W) o
  obtain ⟨kind, sym, seq, tick, id, other, price, qty, code⟩ := m
  go_enter Try.func35, Try.ntmps35
  go_wp2_with (first
    | (go_at_call 7; refine (cE _).mono ?_; rintro e w1 ⟨ao, cap, k, rfl, hX, hb1⟩)
    | (go_at_call 48; refine (cP _ _ _ _ hX).mono ?_; rintro e w2 ⟨ao2, cap2, k2, rfl, hY, hb2, hk2⟩))
  go_ret2
  have h1 := (hb0 (.cells (cMsg ⟨kind, sym, seq, tick, id, other, price, qty, code⟩) 23)).trans (hb1.mono (by simp))
  exact ⟨ao2, cap2, k2, rfl, hY, h1.trans (hb2.mono h1.size)⟩
theorem framed_wrong (m : Msg) (hf : m.Fit) (hr : rightM m = false) (W : World) : Calls Try.prog 35 #[vMsg m] W fun e w' => Coded W w' e [] 1 := by
  have cE := fun w => mencode_any m hf w
  rw [encMB_wrong hr, encMF_wrong hr] at cE
  clear hr hf
  have hb0 := fun o => Below.al (Below.refl W.heap.size W) o
  obtain ⟨kind, sym, seq, tick, id, other, price, qty, code⟩ := m
  go_enter Try.func35, Try.ntmps35
  go_wp2_with (go_at_call 7; refine (cE _).mono ?_; rintro e w1 ⟨ao, cap, k, rfl, hX, hb1⟩)
  go_ret2
  have h1 := (hb0 (.cells (cMsg ⟨kind, sym, seq, tick, id, other, price, qty, code⟩) 23)).trans (hb1.mono (by simp))
  exact ⟨none, 0, 0, rfl, Bt.nil _ _, h1⟩
theorem strF_wrong {l : List Msg} {q : Nat} {m : Msg} (hm : l[q]? = some m) (hr : rightM m = false) : strF l = ([], 1) := by
  unfold strF
  rw [if_neg]
  intro h
  have := List.all_eq_true.1 h m (List.mem_of_getElem? hm)
  rw [hr] at this
  cases this
theorem strF_right {l : List Msg} (h : l.all rightM = true) : strF l = (strM l, 0) := if_pos h
theorem all_snoc {l : List Msg} {q : Nat} {m : Msg} (hm : l[q]? = some m) (h : (l.take q).all rightM = true) (hr : rightM m = true) : (l.take (q + 1)).all rightM = true ∧ strM (l.take (q + 1)) = strM (l.take q) ++ putF (formM m) := by
  have ht : l.take (q + 1) = l.take q ++ [m] := by rw [List.take_add_one, hm]; rfl
  rw [ht]
  refine ⟨?_, strM_snoc _ _⟩
  rw [List.all_append, h]
  simp [hr]
/-- Where a stream's loop stands: q messages are there. -/
structure Sw (W wr : World) (l : List Msg) (q : Nat) (k cap : Nat) (ao : Option Addr) (xs : List Nat) : Prop where
  ow : Ow wr k ao cap xs
  own : W.heap.size ≤ k
  bel : Below W.heap.size W wr
  all : (l.take q).all rightM = true
  eq : xs = strM (l.take q)
theorem Sw.start (W : World) (l : List Msg) : Sw W W l 0 W.heap.size 0 none [] := ⟨Ow.nil _ _, Nat.le_refl _, Below.refl _ _, by simp, by simp [strM_nil]⟩
theorem Sw.call {W wr w2 : World} {l : List Msg} {q k cap : Nat} {ao : Option Addr} {xs : List Nat} (h : Sw W wr l q k cap ao xs) (hb : Below wr.heap.size wr w2) : Sw W w2 l q k cap ao xs :=
  ⟨h.ow.below hb, h.own, h.bel.trans (hb.mono h.bel.size), h.all, h.eq⟩
theorem Sw.app {W w2 w3 : World} {l : List Msg} {q k k2 cap cap2 : Nat} {ao ao2 : Option Addr} {xs : List Nat} {m : Msg} (h : Sw W w2 l q k cap ao xs) (hm : l[q]? = some m) (hr : rightM m = true)
    (ho : Ow w3 k2 ao2 cap2 (xs ++ putF (formM m))) (hf : Frm (fun b => b = k) w2 w3) (hk : k2 = k ∨ w2.heap.size ≤ k2) : Sw W w3 l (q + 1) k2 cap2 ao2 (xs ++ putF (formM m)) := by
  obtain ⟨e1, e2⟩ := all_snoc hm h.all hr
  have hs := h.bel.size
  have ho' := h.own
  exact ⟨ho, by omega, h.bel.trans (hf.below hs (by rintro b rfl; exact ho')), e1, by rw [e2, h.eq]⟩
theorem Sw.len {W w2 : World} {l : List Msg} {q k cap : Nat} {ao : Option Addr} {xs : List Nat} (h : Sw W w2 l q k cap ao xs) (hl : l.length ≤ 10000) : xs.length ≤ 550000 := by
  have := strM_len (l.take q) (fun m hm => (rightM_iff m).1 (List.all_eq_true.1 h.all m hm))
  rw [← h.eq] at this
  have h2 : (l.take q).length ≤ l.length := by rw [List.length_take]; omega
  omega
theorem Sw.coded {W w2 : World} {l : List Msg} {q k cap : Nat} {ao : Option Addr} {xs : List Nat} (h : Sw W w2 l q k cap ao xs) (hq : q = l.length) : Coded W w2 (.returned (.tuple #[.slice ao xs.length cap, .int .i64 0])) (strF l).1 (strF l).2 := by
  subst hq
  have ha := h.all
  have he := h.eq
  rw [List.take_length] at ha he
  rw [strF_right ha, ← he]
  exact ⟨ao, cap, k, rfl, h.ow.bt, h.bel⟩
theorem coded_wrong {W w2 : World} {l : List Msg} (h : strF l = ([], 1)) (hb : Below W.heap.size W w2) : Coded W w2 (.returned (.tuple #[.slice none 0 0, .int .i64 1])) (strF l).1 (strF l).2 := by
  rw [h]
  exact ⟨none, 0, 0, rfl, Bt.nil _ _, hb⟩
set_option maxRecDepth 8000 in
set_option maxHeartbeats 2000000 in
theorem stream_any (cap : Nat) (ao : Option Addr) (l : List Msg) (hl : l.length ≤ 10000) (hF : ∀ m ∈ l, m.Fit) (W : World) (hB : Msgs W ao cap l) :
    Calls Try.prog 16 #[.slice ao l.length cap] W fun e w' => Coded W w' e (strF l).1 (strF l).2 := by
  go_enter Try.func16, Try.ntmps16
  go_wp2_with fail
  go_loopg [4, 11] l.length (fun j p4 p11 wr => ∃ (q k sc : Nat) (so : Option Addr) (xs : List Nat), q + j = l.length ∧ p11 = .int .i64 (q : Int) ∧ p4 = .slice so xs.length sc ∧ Sw W wr l q k sc so xs)
  case atStart => exact ⟨0, W.heap.size, 0, none, [], by omega, rfl, rfl, Sw.start W l⟩
  case round =>
    obtain ⟨q, k, sc, so, xs, hq, rfl, rfl, hS⟩ := hrel
    by_cases hj : q < l.length
    · obtain ⟨m, hm⟩ : ∃ m, l[q]? = some m := ⟨l[q], List.getElem?_eq_getElem hj⟩
      have hfm := hF m (List.mem_of_getElem? hm)
      obtain ⟨b, off, rfl, x0, x1, x2, x3, x4, x5, x6, x7, x8⟩ := (hB.below (hS.bel.mono (Nat.le_refl _))).get hm
      have hxl := hS.len hl
      replace x0 : wr.cell? ⟨b, off + q * 9, none⟩ = some (.int .i64 m.kind) := x0
      cases hr : rightM m with
      | true =>
        have cF := fun w => framed_right m hfm hr w
        have hA := fun (w2 w3 : World) (k2 cap2 : Nat) (ao2 : Option Addr) (h : Sw W w2 l q k sc so xs) => h.app (w3 := w3) (k2 := k2) (cap2 := cap2) (ao2 := ao2) hm hr
        have hyl : (putF (formM m)).length ≤ 100 := by have := formM_len m ((rightM_iff m).1 hr); rw [putF_length]; omega
        clear hm hr hfm hF hB
        generalize putF (formM m) = Y at cF hA hyl
        have hSw := fun (w2 : World) (o : Obj) (h : Below (wr.alloc o).heap.size (wr.alloc o) w2) => hS.call ((Below.al (Below.refl _ wr) o).trans (h.mono (by simp)))
        obtain ⟨kind, sym, seq, tick, id, other, price, qty, code⟩ := m
        go_wp2_with (first
          | (go_at_call 35; refine (cF _).mono ?_; rintro e w2 ⟨ao1, cap1, k1, rfl, hX, hb2⟩; have hS2 := hSw _ _ hb2; clear hSw hS hb2)
          | (at_builtin; refine wpList_app rfl (.tmp 23) (.tmp 24) rfl hS2.ow hX rfl rfl rfl rfl (by omega) ?_; intro ao3 cp3 k3 w3 ho3 hf3 hk3; have hS3 := hA _ _ _ _ _ hS2 ho3 hf3 hk3; clear ho3 hf3 hk3 hX hA hS2))
        go_roundg (l.length - (q + 1))
        case measure => omega
        case rel => exact ⟨q + 1, k3, cp3, ao3, xs ++ Y, by omega, by go_num, by rw [List.length_append], hS3⟩
      | false =>
        have cF := fun w => framed_wrong m hfm hr w
        have hw := strF_wrong hm hr
        have hSw := fun (w2 : World) (o : Obj) (h : Below (wr.alloc o).heap.size (wr.alloc o) w2) => hS.call ((Below.al (Below.refl _ wr) o).trans (h.mono (by simp)))
        clear hm hr hfm hF hB
        obtain ⟨kind, sym, seq, tick, id, other, price, qty, code⟩ := m
        go_wp2_with (go_at_call 35; refine (cF _).mono ?_; rintro e w2 ⟨ao1, cap1, k1, rfl, hX, hb2⟩; have hS2 := hSw _ _ hb2; clear hSw hS hb2)
        go_ret2
        exact coded_wrong hw hS2.bel
    · have hqe : q = l.length := by omega
      clear hF hB
      go_wp2
      go_ret2
      exact hS.coded hqe
set_option maxRecDepth 8000 in
set_option maxHeartbeats 2000000 in
theorem rstream_any (cap : Nat) (ao : Option Addr) (l : List Msg) (hl : l.length ≤ 10000) (hF : ∀ m ∈ l, m.Fit) (W : World) (hB : Msgs W ao cap l) :
    Calls Try.prog 17 #[.slice ao l.length cap] W fun e w' => Coded W w' e (strF l).1 (strF l).2 := by
  go_enter Try.func17, Try.ntmps17
  go_wp2_with fail
  go_loopg [4, 5] l.length (fun j p4 p5 wr => ∃ (q k sc : Nat) (so : Option Addr) (xs : List Nat), q + j = l.length ∧ p5 = .int .i64 (q : Int) ∧ p4 = .slice so xs.length sc ∧ Sw W wr l q k sc so xs)
  case atStart => exact ⟨0, W.heap.size, 0, none, [], by omega, rfl, rfl, Sw.start W l⟩
  case round =>
    obtain ⟨q, k, sc, so, xs, hq, rfl, rfl, hS⟩ := hrel
    by_cases hj : q < l.length
    · obtain ⟨m, hm⟩ : ∃ m, l[q]? = some m := ⟨l[q], List.getElem?_eq_getElem hj⟩
      have hfm := hF m (List.mem_of_getElem? hm)
      obtain ⟨b, off, rfl, x0, x1, x2, x3, x4, x5, x6, x7, x8⟩ := (hB.below (hS.bel.mono (Nat.le_refl _))).get hm
      have hxl := hS.len hl
      replace x0 : wr.cell? ⟨b, off + q * 9, none⟩ = some (.int .i64 m.kind) := x0
      cases hr : rightM m with
      | true =>
        have cE := fun w => refEncodeM_any m hfm w
        rw [encMB_right hr, encMF_right hr] at cE
        have hyn := formM_len m ((rightM_iff m).1 hr)
        have cP := fun k cap ao w (hB : Bt w k ao cap (formM m)) => rput_ok k cap ao (formM m) (by omega) w hB
        have hA := fun (w2 w3 : World) (k2 cap2 : Nat) (ao2 : Option Addr) (h : Sw W w2 l q k sc so xs) => h.app (w3 := w3) (k2 := k2) (cap2 := cap2) (ao2 := ao2) hm hr
        have hyl : (putF (formM m)).length ≤ 100 := by have := formM_len m ((rightM_iff m).1 hr); rw [putF_length]; omega
        clear hm hr hfm hF hB hyn
        generalize putF (formM m) = Y at cP hA hyl
        generalize formM m = X at cE cP
        obtain ⟨kind, sym, seq, tick, id, other, price, qty, code⟩ := m
        go_wp2_with (first
          | (go_at_call 8; refine (cE _).mono ?_; rintro e w1 ⟨ao1, cap1, k1, rfl, hX, hb1⟩; have hS1 := hS.call hb1; clear hS hb1 cE)
          | (go_at_call 36; refine (cP _ _ _ _ hX).mono ?_; rintro e w2 ⟨ao2, cap2, k2, rfl, hY, hb2, hk2⟩; have hS2 := hS1.call hb2; clear hS1 hb2 cP hX hk2)
          | (at_builtin; refine wpList_app rfl (.tmp 32) (.tmp 33) rfl hS2.ow hY rfl rfl rfl rfl (by omega) ?_; intro ao3 cp3 k3 w3 ho3 hf3 hk3; have hS3 := hA _ _ _ _ _ hS2 ho3 hf3 hk3; clear ho3 hf3 hk3 hY hA hS2))
        go_roundg (l.length - (q + 1))
        case measure => omega
        case rel => exact ⟨q + 1, k3, cp3, ao3, xs ++ Y, by omega, by go_num, by rw [List.length_append], hS3⟩
      | false =>
        have cE := fun w => refEncodeM_any m hfm w
        rw [encMB_wrong hr, encMF_wrong hr] at cE
        have hw := strF_wrong hm hr
        clear hm hr hfm hF hB
        obtain ⟨kind, sym, seq, tick, id, other, price, qty, code⟩ := m
        go_wp2_with (go_at_call 8; refine (cE _).mono ?_; rintro e w2 ⟨ao1, cap1, k1, rfl, hX, hb2⟩; have hS2 := hS.call hb2; clear hS hb2)
        go_ret2
        exact coded_wrong hw hS2.bel
    · have hqe : q = l.length := by omega
      clear hF hB
      go_wp2
      go_ret2
      exact hS.coded hqe
end Go.Proofs.Ytalgpbjonkcldaa
