/-
  The contract of package message's read: nine numbers, one behind the other.
-/
import Derived.Test.YtalgpbjonkcldaaMsgE
import Derived.Test.YtalgpbjonkcldaaOctT
namespace Go.Proofs.Ytalgpbjonkcldaa
open Go.RowKit
theorem Rr.lt' {w : World} {g f : Nat} {xs : List Nat} (h : Rr w g xs f) : g < w.heap.size := by obtain ⟨_, _, _, hb, _, _⟩ := h; exact hb.lt
/-- A reader, a result that is still zero, and the command that is filled, side by side. -/
structure Rm (W : World) (g b : Nat) (w : World) (xs : List Nat) (f : Nat) (c : Msg) : Prop where
  rr : Rr w g xs f
  res : Blk w b 23 (cMsg Msg.zero)
  cmd : Blk w (b + 1) 23 (cMsg c)
  frm : Frm (fun q => q = g) W w
  lt : g < b
  hb : b = W.heap.size
theorem Rm.call {W w w' : World} {g b f f' : Nat} {xs ys : List Nat} {c : Msg} (h : Rm W g b w xs f c) (hr : Rr w' g ys f') (hf : Frm (fun q => q = g) w w') : Rm W g b w' ys f' c := by
  have h1 := h.lt
  exact ⟨hr, h.res.frm hf (by omega), h.cmd.frm hf (by omega), h.frm.trans hf (fun _ e => .inl e), h.lt, h.hb⟩
theorem Rm.set {W w : World} {g b f : Nat} {xs : List Nat} {c c' : Msg} (h : Rm W g b w xs f c) (j : Nat) (v : Int) (hc : (cMsg c).setIfInBounds j (.int .i64 v) = cMsg c') : Rm W g b (w.setCell ⟨b + 1, j, none⟩ (.int .i64 v)) xs f c' := by
  have h1 := h.lt
  have h2 := h.hb
  refine ⟨h.rr.part h.cmd (Msg.no8 c) (by omega) ((Frm.refl _ w).setCell ⟨b + 1, j, none⟩ _ (.inl rfl)), h.res.other (by show b + 1 ≠ b; omega) _, ?_, h.frm.setCell _ _ (.inr (by show _ ≤ b + 1; omega)), h.lt, h.hb⟩
  rw [← hc]
  exact h.cmd.set j _
theorem Rm.start {W : World} {g f : Nat} {xs : List Nat} (hR : Rr W g xs f) : Rm W g W.heap.size ((W.alloc (.cells (cMsg ⟨0, 0, 0, 0, 0, 0, 0, 0, 0⟩) 23)).alloc (.cells (cMsg ⟨0, 0, 0, 0, 0, 0, 0, 0, 0⟩) 23)) xs f ⟨0, 0, 0, 0, 0, 0, 0, 0, 0⟩ :=
  ⟨hR.below (((Below.refl _ _).alloc (Nat.le_refl _) _).alloc (by simp) _), (Blk.new _ _ _).alloc _, Blk.new' (by simp), ((Frm.refl _ _).alloc _).alloc _, hR.lt', rfl⟩
/-- The result is laid. -/
theorem Rm.done {W w : World} {g b f : Nat} {xs : List Nat} {c : Msg} (h : Rm W g b w xs f c) (v0 v1 v2 v3 v4 v5 v6 v7 v8 : Value) :
    Rr (((((((((w.setCell ⟨b, 0, none⟩ v0).setCell ⟨b, 1, none⟩ v1).setCell ⟨b, 2, none⟩ v2).setCell ⟨b, 3, none⟩ v3).setCell ⟨b, 4, none⟩ v4).setCell ⟨b, 5, none⟩ v5).setCell ⟨b, 6, none⟩ v6).setCell ⟨b, 7, none⟩ v7).setCell ⟨b, 8, none⟩ v8) g xs f ∧
    Frm (fun q => q = g) W (((((((((w.setCell ⟨b, 0, none⟩ v0).setCell ⟨b, 1, none⟩ v1).setCell ⟨b, 2, none⟩ v2).setCell ⟨b, 3, none⟩ v3).setCell ⟨b, 4, none⟩ v4).setCell ⟨b, 5, none⟩ v5).setCell ⟨b, 6, none⟩ v6).setCell ⟨b, 7, none⟩ v7).setCell ⟨b, 8, none⟩ v8) := by
  have h1 := h.lt
  have h2 : W.heap.size ≤ b := Nat.le_of_eq h.hb.symm
  exact ⟨h.rr.part h.res (Msg.no8 _) (by omega) (Msg.frm (S := fun q => q = b) (b := b) (Frm.refl _ w) (.inl rfl) v0 v1 v2 v3 v4 v5 v6 v7 v8), Msg.frm h.frm (.inr h2) v0 v1 v2 v3 v4 v5 v6 v7 v8⟩
theorem step_byte (xs : List Nat) (f : Nat) (h : ∀ x ∈ xs, x < 256) : (stepR 1 1 xs f).n < 256 := by
  by_cases hf : f = 0
  · subst hf
    rw [step1, if_pos (by decide)]
    split
    · exact (by decide : 0 < 256)
    · have hl := val_lt (xs.take 1) fun x hx => h x (List.mem_of_mem_take hx)
      have h2 : (xs.take 1).length ≤ 1 := by rw [List.length_take]; omega
      exact Nat.lt_of_lt_of_le hl (Nat.pow_le_pow_right (n := 256) (by decide) h2)
  · rw [step_fault hf]; exact (by decide : 0 < 256)
theorem Rr.bytes {w : World} {g f : Nat} {xs : List Nat} (h : Rr w g xs f) : ∀ x ∈ xs, x < 256 := by obtain ⟨_, _, _, _, hB, _⟩ := h; exact hB.lt
/-- A number of one byte is read. -/
theorem mbyte_any (g f : Nat) (xs : List Nat) (W : World) (hR : Rr W g xs f) :
    Calls Try.prog 45 #[.pointer (some ⟨g, 0, none⟩), .int .i64 1] W fun e w' => ∃ r : Res, Hid (stepR 1 1 xs f = r) ∧ e = .returned (.int .u64 (r.n : Int)) ∧ (r.n : Int) < 256 ∧ Rr w' g (xs.drop r.size) r.f ∧ Frm (fun b => b = g) W w' :=
  (ruint_any g f xs 1 W hR).mono fun _ _ h => ⟨_, Lib.hid rfl, h.1, by have := step_byte xs f hR.bytes; omega, h.2.1, h.2.2⟩
/-- A number of 64 bits as one with a sign. -/
def wrapS (n : Nat) : Int := IntKind.i64.wrap (n : Int)
theorem mgroups_any (g f : Nat) (xs : List Nat) (W : World) (hR : Rr W g xs f) :
    Calls Try.prog 46 #[.pointer (some ⟨g, 0, none⟩)] W fun e w' => ∃ (r : Res) (m : Int), Hid (stepR 3 0 xs f = r) ∧ e = .returned (.int .u64 (r.n : Int)) ∧ (∀ w, (convert 48 2 (.int .u64 (r.n : Int))).run Try.prog w = .ok (.int .i64 m) w) ∧ Hid (m = wrapS r.n) ∧ Rr w' g (xs.drop r.size) r.f ∧ Frm (fun b => b = g) W w' :=
  (rnum_any g xs f W hR).mono fun _ _ h => ⟨_, _, Lib.hid rfl, h.1, fun w => by
    have hT := Try.underlying2
    have hU := Try.underlying48
    simp [convert, go_sem, run_underlying hT, run_underlying hU]
    rfl, Lib.hid rfl, h.2.1, h.2.2⟩
theorem msigned_any (g f : Nat) (xs : List Nat) (W : World) (hR : Rr W g xs f) :
    Calls Try.prog 47 #[.pointer (some ⟨g, 0, none⟩)] W fun e w' => ∃ r : Res, Hid (stepR 2 0 xs f = r) ∧ e = .returned (.int .i64 r.s) ∧ Rr w' g (xs.drop r.size) r.f ∧ Frm (fun b => b = g) W w' :=
  (rint_any g f xs W hR).mono fun _ _ h => ⟨_, Lib.hid rfl, h.1, h.2.1, h.2.2⟩
/-- The message of numbers that were read, as the program makes it. -/
def ofW : List Res → Msg
  | [k, s, c, q, t, i, o, p, y] => ⟨k.n, s.n, wrapS q.n, wrapS t.n, i.s, o.s, p.s, y.s, c.n⟩
  | _ => Msg.zero
set_option maxRecDepth 8000 in
set_option maxHeartbeats 2000000 in
theorem mread_any (g f : Nat) (xs : List Nat) (W : World) (hR : Rr W g xs f) :
    Calls Try.prog 29 #[.pointer (some ⟨g, 0, none⟩)] W fun e w' => e = .returned (vMsg (ofW (rdL fmtM xs f).1)) ∧ Rr w' g (rdL fmtM xs f).2.1 (rdL fmtM xs f).2.2 ∧ Frm (fun b => b = g) W w' := by
  have hC0 := Rm.start hR
  obtain ⟨b, hb⟩ : ∃ b, Hid (b = W.heap.size) := ⟨_, Lib.hid rfl⟩
  go_enter Try.func29, Try.ntmps29
  go_wp2_with (first
    | (go_at_call 45; (with_reducible refine (mbyte_any _ _ _ _ hC0.rr).mono ?_); rintro e w0 ⟨r0, hs0, rfl, hl0, hR0, hf0⟩; have hC := hC0.call hR0 hf0; clear hC0; obtain ⟨x0, x1, x2, x3, x4, x5, x6, x7, x8⟩ := Msg.cells hC.cmd; have xf := hC.cmd.free)
    | (go_at_call 45; (with_reducible refine (mbyte_any _ _ _ _ (hC.set 0 ((r0.n : Int)) (c' := ⟨(r0.n : Int), 0, 0, 0, 0, 0, 0, 0, 0⟩) rfl).rr).mono ?_); rintro e w1 ⟨r1, hs1, rfl, hl1, hR1, hf1⟩; replace hC := (hC.set 0 ((r0.n : Int)) (c' := ⟨(r0.n : Int), 0, 0, 0, 0, 0, 0, 0, 0⟩) rfl).call hR1 hf1; clear x0 x1 x2 x3 x4 x5 x6 x7 x8 xf; obtain ⟨x0, x1, x2, x3, x4, x5, x6, x7, x8⟩ := Msg.cells hC.cmd; have xf := hC.cmd.free)
    | (go_at_call 45; (with_reducible refine (mbyte_any _ _ _ _ (hC.set 1 ((r1.n : Int)) (c' := ⟨(r0.n : Int), (r1.n : Int), 0, 0, 0, 0, 0, 0, 0⟩) rfl).rr).mono ?_); rintro e w2 ⟨r2, hs2, rfl, hl2, hR2, hf2⟩; replace hC := (hC.set 1 ((r1.n : Int)) (c' := ⟨(r0.n : Int), (r1.n : Int), 0, 0, 0, 0, 0, 0, 0⟩) rfl).call hR2 hf2; clear x0 x1 x2 x3 x4 x5 x6 x7 x8 xf; obtain ⟨x0, x1, x2, x3, x4, x5, x6, x7, x8⟩ := Msg.cells hC.cmd; have xf := hC.cmd.free)
    | (go_at_call 46; (with_reducible refine (mgroups_any _ _ _ _ (hC.set 8 ((r2.n : Int)) (c' := ⟨(r0.n : Int), (r1.n : Int), 0, 0, 0, 0, 0, 0, (r2.n : Int)⟩) rfl).rr).mono ?_); rintro e w3 ⟨r3, m3, hs3, rfl, hv3, hm3, hR3, hf3⟩; replace hC := (hC.set 8 ((r2.n : Int)) (c' := ⟨(r0.n : Int), (r1.n : Int), 0, 0, 0, 0, 0, 0, (r2.n : Int)⟩) rfl).call hR3 hf3; clear x0 x1 x2 x3 x4 x5 x6 x7 x8 xf; obtain ⟨x0, x1, x2, x3, x4, x5, x6, x7, x8⟩ := Msg.cells hC.cmd; have xf := hC.cmd.free)
    | (go_at_call 46; (with_reducible refine (mgroups_any _ _ _ _ (hC.set 2 (m3) (c' := ⟨(r0.n : Int), (r1.n : Int), m3, 0, 0, 0, 0, 0, (r2.n : Int)⟩) rfl).rr).mono ?_); rintro e w4 ⟨r4, m4, hs4, rfl, hv4, hm4, hR4, hf4⟩; replace hC := (hC.set 2 (m3) (c' := ⟨(r0.n : Int), (r1.n : Int), m3, 0, 0, 0, 0, 0, (r2.n : Int)⟩) rfl).call hR4 hf4; clear x0 x1 x2 x3 x4 x5 x6 x7 x8 xf; obtain ⟨x0, x1, x2, x3, x4, x5, x6, x7, x8⟩ := Msg.cells hC.cmd; have xf := hC.cmd.free)
    | (go_at_call 47; (with_reducible refine (msigned_any _ _ _ _ (hC.set 3 (m4) (c' := ⟨(r0.n : Int), (r1.n : Int), m3, m4, 0, 0, 0, 0, (r2.n : Int)⟩) rfl).rr).mono ?_); rintro e w5 ⟨r5, hs5, rfl, hR5, hf5⟩; replace hC := (hC.set 3 (m4) (c' := ⟨(r0.n : Int), (r1.n : Int), m3, m4, 0, 0, 0, 0, (r2.n : Int)⟩) rfl).call hR5 hf5; clear x0 x1 x2 x3 x4 x5 x6 x7 x8 xf; obtain ⟨x0, x1, x2, x3, x4, x5, x6, x7, x8⟩ := Msg.cells hC.cmd; have xf := hC.cmd.free)
    | (go_at_call 47; (with_reducible refine (msigned_any _ _ _ _ (hC.set 4 (r5.s) (c' := ⟨(r0.n : Int), (r1.n : Int), m3, m4, r5.s, 0, 0, 0, (r2.n : Int)⟩) rfl).rr).mono ?_); rintro e w6 ⟨r6, hs6, rfl, hR6, hf6⟩; replace hC := (hC.set 4 (r5.s) (c' := ⟨(r0.n : Int), (r1.n : Int), m3, m4, r5.s, 0, 0, 0, (r2.n : Int)⟩) rfl).call hR6 hf6; clear x0 x1 x2 x3 x4 x5 x6 x7 x8 xf; obtain ⟨x0, x1, x2, x3, x4, x5, x6, x7, x8⟩ := Msg.cells hC.cmd; have xf := hC.cmd.free)
    | (go_at_call 47; (with_reducible refine (msigned_any _ _ _ _ (hC.set 5 (r6.s) (c' := ⟨(r0.n : Int), (r1.n : Int), m3, m4, r5.s, r6.s, 0, 0, (r2.n : Int)⟩) rfl).rr).mono ?_); rintro e w7 ⟨r7, hs7, rfl, hR7, hf7⟩; replace hC := (hC.set 5 (r6.s) (c' := ⟨(r0.n : Int), (r1.n : Int), m3, m4, r5.s, r6.s, 0, 0, (r2.n : Int)⟩) rfl).call hR7 hf7; clear x0 x1 x2 x3 x4 x5 x6 x7 x8 xf; obtain ⟨x0, x1, x2, x3, x4, x5, x6, x7, x8⟩ := Msg.cells hC.cmd; have xf := hC.cmd.free)
    | (go_at_call 47; (with_reducible refine (msigned_any _ _ _ _ (hC.set 6 (r7.s) (c' := ⟨(r0.n : Int), (r1.n : Int), m3, m4, r5.s, r6.s, r7.s, 0, (r2.n : Int)⟩) rfl).rr).mono ?_); rintro e w8 ⟨r8, hs8, rfl, hR8, hf8⟩; replace hC := (hC.set 6 (r7.s) (c' := ⟨(r0.n : Int), (r1.n : Int), m3, m4, r5.s, r6.s, r7.s, 0, (r2.n : Int)⟩) rfl).call hR8 hf8; clear x0 x1 x2 x3 x4 x5 x6 x7 x8 xf; obtain ⟨x0, x1, x2, x3, x4, x5, x6, x7, x8⟩ := Msg.cells hC.cmd; have xf := hC.cmd.free; obtain ⟨y0, y1, y2, y3, y4, y5, y6, y7, y8⟩ := Msg.cells hC.res; have yf := hC.res.free))
  have eL : rdL fmtM xs f = ([r0, r1, r2, r3, r4, r5, r6, r7, r8], (((((((((xs.drop r0.size).drop r1.size).drop r2.size).drop r3.size).drop r4.size).drop r5.size).drop r6.size).drop r7.size).drop r8.size), r8.f) := by
    unfold fmtM
    rw [rdL_cons hs0.out, rdL_cons hs1.out, rdL_cons hs2.out, rdL_cons hs3.out, rdL_cons hs4.out, rdL_cons hs5.out, rdL_cons hs6.out, rdL_cons hs7.out, rdL_cons hs8.out]
    rfl
  have ev : vMsg (ofW [r0, r1, r2, r3, r4, r5, r6, r7, r8]) = vMsg ⟨(r0.n : Int), (r1.n : Int), m3, m4, r5.s, r6.s, r7.s, r8.s, (r2.n : Int)⟩ := by
    show vMsg ⟨r0.n, r1.n, wrapS r3.n, wrapS r4.n, r5.s, r6.s, r7.s, r8.s, r2.n⟩ = _
    rw [hm3.out, hm4.out]
  refine bodyPost_ret (v := vMsg (ofW [r0, r1, r2, r3, r4, r5, r6, r7, r8])) ?_ rfl ⟨by rw [eL], ?_⟩
  · rw [ev]
    simp [results, Try.results29, go_sem, y0, y1, y2, y3, y4, y5, y6, y7, y8]
  · rw [eL]
    exact (hC.set 7 (r8.s) (c' := ⟨(r0.n : Int), (r1.n : Int), m3, m4, r5.s, r6.s, r7.s, r8.s, (r2.n : Int)⟩) rfl).done _ _ _ _ _ _ _ _ _
end Go.Proofs.Ytalgpbjonkcldaa
