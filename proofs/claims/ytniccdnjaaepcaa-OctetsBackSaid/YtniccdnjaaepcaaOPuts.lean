/-
  OctetsPuts: the bytes of any numbers and raw bytes that are put one behind the other.
-/
import Derived.Test.YtniccdnjaaepcaaOctL
import Derived.Test.YtniccdnjaaepcaaOApart
import Derived.LaidEqlPtr
namespace Go.Proofs.Ytniccdnjaaepcaa
open Go.RowKit

theorem enc_len {p : Prt} (h : p.Fit) (hr : p.raw.length ≤ 60) : (enc p).length ≤ 60 := by
  unfold enc
  split
  · split
    · rw [be_length]; omega
    · simp
  · split
    · rw [be_length]; omega
    · split
      · have := num_ten h.n; omega
      · split
        · exact hr
        · simp
theorem enc_take {ps : List Prt} {q : Nat} {p : Prt} (h : ps[q]? = some p) : (ps.take (q + 1)).flatMap enc = (ps.take q).flatMap enc ++ enc p := by
  rw [List.take_add_one, h]
  simp
/-- The writer at block B and what is wanted of it, in memory. -/
structure St (W w : World) (B : Nat) (kW kO : Option Nat) (ao : Option Addr) (cap : Nat) (xs ys : List Nat) : Prop where
  wr : Wr2 w B kW xs
  ow : Ow2 w kO ao cap ys
  sep : ∀ x, kW = some x → kO = some x → False
  hO : ∀ x, kO = some x → B < x
  hW : ∀ x, kW = some x → B < x
  bel : Below B W w
section
variable {W w w' : World} {B : Nat} {kW kO : Option Nat} {ao : Option Addr} {cap : Nat} {xs ys : List Nat}
theorem St.below (h : St W w B kW kO ao cap xs ys) (hb : Below w.heap.size w w') : St W w' B kW kO ao cap xs ys :=
  ⟨h.wr.frm (Frm.of_below (S := fun _ => False) hb) (fun f => f) (fun _ _ f => f), h.ow.frm (Frm.of_below (S := fun _ => False) hb) (fun _ _ f => f), h.sep, h.hO, h.hW, h.bel.trans (hb.mono (Nat.le_of_lt h.wr.g))⟩
theorem St.app {kO' : Option Nat} {ao' : Option Addr} {cap' : Nat} {ys' : List Nat} (h : St W w B kW kO ao cap xs ys) (ho : Ow2 w' kO' ao' cap' ys') (hf : Frm (fun b => kO = some b) w w') (hm : Moved w kO kO') : St W w' B kW kO' ao' cap' xs ys' := by
  have hB := h.wr.g
  refine ⟨h.wr.frm hf (fun e => by have := h.hO _ e; omega) (fun k e e' => h.sep k e e'), ho, ?_, ?_, h.hW, h.bel.trans (hf.below (Nat.le_of_lt hB) fun b e => Nat.le_of_lt (h.hO b e))⟩
  · intro x e1 e2
    subst e1
    have := h.wr.lt
    rcases hm with hm | hm | ⟨k, hm, hk⟩
    · rw [hm] at e2; cases e2
    · exact h.sep x rfl (hm.symm.trans e2)
    · rw [hm] at e2; cases e2; omega
  · intro x e
    rcases hm with hm | hm | ⟨k, hm, hk⟩
    · rw [hm] at e; cases e
    · exact h.hO x (hm.symm.trans e)
    · rw [hm] at e; cases e; omega
theorem St.put {kW' : Option Nat} {xs' : List Nat} (h : St W w B kW kO ao cap xs ys) (hw : Wr2 w' B kW' xs') (hf : Frm (fun b => b = B ∨ kW = some b) w w') (hm : Moved w kW kW') : St W w' B kW' kO ao cap xs' ys := by
  have hB := h.wr.g
  refine ⟨hw, h.ow.frm hf (fun k e e' => ?_), ?_, h.hO, ?_, h.bel.trans (hf.below (Nat.le_of_lt hB) fun b e => ?_)⟩
  · rcases e' with rfl | e'
    · have := h.hO _ e; omega
    · exact h.sep k e' e
  · intro x e1 e2
    have : x < w.heap.size := by
      have := h.ow
      rw [e2] at this
      exact this.lt
    rcases hm with hm | hm | ⟨k, hm, hk⟩
    · rw [hm] at e1; cases e1
    · exact h.sep x (hm.symm.trans e1) e2
    · rw [hm] at e1; cases e1; omega
  · intro x e
    rcases hm with hm | hm | ⟨k, hm, hk⟩
    · rw [hm] at e; cases e
    · exact h.hW x (hm.symm.trans e)
    · rw [hm] at e; cases e; omega
  · rcases e with rfl | e
    · exact Nat.le_refl _
    · exact Nat.le_of_lt (h.hW b e)
end
/-- One part, in whatever world that has kept what there was. -/
theorem Pl.get {W : World} {ao : Option Addr} {cap : Nat} {ps : List Prt} (h : Pl W ao cap ps) {q : Nat} {p : Prt} (hp : ps[q]? = some p) :
    ∃ b off k ro rc, ao = some ⟨b, off, none⟩ ∧ p.Fit ∧ ∀ w, Below W.heap.size W w → Bt w k ro rc p.raw ∧ w.cell? ⟨b, off + q * 5, none⟩ = some (.int .i64 p.kind) ∧ w.cell? ⟨b, off + q * 5 + 1, none⟩ = some (.int .i64 p.size) ∧ w.cell? ⟨b, off + q * 5 + 2, none⟩ = some (.int .u64 (p.n : Int)) ∧
      w.cell? ⟨b, off + q * 5 + 3, none⟩ = some (.int .i64 p.s) ∧ w.cell? ⟨b, off + q * 5 + 4, none⟩ = some (.slice ro p.raw.length rc) := by
  rcases h.at' with h0 | ⟨b, off, ha, hpt⟩
  · subst h0; simp at hp
  · obtain ⟨hf, k, ro, rc, hB, c0, c1, c2, c3, c4⟩ := hpt q p hp
    have hlt : b < W.heap.size := World.block_lt_of_cell? W ⟨b, off + q * 5, none⟩ c0
    refine ⟨b, off, k, ro, rc, ha, hf, fun w hb => ?_⟩
    have e : ∀ o, w.cell? ⟨b, o, none⟩ = W.cell? ⟨b, o, none⟩ := fun o => World.cell?_of_block (a := ⟨b, o, none⟩) (hb.block b hlt)
    exact ⟨hB.below hb, (e _).trans c0, (e _).trans c1, (e _).trans c2, (e _).trans c3, (e _).trans c4⟩
theorem infoWriter : (Try.prog.info? 27).isSome = true := by kernel_rfl
theorem neq_same (a : Addr) (w : World) : (binOp .neq 28 (.pointer (some a)) (.pointer (some a))).run Try.prog w = .ok (.bool false) w := by
  obtain ⟨j, hj⟩ := Option.isSome_iff_exists.1 infoWriter
  have h : ∀ d : Nat, (Op.equalIn (d + 1) 28 (.pointer (some a)) (.pointer (some a))).run Try.prog w = .ok true w := fun d => by
    simp [Op.equalIn, run_underlying Try.underlying28, sizeOf, typeInfo, hj, run_sameAddr_same]
  simp only [binOp]
  simp [Op.equal, Op.maxDepth, h 9999]
set_option maxRecDepth 4000 in
set_option maxHeartbeats 1000000 in
theorem puts_any (ao : Option Addr) (cap : Nat) (ps : List Prt) (W : World) (hP : Pl W ao cap ps) :
    Calls Try.prog 3 #[.slice ao ps.length cap] W fun e w' => e = .returned (.bool true) ∧ Below W.heap.size W w' := by
  have hlen := hP.len
  have hmax := hP.top
  unfold maxLen at hmax
  have cL := light_any ao cap ps W hP
  have cA := alive3_any
  go_enter Try.func3, Try.ntmps3
  go_wp2_with (first | (go_at_call 7; refine cL.mono ?_; rintro e w1 ⟨⟨r, rfl, hr⟩, rfl⟩; cases r) | (go_at_call 8; refine (cA _).mono ?_; rintro e w2 ⟨rfl, hb⟩))
  · go_ret
    exact ⟨rfl, hb⟩
  · obtain ⟨h40, h60⟩ : Light ps := by simpa using hr
    have hst0 : St W (W.alloc (.cells #[.slice none 0 0] 27)) W.heap.size none none none 0 [] [] :=
      ⟨⟨none, 0, Blk.new _ _ _, ⟨rfl, rfl, rfl⟩, by simp⟩, ⟨rfl, rfl, rfl⟩, by simp, by simp, by simp, (Below.refl _ W).alloc (Nat.le_refl _) _⟩
    clear cL hr
    have eP := neq_same ⟨W.heap.size, 0, none⟩
    go_loopg [5, 6] ps.length (fun j p5 p6 wr => ∃ (q : Nat) (kW kO : Option Nat) (ao' : Option Addr) (cap' : Nat) (zs : List Nat), q + j = ps.length ∧ p6 = .int .i64 (q : Int) ∧ p5 = .slice ao' zs.length cap' ∧ Hid (zs = (ps.take q).flatMap enc) ∧ zs.length ≤ 60 * q ∧ St W wr W.heap.size kW kO ao' cap' zs zs)
    case atStart => exact ⟨0, none, none, none, 0, [], by omega, rfl, rfl, by simp [Hid], by simp, hst0⟩
    case round =>
      obtain ⟨q, kW, kO, ao', cap', zs, hq, rfl, rfl, hz, hzl, hst⟩ := hrel
      by_cases hj : q < ps.length
      · obtain ⟨p, hp⟩ : ∃ p, ps[q]? = some p := ⟨ps[q], List.getElem?_eq_getElem hj⟩
        obtain ⟨b, off, k, ro, rc, rfl, hfit, hget⟩ := hP.get hp
        have hr60 := h60 p (List.mem_of_getElem? hp)
        have hel := enc_len hfit hr60
        have hz2 : Hid (zs ++ enc p = (ps.take (q + 1)).flatMap enc) := by
          show _ = _
          rw [enc_take hp, hz.out]
        have cF := fun w h => form_any p ⟨hfit.n, hfit.s0, hfit.s1, hr60⟩ k ro rc w h
        have cP := fun w kW h hB => put2_any p hfit hr60 k ro rc W.heap.size kW zs (by omega) w h hB
        have cZ := fun w => putNil_any p ⟨hfit.n, hfit.s0, hfit.s1, hr60⟩ ro rc w
        obtain ⟨-, c0, c1, c2, c3, c4⟩ := hget _ hst.bel
        unfold pv at cF cP cZ
        clear hp hz hfit hP hst0
        generalize enc p = en at hel hz2 cF cP
        go_wp2_with (first
          | (go_at_call 9; refine (cF _ (hget _ hst.bel).1).mono ?_; rintro e w1 ⟨v, rfl, a1, cp1, k1, rfl, hB1, hb1⟩; have h1 := hst.below hb1; clear hst c0 c1 c2 c3 c4)
          | (at_builtin; refine wpList_app2 rfl (.tmp 17) (.tmp 22) rfl h1.ow hB1 rfl rfl rfl rfl (by omega) ?_; intro ao2 cap2 kO2 w2 ho2 hf2 hm2; have h2 := h1.app ho2 hf2 hm2; obtain ⟨-, d0, d1, d2, d3, d4⟩ := hget _ h2.bel; clear h1 hB1 hb1 ho2 hf2 hm2)
          | (go_at_call 10; refine (cP _ _ h2.wr (hget _ h2.bel).1).mono ?_; rintro e w3 ⟨rfl, kW3, hw3, hf3, hm3⟩; have h3 := h2.put hw3 hf3 hm3; obtain ⟨-, e0, e1, e2, e3, e4⟩ := hget _ h3.bel; clear h2 d0 d1 d2 d3 d4 hw3 hf3 hm3)
          | (go_at_call 10; refine (cZ _).mono ?_; rintro e w4 ⟨rfl, hb4⟩; have h4 := h3.below hb4; clear h3 hb4 e0 e1 e2 e3 e4)
          | (go_at_call 12; refine (bytes2_any _ kW3 _ (by simp; omega) _ h4.wr).mono ?_; rintro e w5 ⟨v, rfl, a5, cp5, k5, rfl, hB5, hb5, hk5⟩; have h5 := h4.below hb5; obtain ⟨kq, hBq⟩ := h5.ow.bt; clear h4 hb5 hk5)
          | (go_at_call 11; refine (same_len (by simp) (by simp) _ hB5 hBq).mono ?_; rintro e w6 ⟨rfl, rfl⟩))
        go_roundg (ps.length - (q + 1))
        case measure => omega
        case rel => exact ⟨q + 1, kW3, kO2, ao2, cap2, zs ++ en, by omega, by go_num, by simp, hz2, by simp; omega, h5⟩
      · have hqe : q = ps.length := by omega
        subst hqe
        have hbel := hst.bel
        clear hst hz hP hst0 h60
        go_wp2_with (first
          | (go_at_call 12; refine (bytes_nil _).mono ?_; rintro e w5 ⟨rfl, hb5⟩; have hbel5 := hbel.trans (hb5.mono hbel.size))
          | (go_at_call 8; refine (cA _).mono ?_; rintro e w6 ⟨rfl, hb6⟩; have hbel6 := hbel5.trans (hb6.mono hbel5.size)))
        go_ret
        exact ⟨rfl, hbel6⟩
end Go.Proofs.Ytniccdnjaaepcaa
