/-
  The document's index: Put.
-/
import Derived.Test.YtbfidpngpdaieaaRia
namespace Go.Proofs.Ytbfidpngpdaieaa
open Go.RowKit
set_option linter.unusedSimpArgs false
theorem infoIxr : (Try.prog.info? 40).map (fun i => (i.zero, i.size, i.bytes)) = some (some (vIxr Ixr.zero), 3, 24) := by kernel_rfl
theorem OwG.emptyI (E : TypeId) (sz : Nat) (w : World) : OwG E sz (w.alloc (.cells #[] E)) (some w.heap.size) (some ⟨w.heap.size, 0, none⟩) 0 0 [] :=
  ⟨by simp, Nat.le_refl _, Nat.zero_le _, .inr ⟨_, #[], rfl, rfl, heap_alloc_last w _, by simp, by simp⟩⟩
theorem ics_one (L : List Ixr) : ∀ u ∈ ics L, u.oneCell' = true := by
  intro u hu
  obtain ⟨m, -, hm⟩ := List.mem_flatMap.1 hu
  simp at hm
  rcases hm with rfl | rfl | rfl <;> rfl
theorem cIxr_one (x : Ixr) : ∀ u ∈ (cIxr x).toList, u.oneCell' = true := by
  intro u hu
  simp at hu
  rcases hu with rfl | rfl | rfl <;> rfl
theorem ics_len (L : List Ixr) : (ics L).length = L.length * 3 := by
  induction L with
  | nil => rfl
  | cons x t ih =>
    simp only [List.flatMap_cons, List.length_append, ih, List.length_cons]
    simp
    omega
theorem ics_snoc (L : List Ixr) (x : Ixr) : ics (L ++ [x]) = ics L ++ (cIxr x).toList := by simp [ics]
theorem ics_app (L M : List Ixr) : ics (L ++ M) = ics L ++ ics M := by simp [ics]
theorem heap_othI (w : World) (p : Addr) (v : Value) {b : Nat} (h : b ≠ p.block) : (w.setCell p v).heap[b]? = w.heap[b]? := by
  refine Below.heap_setCell _ _ _ _ h
theorem app_newI {B : Nat} {W w w' : World} {ko ko' : Option Nat} (hb : Below B W w) (hB : B ≤ w.heap.size) (hk : ∀ k, ko = some k → B ≤ k) (hf : Frm (fun b => ko = some b) w w') (hm : Moved w ko ko') : Below B W w' ∧ ∀ k, ko' = some k → B ≤ k := by
  refine ⟨hb.trans (hf.below hB hk), fun k e => ?_⟩
  rcases hm with g | g | ⟨k', g, h'⟩
  · rw [g] at e; cases e
  · rw [g] at e; exact hk k e
  · rw [g] at e; cases e; omega
section
variable {w w' W : World} {r : Nat} {S T : Nat → Prop} {l : List Ixr} {ko : Option Nat} {ao : Option Addr} {cap : Nat}
/-- A row that has been made behind all, laid into the index. -/
theorem RiB.lay (h : RiB W r S ko ao cap l) {B : Nat} (hB : W.heap.size ≤ B) {w2 : World} (hb : Below W.heap.size W w2) {L : List Ixr} {ko2 : Option Nat} {ao2 : Option Addr} {cap2 : Nat}
    (ho : OwG 40 3 w2 ko2 ao2 cap2 L.length (ics L)) (hk : ∀ k, ko2 = some k → B ≤ k) :
    (∃ S', RI (w2.setCell ⟨r, 0, none⟩ (.slice ao2 L.length cap2)) r S' L ∧ ∀ b, S' b → S b ∨ W.heap.size ≤ b) ∧ Frm S W (w2.setCell ⟨r, 0, none⟩ (.slice ao2 L.length cap2)) := by
  have hr := h.lt r h.sr
  have hsz : (w2.setCell ⟨r, 0, none⟩ (.slice ao2 L.length cap2)).heap.size = w2.heap.size := by simp [World.setCell]
  have hkr : ∀ k, ko2 = some k → k ≠ r := fun k e => by have := hk k e; omega
  refine ⟨⟨fun b => S b ∨ (W.heap.size ≤ b ∧ b < w2.heap.size), ⟨ko2, ao2, cap2, ?_, ?_, .inl h.sr, fun k e => ⟨.inr ⟨?_, ?_⟩, hkr k e⟩, ?_⟩, fun b e => by rcases e with e | e; exact .inl e; exact .inr e.1⟩, (Frm.of_below hb).setCell _ _ (.inl h.sr)⟩
  · exact (h.hr.below hb hr).set 0 _
  · exact ho.keep fun k e => heap_othI _ _ _ (hkr k e)
  · have := hk k e; omega
  · subst e; exact ho.lt
  · intro b hb'
    rw [hsz]
    have := hb.size
    rcases hb' with g | g
    · have := h.lt b g; omega
    · exact g.2
set_option maxRecDepth 8000 in
set_option maxHeartbeats 2000000 in
theorem iputNew_any (s d t : Int) (h : RiB W r S ko ao cap l) (hlen : l.length ≤ 100000) (hf : ixf l s d = none) :
    Calls Try.prog 16 #[.pointer (some ⟨r, 0, none⟩), .int .i64 s, .int .i64 d, .int .i64 t] W fun e w' => e = .returned (.bool true) ∧ (∃ S', RI w' r S' (l ++ [⟨s, d, t⟩]) ∧ ∀ b, S' b → S b ∨ W.heap.size ≤ b) ∧ Frm S W w' := by
  have cF := ifind_any s d h hlen
  simp only [ixI, hf] at cF
  have c0 := h.c0
  have app : ∀ ao1 cap1 ko1 w1, OwG 40 3 w1 ko1 ao1 cap1 l.length (ics l) → Frm (fun b => some W.heap.size = some b) (W.alloc (.cells #[] 40)) w1 → Moved (W.alloc (.cells #[] 40)) (some W.heap.size) ko1 →
      ∀ ao2 cap2 ko2 w2, OwG 40 3 w2 ko2 ao2 cap2 (l.length + 1) (ics l ++ (cIxr ⟨s, d, t⟩).toList) → Frm (fun b => ko1 = some b) (w1.alloc (.cells (cIxr ⟨s, d, t⟩) 40)) w2 → Moved (w1.alloc (.cells (cIxr ⟨s, d, t⟩) 40)) ko1 ko2 →
        Below W.heap.size W w2 ∧ (∃ S', RI (w2.setCell ⟨r, 0, none⟩ (.slice ao2 (l.length + 1) cap2)) r S' (l ++ [⟨s, d, t⟩]) ∧ ∀ b, S' b → S b ∨ W.heap.size ≤ b) ∧ Frm S W (w2.setCell ⟨r, 0, none⟩ (.slice ao2 (l.length + 1) cap2)) := by
    intro ao1 cap1 ko1 w1 ho1 hf1 hm1
    obtain ⟨hb1, hk1⟩ := app_newI (B := W.heap.size) ((Below.refl W.heap.size W).alloc (Nat.le_refl _) (.cells #[] 40)) (by simp) (fun k e => by cases e; exact Nat.le_refl _) hf1 hm1
    intro ao2 cap2 ko2 w2 ho2 hf2 hm2
    obtain ⟨hb2, hk2⟩ := app_newI (B := W.heap.size) (hb1.alloc hb1.size (.cells (cIxr ⟨s, d, t⟩) 40)) (by have := hb1.size; simp; omega) hk1 hf2 hm2
    have e1 : (l ++ [(⟨s, d, t⟩ : Ixr)]).length = l.length + 1 := by simp
    have e2 := ics_snoc l ⟨s, d, t⟩
    have g := h.lay (B := W.heap.size) (Nat.le_refl _) hb2 (L := l ++ [⟨s, d, t⟩]) (by rw [e1, e2]; exact ho2) hk2
    rw [e1] at g
    exact ⟨hb2, g⟩
  have happ := Lib.hid app
  have hW : ∀ w, Below W.heap.size W w → OwG 40 3 w ko ao cap l.length (ics l) := fun w hb => (h.below hb).how
  have hz : ∀ w, Below W.heap.size W w → w.cell? ⟨r, 0, none⟩ = some (.slice ao l.length cap) ∧ w.frozen? ⟨r, 0, none⟩ = false := fun w hb => ⟨(h.below hb).c0, (h.below hb).hr.free 0⟩
  obtain ⟨i1, hi1, e1⟩ := Option.map_eq_some_iff.1 infoIxr
  simp only [Prod.mk.injEq] at e1
  obtain ⟨hz1, hs1, hb1⟩ := e1
  have hL4 := ics_one l
  have hone := cIxr_one ⟨s, d, t⟩
  have hbA : Below W.heap.size W (W.alloc (.cells #[] 40)) := (Below.refl W.heap.size W).alloc (Nat.le_refl _) _
  have cA := (hz _ hbA).1
  clear app hf h
  go_enter Try.func16, Try.ntmps16
  go_wp2_with (first
    | (go_at_call 23; refine cF.mono ?_; rintro e w1 ⟨rfl, hw1⟩; subst w1; clear cF)
    | (at_builtin; refine wpList_appG rfl (.tmp 15) (.tmp 19) 27 40 i1 _ 3 24 Try.underlying27 hi1 hz1 hs1 hb1 rfl (by decide) rfl (OwG.emptyI _ _ _) ((hW _ hbA).src hL4) rfl rfl (by omega) (by omega) ?_; intro ao1 cap1 ko1 w1 ho1 hf1 hm1; rw [Nat.zero_add, List.nil_append] at ho1; try simp only [Nat.zero_add]; have happ2 := Lib.hid (happ.out ao1 cap1 ko1 w1 ho1 hf1 hm1); clear hf1 hm1 happ cA)
    | (at_builtin; refine wpList_appG rfl (.tmp 20) (.tmp 25) 27 40 i1 _ 3 24 Try.underlying27 hi1 hz1 hs1 hb1 rfl (by decide) rfl (ho1.alloc _) (SrcG.row (cs := cIxr ⟨s, d, t⟩) (Blk.new' (by simp)) rfl hone) rfl rfl (by omega) (by omega) ?_; intro ao2 cap2 ko2 w2 ho2 hf2 hm2; obtain ⟨hb2', hfin⟩ := happ2.out ao2 cap2 ko2 w2 ho2 hf2 hm2; clear ho2 hf2 hm2 ho1 happ2; obtain ⟨z1, z2⟩ := hz _ hb2'; have hfin' := Lib.hid hfin; clear hfin)
    | fail)
  go_ret
  exact ⟨rfl, hfin'.out⟩
set_option maxRecDepth 8000 in
set_option maxHeartbeats 2000000 in
theorem iput_any (s d t : Int) (h : RI W r S l) (hlen : l.length ≤ 100000) :
    Calls Try.prog 16 #[.pointer (some ⟨r, 0, none⟩), .int .i64 s, .int .i64 d, .int .i64 t] W fun e w' => e = .returned (.bool (ixg l s d).isNone) ∧ (∃ S', RI w' r S' (ixPut l s d t) ∧ ∀ b, S' b → S b ∨ W.heap.size ≤ b) ∧ Frm S W w' := by
  obtain ⟨ko, ao, cap, h⟩ := h
  cases hf : ixf l s d with
  | none =>
    have := iputNew_any s d t h hlen hf
    rw [ixg_none.2 hf]
    unfold ixPut
    rw [hf]
    simpa using this
  | some i =>
    obtain ⟨t', ht, -⟩ := ixf_some hf
    rw [ixg_some.2 ⟨i, hf, ht⟩]
    unfold ixPut
    rw [hf]
    have cF := ifind_any s d h hlen
    simp only [ixI, hf] at cF
    have hi0 : decide ((0 : Int) ≤ (i : Int)) = true := decide_eq_true (by omega)
    simp only [Option.isNone_some, Option.isSome_some, if_true]
    have hend : (∃ S', RI W r S' l ∧ ∀ b, S' b → S b ∨ W.heap.size ≤ b) ∧ Frm S W W := ⟨⟨S, ⟨_, _, _, h⟩, fun b e => .inl e⟩, Frm.refl _ _⟩
    replace hend := Lib.hid hend
    clear h hf ht
    go_enter Try.func16, Try.ntmps16
    go_wp2_with (go_at_call 23; refine cF.mono ?_; rintro e w1 ⟨rfl, hw1⟩; subst w1; clear cF)
    go_ret
    exact ⟨rfl, hend.out⟩
end
end Go.Proofs.Ytbfidpngpdaieaa
