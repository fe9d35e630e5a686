/-
  The contract of the document's Drop.
-/
import Derived.Test.YtbkdakabpmpiiaaRas
namespace Go.Proofs.Ytbkdakabpmpiiaa
open Go.RowKit
theorem OwG.emp (E : TypeId) (sz : Nat) (w : World) : OwG E sz (w.alloc (.cells #[] E)) (some w.heap.size) (some ⟨w.heap.size, 0, none⟩) 0 0 [] :=
  ⟨by simp, Nat.le_refl _, Nat.zero_le _, .inr ⟨_, #[], rfl, rfl, heap_alloc_last w _, by simp, by simp⟩⟩
theorem infoInt : (Try.prog.info? 3).map (fun i => (i.zero, i.size, i.bytes)) = some (some (.int .i64 0), 1, 8) := by kernel_rfl
theorem zs_app (l m : List Nat) : zs (l ++ m) = zs l ++ zs m := by simp [zs]
theorem RaB.dropW {W W' : World} {r : Nat} {S : Nat → Prop} {s : Ar} {bo bt : Nat} {cO cT cT' : Array Value} {ad ad' : Option Addr} {cd cd' : Nat} (h : RaB W r S s bo bt cO cT ad cd) {i : Nat} (hi : s.has i = true) (hf : Frm (fun b => b = r ∨ b = bt) W W')
    (h1 : Blk W' r 46 #[.slice (some ⟨bo, 0, none⟩) s.n s.n, .slice (some ⟨bt, 0, none⟩) s.n s.n, .slice ad' (s.D ++ [i]).length cd', .int .i64 (s.nx : Int)])
    (h3 : Blk W' bt 4 cT') (h3' : Flt cB 1 cT' (s.T.set i false)) (hd : It .i64 W' ad' cd' (zs (s.D ++ [i]))) (ha : ∀ b off, ad' = some ⟨b, off, none⟩ → W.heap.size ≤ b ∧ b < W'.heap.size) :
    RA W' r (fun b => S b ∨ (W.heap.size ≤ b ∧ b < W'.heap.size)) (s.drop i) := by
  obtain ⟨n1, n2, n3⟩ := h.ne
  have l1 := h.lt _ h.sr
  have l2 := h.lt _ h.so
  have l3 := h.lt _ h.st
  refine ⟨bo, bt, cO, cT', ad', cd', Ar.drop_wf h.wf hi, h.small, h1, (hf.block bo l2 ?_).trans h.ho, h.fo, h3, h3', hd, .inl h.sr, .inl h.so, .inl h.st, fun b off e => ?_, h.ne, fun b hb => ?_⟩
  · rintro (e | e)
    · exact n1 e.symm
    · exact n3 e
  · have := ha b off e
    exact ⟨.inr this, by omega, by omega, by omega⟩
  · rcases hb with hb | hb
    · exact Nat.lt_of_lt_of_le (h.lt b hb) hf.size
    · exact hb.2
set_option maxRecDepth 8000 in
set_option maxHeartbeats 1000000 in
theorem rdropYes_any (r : Nat) (S : Nat → Prop) (s : Ar) (i : Nat) (W : World) (hA : RA W r S s) (hi : s.has i = true) :
    Calls Try.prog 21 #[.pointer (some ⟨r, 0, none⟩), .int .i64 (i : Int)] W fun e w' => e = .returned (.bool true) ∧ ∃ S', RA w' r S' (s.drop i) ∧ Frm S W w' ∧ ∀ b, S' b → S b ∨ W.heap.size ≤ b := by
  have cH := rhas_any r S s i W hA
  rw [s.hasI_nat, hi] at cH
  obtain ⟨bo, bt, cO, cT, ad, cd, h⟩ := hA
  have hlt := Ar.has_lt h.wf hi
  have hsm := h.small
  obtain ⟨n1, n2, n3⟩ := h.ne
  have hsr := h.sr
  have hst := h.st
  have hrl := h.lt _ h.sr
  have htl := h.lt _ h.st
  have htk := h.tk hlt
  rw [hi] at htk
  have hlen : s.D.length ≤ 500 := by
    have h1 := h.wf.cnt
    unfold Ar.fr at h1
    rw [List.length_append, List.length_reverse] at h1
    omega
  -- behind the store
  obtain ⟨V1, hV1⟩ : ∃ V1, V1 = W.setCell ⟨bt, i, none⟩ (.bool false) := ⟨_, rfl⟩
  have g1 : Blk V1 r 46 #[.slice (some ⟨bo, 0, none⟩) s.n s.n, .slice (some ⟨bt, 0, none⟩) s.n s.n, .slice ad s.D.length cd, .int .i64 (s.nx : Int)] := by rw [hV1]; exact h.hr.other (a := ⟨bt, i, none⟩) n2.symm _
  have g3 : Blk V1 bt 4 (cT.setIfInBounds i (.bool false)) := by rw [hV1]; exact h.ht.set i _
  have g3' := laid_B false h.ft (i := i) (by rw [h.wf.lenT]; exact hlt)
  have gF : Frm (fun b => b = r ∨ b = bt) W V1 := by rw [hV1]; exact (Frm.refl _ W).setCell _ _ (.inl (.inr rfl))
  have gd : It .i64 V1 ad cd (zs s.D) := h.hd.keep fun b off e => by
    rw [hV1]
    exact Below.heap_setCell _ _ _ _ (by obtain ⟨-, -, -, n4⟩ := h.sd b off e; exact n4)
  have hsz1 : V1.heap.size = W.heap.size := by rw [hV1]; simp [World.setCell]
  have hwf : ∀ z ∈ zs (s.D ++ [i]), (Lit.int .i64 z).wf = true := by
    intro z hz
    rw [zs_app] at hz
    rcases List.mem_append.1 hz with hz | hz
    · exact h.hd.wf z hz
    · simp [zs] at hz
      subst hz
      simp [Lit.wf, IntKind.min, IntKind.max, IntKind.signed, IntKind.bits]
      omega
  -- the two appends
  have app : ∀ ao1 cap1 ko1 w1, OwG 3 1 w1 ko1 ao1 cap1 (zs s.D).length ((zs s.D).map (Value.int .i64)) → Frm (fun b => some V1.heap.size = some b) (V1.alloc (.cells #[] 3)) w1 → Moved (V1.alloc (.cells #[] 3)) (some V1.heap.size) ko1 →
      Below V1.heap.size V1 w1 ∧ ∀ ao2 cap2 ko2 w2, OwG 3 1 w2 ko2 ao2 cap2 ((zs s.D).length + 1) (((zs s.D).map (Value.int .i64)) ++ [.int .i64 (i : Int)]) → Frm (fun b => ko1 = some b) (w1.alloc (.cells #[.int .i64 (i : Int)] 3)) w2 → Moved (w1.alloc (.cells #[.int .i64 (i : Int)] 3)) ko1 ko2 →
        Below V1.heap.size V1 w2 ∧ RA (w2.setCell ⟨r, 2, none⟩ (.slice ao2 ((zs s.D).length + 1) cap2)) r (fun b => S b ∨ (W.heap.size ≤ b ∧ b < (w2.setCell ⟨r, 2, none⟩ (.slice ao2 ((zs s.D).length + 1) cap2)).heap.size)) (s.drop i) ∧ Frm S W (w2.setCell ⟨r, 2, none⟩ (.slice ao2 ((zs s.D).length + 1) cap2)) := by
    intro ao1 cap1 ko1 w1 ho1 hf1 hm1
    have hb1 : Below V1.heap.size V1 w1 := ((Below.refl V1.heap.size V1).alloc (Nat.le_refl _) _).trans (hf1.below (by simp) (fun k hk => by cases hk; exact Nat.le_refl _))
    have hk1 : ∀ k, ko1 = some k → V1.heap.size ≤ k := by
      intro k hk
      rcases hm1 with e | e | ⟨k', e, h'⟩
      · rw [e] at hk; cases hk
      · rw [e] at hk; cases hk; exact Nat.le_refl _
      · rw [e] at hk; cases hk; simp at h'; omega
    refine ⟨hb1, fun ao2 cap2 ko2 w2 ho2 hf2 hm2 => ?_⟩
    have hs1 := hb1.size
    have hb2 : Below V1.heap.size V1 w2 := hb1.trans (((Below.refl V1.heap.size w1).alloc hs1 _).trans (hf2.below (by simp; omega) hk1))
    have hk2 : ∀ k, ko2 = some k → V1.heap.size ≤ k := by
      intro k hk
      rcases hm2 with e | e | ⟨k', e, h'⟩
      · rw [e] at hk; cases hk
      · rw [e] at hk; exact hk1 k hk
      · rw [e] at hk; cases hk; simp at h'; omega
    have hr2 := g1.below hb2 (by rw [hsz1]; exact hrl)
    have ht2 := g3.below hb2 (by rw [hsz1]; exact htl)
    have hw2 : Frm (fun b => b = r ∨ b = bt) W w2 := gF.trans (Frm.of_below (S := fun _ => False) hb2) (fun _ f => f.elim)
    have hF : Frm (fun b => b = r ∨ b = bt) W (w2.setCell ⟨r, 2, none⟩ (.slice ao2 ((zs s.D).length + 1) cap2)) := hw2.setCell _ _ (.inl (.inl rfl))
    have hlz : (zs (s.D ++ [i])).length = (zs s.D).length + 1 := by simp [zs]
    have hI : It .i64 w2 ao2 cap2 (zs (s.D ++ [i])) := It.of_own (E := 3) (ko := ko2) hwf (by
      rw [hlz, zs_app, List.map_append]
      exact ho2)
    have hat : ∀ b off, ao2 = some ⟨b, off, none⟩ → W.heap.size ≤ b ∧ b < w2.heap.size := by
      intro b off e
      rcases ho2.at' with ⟨-, e', -⟩ | ⟨k, cur, e1, e2, e3, -⟩
      · rw [e'] at e; cases e
      · rw [e2] at e
        cases e
        have := hk2 _ e1
        have := (Array.getElem?_eq_some_iff.1 e3).1
        omega
    refine ⟨hb2, h.dropW hi hF ?_ (ht2.other (a := ⟨r, 2, none⟩) n2 _) g3' (hI.keep fun b off e => Below.heap_setCell _ _ _ _ (by have := (hat b off e).1; show b ≠ r; omega)) (fun b off e => ⟨(hat b off e).1, by have := (hat b off e).2; simpa [World.setCell] using this⟩), hF.mono fun b _ e => by rcases e with e | e <;> (rw [e]; assumption)⟩
    have := hr2.set 2 (.slice ao2 ((zs s.D).length + 1) cap2)
    have hl : (s.D ++ [i]).length = (zs s.D).length + 1 := by simp [zs]
    rw [hl]
    exact this
  have happ := Lib.hid app
  have cV : V1.cell? ⟨r, 2, none⟩ = some (.slice ad (zs s.D).length cd) := by rw [zs_length]; exact g1.cell_eq 2 _ rfl
  have fV := g1.free
  have r1 : W.cell? ⟨r, 1, none⟩ = some (.slice (some ⟨bt, 0, none⟩) s.n s.n) := h.hr.cell_eq 1 _ rfl
  have tf := h.ht.free
  have HV := Lib.hid hV1
  rw [← zs_length s.D] at hlen
  obtain ⟨i1, hi1, e1⟩ := Option.map_eq_some_iff.1 infoInt
  simp only [Prod.mk.injEq] at e1
  obtain ⟨hz1, hs1, hb1⟩ := e1
  have hr1 : r < V1.heap.size := by rw [hsz1]; exact hrl
  have HS := Lib.hid hsz1
  have hrlen : r < W.heap.size := hrl
  clear app hwf g3' h hsz1 hi
  generalize s.n = n at *
  go_enter Try.func21, Try.ntmps21
  clear hV1
  go_upto_region 4 with (go_at_call 15; (with_reducible refine cH.mono ?_); rintro e w1 ⟨rfl, rfl⟩)
  rw [← HV.out]
  clear r1 tf htk
  go_wp2_with (first
    | (at_builtin; refine wpList_appG rfl (.tmp 16) (.tmp 20) 44 3 i1 _ 1 8 Try.underlying44 hi1 hz1 hs1 hb1 rfl (by decide) rfl (OwG.emp _ _ _) (gd.below ((Below.refl _ _).alloc (Nat.le_refl _) _)).src rfl rfl (by omega) (by omega) ?_; intro ao1 cap1 ko1 w1 ho1 hf1 hm1; rw [Nat.zero_add, List.nil_append] at ho1; obtain ⟨hb1', happ2⟩ := happ.out ao1 cap1 ko1 w1 ho1 hf1 hm1; have happ2' := Lib.hid happ2; clear happ2 hf1 hm1 happ)
    | (at_builtin; refine wpList_appG rfl (.tmp 21) (.tmp 23) 44 3 i1 _ 1 8 Try.underlying44 hi1 hz1 hs1 hb1 rfl (by decide) rfl (ho1.alloc _) (SrcG.one1 _ _ rfl _) rfl rfl (by omega) (by omega) ?_; intro ao2 cap2 ko2 w2 ho2 hf2 hm2; obtain ⟨hb2', hfin⟩ := happ2'.out ao2 cap2 ko2 w2 ho2 hf2 hm2; clear ho2 hf2 hm2 ho1 happ2'; have z1 := g1.below hb2' hr1; have z2 := z1.cell_eq 2 _ rfl; have z3 := z1.free; have hfin' := Lib.hid hfin; clear hfin z1))
  go_ret
  exact ⟨rfl, _, hfin'.out.1, hfin'.out.2, fun b hb => by rcases hb with hb | hb; exact .inl hb; exact .inr hb.1⟩
end Go.Proofs.Ytbkdakabpmpiiaa
