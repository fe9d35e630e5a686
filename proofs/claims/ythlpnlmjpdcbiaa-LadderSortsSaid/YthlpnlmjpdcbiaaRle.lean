/-
  The document's levels: Put where there is no room; Put of a new level.
-/
import Derived.Test.YthlpnlmjpdcbiaaRld
import Derived.Test.YthlpnlmjpdcbiaaGrow
namespace Go.Proofs.Ythlpnlmjpdcbiaa
open Go.RowKit
theorem infoLvl : (Try.prog.info? 44).map (fun i => (i.zero, i.size, i.bytes)) = some (some (vLvl Lvl.zero), 4, 32) := by kernel_rfl
theorem OwG.emptyG (E : TypeId) (sz : Nat) (w : World) : OwG E sz (w.alloc (.cells #[] E)) (some w.heap.size) (some ⟨w.heap.size, 0, none⟩) 0 0 [] :=
  ⟨by simp, Nat.le_refl _, Nat.zero_le _, .inr ⟨_, #[], rfl, rfl, heap_alloc_last w _, by simp, by simp⟩⟩
theorem lcs_one (L : List Lvl) : ∀ u ∈ lcs L, u.oneCell' = true := by
  intro u hu
  obtain ⟨m, -, hm⟩ := List.mem_flatMap.1 hu
  simp at hm
  rcases hm with rfl | rfl | rfl | rfl <;> rfl
section
variable {w w' W : World} {r : Nat} {S T : Nat → Prop} {s : Ld} {ko : Option Nat} {ao : Option Addr} {cap : Nat}
set_option maxRecDepth 8000 in
set_option maxHeartbeats 1000000 in
theorem lputFull_any (p q : Int) (h : RlB W r S ko ao cap s) (hp : 1 ≤ p) (hq : 1 ≤ q) (hf : s.find p = none) (hfull : ¬ s.L.length < s.most) :
    Calls Try.prog 24 #[.pointer (some ⟨r, 0, none⟩), .int .i64 p, .int .i64 q] W fun e w' => e = .returned (.tuple #[.int .i64 0, .int .i64 7]) ∧ Below W.heap.size W w' := by
  have cF := lfind_any p h
  simp only [Ld.fI, hf] at cF
  have hm := h.most
  have hl := h.len
  have c1 := h.c1
  have c2 := h.c2
  have hfu : (s.most : Int) ≤ (s.L.length : Int) := by omega
  have hfd : decide ((s.most : Int) ≤ (s.L.length : Int)) = true := decide_eq_true hfu
  have hp' : decide (p < 1) = false := decide_eq_false (by omega)
  have hq' : decide (q < 1) = false := decide_eq_false (by omega)
  clear h hf hfull
  go_enter Try.func24, Try.ntmps24
  go_wp2_with (first
    | (go_at_call 36; refine cF.mono ?_; rintro e w1 ⟨rfl, rfl⟩; clear cF)
    | fail)
  go_quiet (fail)
  go_wp2
  all_goals go_ret2
  all_goals exact ⟨rfl, belowN (Below.refl _ _) _⟩
/-- A row that has been made behind all, laid into the ladder. -/
theorem RlB.lay (h : RlB W r S ko ao cap s) {B : Nat} (hB : W.heap.size ≤ B) {w2 : World} (hb : Below W.heap.size W w2) {L : List Lvl} (hL : L.length ≤ s.most) {ko2 : Option Nat} {ao2 : Option Addr} {cap2 : Nat}
    (ho : OwG 44 4 w2 ko2 ao2 cap2 L.length (lcs L)) (hk : ∀ k, ko2 = some k → B ≤ k) :
    RlB (w2.setCell ⟨r, 2, none⟩ (.slice ao2 L.length cap2)) r (fun b => S b ∨ (W.heap.size ≤ b ∧ b < w2.heap.size)) ko2 ao2 cap2 ⟨s.buy, s.most, L⟩ ∧ Frm S W (w2.setCell ⟨r, 2, none⟩ (.slice ao2 L.length cap2)) := by
  have hr := h.lt r h.sr
  have hsz : (w2.setCell ⟨r, 2, none⟩ (.slice ao2 L.length cap2)).heap.size = w2.heap.size := by simp [World.setCell]
  have hkr : ∀ k, ko2 = some k → k ≠ r := fun k e => by have := hk k e; omega
  refine ⟨⟨h.most, hL, ?_, ?_, .inl h.sr, fun k e => ⟨.inr ⟨?_, ?_⟩, hkr k e⟩, ?_⟩, (Frm.of_below hb).setCell _ _ (.inl h.sr)⟩
  · exact (h.hr.below hb hr).set 2 _
  · exact ho.keep fun k e => heap_oth _ _ _ (hkr k e)
  · have := hk k e; omega
  · subst e; exact ho.lt
  · intro b hb'
    rw [hsz]
    have := hb.size
    rcases hb' with g | g
    · have := h.lt b g; omega
    · exact g.2
theorem app_newG {B : Nat} {W w w' : World} {ko ko' : Option Nat} (hb : Below B W w) (hB : B ≤ w.heap.size) (hk : ∀ k, ko = some k → B ≤ k) (hf : Frm (fun b => ko = some b) w w') (hm : Moved w ko ko') : Below B W w' ∧ ∀ k, ko' = some k → B ≤ k := by
  refine ⟨hb.trans (hf.below hB hk), fun k e => ?_⟩
  rcases hm with g | g | ⟨k', g, h'⟩
  · rw [g] at e; cases e
  · rw [g] at e; exact hk k e
  · rw [g] at e; cases e; omega
set_option maxRecDepth 8000 in
set_option maxHeartbeats 2000000 in
/-- A new level. -/
theorem lputNew_any (p q : Int) (h : RlB W r S ko ao cap s) (hp : 1 ≤ p) (hq : 1 ≤ q) (hf : s.find p = none) (hroom : s.L.length < s.most) :
    Calls Try.prog 24 #[.pointer (some ⟨r, 0, none⟩), .int .i64 p, .int .i64 q] W fun e w' => e = .returned (.tuple #[.int .i64 (freeQ s.L : Nat), .int .i64 0]) ∧ ∃ S', RL w' r S' ⟨s.buy, s.most, s.L ++ [⟨p, q, 1, (freeQ s.L : Nat)⟩]⟩ ∧ Frm S W w' ∧ ∀ b, S' b → S b ∨ W.heap.size ≤ b := by
  have cF := lfind_any p h
  simp only [Ld.fI, hf] at cF
  have cQ := fun w (k : RlB w r S ko ao cap s) => lfree_any k
  have hm := h.most
  have hl := h.len
  have c1 := h.c1
  have c2 := h.c2
  obtain ⟨F, hF⟩ : ∃ F, F = freeQ s.L := ⟨_, rfl⟩
  rw [← hF] at cQ ⊢
  have app : ∀ V, Below W.heap.size W V → ∀ ao1 cap1 ko1 w1, OwG 44 4 w1 ko1 ao1 cap1 s.L.length (lcs s.L) → Frm (fun b => some V.heap.size = some b) (V.alloc (.cells #[] 44)) w1 → Moved (V.alloc (.cells #[] 44)) (some V.heap.size) ko1 →
      Below V.heap.size V w1 ∧ ∀ ao2 cap2 ko2 w2, OwG 44 4 w2 ko2 ao2 cap2 (s.L.length + 1) (lcs s.L ++ (cLvl ⟨p, q, 1, (F : Int)⟩).toList) → Frm (fun b => ko1 = some b) (w1.alloc (.cells (cLvl ⟨p, q, 1, (F : Int)⟩) 44)) w2 → Moved (w1.alloc (.cells (cLvl ⟨p, q, 1, (F : Int)⟩) 44)) ko1 ko2 →
        Below V.heap.size V w2 ∧ (∃ S', RL (w2.setCell ⟨r, 2, none⟩ (.slice ao2 (s.L.length + 1) cap2)) r S' ⟨s.buy, s.most, s.L ++ [⟨p, q, 1, (F : Int)⟩]⟩ ∧ Frm S W (w2.setCell ⟨r, 2, none⟩ (.slice ao2 (s.L.length + 1) cap2)) ∧ ∀ b, S' b → S b ∨ W.heap.size ≤ b) := by
    intro V hV ao1 cap1 ko1 w1 ho1 hf1 hm1
    obtain ⟨hb1, hk1⟩ := app_newG (B := V.heap.size) ((Below.refl V.heap.size V).alloc (Nat.le_refl _) (.cells #[] 44)) (by simp) (fun k e => by cases e; exact Nat.le_refl _) hf1 hm1
    refine ⟨hb1, fun ao2 cap2 ko2 w2 ho2 hf2 hm2 => ?_⟩
    obtain ⟨hb2, hk2⟩ := app_newG (B := V.heap.size) (hb1.alloc hb1.size (.cells (cLvl ⟨p, q, 1, (F : Int)⟩) 44)) (by have := hb1.size; simp; omega) hk1 hf2 hm2
    have e1 : (s.L ++ [(⟨p, q, 1, (F : Int)⟩ : Lvl)]).length = s.L.length + 1 := by simp
    have e2 : lcs (s.L ++ [(⟨p, q, 1, (F : Int)⟩ : Lvl)]) = lcs s.L ++ (cLvl ⟨p, q, 1, (F : Int)⟩).toList := by simp [lcs]
    obtain ⟨g1, g2⟩ := h.lay (B := V.heap.size) hV.size (hV.trans (hb2.mono hV.size)) (L := s.L ++ [⟨p, q, 1, (F : Int)⟩]) (by rw [e1]; omega) (by rw [e1, e2]; exact ho2) hk2
    rw [e1] at g1 g2
    exact ⟨hb2, _, ⟨_, _, _, g1⟩, g2, fun b hb => by rcases hb with g | g; exact .inl g; exact .inr g.1⟩
  have happ := Lib.hid app
  obtain ⟨i1, hi1, e1⟩ := Option.map_eq_some_iff.1 infoLvl
  simp only [Prod.mk.injEq] at e1
  obtain ⟨hz1, hs1, hb1⟩ := e1
  have hr0 := h.lt r h.sr
  have hfu : ¬ (s.most : Int) ≤ (s.L.length : Int) := by omega
  have hfd : decide ((s.most : Int) ≤ (s.L.length : Int)) = false := decide_eq_false hfu
  have hp' : decide (p < 1) = false := decide_eq_false (by omega)
  have hq' : decide (q < 1) = false := decide_eq_false (by omega)
  have hL4 := lcs_one s.L
  have hone : ∀ u ∈ (cLvl ⟨p, q, 1, (F : Int)⟩).toList, u.oneCell' = true := by
    intro u hu
    simp at hu
    rcases hu with rfl | rfl | rfl | rfl <;> rfl
  clear app hf hF hroom
  go_enter Try.func24, Try.ntmps24
  go_wp2_with (first
    | (go_at_call 36; refine cF.mono ?_; rintro e w1 ⟨rfl, hw1⟩; subst w1; clear cF)
    | fail)
  go_quiet (fail)
  clear c1 c2
  go_wp2_with (first
    | (go_at_call 37; refine (cQ _ (h.drewN _)).mono ?_; rintro e V ⟨rfl, hbV⟩; clear cQ; have hV : Below W.heap.size W V := (belowN (Below.refl _ _) _).trans hbV; have kV := h.below hV; have d2 := kV.c2; have hrV : r < V.heap.size := (by have := hV.size; omega); clear h hbV)
    | (at_builtin; refine wpList_appG rfl (.tmp 36) (.tmp 40) 36 44 i1 _ 4 32 Try.underlying36 hi1 hz1 hs1 hb1 rfl (by decide) rfl (OwG.emptyG _ _ _) ((kV.how.alloc _).src hL4) rfl rfl (by omega) (by omega) ?_; intro ao1 cap1 ko1 w1 ho1 hf1 hm1; rw [Nat.zero_add, List.nil_append] at ho1; try simp only [Nat.zero_add]; obtain ⟨hb1', happ2⟩ := happ.out V hV ao1 cap1 ko1 w1 ho1 hf1 hm1; have happ2' := Lib.hid happ2; clear happ2 hf1 hm1 happ)
    | (at_builtin; refine wpList_appG rfl (.tmp 41) (.tmp 46) 36 44 i1 _ 4 32 Try.underlying36 hi1 hz1 hs1 hb1 rfl (by decide) rfl (ho1.alloc _) (SrcG.row (cs := cLvl ⟨p, q, 1, (F : Int)⟩) (Blk.new' (by simp)) rfl hone) rfl rfl (by omega) (by omega) ?_; intro ao2 cap2 ko2 w2 ho2 hf2 hm2; obtain ⟨hb2', hfin⟩ := happ2'.out ao2 cap2 ko2 w2 ho2 hf2 hm2; clear ho2 hf2 hm2 ho1 happ2'; have z1 := kV.hr.below hb2' (by have := hV.size; omega); have z2 := z1.cell_eq 2 _ rfl; have z3 := z1.free 2; have hfin' := Lib.hid hfin; clear hfin z1)
    | fail)
  go_ret2
  exact ⟨rfl, hfin'.out⟩
end
end Go.Proofs.Ythlpnlmjpdcbiaa
