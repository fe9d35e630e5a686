/-
  The contracts of the statements' Plain, Light and alive.
-/
import Derived.Test.YtbkiipeoabbiiaaCfgT
import Derived.Test.YtbkiipeoabbiiaaCfgC
import Derived.Test.YtbkiipeoabbiiaaGrow
import Derived.Laws.EntriesVeiled
namespace Go.Proofs.Ytbkiipeoabbiiaa
open Go.RowKit
abbrev plainS : Symb := ⟨5, 1000, 2000, 500, 20, 100, 3, 10, 5, 2, 500, 500, 1, 40, 12, 1000⟩
abbrev plainR : List Rowp := [⟨5, 1⟩, ⟨10, 2⟩, ⟨500, 0⟩]
def plainC (n : Nat) : Cfg := ⟨List.replicate n plainS, plainR, 10000, 700, 1300, 2000, 15, 30⟩
theorem infoSymb : (Try.prog.info? 35).map (fun i => (i.zero, i.size, i.bytes)) = some (some (vSymb Symb.zero), 16, 128) := by kernel_rfl
abbrev cPl (oo : Option Addr) (q oc g : Nat) : Array Value := #[.slice oo q oc, .slice (some ⟨g, 0, none⟩) 3 3, .int .i64 10000, .int .i64 700, .int .i64 1300, .int .i64 2000, .int .i64 15, .int .i64 30]
theorem sizeCfg : (Try.prog.info? 27).map (·.size) = some 8 := by kernel_rfl
theorem one_cPl (oo : Option Addr) (q oc g : Nat) : (cPl oo q oc g).all (·.oneCell') = true := by simp [cPl, Value.oneCell']
/-- What Plain holds after some rounds. -/
structure PL (W wr : World) (q : Nat) (ko : Option Nat) (oc : Nat) (oo : Option Addr) : Prop where
  r : Blk wr W.heap.size 27 #[.slice none 0 0, .slice none 0 0, .int .i64 0, .int .i64 0, .int .i64 0, .int .i64 0, .int .i64 0, .int .i64 0]
  s : Blk wr (W.heap.size + 1) 35 (cSymb plainS)
  t : Blk wr (W.heap.size + 2) 49 #[.int .i64 5, .int .i64 1, .int .i64 10, .int .i64 2, .int .i64 500, .int .i64 0]
  c : Blk wr (W.heap.size + 3) 27 (cPl oo q oc (W.heap.size + 2))
  ow : OwG 35 16 wr ko oo oc q ((List.replicate q plainS).flatMap fun m => (cSymb m).toList)
  own : ∀ k, ko = some k → W.heap.size + 4 ≤ k
  bel : Below W.heap.size W wr
set_option maxRecDepth 8000 in
set_option maxHeartbeats 2000000 in
theorem plain_any (n : Nat) (hn : n ≤ 20) (W : World) :
    Calls Try.prog 22 #[.int .i64 (n : Int)] W fun e w' => ∃ sa sc ra rc, e = .returned (vCfg sa sc ra rc (plainC n)) ∧ Holds w' sa sc ra rc (plainC n) ∧ Below W.heap.size W w' := by
  obtain ⟨i1, hi1, hz1, hs1, hb1⟩ := info_parts infoSymb
  go_enter Try.func22, Try.ntmps22
  go_wp2_with fail
  go_loopg [5] n (fun j p5 wr => ∃ (q : Nat) (ko : Option Nat) (oc : Nat) (oo : Option Addr), q + j = n ∧ p5 = .int .i64 (q : Int) ∧ PL W wr q ko oc oo)
  case atStart =>
    refine ⟨0, none, 0, none, by omega, rfl, ⟨?_, ?_, ?_, ?_, OwG.nil _ _ _, fun k h => (by cases h), ?_⟩⟩
    · exact (((Blk.new _ _ _).alloc _).alloc _).alloc _
    · exact ((Blk.new' (n := W.heap.size + 1) (by simp)).alloc _).alloc _
    · exact (Blk.new' (n := W.heap.size + 2) (by simp)).alloc _
    · exact Blk.new' (by simp)
    · exact ((((Below.refl W.heap.size W).alloc (Nat.le_refl _) _).alloc (by simp) _).alloc (by simp; omega) _).alloc (by simp; omega) _
  case round =>
    obtain ⟨q, ko, oc, oo, hq, rfl, hP⟩ := hrel
    have hsz := hP.c.lt
    have c0 := hP.c.cell_eq 0 _ rfl
    have c1 := hP.c.cell_eq 1 _ rfl
    have c2 := hP.c.cell_eq 2 _ rfl
    have c3 := hP.c.cell_eq 3 _ rfl
    have c4 := hP.c.cell_eq 4 _ rfl
    have c5 := hP.c.cell_eq 5 _ rfl
    have c6 := hP.c.cell_eq 6 _ rfl
    have c7 := hP.c.cell_eq 7 _ rfl
    obtain ⟨s0, s1, s2, s3, s4, s5, s6, s7, s8, s9, sa, sb, sc, sd, se, sf⟩ := Symb.cells hP.s
    by_cases hj : q < n
    · have ho0 := hP.ow
      have hX : ∀ (w3 : World) (ko' : Option Nat) (oc' : Nat) (oo' : Option Addr), OwG 35 16 w3 ko' oo' oc' (q + 1) ((List.replicate q plainS).flatMap (fun m => (cSymb m).toList) ++ (cSymb plainS).toList) → Frm (fun b => ko = some b) (wr.alloc (.cells (cSymb plainS) 35)) w3 → Moved (wr.alloc (.cells (cSymb plainS) 35)) ko ko' → PL W (w3.setCell ⟨W.heap.size + 3, 0, none⟩ (.slice oo' (q + 1) oc')) (q + 1) ko' oc' oo' ∧ w3.frozen? ⟨W.heap.size + 3, 0, none⟩ = false ∧ w3.cell? ⟨W.heap.size + 3, 0, none⟩ = some (.slice oo q oc) := by
        intro w3 ko' oc' oo' ho hf hm
        have hk : ∀ b, ko = some b → W.heap.size + 4 ≤ b := hP.own
        have hc3 := (hP.c.alloc (.cells (cSymb plainS) 35)).frm hf (fun h => by have := hk _ h; omega)
        have hown : ∀ k, ko' = some k → W.heap.size + 4 ≤ k := by
          intro k h
          rcases hm with h1 | h1 | ⟨k2, h1, h2⟩
          · rw [h1] at h; cases h
          · rw [h1] at h; exact hk k h
          · rw [h1] at h; cases h
            have : (wr.alloc (.cells (cSymb plainS) 35)).heap.size = wr.heap.size + 1 := by simp
            omega
        have hb3 : Below W.heap.size W w3 := (hP.bel.alloc hP.bel.size _).trans (hf.below (by have := hP.bel.size; simp; omega) (fun b h => by have := hk b h; omega))
        refine ⟨⟨?_, ?_, ?_, hc3.set 0 _, ?_, hown, hb3.setCell (by simp) _⟩, hc3.free 0, hc3.cell_eq 0 _ rfl⟩
        · exact ((hP.r.alloc _).frm hf (fun h => by have := hk _ h; omega)).other (by simp) _
        · exact ((hP.s.alloc _).frm hf (fun h => by have := hk _ h; omega)).other (by simp) _
        · exact ((hP.t.alloc _).frm hf (fun h => by have := hk _ h; omega)).other (by simp) _
        · rw [List.replicate_succ', List.flatMap_append]
          simp only [List.flatMap_cons, List.flatMap_nil, List.append_nil]
          exact ho.keep fun k h => by
            have := hown k h
            exact Below.heap_setCell _ _ _ _ (by simp; omega)
      go_wp2_with (at_builtin; refine wpList_appG rfl (.tmp 20) (.tmp 22) 22 35 i1 _ 16 128 Try.underlying22 hi1 hz1 hs1 hb1 rfl (by decide) rfl (ho0.alloc _) (SrcG.row (cs := cSymb plainS) (Blk.new' (by simp)) rfl (by decide)) rfl rfl (by omega) (by omega) ?_; intro oo' oc' ko' w3 ho hf3 hm3; obtain ⟨hN, hfz, hcz⟩ := hX _ _ _ _ ho hf3 hm3; clear hX ho hf3 hm3 ho0)
      go_roundg (n - (q + 1))
      case measure => omega
      case rel => exact ⟨q + 1, ko', oc', oo', by omega, by go_num, hN⟩
    · obtain rfl : q = n := by omega
      have hbig := hP.c.lt
      have hkk := hP.own
      go_wp2_with ((refine wpList_store_row rfl 27 (.tmp 2) (.tmp 25) rfl W.heap.size (cPl oo q oc (W.heap.size + 2)) rfl rfl 27 _ hP.r sizeCfg rfl (one_cPl _ _ _ _) ?_))
      have ho2 : OwG 35 16 (wr.setRow W.heap.size (cPl oo q oc (W.heap.size + 2))) ko oo oc q ((List.replicate q plainS).flatMap fun m => (cSymb m).toList) := hP.ow.keep fun k h => by
        have := hkk k h
        simp only [World.setRow, Array.getElem?_modify]
        rw [if_neg (by omega)]
      have ht2 := hP.t.setRow_other (b := W.heap.size) (by omega) (cPl oo q oc (W.heap.size + 2))
      have hsy : Symbs (wr.setRow W.heap.size (cPl oo q oc (W.heap.size + 2))) oo oc (List.replicate q plainS) := Symbs.of_own (by rw [List.length_replicate]; exact ho2)
      have hro : Rowps (wr.setRow W.heap.size (cPl oo q oc (W.heap.size + 2))) (some ⟨W.heap.size + 2, 0, none⟩) 3 plainR := ⟨Nat.le_refl _, by decide, .inr ⟨_, 0, rfl, fun i m hi j v hj => by
        have h2 : j < 2 := by
          have := (Array.getElem?_eq_some_iff.1 hj).1
          simpa using this
        refine ht2.cell_eq _ _ ?_
        match i, hi with
        | 0, hi => cases hi; match j, h2, hj with
          | 0, _, hj => exact hj
          | 1, _, hj => exact hj
        | 1, hi => cases hi; match j, h2, hj with
          | 0, _, hj => exact hj
          | 1, _, hj => exact hj
        | 2, hi => cases hi; match j, h2, hj with
          | 0, _, hj => exact hj
          | 1, _, hj => exact hj
        | i + 3, hi => simp at hi⟩⟩
      refine bodyPost_ret (v := .agg (cPl oo q oc (W.heap.size + 2))) ?_ rfl ⟨oo, oc, some ⟨W.heap.size + 2, 0, none⟩, 3, ?_, ⟨hsy, hro⟩, below_setRow hP.bel (Nat.le_refl _) _⟩
      · exact results_cell_row rfl _ _ _ _ _ _ _ rfl (hP.r.setRow _) Try.underlying27 rfl sizeCfg
      · simp [vCfg, cCfg, plainC]
end Go.Proofs.Ytbkiipeoabbiiaa
