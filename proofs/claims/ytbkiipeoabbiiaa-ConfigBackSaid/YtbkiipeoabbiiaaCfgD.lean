/-
  The contract of package config's Read.
  The contract of package config's Read: whole.
-/
import Derived.Test.YtbkiipeoabbiiaaCfgX
import Derived.Test.YtbkiipeoabbiiaaCfgT
import Derived.Test.YtbkiipeoabbiiaaCfgL
import Derived.Test.YtbkiipeoabbiiaaOctS
namespace Go.Proofs.Ytbkiipeoabbiiaa
open Go.RowKit
theorem results_cell_row2 {P : Program} {fn : Func} {p q : Tmp} {ty : TypeId} (h : fn.results = #[.cell p ty, .tmp q]) (tmps : Array Value) (w : World) (g : Nat) (t : TypeId) (cs : Array Value) (fr : Nat × Nat) (d : TypeDesc)
    (hp : tmps.getD p undef = .pointer (some ⟨g, 0, none⟩)) (hg : w.heap[g]? = some (.cells cs t fr))
    (hu : P.underlying ty = some d) (hd : (match d with | .struct _ | .array _ _ => true | _ => false) = true) (hi : (P.info? ty).map (·.size) = some cs.size) :
    (results fn tmps).run P w = .ok (.tuple #[.agg cs, tmps.getD q undef]) w := by
  have hp' : tmps[p]?.getD undef = .pointer (some ⟨g, 0, none⟩) := by simpa using hp
  simp [results, h, hp', asAddr, run_loadVar_row w g t ty cs fr d hg hu hd hi]
/-- Behind the walk that reads. -/
structure After (B : Nat) (w1 w' : World) (g : Nat) (y : Wk RdS) : Prop where
  bel : Below B w1 w'
  rr : Rr w' g y.s.zs y.s.f
  tb : w'.cell? ⟨w1.heap.size, 0, none⟩ = some (.pointer (some ⟨g, 0, none⟩))
  bb : w'.cell? ⟨w1.heap.size + 1, 0, none⟩ = some (.bool y.s.big)
  fin : y.fine = true → ∃ g1 g2, Blk w' g2 49 (Cv [] y.vs []) ∧ Blk w' g1 35 (Cv [] y.us []) ∧ Blk w' (w1.heap.size + 2) 27 (cC (some ⟨g1, 0, none⟩) y.n y.n (some ⟨g2, 0, none⟩) y.m y.m y.ts)
theorem walkRead_any (b : List Nat) (g k : Nat) (w1 : World) (hR : RrK w1 g k b 0) (B : Nat) (hg : B ≤ g) (hk : b ≠ [] → B ≤ k) (hB : B ≤ w1.heap.size) :
    Calls Try.prog 41 #[.pointer (some ⟨w1.heap.size + 2, 0, none⟩), .func (.func 50) #[] #[.pointer (some ⟨w1.heap.size, 0, none⟩), .pointer (some ⟨w1.heap.size + 1, 0, none⟩)]]
      (((w1.alloc (.cells #[.pointer (some ⟨g, 0, none⟩)] 75)).alloc (.cells #[.bool false] 4)).alloc (.cells (cCfg none 0 none 0 Cfg.zero) 27))
      fun e w' => e = .returned (.bool (walkP ansR nxR Cfg.zero ⟨b, 0, false, 900⟩).fine) ∧ After B w1 w' g (walkP ansR nxR Cfg.zero ⟨b, 0, false, 900⟩) := by
  have hlt := hR.lt
  have hb3 : Below w1.heap.size w1 (((w1.alloc (.cells #[.pointer (some ⟨g, 0, none⟩)] 75)).alloc (.cells #[.bool false] 4)).alloc (.cells (cCfg none 0 none 0 Cfg.zero) 27)) := (((Below.refl _ w1).alloc (Nat.le_refl _) _).alloc (by simp) _).alloc (by simp; omega) _
  have k1 := ((Blk.new w1 75 #[.pointer (some ⟨g, 0, none⟩)]).alloc (.cells #[.bool false] 4)).alloc (.cells (cCfg none 0 none 0 Cfg.zero) 27)
  have k2 := (Blk.new' (w := w1.alloc (.cells #[.pointer (some ⟨g, 0, none⟩)] 75)) (n := w1.heap.size + 1) (t := 4) (cs := #[.bool false]) (by simp)).alloc (.cells (cCfg none 0 none 0 Cfg.zero) 27)
  have k3 := Blk.new' (w := (w1.alloc (.cells #[.pointer (some ⟨g, 0, none⟩)] 75)).alloc (.cells #[.bool false] 4)) (n := w1.heap.size + 2) (t := 27) (cs := cCfg none 0 none 0 Cfg.zero) (by simp)
  have hs3 : (((w1.alloc (.cells #[.pointer (some ⟨g, 0, none⟩)] 75)).alloc (.cells #[.bool false] 4)).alloc (.cells (cCfg none 0 none 0 Cfg.zero) 27)).heap.size = w1.heap.size + 3 := by simp
  generalize ((w1.alloc (.cells #[.pointer (some ⟨g, 0, none⟩)] 75)).alloc (.cells #[.bool false] 4)).alloc (.cells (cCfg none 0 none 0 Cfg.zero) 27) = w3 at *
  have hR3 : RrK w3 g k b 0 := hR.frm (S := fun _ => False) (Frm.of_below hb3) (fun h => h) (fun _ h => h)
  have hI : IR g k w1.heap.size (w1.heap.size + 1) ⟨b, 0, false, 900⟩ (fun q => q = g ∨ q = w1.heap.size ∨ q = w1.heap.size + 1 ∨ (b ≠ [] ∧ q = k)) w3 :=
    ⟨hR3, k1, k2, ⟨by omega, by omega, by omega, fun h => by have := hlt.2 h; omega⟩, rfl⟩
  have hP : PJ (IR g k w1.heap.size (w1.heap.size + 1)) w3 (fun q => q = g ∨ q = w1.heap.size ∨ q = w1.heap.size + 1 ∨ (b ≠ [] ∧ q = k)) (w1.heap.size + 2) 27 [] ⟨b, 0, false, 900⟩ (cCfg none 0 none 0 Cfg.zero) w3 :=
    ⟨_, hI, k3, Frm.refl _ _, fun q hq => .inl hq, by rintro (h | h | h | ⟨h1, h2⟩) <;> first | omega | (have := hlt.2 h1; omega), fun p hp => by simp at hp⟩
  have hBS : ∀ q, (q = g ∨ q = w1.heap.size ∨ q = w1.heap.size + 1 ∨ (b ≠ [] ∧ q = k)) → B ≤ q := by
    rintro q (h | h | h | ⟨h1, h2⟩) <;> first | omega | (have := hk h1; omega)
  refine (walk_any (nmR g k _ _) (fun s n _ => by unfold ansR; omega) trivial (B := B) (by omega) hBS (by omega) (by decide) (by decide) (fun w' _ => Holds.zero w') trivial trivial (fun _ _ => trivial) (fun _ _ => trivial) (fun _ _ => trivial) (by show 176 ≤ 900; decide) hP).mono fun e w' h => ?_
  obtain ⟨he, h1, h2⟩ := h
  refine ⟨he, ?_⟩
  have key : ∀ ob cs, PJ (IR g k w1.heap.size (w1.heap.size + 1)) w3 (fun q => q = g ∨ q = w1.heap.size ∨ q = w1.heap.size + 1 ∨ (b ≠ [] ∧ q = k)) (w1.heap.size + 2) 27 ob (walkP ansR nxR Cfg.zero ⟨b, 0, false, 900⟩).s cs w' → Below B w1 w' ∧ Rr w' g (walkP ansR nxR Cfg.zero ⟨b, 0, false, 900⟩).s.zs (walkP ansR nxR Cfg.zero ⟨b, 0, false, 900⟩).s.f ∧ w'.cell? ⟨w1.heap.size, 0, none⟩ = some (.pointer (some ⟨g, 0, none⟩)) ∧ w'.cell? ⟨w1.heap.size + 1, 0, none⟩ = some (.bool (walkP ansR nxR Cfg.zero ⟨b, 0, false, 900⟩).s.big) := by
    intro ob cs hp
    have hf := hp.frm.below (B := B) (by omega) (by rintro q (h | h); exact hBS q h; omega)
    obtain ⟨S, ⟨hr, ht, hb', -, -⟩, -⟩ := hp
    exact ⟨(hb3.mono hB).trans hf, hr.rr, ht.cell_eq 0 _ rfl, hb'.cell_eq 0 _ rfl⟩
  cases hfi : (walkP ansR nxR Cfg.zero ⟨b, 0, false, 900⟩).fine with
  | false =>
    obtain ⟨cs, hp⟩ := h1 hfi
    obtain ⟨a1, a2, a3, a4⟩ := key _ _ hp
    exact ⟨a1, a2, a3, a4, fun h => by rw [hfi] at h; cases h⟩
  | true =>
    obtain ⟨g1, g2, hp⟩ := h2 hfi
    obtain ⟨a1, a2, a3, a4⟩ := key _ _ hp
    exact ⟨a1, a2, a3, a4, fun _ => ⟨g1, g2, hp.get _ _ _ (by simp), hp.get _ _ _ (by simp), hp.blk⟩⟩
end Go.Proofs.Ytbkiipeoabbiiaa
namespace Go.Proofs.Ytbkiipeoabbiiaa
open Go.RowKit
abbrev zC : Array Value := #[.slice none 0 0, .slice none 0 0, .int .i64 0, .int .i64 0, .int .i64 0, .int .i64 0, .int .i64 0, .int .i64 0]
theorem zC_eq : cCfg none 0 none 0 Cfg.zero = zC := rfl
theorem one_cfg (sa : Option Addr) (n sc : Nat) (ra : Option Addr) (m rc : Nat) (a b c d e f : Int) : (#[Value.slice sa n sc, .slice ra m rc, .int .i64 a, .int .i64 b, .int .i64 c, .int .i64 d, .int .i64 e, .int .i64 f]).all (·.oneCell') = true := by simp [Value.oneCell']
theorem blk_ne {w : World} {g g' : Nat} {t t' : TypeId} {cs cs' : Array Value} (h : Blk w g t cs) (h' : Blk w g' t' cs') (ht : t ≠ t') : g ≠ g' := fun e => by
  subst e
  unfold Blk at h h'
  rw [h] at h'
  cases h'
  exact ht rfl
set_option maxRecDepth 8000 in
set_option maxHeartbeats 2000000 in
theorem cread_any (kb cap : Nat) (ao : Option Addr) (b : List Nat) (hx : b.length ≤ 2000000) (W : World) (hB : Bt W kb ao cap b) :
    Calls Try.prog 20 #[.slice ao b.length cap] W fun e w' => ∃ sa sc ra rc, e = .returned (.tuple #[vCfg sa sc ra rc (readC b).1, .int .i64 ((readC b).2 : Int)]) ∧ Holds w' sa sc ra rc (readC b).1 ∧ Below W.heap.size W w' := by
  have hRd := read_cases hB.lt 900
  have cN := newReaderK_any kb cap ao b hx (W.alloc (.cells zC 27)) (hB.alloc _)
  have cW := fun g k w1 hR hg hk hB' => walkRead_any b g k w1 hR (W.heap.size + 1) hg hk hB'
  have cF := fun g f xs w h => fault_any g f xs w h
  have cL := fun g f xs w h => left_any g f xs w h
  obtain ⟨y, hy⟩ : ∃ y, walkP ansR nxR Cfg.zero ⟨b, 0, false, 900⟩ = y := ⟨_, rfl⟩
  rw [hy] at hRd
  simp only [hy, zC_eq] at cW
  clear hy hB
  have hsz : (W.alloc (.cells zC 27)).heap.size = W.heap.size + 1 := by simp
  rw [hsz] at cN
  have hres := Blk.new W 27 zC
  have hb0 : Below W.heap.size W (W.alloc (.cells zC 27)) := (Below.refl _ W).alloc (Nat.le_refl _) _
  cases hRd with
  | fault h e =>
    rw [e]
    obtain ⟨fine, n, us, m, vs, ts, ⟨zs, f, big, j⟩⟩ := y
    simp only at h cW ⊢
    have hd : ((f : Int) != 0) = true := by simp; omega
    go_enter Try.func20, Try.ntmps20
    go_wp2_with (first
      | (go_at_call 49; (with_reducible refine cN.mono ?_); rintro e w1 ⟨g, k, rfl, hR1, hb1, hg1, hk1⟩; have hs1 := hb1.size; rw [hsz] at hs1; have hr1 := hres.below hb1 (by omega))
      | (go_at_call 41; (with_reducible refine (cW g k w1 hR1 hg1 hk1 hs1).mono ?_); rintro e w2 ⟨rfl, hA⟩; have hr2 := hr1.below (hA.bel) (by omega); have y0 := hA.tb; have y1 := hA.bb)
      | (go_at_call 52; (with_reducible refine (cF _ _ _ _ hA.rr).mono ?_); rintro e w3 ⟨rfl, rfl⟩)
      | (refine wpList_store_row rfl 27 (.tmp 2) (.tmp 18) rfl W.heap.size zC rfl rfl 27 _ hr2 sizeCfg rfl (one_cfg _ _ _ _ _ _ _ _ _ _ _ _) ?_))
    refine bodyPost_ret (results_cell_row2 (p := 2) (q := 3) rfl _ _ _ _ zC _ _ rfl (hr2.setRow _) Try.underlying27 rfl sizeCfg) rfl ?_
    exact ⟨none, 0, none, 0, rfl, Holds.zero _, below_setRow (hb0.trans (hb1.trans (hA.bel.mono (by omega)) |>.mono (by omega))) (Nat.le_refl _) _⟩
  | shape h h2 e =>
    rw [e]
    obtain ⟨fine, n, us, m, vs, ts, ⟨zs, f, big, j⟩⟩ := y
    simp only at h h2 cW ⊢
    subst h
    rcases h2 with rfl | ⟨rfl, h2⟩
    · go_enter Try.func20, Try.ntmps20
      go_wp2_with (first
        | (go_at_call 49; (with_reducible refine cN.mono ?_); rintro e w1 ⟨g, k, rfl, hR1, hb1, hg1, hk1⟩; have hs1 := hb1.size; rw [hsz] at hs1; have hr1 := hres.below hb1 (by omega))
        | (go_at_call 41; (with_reducible refine (cW g k w1 hR1 hg1 hk1 hs1).mono ?_); rintro e w2 ⟨rfl, hA⟩; have hr2 := hr1.below (hA.bel) (by omega); have y0 := hA.tb; have y1 := hA.bb)
        | (go_at_call 52; (with_reducible refine (cF _ _ _ _ hA.rr).mono ?_); rintro e w3 ⟨rfl, rfl⟩)
        | (refine wpList_store_row rfl 27 (.tmp 2) (.tmp 32) rfl W.heap.size zC rfl rfl 27 _ hr2 sizeCfg rfl (one_cfg _ _ _ _ _ _ _ _ _ _ _ _) ?_))
      refine bodyPost_ret (results_cell_row2 (p := 2) (q := 3) rfl _ _ _ _ zC _ _ rfl (hr2.setRow _) Try.underlying27 rfl sizeCfg) rfl ?_
      exact ⟨none, 0, none, 0, rfl, Holds.zero _, below_setRow (hb0.trans (hb1.trans (hA.bel.mono (by omega)) |>.mono (by omega))) (Nat.le_refl _) _⟩
    · cases big with
      | true =>
        go_enter Try.func20, Try.ntmps20
        go_wp2_with (first
          | (go_at_call 49; (with_reducible refine cN.mono ?_); rintro e w1 ⟨g, k, rfl, hR1, hb1, hg1, hk1⟩; have hs1 := hb1.size; rw [hsz] at hs1; have hr1 := hres.below hb1 (by omega))
          | (go_at_call 41; (with_reducible refine (cW g k w1 hR1 hg1 hk1 hs1).mono ?_); rintro e w2 ⟨rfl, hA⟩; have hr2 := hr1.below (hA.bel) (by omega); have y0 := hA.tb; have y1 := hA.bb)
          | (go_at_call 52; (with_reducible refine (cF _ _ _ _ hA.rr).mono ?_); rintro e w3 ⟨rfl, rfl⟩)
          | (refine wpList_store_row rfl 27 (.tmp 2) (.tmp 32) rfl W.heap.size zC rfl rfl 27 _ hr2 sizeCfg rfl (one_cfg _ _ _ _ _ _ _ _ _ _ _ _) ?_))
        refine bodyPost_ret (results_cell_row2 (p := 2) (q := 3) rfl _ _ _ _ zC _ _ rfl (hr2.setRow _) Try.underlying27 rfl sizeCfg) rfl ?_
        exact ⟨none, 0, none, 0, rfl, Holds.zero _, below_setRow (hb0.trans (hb1.trans (hA.bel.mono (by omega)) |>.mono (by omega))) (Nat.le_refl _) _⟩
      | false =>
        have h3 : 0 < zs.length := List.length_pos_iff.2 (h2.elim (fun g => by cases g) id)
        go_enter Try.func20, Try.ntmps20
        go_wp2_with (first
          | (go_at_call 49; (with_reducible refine cN.mono ?_); rintro e w1 ⟨g, k, rfl, hR1, hb1, hg1, hk1⟩; have hs1 := hb1.size; rw [hsz] at hs1; have hr1 := hres.below hb1 (by omega))
          | (go_at_call 41; (with_reducible refine (cW g k w1 hR1 hg1 hk1 hs1).mono ?_); rintro e w2 ⟨rfl, hA⟩; have hr2 := hr1.below (hA.bel) (by omega); have y0 := hA.tb; have y1 := hA.bb)
          | (go_at_call 52; (with_reducible refine (cF _ _ _ _ hA.rr).mono ?_); rintro e w3 ⟨rfl, rfl⟩)
          | (go_at_call 53; (with_reducible refine (cL _ _ _ _ hA.rr).mono ?_); rintro e w3 ⟨rfl, rfl⟩)
          | (refine wpList_store_row rfl 27 (.tmp 2) (.tmp 32) rfl W.heap.size zC rfl rfl 27 _ hr2 sizeCfg rfl (one_cfg _ _ _ _ _ _ _ _ _ _ _ _) ?_))
        refine bodyPost_ret (results_cell_row2 (p := 2) (q := 3) rfl _ _ _ _ zC _ _ rfl (hr2.setRow _) Try.underlying27 rfl sizeCfg) rfl ?_
        exact ⟨none, 0, none, 0, rfl, Holds.zero _, below_setRow (hb0.trans (hb1.trans (hA.bel.mono (by omega)) |>.mono (by omega))) (Nat.le_refl _) _⟩
  | wrong h h2 h3 h4 c us vs ts n m n8 m20 fit bad e =>
    rw [e]
    obtain ⟨fine, n', us', m', vs', ts', ⟨zs, f, big, j⟩⟩ := y
    simp only at h h2 h3 h4 us vs ts n m n8 m20 cW ⊢
    subst h h2 h3 h4 us vs ts n m
    have l8 := n8
    have l20 := m20
    have ecs : ∀ g1 g2, cC (some ⟨g1, 0, none⟩) c.syms.length c.syms.length (some ⟨g2, 0, none⟩) c.rows.length c.rows.length (tailI c) = cCfg (some ⟨g1, 0, none⟩) c.syms.length (some ⟨g2, 0, none⟩) c.rows.length c := fun _ _ => rfl
    have hHo : ∀ w g1 g2, Blk w g2 49 (Cv [] (c.rows.flatMap rowL2) []) → Blk w g1 35 (Cv [] (c.syms.flatMap fieldsL) []) → Holds w (some ⟨g1, 0, none⟩) c.syms.length (some ⟨g2, 0, none⟩) c.rows.length c := fun w g1 g2 h2 h1 => ⟨Symbs.of_blk (by omega) h1, Rowps.of_blk (by omega) h2⟩
    have cK := fun sa sc ra rc w hw => check_any sa sc ra rc c fit w hw
    unfold Checked at cK
    obtain ⟨ff, fi⟩ : ∃ ff, ff = checkF c := ⟨_, rfl⟩
    rw [← fi] at cK bad ⊢
    clear fi
    obtain ⟨f1, f2⟩ := ff
    simp only at cK bad ⊢
    have hd : ((f1 : Int) != 0) = true := by simp; omega
    clear ecs
    go_enter Try.func20, Try.ntmps20
    go_wp2_with (first
      | (go_at_call 49; (with_reducible refine cN.mono ?_); rintro e w1 ⟨g, k, rfl, hR1, hb1, hg1, hk1⟩; have hs1 := hb1.size; rw [hsz] at hs1; have hr1 := hres.below hb1 (by omega))
      | (go_at_call 41; (with_reducible refine (cW g k w1 hR1 hg1 hk1 hs1).mono ?_); rintro e w2 ⟨rfl, hA⟩; have hr2 := hr1.below (hA.bel) (by omega); have y0 := hA.tb; have y1 := hA.bb; obtain ⟨g1, g2, q2, q1, q0⟩ := hA.fin rfl; obtain ⟨x0, x1, x2, x3, x4, x5, x6, x7⟩ := Cfg.cells (sa := some ⟨g1, 0, none⟩) (sc := c.syms.length) (ra := some ⟨g2, 0, none⟩) (rc := c.rows.length) (c := c) q0; have hH2 : Holds w2 (some ⟨g1, 0, none⟩) c.syms.length (some ⟨g2, 0, none⟩) c.rows.length c := hHo _ _ _ q2 q1)
      | (go_at_call 52; (with_reducible refine (cF _ _ _ _ hA.rr).mono ?_); rintro e w3 ⟨rfl, rfl⟩)
      | (go_at_call 53; (with_reducible refine (cL _ _ _ _ hA.rr).mono ?_); rintro e w3 ⟨rfl, rfl⟩)
      | (go_at_call 9; (with_reducible refine (cK _ _ _ _ _ hH2).mono ?_); rintro e w4 ⟨rfl, hb4⟩; have hr4 := hr2.below hb4 hr2.lt; have hH4 := hH2.below hb4)
      | (refine wpList_store_row rfl 27 (.tmp 2) (.tmp 40) rfl W.heap.size zC rfl rfl 27 _ hr4 sizeCfg rfl (one_cfg _ _ _ _ _ _ _ _ _ _ _ _) ?_))
    refine bodyPost_ret (results_cell_row2 (p := 2) (q := 3) rfl _ _ _ _ zC _ _ rfl (hr4.setRow _) Try.underlying27 rfl sizeCfg) rfl ?_
    exact ⟨none, 0, none, 0, rfl, Holds.zero _, below_setRow ((hb0.trans (hb1.trans (hA.bel.mono (by omega)) |>.mono (by omega))).trans (hb4.mono (by have := hA.bel.size; omega))) (Nat.le_refl _) _⟩
  | right h h2 h3 h4 c us vs ts n m n8 m20 fit ok e =>
    rw [e]
    obtain ⟨fine, n', us', m', vs', ts', ⟨zs, f, big, j⟩⟩ := y
    simp only at h h2 h3 h4 us vs ts n m n8 m20 cW ⊢
    subst h h2 h3 h4 us vs ts n m
    have l8 := n8
    have l20 := m20
    have ecs : ∀ g1 g2, cC (some ⟨g1, 0, none⟩) c.syms.length c.syms.length (some ⟨g2, 0, none⟩) c.rows.length c.rows.length (tailI c) = cCfg (some ⟨g1, 0, none⟩) c.syms.length (some ⟨g2, 0, none⟩) c.rows.length c := fun _ _ => rfl
    have hHo : ∀ w g1 g2, Blk w g2 49 (Cv [] (c.rows.flatMap rowL2) []) → Blk w g1 35 (Cv [] (c.syms.flatMap fieldsL) []) → Holds w (some ⟨g1, 0, none⟩) c.syms.length (some ⟨g2, 0, none⟩) c.rows.length c := fun w g1 g2 h2 h1 => ⟨Symbs.of_blk (by omega) h1, Rowps.of_blk (by omega) h2⟩
    have cK := fun sa sc ra rc w hw => check_any sa sc ra rc c fit w hw
    unfold Checked at cK
    rw [checkF_ok ok] at cK
    clear ecs
    go_enter Try.func20, Try.ntmps20
    go_wp2_with (first
      | (go_at_call 49; (with_reducible refine cN.mono ?_); rintro e w1 ⟨g, k, rfl, hR1, hb1, hg1, hk1⟩; have hs1 := hb1.size; rw [hsz] at hs1; have hr1 := hres.below hb1 (by omega))
      | (go_at_call 41; (with_reducible refine (cW g k w1 hR1 hg1 hk1 hs1).mono ?_); rintro e w2 ⟨rfl, hA⟩; have hr2 := hr1.below (hA.bel) (by omega); have y0 := hA.tb; have y1 := hA.bb; obtain ⟨g1, g2, q2, q1, q0⟩ := hA.fin rfl; obtain ⟨x0, x1, x2, x3, x4, x5, x6, x7⟩ := Cfg.cells (sa := some ⟨g1, 0, none⟩) (sc := c.syms.length) (ra := some ⟨g2, 0, none⟩) (rc := c.rows.length) (c := c) q0; have hH2 : Holds w2 (some ⟨g1, 0, none⟩) c.syms.length (some ⟨g2, 0, none⟩) c.rows.length c := hHo _ _ _ q2 q1)
      | (go_at_call 52; (with_reducible refine (cF _ _ _ _ hA.rr).mono ?_); rintro e w3 ⟨rfl, rfl⟩)
      | (go_at_call 53; (with_reducible refine (cL _ _ _ _ hA.rr).mono ?_); rintro e w3 ⟨rfl, rfl⟩)
      | (go_at_call 9; (with_reducible refine (cK _ _ _ _ _ hH2).mono ?_); rintro e w4 ⟨rfl, hb4⟩; have hr4 := hr2.below hb4 hr2.lt; have hH4 := hH2.below hb4; have q4 := q0.below hb4 q0.lt; obtain ⟨u0, u1, u2, u3, u4, u5, u6, u7⟩ := Cfg.cells (sa := some ⟨g1, 0, none⟩) (sc := c.syms.length) (ra := some ⟨g2, 0, none⟩) (rc := c.rows.length) (c := c) q4)
      | (refine wpList_store_row rfl 27 (.tmp 2) (.tmp 42) rfl W.heap.size (cCfg (some ⟨g1, 0, none⟩) c.syms.length (some ⟨g2, 0, none⟩) c.rows.length c) rfl rfl 27 _ hr4 sizeCfg rfl (one_cfg _ _ _ _ _ _ _ _ _ _ _ _) ?_))
    refine bodyPost_ret (results_cell_row2 (p := 2) (q := 3) rfl _ _ _ _ (cCfg (some ⟨g1, 0, none⟩) c.syms.length (some ⟨g2, 0, none⟩) c.rows.length c) _ _ rfl (hr4.setRow _) Try.underlying27 rfl sizeCfg) rfl ?_
    exact ⟨_, _, _, _, rfl, hHo _ _ _ ((q2.below hb4 q2.lt).setRow_other (blk_ne hr4 (q2.below hb4 q2.lt) (by decide)) _) ((q1.below hb4 q1.lt).setRow_other (blk_ne hr4 (q1.below hb4 q1.lt) (by decide)) _), below_setRow ((hb0.trans (hb1.trans (hA.bel.mono (by omega)) |>.mono (by omega))).trans (hb4.mono (by have := hA.bel.size; omega))) (Nat.le_refl _) _⟩
end Go.Proofs.Ytbkiipeoabbiiaa
