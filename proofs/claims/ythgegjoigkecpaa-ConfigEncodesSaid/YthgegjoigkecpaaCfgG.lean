/-
  The contract of the document's Encode of configurations.
-/
import Derived.Test.YthgegjoigkecpaaCfgC
import Derived.Test.YthgegjoigkecpaaCfgB
import Derived.Test.YthgegjoigkecpaaNumO
import Derived.Test.YthgegjoigkecpaaFm
import Derived.Test.YthgegjoigkecpaaCount
namespace Go.Proofs.Ythgegjoigkecpaa
open Go.RowKit
theorem size16 : (Try.prog.info? 71).map (·.size) = some 16 := by kernel_rfl
theorem one16 (s : Symb) : (cSymb s).all (·.oneCell') = true := by simp [cSymb, Value.oneCell']
set_option maxRecDepth 20000 in
set_option maxHeartbeats 2000000 in
theorem fields_any (s : Symb) (W : World) :
    Calls Try.prog 46 #[vSymb s] W fun e w' => e = .returned (.agg (cSymb s)) ∧ Below W.heap.size W w' := by
  have hBox := Blk.new W 35 (cSymb s)
  have hb0 := fun o => Below.alK (Below.refl W.heap.size W) o
  have hR := Blk.new' (w := W.alloc (.cells (cSymb s) 35)) (n := W.heap.size + 1) (t := 71) (cs := cSymb Symb.zero) (by simp)
  obtain ⟨x0, x1, x2, x3, x4, x5, x6, x7, x8, x9, xa, xb, xc, xd, xe, xf⟩ := Symb.cells hBox
  go_enter Try.func46, Try.ntmps46
  go_wp2_with (refine wpList_store_row rfl 71 (.tmp 2) (.tmp 35) rfl (W.heap.size + 1) (cSymb s) rfl rfl 71 _ hR size16 rfl (one16 s) ?_)
  refine bodyPost_ret (v := .agg (cSymb s)) ?_ rfl ⟨rfl, below_setRow ((hb0 _).alloc (by simp) _) (by omega) _⟩
  exact results_cell_row rfl _ _ _ _ _ _ _ rfl (hR.setRow _) Try.underlying71 rfl size16
/-- Bytes of numbers that one grows, beside blocks that are known whole. -/
def Ne (W : World) (ob : List (Nat × TypeId × Array Value)) (ns : List Nat) (so : Option Addr) (n cap : Nat) (w : World) : Prop :=
  ∃ k, Ow w k so cap (ns.flatMap num) ∧ n = (ns.flatMap num).length ∧ W.heap.size ≤ k ∧ k < w.heap.size ∧ Below W.heap.size W w ∧ (∀ p ∈ ob, Blk w p.1 p.2.1 p.2.2 ∧ p.1 ≠ k) ∧ ∀ m ∈ ns, m < 9223372036854775808
section
variable {W w w' : World} {ob : List (Nat × TypeId × Array Value)} {ns : List Nat} {so : Option Addr} {n cap : Nat}
theorem Ne.call (h : Ne W ob ns so n cap w) (hb : Below w.heap.size w w') : Ne W ob ns so n cap w' := by
  obtain ⟨k, h1, h2, h3, h4, h5, h6, h7⟩ := h
  exact ⟨k, h1.below hb, h2, h3, Nat.lt_of_lt_of_le h4 hb.size, h5.trans (hb.mono h5.size), fun p hp => ⟨(h6 p hp).1.below hb (h6 p hp).1.lt, (h6 p hp).2⟩, h7⟩
theorem Ne.alloc (h : Ne W ob ns so n cap w) (o : Obj) : Ne W ob ns so n cap (w.alloc o) := h.call ((Below.refl _ _).alloc (Nat.le_refl _) o)
theorem Ne.newRow (h : Ne W ob ns so n cap w) (t : TypeId) (z c : Array Value) : Ne W ((w.heap.size, t, c) :: ob) ns so n cap ((w.alloc (.cells z t)).setRow w.heap.size c) := by
  obtain ⟨k, h1, h2, h3, h4, h5, h6, h7⟩ := h.call (w' := (w.alloc (.cells z t)).setRow w.heap.size c) (below_setRow ((Below.refl _ _).alloc (Nat.le_refl _) _) (Nat.le_refl _) _)
  obtain ⟨k0, g1, g2, g3, g4, g5, g6, g7⟩ := h
  have hb : Below w.heap.size w ((w.alloc (.cells z t)).setRow w.heap.size c) := below_setRow ((Below.refl _ _).alloc (Nat.le_refl _) _) (Nat.le_refl _) _
  refine ⟨k0, g1.below hb, g2, g3, Nat.lt_of_lt_of_le g4 hb.size, h5, fun p hp => ?_, g7⟩
  rcases List.mem_cons.1 hp with rfl | hp
  · exact ⟨(Blk.new' rfl).setRow _, by simp only; omega⟩
  · exact ⟨(g6 p hp).1.below hb (g6 p hp).1.lt, (g6 p hp).2⟩
theorem Ne.sub {ob' : List (Nat × TypeId × Array Value)} (h : Ne W ob ns so n cap w) (hs : ∀ p ∈ ob', p ∈ ob) : Ne W ob' ns so n cap w := by
  obtain ⟨k, h1, h2, h3, h4, h5, h6, h7⟩ := h
  exact ⟨k, h1, h2, h3, h4, h5, fun p hp => h6 p (hs p hp), h7⟩
theorem Ne.get (h : Ne W ob ns so n cap w) (b : Nat) (t : TypeId) (c : Array Value) (hp : (b, t, c) ∈ ob) : Blk w b t c := by
  obtain ⟨k, h1, h2, h3, h4, h5, h6, h7⟩ := h
  exact (h6 _ hp).1
theorem Ne.bel (h : Ne W ob ns so n cap w) : Below W.heap.size W w := by
  obtain ⟨k, h1, h2, h3, h4, h5, h6, h7⟩ := h
  exact h5
theorem flat_num_len : ∀ ns : List Nat, (∀ m ∈ ns, m < 9223372036854775808) → (ns.flatMap num).length ≤ 10 * ns.length
  | [], _ => by simp
  | a :: t, h => by
    have h1 := num_ten (n := a) (by have := h a (by simp); omega)
    have h2 := flat_num_len t (fun m hm => h m (List.mem_cons_of_mem _ hm))
    rw [List.flatMap_cons, List.length_append, List.length_cons]
    omega
theorem Ne.open (h : Ne W ob ns so n cap w) : ∃ k, Ow w k so cap (ns.flatMap num) ∧ n = (ns.flatMap num).length ∧ (ns.flatMap num).length ≤ 10 * ns.length ∧ ∀ (m : Nat) (so' : Option Addr) (cap' k2 : Nat) (w' : World), m < 9223372036854775808 → Ow w' k2 so' cap' (ns.flatMap num ++ num m) → Frm (fun b => b = k) w w' → (k2 = k ∨ w.heap.size ≤ k2) → Ne W ob (ns ++ [m]) so' (n + (num m).length) cap' w' := by
  obtain ⟨k, h1, h2, h3, h4, h5, h6, h7⟩ := h
  refine ⟨k, h1, h2, flat_num_len ns h7, fun m so' cap' k2 w' hm ho hf hk => ?_⟩
  have hs := h5.size
  have e : (ns ++ [m]).flatMap num = ns.flatMap num ++ num m := by simp
  have hne : so' ≠ none := by
    rintro rfl
    rcases ho.at' with ⟨-, hc⟩ | ⟨h, -⟩
    · have := ho.len
      rw [List.length_append] at this
      have := num_pos m
      omega
    · cases h
  refine ⟨k2, by rw [e]; exact ho, by rw [e, List.length_append, h2], by omega, ho.size hne, h5.trans (hf.below hs (by rintro b rfl; exact h3)), fun p hp => ⟨(h6 p hp).1.frm hf (h6 p hp).2, ?_⟩, fun x hx => ?_⟩
  · have := (h6 p hp).1.lt
    have := (h6 p hp).2
    omega
  · rcases List.mem_append.1 hx with hx | hx
    · exact h7 x hx
    · simp at hx; rw [hx]; exact hm
end
theorem cv64 {T : TypeId} (hT : Try.prog.underlying T = some (.int .i64)) (v : Int) (h0 : 0 ≤ v) (h1 : v < 9223372036854775808) (w : World) : (convert T 67 (.int .i64 v)).run Try.prog w = .ok (.int .u64 (v.toNat : Int)) w := by
  obtain ⟨m, rfl⟩ : ∃ m : Nat, v = m := ⟨v.toNat, by omega⟩
  exact conv_u64 hT m h1 w
set_option maxRecDepth 8000 in
set_option maxHeartbeats 8000000 in
theorem refcencode_any (sa : Option Addr) (sc : Nat) (ra : Option Addr) (rc : Nat) (c : Cfg) (W : World) (hH : Holds W sa sc ra rc c) :
    Calls Try.prog 16 #[vCfg sa sc ra rc c] W fun e w' => Coded W w' e (encK c).1 (encK c).2 := by
  have hBox := Blk.new W 27 (cCfg sa sc ra rc c)
  have hb0 := fun o => Below.alK (Below.refl W.heap.size W) o
  have cK := fun o => refCheck_any sa sc ra rc c (W.alloc o) (hH.below (hb0 o))
  unfold Checked at cK
  unfold encK
  by_cases h : (checkF c).1 = 0
  · rw [if_neg (fun g => g h)]
    have hOk := checkF_ok h
    have hR := checkF_right h
    rw [hOk] at cK
    have hn := hR.n1
    have hm := hR.n2
    obtain ⟨psyms, prows, ptail⟩ := parts_small hR
    have l1 := hH.syms.len
    have l2 := hH.syms.top
    have l3 := hH.rows.len
    have l4 := hH.rows.top
    unfold maxLen at l2 l4
    have cN : ∀ m : Nat, m < 9223372036854775808 → ∀ w, Calls Try.prog 45 #[.int .u64 (m : Int)] w _ := fun m hm w => refNum_own m (by omega) w
    have cN0 := cN c.syms.length (by omega)
    have v0 := fun w => conv_u64 Try.underlying3 c.syms.length (by omega) w
    have hstart : ∀ w1 w2 so cap k, Below (W.alloc (.cells (cCfg sa sc ra rc c) 27)).heap.size (W.alloc (.cells (cCfg sa sc ra rc c) 27)) w1 → Ow w2 k so cap (num c.syms.length) → Below w1.heap.size w1 w2 → w1.heap.size ≤ k → Ne W [(W.heap.size, 27, cCfg sa sc ra rc c)] [c.syms.length] so (num c.syms.length).length cap w2 := by
      intro w1 w2 so cap k hb1 ho hb2 hk
      have hB1 : Below W.heap.size W w1 := (hb0 _).trans (hb1.mono (by simp))
      have hK1 := hBox.below hb1 (by simp)
      have hl := hK1.lt
      have hne : so ≠ none := by
        rintro rfl
        rcases ho.at' with ⟨-, hc⟩ | ⟨h, -⟩
        · have := ho.len
          have := num_pos c.syms.length
          omega
        · cases h
      have e : ([c.syms.length] : List Nat).flatMap num = num c.syms.length := by simp
      refine ⟨k, by rw [e]; exact ho, by rw [e], by omega, ho.size hne, hB1.trans (hb2.mono hB1.size), fun p hp => ?_, fun x hx => by simp at hx; omega⟩
      simp at hp
      rw [hp]
      exact ⟨hK1.below hb2 hl, by simp only; omega⟩
    go_enter Try.func16, Try.ntmps16
    obtain ⟨x0, x1, x2, x3, x4, x5, x6, x7⟩ := Cfg.cells hBox
    go_wp2_with (first
      | (go_at_call 10; refine (cK _).mono ?_; rintro e w1 ⟨rfl, hb1⟩; obtain ⟨x0, x1, x2, x3, x4, x5, x6, x7⟩ := Cfg.cells (hBox.below hb1 (by simp)))
      | (go_at_call 45; refine (cN0 _).mono ?_; rintro e w2 ⟨so, cap, k, rfl, ho, hb2, hk⟩; have hS := hstart _ _ _ _ _ hb1 ho hb2 hk))
    clear x0 x1 x2 x3 x4 x5 x6 x7 hb1 ho hb2 hk hstart hBox cN0 v0
    go_loopg [6, 7] c.syms.length (fun j p6 p7 wr => ∃ (q n cap : Nat) (so : Option Addr), q + j = c.syms.length ∧ p7 = .int .i64 (q : Int) ∧ p6 = .slice so n cap ∧ Ne W [(W.heap.size, 27, cCfg sa sc ra rc c)] ([c.syms.length] ++ (c.syms.take q).flatMap symN) so n cap wr)
    case atStart => exact ⟨0, _, cap, so, by omega, rfl, rfl, by simpa using hS⟩
    case round =>
      clear hS
      obtain ⟨q, n, cap, so, hq, rfl, rfl, hS⟩ := hrel
      obtain ⟨x0, x1, x2, x3, x4, x5, x6, x7⟩ := Cfg.cells (hS.get W.heap.size 27 (cCfg sa sc ra rc c) (by simp))
      by_cases hj : q < c.syms.length
      · obtain ⟨s, hs⟩ : ∃ s, c.syms[q]? = some s := ⟨c.syms[q], List.getElem?_eq_getElem hj⟩
        obtain ⟨b, off, rfl, y0, y1, y2, y3, y4, y5, y6, y7, y8, y9, ya, yb, yc, yd, ye, yf⟩ := (hH.syms.below hS.bel).get hs
        replace y0 : wr.cell? ⟨b, off + q * 16, none⟩ = some (.int .i64 s.grid) := y0
        have cF := fun w => fields_any s w
        have hsr := hR.syms s (List.mem_of_getElem? hs)
        have hsm := symN_small hsr
        have htk : (c.syms.take (q + 1)).flatMap symN = (c.syms.take q).flatMap symN ++ symN s := by
          rw [List.take_add_one, hs]
          simp [List.flatMap_append]
        have hbl : (([c.syms.length] ++ (c.syms.take q).flatMap symN)).length ≤ 200 := by
          have := flat_length 16 symN symN_length (c.syms.take q)
          rw [List.length_append, this, List.length_take]
          simp
          omega
        have hbase : ∀ k, ([c.syms.length] ++ (c.syms.take q).flatMap symN) ++ (symN s).take k = [c.syms.length] ++ ((c.syms.take q).flatMap symN ++ (symN s).take k) := fun k => by simp
        generalize hgb : [c.syms.length] ++ (c.syms.take q).flatMap symN = base at *
        have hfin : [c.syms.length] ++ (c.syms.take (q + 1)).flatMap symN = base ++ symN s := by rw [htk, ← hgb]; simp
        replace hfin := Lib.hid hfin
        clear hs hgb htk hbase hR
        have hF0 : (fieldsL s).length = 16 := rfl
        have hFC : (cSymb s).toList = (fieldsL s).map (Value.int .i64) := rfl
        have hSN : symN s = (fieldsL s).map Int.toNat := rfl
        have hpos : ∀ v ∈ fieldsL s, 0 ≤ v ∧ v < 9223372036854775808 := by
          have g_grid := hsr.grid
          have g_refp := hsr.refp
          have g_stat := hsr.stat
          have g_dyn := hsr.dyn
          have g_win := hsr.win
          have g_move := hsr.move
          have g_lim := hsr.lim
          have g_pau := hsr.pau
          have g_ext := hsr.ext
          have g_mext := hsr.mext
          have g_col := hsr.col
          have g_wid := hsr.wid
          have g_self := hsr.self
          have g_slots := hsr.slots
          have g_levels := hsr.levels
          have g_short := hsr.short
          intro v hv
          simp only [fieldsL, List.mem_cons, List.not_mem_nil, or_false] at hv
          omega
        have h16 := one16 s
        have hz16 : (cSymb s).size = 16 := rfl
        have hY : ∀ (n1 cap1 : Nat) (so1 : Option Addr) (w : World), Ne W [(W.heap.size, 27, cCfg (some ⟨b, off, none⟩) sc ra rc c)] base so1 n1 cap1 w → Ne W [(w.heap.size, 71, cSymb s), (W.heap.size, 27, cCfg (some ⟨b, off, none⟩) sc ra rc c)] (base ++ (symN s).take 0) so1 n1 cap1 ((w.alloc (.cells (cSymb Symb.zero) 71)).setRow w.heap.size (cSymb s)) := fun n1 cap1 so1 w h => by simpa using h.newRow 71 (cSymb Symb.zero) (cSymb s)
        have hgo : ∀ (tb : Nat) (n1 cap1 : Nat) (so1 : Option Addr) (w : World) (k : Nat) (v : Int), (fieldsL s)[k]? = some v → Ne W [(tb, 71, cSymb s), (W.heap.size, 27, cCfg (some ⟨b, off, none⟩) sc ra rc c)] (base ++ (symN s).take k) so1 n1 cap1 w → w.cell? ⟨tb, k, none⟩ = some (.int .i64 v) ∧ (0 ≤ v ∧ v < 9223372036854775808) ∧ (base ++ (symN s).take (k + 1)) = (base ++ (symN s).take k) ++ [v.toNat] ∧ (base ++ (symN s).take k).length ≤ 216 := fun tb n1 cap1 so1 w k v hv h => by
          have hk : (symN s)[k]? = some v.toNat := by rw [hSN, List.getElem?_map, hv]; rfl
          refine ⟨(h.get tb 71 (cSymb s) (by simp)).cell_eq k _ (by rw [← Array.getElem?_toList, hFC, List.getElem?_map, hv]; rfl), hpos v (List.mem_of_getElem? hv), by rw [List.take_add_one, hk]; simp, ?_⟩
          rw [List.length_append, List.length_take, hSN, List.length_map, hF0]
          omega
        have hall : base ++ (symN s).take 16 = base ++ symN s := by rw [List.take_of_length_le (by rw [hSN, List.length_map, hF0]; exact Nat.le_refl _)]
        replace hall := Lib.hid hall
        clear hpos hsm hFC hSN hbl hsr
        have cF2 : ∀ w, Calls Try.prog 46 #[vSymb s] w fun e w' => e = .returned (.agg (cSymb s)) ∧ Below w.heap.size w w' := cF
        obtain ⟨CS, hCS⟩ : ∃ CS, CS = cSymb s := ⟨_, rfl⟩
        have cF3 : ∀ w, Calls Try.prog 46 #[vSymb s] w fun e w' => e = .returned (.agg CS) ∧ Below w.heap.size w w' := by rw [hCS]; exact cF
        rw [← hCS] at hY hgo h16 hz16
        replace hCS := Lib.hid hCS
        have hszC : (Try.prog.info? 71).map (·.size) = some CS.size := by rw [hz16]; exact size16
        clear cF cF2
        have hget : ∀ k, k < 16 → ∃ v, (fieldsL s)[k]? = some v := fun k hk => ⟨(fieldsL s)[k]'(by omega), List.getElem?_eq_getElem _⟩
        clear hF0
        generalize fieldsL s = FL at *
        generalize symN s = SN at *
        obtain ⟨grid, refp, stat, dyn, win, move, lim, pau, ext, mext, col, wid, self, slots, levels, short⟩ := s
        simp only at y0 y1 y2 y3 y4 y5 y6 y7 y8 y9 ya yb yc yd ye yf
        go_wp2_with (first
          | (go_at_call 46; refine (cF3 _).mono ?_; rintro e w1 ⟨rfl, hb1⟩; have hS1 := hS.call hb1; clear cF3)
          | (refine wpList_store_row rfl 71 (.tmp 8) (.tmp 37) rfl w1.heap.size CS rfl rfl 71 _ (Blk.new w1 _ _) hszC (by rw [hz16]; rfl) h16 ?_; have hS2 := hY _ _ _ _ hS1))
        clear y0 y1 y2 y3 y4 y5 y6 y7 y8 y9 ya yb yc yd ye yf x0 x1 x2 x3 x4 x5 x6 x7 hS1 hS hY hb1
        generalize w1.heap.size = tb at *
        go_loopg [6, 9] 16 (fun j p6 p9 wr => ∃ (k n cap : Nat) (so : Option Addr), k + j = 16 ∧ p9 = .int .i64 (k : Int) ∧ p6 = .slice so n cap ∧ Ne W [(tb, 71, CS), (W.heap.size, 27, cCfg (some ⟨b, off, none⟩) sc ra rc c)] (base ++ SN.take k) so n cap wr)
        case atStart => exact ⟨0, _, _, _, by omega, rfl, rfl, hS2⟩
        case round =>
          clear hS2
          obtain ⟨k, n, cap, so, hk, rfl, rfl, hS⟩ := hrel
          by_cases hk16 : k < 16
          · obtain ⟨v, hv⟩ := hget k hk16
            obtain ⟨y0, ⟨hv0, hv1⟩, hnx, hbl⟩ := hgo _ _ _ _ _ _ _ hv hS
            have cV := fun w => cN v.toNat (by omega) w
            have hcv := fun w => cv64 Try.underlying2 v hv0 hv1 w
            have hmv : v.toNat < 9223372036854775808 := by omega
            replace hnx := Lib.hid hnx
            generalize base ++ SN.take k = nsk at *
            clear hv hgo hv1
            generalize v.toNat = mv at *
            go_wp2_with (first
              | (go_at_call 45; (with_reducible refine (cV _).mono ?_); rintro e w1 ⟨a1, c1, k1, rfl, ho1, hb1, -⟩; have hS1 := hS.call hb1)
              | (at_builtin; obtain ⟨kk, hOw, hnn, hll, happ⟩ := hS1.open; replace hnn := Lib.hid hnn; have hml := num_ten (n := mv) (by omega); refine wpList_app rfl (.tmp 42) (.tmp 47) rfl hOw ho1.bt rfl rfl hnn.out rfl (by omega) ?_; intro ao' cap' k2 w' ho' hf' hk2; have hS2 := happ _ _ _ _ _ hmv ho' hf' hk2; clear happ ho' hf' hk2 hOw hnn hll hml))
            go_roundg (16 - (k + 1))
            case measure => omega
            case rel => exact ⟨k + 1, _, cap', ao', by omega, by go_num, rfl, by rw [hnx.out]; exact hS2⟩
          · obtain rfl : k = 16 := by omega
            rw [hall.out] at hS
            go_wp2_with fail
            go_roundg (c.syms.length - (q + 1))
            case measure => omega
            case rel => exact ⟨q + 1, n, cap, so, by omega, by go_num, rfl, by rw [hfin.out]; exact hS.sub (by simp)⟩
      · obtain rfl : q = c.syms.length := by omega
        rw [List.take_length] at hS
        have hll1 := flat_length 16 symN symN_length c.syms
        have e1 : ([c.syms.length] ++ c.syms.flatMap symN).length = 1 + 16 * c.syms.length := by rw [List.length_append, hll1]; rfl
        have hpr : formK c = ((([c.syms.length] ++ c.syms.flatMap symN) ++ [c.rows.length]) ++ c.rows.flatMap rowN ++ tailN c).flatMap num := by unfold formK numsK; rfl
        obtain ⟨base, hgb⟩ : ∃ base, base = [c.syms.length] ++ c.syms.flatMap symN := ⟨_, rfl⟩
        rw [← hgb] at hS e1 hpr
        have hbl : base.length ≤ 200 := by omega
        clear e1 hll1 hgb
        have cN0 := cN c.rows.length (by omega)
        have v0 := fun w => conv_u64 Try.underlying3 c.rows.length (by omega) w
        have hmv : c.rows.length < 9223372036854775808 := by omega
        go_wp2_with (first
          | (go_at_call 45; (with_reducible refine (cN0 _).mono ?_); rintro e w1 ⟨a1, c1, k1, rfl, ho1, hb1, -⟩; have hS1 := hS.call hb1; clear cN0)
          | (at_builtin; obtain ⟨kk, hOw, hnn, hll, happ⟩ := hS1.open; replace hnn := Lib.hid hnn; have hml := num_ten (n := c.rows.length) (by omega); refine wpList_app rfl (.tmp 49) (.tmp 54) rfl hOw ho1.bt rfl rfl hnn.out rfl (by omega) ?_; intro ao' cap' k2 w' ho' hf' hk2; have hS2 := happ _ _ _ _ _ hmv ho' hf' hk2; clear happ ho' hf' hk2 hOw hnn hll hml))
        clear x0 x1 x2 x3 x4 x5 x6 x7 hS hS1 v0 hmv
        go_loopg [6, 10] c.rows.length (fun j p6 p10 wr => ∃ (q n cap : Nat) (so : Option Addr), q + j = c.rows.length ∧ p10 = .int .i64 (q : Int) ∧ p6 = .slice so n cap ∧ Ne W [(W.heap.size, 27, cCfg sa sc ra rc c)] ((base ++ [c.rows.length]) ++ (c.rows.take q).flatMap rowN) so n cap wr)
        case atStart => exact ⟨0, _, _, _, by omega, rfl, rfl, by simpa using hS2⟩
        case round =>
          clear hS2
          obtain ⟨q, n, cap, so, hq2, rfl, rfl, hS⟩ := hrel
          obtain ⟨x0, x1, x2, x3, x4, x5, x6, x7⟩ := Cfg.cells (hS.get W.heap.size 27 (cCfg sa sc ra rc c) (by simp))
          by_cases hj2 : q < c.rows.length
          · obtain ⟨r, hr⟩ : ∃ r, c.rows[q]? = some r := ⟨c.rows[q], List.getElem?_eq_getElem hj2⟩
            obtain ⟨b, off, rfl, y0, y1⟩ := (hH.rows.below hS.bel).get hr
            replace y0 : wr.cell? ⟨b, off + q * 2, none⟩ = some (.int .i64 r.tick) := y0
            have hrr := hR.rows r (List.mem_of_getElem? hr)
            have hHr := hH.rows
            have cT := cN r.tick.toNat (by omega)
            have cP := cN r.phase.toNat (by omega)
            have vT := fun w => cv64 Try.underlying2 r.tick hrr.1.1 (by omega) w
            have vP := fun w => cv64 Try.underlying3 r.phase hrr.2.1 (by omega) w
            have hmT : r.tick.toNat < 9223372036854775808 := by omega
            have hmP : r.phase.toNat < 9223372036854775808 := by omega
            have hnx : ((base ++ [c.rows.length]) ++ (c.rows.take q).flatMap rowN) ++ [r.tick.toNat] ++ [r.phase.toNat] = (base ++ [c.rows.length]) ++ (c.rows.take (q + 1)).flatMap rowN := by
              rw [List.take_add_one, hr]
              simp [List.flatMap_append, rowN]
            replace hnx := Lib.hid hnx
            have hlb : ((base ++ [c.rows.length]) ++ (c.rows.take q).flatMap rowN).length ≤ 300 := by
              rw [List.length_append, flat_length 2 rowN rowN_length, List.length_append, List.length_take]
              simp
              omega
            have hY1 : ∀ w', Below W.heap.size W w' → w'.cell? ⟨b, off + q * 2 + 1, none⟩ = some (.int .i64 r.phase) := fun w' hb => by
              obtain ⟨b', off', e, -, h2⟩ := (hHr.below hb).get hr
              cases e
              exact h2
            generalize ((base ++ [c.rows.length]) ++ (c.rows.take q).flatMap rowN) = nsq at *
            clear hr hrr hHr hH hR
            obtain ⟨tick, phase⟩ := r
            simp only at *
            generalize tick.toNat = mT at *
            generalize phase.toNat = mP at *
            have hBx : ∀ {ns so n cap w}, Ne W [(W.heap.size, 27, cCfg sa sc (some ⟨b, off, none⟩) rc c)] ns so n cap w → w.cell? ⟨W.heap.size, 1, none⟩ = some (.slice (some ⟨b, off, none⟩) c.rows.length rc) ∧ w.cell? ⟨b, off + q * 2 + 1, none⟩ = some (.int .i64 phase) := fun h => ⟨(Cfg.cells (h.get W.heap.size 27 (cCfg sa sc (some ⟨b, off, none⟩) rc c) (by simp))).2.1, hY1 _ h.bel⟩
            go_wp2_with (first
              | (go_at_call 45; (with_reducible refine (cT _).mono ?_); rintro e w1 ⟨a1, c1, k1, rfl, ho1, hb1, -⟩; have hS1 := hS.call hb1; clear cT)
              | (at_builtin; obtain ⟨kk, hOw, hnn, hll, happ⟩ := hS1.open; replace hnn := Lib.hid hnn; have hml := num_ten (n := mT) (by omega); refine wpList_app rfl (.tmp 63) (.tmp 71) rfl hOw ho1.bt rfl rfl hnn.out rfl (by omega) ?_; intro ao2 cap2 k2 w2 ho' hf' hk2; have hS2 := happ _ _ _ _ _ hmT ho' hf' hk2; obtain ⟨z1, z2⟩ := hBx hS2; clear happ ho' hf' hk2 hOw hnn hll hml)
              | (go_at_call 45; (with_reducible refine (cP _).mono ?_); rintro e w3 ⟨a3, c3, k3, rfl, ho3, hb3, -⟩; have hS3 := hS2.call hb3; clear cP)
              | (at_builtin; obtain ⟨kk, hOw, hnn, hll, happ⟩ := hS3.open; replace hnn := Lib.hid hnn; have hml := num_ten (n := mP) (by omega); have hla : (nsq ++ [mT]).length = nsq.length + 1 := (by simp); refine wpList_app rfl (.tmp 73) (.tmp 81) rfl hOw ho3.bt rfl rfl hnn.out rfl (by omega) ?_; intro ao' cap' k2 w' ho' hf' hk2; have hS4 := happ _ _ _ _ _ hmP ho' hf' hk2; clear happ ho' hf' hk2 hOw hnn hll hml hla))
            go_roundg (c.rows.length - (q + 1))
            case measure => omega
            case rel => exact ⟨q + 1, _, cap', ao', by omega, by go_num, rfl, by rw [← hnx.out]; exact hS4⟩
          · obtain rfl : q = c.rows.length := by omega
            rw [List.take_length] at hS
            have hri := hR.index
            have hr0 := hR.f0
            have hr1 := hR.f1
            have hr2 := hR.f2
            have hr3 := hR.h0
            have hr4 := hR.h1
            have hlb : ((base ++ [c.rows.length]) ++ c.rows.flatMap rowN).length ≤ 300 := by
              rw [List.length_append, flat_length 2 rowN rowN_length, List.length_append]
              simp
              omega
            have hpr2 : formK c = (((base ++ [c.rows.length]) ++ c.rows.flatMap rowN) ++ [c.index.toNat] ++ [c.f0.toNat, c.f1.toNat, c.f2.toNat] ++ [c.h0.toNat] ++ [c.h1.toNat]).flatMap num := by
              rw [hpr]
              unfold tailN
              simp only [List.append_assoc, List.cons_append, List.nil_append]
            replace hpr2 := Lib.hid hpr2
            have hBx : ∀ {ns so n cap w}, Ne W [(W.heap.size, 27, cCfg sa sc ra rc c)] ns so n cap w → _ := fun h => Cfg.cells (h.get W.heap.size 27 (cCfg sa sc ra rc c) (by simp))
            generalize ((base ++ [c.rows.length]) ++ c.rows.flatMap rowN) = nsq at *
            have cI := cN c.index.toNat (by omega)
            have vI := fun w => cv64 Try.underlying2 c.index (by omega) (by omega) w
            have hmI : c.index.toNat < 9223372036854775808 := by omega
            have vF0 := fun w => cv64 Try.underlying3 c.f0 (by omega) (by omega) w
            have vF1 := fun w => cv64 Try.underlying3 c.f1 (by omega) (by omega) w
            have vF2 := fun w => cv64 Try.underlying3 c.f2 (by omega) (by omega) w
            have vH0 := fun w => cv64 Try.underlying2 c.h0 (by omega) (by omega) w
            have vH1 := fun w => cv64 Try.underlying2 c.h1 (by omega) (by omega) w
            have cF0 := cN c.f0.toNat (by omega)
            have cF1 := cN c.f1.toNat (by omega)
            have cF2 := cN c.f2.toNat (by omega)
            have cH0 := cN c.h0.toNat (by omega)
            have cH1 := cN c.h1.toNat (by omega)
            have hmF0 : c.f0.toNat < 9223372036854775808 := by omega
            have hmF1 : c.f1.toNat < 9223372036854775808 := by omega
            have hmF2 : c.f2.toNat < 9223372036854775808 := by omega
            have hmH0 : c.h0.toNat < 9223372036854775808 := by omega
            have hmH1 : c.h1.toNat < 9223372036854775808 := by omega
            clear hri hr0 hr1 hr2 hr3 hr4 hR hpr hH cN l1 l2 l3 l4 hn hm psyms prows ptail
            generalize c.index.toNat = mI at *
            generalize c.f0.toNat = mF0 at *
            generalize c.f1.toNat = mF1 at *
            generalize c.f2.toNat = mF2 at *
            generalize c.h0.toNat = mH0 at *
            generalize c.h1.toNat = mH1 at *
            go_wp2_with (first
              | (go_at_call 45; (with_reducible refine (cI _).mono ?_); rintro e w1 ⟨a1, c1, k1, rfl, ho1, hb1, -⟩; have hS1 := hS.call hb1)
              | (at_builtin; obtain ⟨kk, hOw, hnn, hll, happ⟩ := hS1.open; replace hnn := Lib.hid hnn; have hml := num_ten (n := mI) (by omega); refine wpList_app rfl (.tmp 83) (.tmp 87) rfl hOw ho1.bt rfl rfl hnn.out rfl (by omega) ?_; intro ao' cap' k2 w' ho' hf' hk2; have hS2 := happ _ _ _ _ _ hmI ho' hf' hk2; clear happ ho' hf' hk2 hOw hnn hll hml))
            clear x0 x1 x2 x3 x4 x5 x6 x7 hS hS1 cI vI
            go_loopg [6, 11] 3 (fun j p6 p11 wr => ∃ (z : Int) (n cap : Nat) (so : Option Addr), (0 ≤ z ∧ z + j = 3) ∧ p11 = .int .i64 z ∧ p6 = .slice so n cap ∧ Ne W [(W.heap.size, 27, cCfg sa sc ra rc c)] ((nsq ++ [mI]) ++ ([mF0, mF1, mF2].take z.toNat)) so n cap wr)
            case atStart => exact ⟨0, _, _, _, ⟨by omega, by omega⟩, rfl, rfl, by simpa using hS2⟩
            case round =>
              clear hS2
              obtain ⟨z, n, cap, so, hz, rfl, rfl, hS⟩ := hrel
              obtain ⟨x0, x1, x2, x3, x4, x5, x6, x7⟩ := hBx hS
              have h4 : z = 0 ∨ z = 1 ∨ z = 2 ∨ z = 3 := by omega
              rcases h4 with h4 | h4 | h4 | h4
              · obtain rfl : z = 0 := by omega
                replace hS : Ne W [(W.heap.size, 27, cCfg sa sc ra rc c)] (nsq ++ [mI]) so n cap wr := by simpa using hS
                have hlc : (nsq ++ [mI]).length = nsq.length + 1 := by simp
                go_wp2_with (first
                  | (go_at_call 45; (with_reducible refine (cF0 _).mono ?_); rintro e w1 ⟨a1, c1, k1, rfl, ho1, hb1, -⟩; have hS1 := hS.call hb1)
                  | (at_builtin; obtain ⟨kk, hOw, hnn, hll, happ⟩ := hS1.open; replace hnn := Lib.hid hnn; have hml := num_ten (n := mF0) (by omega); refine wpList_app rfl (.tmp 93) (.tmp 99) rfl hOw ho1.bt rfl rfl hnn.out rfl (by omega) ?_; intro ao' cap' k2 w' ho' hf' hk2; have hS2 := happ _ _ _ _ _ hmF0 ho' hf' hk2; clear happ ho' hf' hk2 hOw hnn hll hml))
                go_roundg 2
                case measure => omega
                case rel => exact ⟨1, _, cap', ao', ⟨by omega, by omega⟩, rfl, rfl, by simpa using hS2⟩
              · obtain rfl : z = 1 := by omega
                replace hS : Ne W [(W.heap.size, 27, cCfg sa sc ra rc c)] ((nsq ++ [mI]) ++ [mF0]) so n cap wr := hS
                have hlc : ((nsq ++ [mI]) ++ [mF0]).length = nsq.length + 2 := by simp
                go_wp2_with (first
                  | (go_at_call 45; (with_reducible refine (cF1 _).mono ?_); rintro e w1 ⟨a1, c1, k1, rfl, ho1, hb1, -⟩; have hS1 := hS.call hb1)
                  | (at_builtin; obtain ⟨kk, hOw, hnn, hll, happ⟩ := hS1.open; replace hnn := Lib.hid hnn; have hml := num_ten (n := mF1) (by omega); refine wpList_app rfl (.tmp 93) (.tmp 99) rfl hOw ho1.bt rfl rfl hnn.out rfl (by omega) ?_; intro ao' cap' k2 w' ho' hf' hk2; have hS2 := happ _ _ _ _ _ hmF1 ho' hf' hk2; clear happ ho' hf' hk2 hOw hnn hll hml))
                go_roundg 1
                case measure => omega
                case rel => exact ⟨2, _, cap', ao', ⟨by omega, by omega⟩, rfl, rfl, by simpa using hS2⟩
              · obtain rfl : z = 2 := by omega
                replace hS : Ne W [(W.heap.size, 27, cCfg sa sc ra rc c)] ((nsq ++ [mI]) ++ [mF0, mF1]) so n cap wr := hS
                have hlc : ((nsq ++ [mI]) ++ [mF0, mF1]).length = nsq.length + 3 := by simp
                go_wp2_with (first
                  | (go_at_call 45; (with_reducible refine (cF2 _).mono ?_); rintro e w1 ⟨a1, c1, k1, rfl, ho1, hb1, -⟩; have hS1 := hS.call hb1)
                  | (at_builtin; obtain ⟨kk, hOw, hnn, hll, happ⟩ := hS1.open; replace hnn := Lib.hid hnn; have hml := num_ten (n := mF2) (by omega); refine wpList_app rfl (.tmp 93) (.tmp 99) rfl hOw ho1.bt rfl rfl hnn.out rfl (by omega) ?_; intro ao' cap' k2 w' ho' hf' hk2; have hS2 := happ _ _ _ _ _ hmF2 ho' hf' hk2; clear happ ho' hf' hk2 hOw hnn hll hml))
                go_roundg 0
                case measure => omega
                case rel => exact ⟨3, _, cap', ao', ⟨by omega, by omega⟩, rfl, rfl, by simpa using hS2⟩
              · obtain rfl : z = 3 := by omega
                replace hS : Ne W [(W.heap.size, 27, cCfg sa sc ra rc c)] ((nsq ++ [mI]) ++ [mF0, mF1, mF2]) so n cap wr := hS
                have hlc : ((nsq ++ [mI]) ++ [mF0, mF1, mF2]).length = nsq.length + 4 := by simp
                have hlc2 : (((nsq ++ [mI]) ++ [mF0, mF1, mF2]) ++ [mH0]).length = nsq.length + 5 := by simp
                go_wp2_with (first
                  | (go_at_call 45; (with_reducible refine (cH0 _).mono ?_); rintro e w1 ⟨a1, c1, k1, rfl, ho1, hb1, -⟩; have hS1 := hS.call hb1; clear cH0)
                  | (at_builtin; obtain ⟨kk, hOw, hnn, hll, happ⟩ := hS1.open; replace hnn := Lib.hid hnn; have hml := num_ten (n := mH0) (by omega); refine wpList_app rfl (.tmp 101) (.tmp 106) rfl hOw ho1.bt rfl rfl hnn.out rfl (by omega) ?_; intro ao2 cap2 k2 w2 ho' hf' hk2; have hS2 := happ _ _ _ _ _ hmH0 ho' hf' hk2; obtain ⟨y0, y1, y2, y3, y4, y5, y6, y7⟩ := hBx hS2; clear happ ho' hf' hk2 hOw hnn hll hml)
                  | (go_at_call 45; (with_reducible refine (cH1 _).mono ?_); rintro e w3 ⟨a3, c3, k3, rfl, ho3, hb3, -⟩; have hS3 := hS2.call hb3; clear cH1)
                  | (at_builtin; obtain ⟨kk, hOw, hnn, hll, happ⟩ := hS3.open; replace hnn := Lib.hid hnn; have hml := num_ten (n := mH1) (by omega); refine wpList_app rfl (.tmp 108) (.tmp 113) rfl hOw ho3.bt rfl rfl hnn.out rfl (by omega) ?_; intro ao' cap' k2 w' ho' hf' hk2; have hS4 := happ _ _ _ _ _ hmH1 ho' hf' hk2; clear happ ho' hf' hk2 hOw hnn hll hml))
                go_ret2
                obtain ⟨kk, hOw, hnn, -, -⟩ := hS4.open
                rw [hpr2.out]
                exact ⟨ao', cap', kk, (by rw [hnn]; rfl), hOw.bt, hS4.bel⟩
  · rw [if_pos h]
    generalize checkF c = p at *
    obtain ⟨f, n⟩ := p
    simp only at h cK ⊢
    have q1 : ((f : Int) != 0) = true := by simp; omega
    clear h
    go_enter Try.func16, Try.ntmps16
    obtain ⟨x0, x1, x2, x3, x4, x5, x6, x7⟩ := Cfg.cells hBox
    go_wp2_with (go_at_call 10; refine (cK _).mono ?_; rintro e w1 ⟨rfl, hb1⟩)
    go_ret2
    exact ⟨none, 0, 0, rfl, Bt.nil _ _, (hb0 _).trans (hb1.mono (by simp))⟩
end Go.Proofs.Ythgegjoigkecpaa
