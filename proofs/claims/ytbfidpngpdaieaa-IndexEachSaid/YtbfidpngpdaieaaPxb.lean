/-
  The program's index: ids (the IDs of a symbol, in whatever order), Len, Clear.
-/
import Derived.Test.YtbfidpngpdaieaaPxa
import Derived.Test.YtbfidpngpdaieaaRgb
import Derived.OwnWalk
namespace Go.Proofs.Ytbfidpngpdaieaa
open Go.RowKit Go.WideMaps Go.WideElems
set_option linter.unusedSimpArgs false
theorem blk_frmX {S : Nat → Prop} {w w' : World} {g : Nat} {t : TypeId} {cs : Array Value} (h : Blk w g t cs) (hf : Frm S w w') (hg : ¬ S g) : Blk w' g t cs := (hf.block g h.lt hg).trans h
abbrev vI (x : Int) : Value := .int .i64 x
/-- The IDs of a symbol's rows. -/
abbrev idsOf (l : List Ixr) (s : Int) : List Int := (ixIs l s).map Ixr.id
theorem idsOf_cons (x : Ixr) (q : List Ixr) (s : Int) : idsOf (x :: q) s = if x.sym = s then x.id :: idsOf q s else idsOf q s := by
  unfold idsOf ixIs
  by_cases e : x.sym = s <;> simp [e]
theorem idsOf_perm {q q' : List Ixr} (h : q.Perm q') (s : Int) : (idsOf q s).Perm (idsOf q' s) := (h.filter _).map _
theorem idsOf_len (l : List Ixr) (s : Int) : (idsOf l s).length ≤ l.length := by
  unfold idsOf ixIs
  rw [List.length_map]
  exact List.length_filter_le _ _
theorem idsOf_mem {l : List Ixr} {s d : Int} : d ∈ idsOf l s ↔ ∃ t, (⟨s, d, t⟩ : Ixr) ∈ l := by
  unfold idsOf ixIs
  rw [List.mem_map]
  constructor
  · rintro ⟨⟨a, b, c⟩, h, rfl⟩
    obtain ⟨h1, h2⟩ := List.mem_filter.1 h
    simp only [beq_iff_eq] at h2
    subst h2
    exact ⟨c, h1⟩
  · rintro ⟨t, h⟩
    exact ⟨⟨s, d, t⟩, List.mem_filter.2 ⟨h, by simp⟩, rfl⟩
theorem idsOf_nodup {l : List Ixr} (h : Ixu l) (s : Int) : (idsOf l s).Nodup := by
  unfold idsOf
  rw [List.Nodup, List.pairwise_map]
  refine ((h.filter fun x => x.sym == s).imp_of_mem ?_)
  intro a b ha hb hn e
  have h1 : a.sym = s := by simpa using (List.mem_filter.1 ha).2
  have h2 : b.sym = s := by simpa using (List.mem_filter.1 hb).2
  exact hn ⟨h1.trans h2.symm, e⟩
theorem infoD : (Try.prog.info? 2).map (fun i => (i.zero, i.size, i.bytes)) = some (some (.int .i64 0), 1, 8) := by kernel_rfl
/-- What a run over the map has collected: ds, of the rows still to come q. -/
structure Cds (W : World) (s : Int) (l q : List Ixr) (ds : List Int) (ko : Option Nat) (w : World) : Prop where
  perm : (ds ++ idsOf q s).Perm (idsOf l s)
  own : ∀ c, ko = some c → W.heap.size < c
  bel : Below W.heap.size W w
abbrev OwI (w : World) (ko : Option Nat) (ao : Option Addr) (cap : Nat) (ds : List Int) : Prop := OwG 2 1 w ko ao cap ds.length (ds.map vI)
section
variable {w w' W : World} {g b k : Nat} {m : Value} {S T : Nat → Prop} {l l' : List Ixr}
set_option maxRecDepth 8000 in
set_option maxHeartbeats 4000000 in
theorem xidsSome_any (s : Int) (h : PxB W g S (.map (some b)) k l) (hm : MpB W b k l) (hlen : l.length ≤ 100000) :
    Calls Try.prog 20 #[.pointer (some ⟨g, 0, none⟩), .int .i64 s] W fun e w' => ∃ ko ao cap ds, e = .returned (.slice ao ds.length cap) ∧ OwI w' ko ao cap ds ∧ ds.Perm (idsOf l s) ∧ Below W.heap.size W w' ∧ ∀ c, ko = some c → W.heap.size ≤ c := by
  have c0 : W.cell? ⟨g, 0, none⟩ = some (.map (some b)) := h.hg.cell_eq 0 _ rfl
  obtain ⟨w1, e1, hR1, hb1, -⟩ := hm.range
  obtain ⟨r, hr⟩ : ∃ r, r = W.heap.size := ⟨_, rfl⟩
  have hrW : W.heap.size ≤ r := by omega
  rw [← hr] at e1 hR1
  have hbl := hm.lt
  have hst : Cds W s l l [] none w1 := ⟨by simp, (fun c e => by cases e), hb1⟩
  replace hst := Lib.hid hst
  have hx : ∀ (q : List Ixr) (ds : List Int) (ko : Option Nat) (ao : Option Addr) (cap : Nat) (w : World) (x : Ixr) (q' : List Ixr) (w2 : World), Cds W s l q ds ko w → OwI w ko ao cap ds → q.Perm (x :: q') → RgB w2 b r k l q' → Frm (fun c => c = r) w w2 → w2.heap.size = w.heap.size →
      (x.sym ≠ s → Cds W s l q' ds ko (w2.alloc (.cells #[.int .i64 x.sym, .int .i64 x.id] 43))) ∧ ds.length ≤ 100000 ∧ RgB (w2.alloc (.cells #[.int .i64 x.sym, .int .i64 x.id] 43)) b r k l q' ∧ OwI (w2.alloc (.cells #[.int .i64 x.sym, .int .i64 x.id] 43)) ko ao cap ds ∧ (x.sym = s → ∀ w3, w3 = w2.alloc (.cells #[.int .i64 x.sym, .int .i64 x.id] 43) → ∀ (ao2 : Option Addr) (cap2 : Nat) (ko2 : Option Nat) (w4 : World), OwG 2 1 w4 ko2 ao2 cap2 (ds.length + 1) (ds.map vI ++ [vI x.id]) → Frm (fun c => ko = some c) (w3.alloc (.cells #[vI x.id] 2)) w4 → Moved (w3.alloc (.cells #[vI x.id] 2)) ko ko2 →
        Cds W s l q' (ds ++ [x.id]) ko2 w4 ∧ OwI w4 ko2 ao2 cap2 (ds ++ [x.id]) ∧ RgB w4 b r k l q') := by
    intro q ds ko ao cap w x q' w2 hc ho hp hR hf hs2
    have hperm := idsOf_perm hp s
    rw [idsOf_cons] at hperm
    have hpp := (hperm.append_left ds).symm.trans hc.perm
    have hb2 : Below W.heap.size W w2 := hc.bel.trans (hf.below hc.bel.size fun c e => by subst e; exact hrW)
    have hb3 : Below w2.heap.size w2 (w2.alloc (.cells #[.int .i64 x.sym, .int .i64 x.id] 43)) := (Below.refl _ _).alloc (Nat.le_refl _) _
    have hR3 := hR.below hb3
    have hrl := hR.lt
    have ho3 : OwI (w2.alloc (.cells #[.int .i64 x.sym, .int .i64 x.id] 43)) ko ao cap ds := (ho.frm hf (fun c e e2 => by have := hc.own c e; omega)).alloc _
    refine ⟨fun hn => ⟨?_, hc.own, hb2.trans (hb3.mono hb2.size)⟩, ?_, hR3, ho3, fun he w3 hw3 ao2 cap2 ko2 w4 ho4 hf4 hm4 => ?_⟩
    · rwa [if_neg hn] at hpp
    · have h1 := hpp.length_eq
      rw [List.length_append] at h1
      have h2 := idsOf_len l s
      omega
    · rw [if_pos he] at hpp
      have hb4 : Below w2.heap.size w2 (w3.alloc (.cells #[vI x.id] 2)) := by rw [hw3]; exact hb3.alloc hb3.size _
      have hb4s := hb4.size
      have hb2s := hb2.size
      have hkr : ∀ c, ko = some c → ¬ c = b ∧ ¬ c = r := fun c e => by have := hc.own c e; omega
      refine ⟨⟨by simpa using hpp, fun c e => ?_, ?_⟩, ⟨by simp [ho4.cells], by simpa using ho4.len, ho4.top, by simpa using ho4.at'⟩, (hR.below hb4).frm hf4 (fun e => (hkr _ e).1 rfl) (fun e => (hkr _ e).2 rfl)⟩
      · rcases hm4 with h0 | h0 | ⟨k', h0, h1⟩
        · rw [h0] at e; cases e
        · rw [h0] at e; exact hc.own c e
        · rw [h0] at e; cases e; omega
      · exact (hb2.trans (hb4.mono hb2s)).trans (hf4.below (by omega) fun c e => by have := hc.own c e; omega)
  replace hx := Lib.hid hx
  obtain ⟨i1, hi1, e0⟩ := Option.map_eq_some_iff.1 infoD
  obtain ⟨hz1, hs1, hby1⟩ : i1.zero = some (.int .i64 0) ∧ i1.size = 1 ∧ i1.bytes = 8 := by simpa using e0
  clear hr h hm
  go_enter Try.func20, Try.ntmps20
  go_wp2_with fail
  go_loopg [5] l.length (fun j p5 wr => ∃ (q : List Ixr) (ds : List Int) (ko : Option Nat) (ao : Option Addr) (cap : Nat), q.length = j ∧ p5 = .slice ao ds.length cap ∧ Hid (Cds W s l q ds ko wr) ∧ RgB wr b r k l q ∧ OwI wr ko ao cap ds)
  case atStart => exact ⟨l, [], none, none, 0, rfl, rfl, hst, hR1, OwG.nil _ _ _⟩
  case round =>
    clear hR1 hb1 e1 c0 hst
    obtain ⟨q, ds, ko, ao, cap, rfl, rfl, hc, hR, ho⟩ := hrel
    rcases hR.next 0 with ⟨rfl, e1⟩ | ⟨x, q', w2, hp, hxl, e1, hR2, e2, hf2, hs2⟩
    · have hcc := hc.out
      have hfin : ds.Perm (idsOf l s) := by have := hcc.perm; simpa [idsOf, ixIs] using this
      have hfb := Lib.hid hcc.bel
      have hown := hcc.own
      replace hfin := Lib.hid hfin
      clear hR hc hcc hx
      go_wp2_with fail
      go_ret
      exact ⟨ko, ao, cap, ds, rfl, ho, hfin.out, hfb.out, fun c e => Nat.le_of_lt (hown c e)⟩
    · have hlen2 := hp.length_eq
      obtain ⟨hx1, hx2, hx3, hx4, hx5⟩ := hx.out _ _ _ _ _ _ _ _ _ hc.out ho hp hR2 hf2 hs2
      obtain ⟨w3, hw3⟩ : ∃ w3, w3 = w2.alloc (.cells #[.int .i64 x.sym, .int .i64 x.id] 43) := ⟨_, rfl⟩
      have c3 : w3.cell? ⟨w2.heap.size, 0, none⟩ = some (.int .i64 x.sym) := by rw [hw3]; exact (Blk.new _ _ _).cell_eq 0 _ rfl
      have c4 : w3.cell? ⟨w2.heap.size, 1, none⟩ = some (.int .i64 x.id) := by rw [hw3]; exact (Blk.new _ _ _).cell_eq 1 _ rfl
      rw [← hw3] at hx3 hx4 hx1
      replace hx5 := fun e => hx5 e w3 hw3
      simp only [List.length_cons] at hlen2
      obtain ⟨sx, dx, tx⟩ := x
      simp only at *
      by_cases e : sx = s
      · have hd : (sx == s) = true := by simpa using e
        have hX := Lib.hid (hx5 e)
        clear hR hc e hp hxl hR2 hf2 hs2 hx hx1 hx5 ho hx3
        replace hlen2 := Lib.hid hlen2
        go_wp2_with (first | (rw [← hw3]; clear hw3) | (at_builtin; refine wpList_appG rfl (.tmp 22) (.tmp 25) 55 2 i1 _ 1 8 Try.underlying55 hi1 hz1 hs1 hby1 rfl (by decide) rfl (hx4.alloc _) (SrcG.one1 _ _ rfl _) rfl rfl (by omega) (by omega) ?_; intro ao2 cap2 ko2 w4 ho4 hf4 hm4; obtain ⟨hC, hO, hRn⟩ := hX.out _ _ _ _ ho4 hf4 hm4; clear hX ho4 hf4 hm4 hx4) | fail)
        go_roundg q'.length
        case measure => have := hlen2.out; omega
        case rel => exact ⟨q', ds ++ [dx], ko2, ao2, cap2, rfl, by simp, Lib.hid hC, hRn, hO⟩
      · have hd : (sx == s) = false := by simpa using e
        have hX := Lib.hid (hx1 e)
        clear hR hc e hp hxl hR2 hf2 hs2 hx hx1 hx5 ho hx2
        replace hlen2 := Lib.hid hlen2
        go_wp2_with fail
        rw [← hw3]
        clear hw3
        go_wp2_with fail
        go_roundg q'.length
        case measure => have := hlen2.out; omega
        case rel => exact ⟨q', ds, ko, ao, cap, rfl, rfl, hX, hx3, hx4⟩
set_option maxRecDepth 8000 in
set_option maxHeartbeats 4000000 in
theorem xidsNone_any (s : Int) (h : PxB W g S (.map none) k l) :
    Calls Try.prog 20 #[.pointer (some ⟨g, 0, none⟩), .int .i64 s] W fun e w' => e = .returned (.slice none 0 0) ∧ Below W.heap.size W w' := by
  have c0 : W.cell? ⟨g, 0, none⟩ = some (.map none) := h.hg.cell_eq 0 _ rfl
  have e1 := run_range_nilMap (P := Try.prog) W _ _ _ Try.underlying49
  have e2 := run_next_nilMap (P := Try.prog) W 0 0 0 #[]
  have hb : Hid (Below W.heap.size W (W.alloc (.mapIter none 0 #[] 0))) := Lib.hid ((Below.refl _ _).alloc (Nat.le_refl _) _)
  obtain ⟨r, hr⟩ : ∃ r, r = W.heap.size := ⟨_, rfl⟩
  rw [← hr] at e1 e2
  clear hr
  generalize W.alloc (.mapIter none 0 #[] 0) = w1 at *
  clear h
  go_enter Try.func20, Try.ntmps20
  go_wp2_with fail
  go_loopg [5] 0 (fun j p5 wr => p5 = .slice none 0 0 ∧ wr = w1)
  case atStart => exact ⟨rfl, rfl⟩
  case round =>
    obtain ⟨rfl, rfl⟩ := hrel
    go_wp2_with fail
    go_ret
    exact ⟨rfl, hb.out⟩
theorem xidsNil_any (s : Int) (W : World) :
    Calls Try.prog 20 #[.pointer none, .int .i64 s] W fun e w' => e = .returned (.slice none 0 0) ∧ Below W.heap.size W w' := by
  go_enter Try.func20, Try.ntmps20
  go_wp2_with fail
  go_ret
  exact ⟨rfl, Below.refl _ _⟩
theorem xids_any (s : Int) (h : PX W g S k l) (hlen : l.length ≤ 100000) :
    Calls Try.prog 20 #[.pointer (some ⟨g, 0, none⟩), .int .i64 s] W fun e w' => ∃ ko ao cap ds, e = .returned (.slice ao ds.length cap) ∧ OwI w' ko ao cap ds ∧ ds.Perm (idsOf l s) ∧ Below W.heap.size W w' ∧ ∀ c, ko = some c → W.heap.size ≤ c := by
  obtain ⟨m, h⟩ := h
  rcases h.hm with ⟨rfl, rfl⟩ | ⟨b, rfl, h2, -⟩
  · exact (xidsNone_any s h).mono fun e w' ⟨h1, h2⟩ => ⟨none, none, 0, [], h1, OwG.nil _ _ _, List.Perm.refl _, h2, fun c e => by cases e⟩
  · exact xidsSome_any s h h2 hlen
theorem xlen_any (s : Int) (h : PX W g S k l) (hlen : l.length ≤ 100000) :
    Calls Try.prog 9 #[.pointer (some ⟨g, 0, none⟩), .int .i64 s] W fun e w' => e = .returned (.int .i64 ((ixIs l s).length : Nat)) ∧ Below W.heap.size W w' := by
  have cI := xids_any s h hlen
  clear h
  go_enter Try.func9, Try.ntmps9
  go_wp2_with (first
    | (go_at_call 20; refine cI.mono ?_; rintro e w1 ⟨ko, ao, cap, ds, rfl, hO, hP, hb, -⟩; clear cI)
    | fail)
  go_ret
  exact ⟨by rw [hP.length_eq, List.length_map]; rfl, hb⟩
theorem xlenNil_any (s : Int) (W : World) : Calls Try.prog 9 #[.pointer none, .int .i64 s] W fun e w' => e = .returned (.int .i64 0) ∧ Below W.heap.size W w' := by
  have cI := xidsNil_any s W
  go_enter Try.func9, Try.ntmps9
  go_wp2_with (first
    | (go_at_call 20; refine cI.mono ?_; rintro e w1 ⟨rfl, hb⟩; clear cI)
    | fail)
  go_ret
  exact ⟨rfl, hb⟩
/-- How far a Clear has come: of l those of the symbol s whose IDs are among the first q of ds are gone. -/
structure Cl (W : World) (g : Nat) (S : Nat → Prop) (m : Value) (k : Nat) (s : Int) (l : List Ixr) (ds : List Int) (q : Nat) (w : World) : Prop where
  px : ∃ lc, PxB w g S m k lc ∧ ∀ y, y ∈ lc ↔ y ∈ l ∧ (y.sym ≠ s ∨ y.id ∉ ds.take q)
  frm : Frm S W w
theorem Cl.drop {W : World} {s : Int} {ds : List Int} {q : Nat} {d : Int} (hc : Cl W g S m k s l ds q w) (hd : ds[q]? = some d) (hp : ds.Perm (idsOf l s)) (hu : Ixu l) (ht : Ixt l) :
    ∃ b, m = .map (some b) ∧ w.cell? ⟨g, 0, none⟩ = some m ∧ ∃ w', (∀ ty, (Builtin.delete_ #[49, 43] ty #[m, .agg #[.int .i64 s, .int .i64 d]]).run Try.prog w = .ok (.tuple #[]) w') ∧ Cl W g S m k s l ds (q + 1) w' ∧ Frm S w w' := by
  obtain ⟨lc, hx, hm⟩ := hc.px
  obtain ⟨t, hmem⟩ := idsOf_mem.1 (hp.mem_iff.1 (List.mem_of_getElem? hd))
  have hnd : ds.Nodup := hp.nodup_iff.2 (idsOf_nodup hu s)
  have hnot : d ∉ ds.take q := by
    intro h
    obtain ⟨j, hj⟩ := List.mem_iff_getElem?.1 h
    rw [List.getElem?_take] at hj
    split at hj
    · next hjq =>
      obtain ⟨l1, e1⟩ := List.getElem?_eq_some_iff.1 hj
      obtain ⟨l2, e2⟩ := List.getElem?_eq_some_iff.1 hd
      exact List.pairwise_iff_getElem.1 hnd j q l1 l2 hjq (e1.trans e2.symm)
    · cases hj
  have hin : (⟨s, d, t⟩ : Ixr) ∈ lc := (hm _).2 ⟨hmem, .inr hnot⟩
  obtain ⟨b, rfl, hM, hSb, hbg⟩ := hx.ex hin
  obtain ⟨i, hi, hit⟩ := ixg_some.1 ((ixg_key hx.u).2 hin)
  obtain ⟨hs, hdd⟩ := ht _ hmem
  obtain ⟨w', e, h3, h4⟩ := hM.drop hs hdd hi
  obtain ⟨h5, h6⟩ := hx.turn hSb hbg h3 h4
  refine ⟨b, rfl, hx.hg.cell_eq 0 _ rfl, w', e, ⟨⟨_, h5, fun y => ?_⟩, hc.frm.trans h6 (fun c e => .inl e)⟩, h6⟩
  rw [hx.u.mem_erase hit, hm y, List.take_add_one, hd, Option.toList_some, List.mem_append, List.mem_singleton]
  constructor
  · rintro ⟨⟨h1, h2⟩, h3⟩
    refine ⟨h1, ?_⟩
    by_cases hy : y.sym = s
    · refine .inr fun h => ?_
      rcases h with h | h
      · exact (h2.resolve_left (fun h => h hy)) h
      · exact h3 ⟨hy, h⟩
    · exact .inl hy
  · rintro ⟨h1, h2⟩
    rcases h2 with h2 | h2
    · exact ⟨⟨h1, .inl h2⟩, fun h => h2 h.1⟩
    · exact ⟨⟨h1, .inr fun h => h2 (.inl h)⟩, fun h => h2 (.inr h.2)⟩
theorem Cl.fin {W : World} {s : Int} {ds : List Int} (hc : Cl W g S m k s l ds ds.length w) (hp : ds.Perm (idsOf l s)) (hu : Ixu l) : PX w g S k (ixClr l s) ∧ Frm S W w := by
  obtain ⟨lc, hx, hm⟩ := hc.px
  have hmm : ∀ y, y ∈ ixClr l s ↔ y ∈ lc := by
    intro y
    rw [hm y, List.take_length]
    unfold ixClr
    rw [List.mem_filter]
    constructor
    · rintro ⟨h1, h2⟩; exact ⟨h1, .inl (by simpa using h2)⟩
    · rintro ⟨h1, h2⟩
      refine ⟨h1, ?_⟩
      rcases h2 with h2 | h2
      · simpa using h2
      · by_cases e : y.sym = s
        · exact absurd (hp.mem_iff.2 (idsOf_mem.2 ⟨y.slot, by rw [← e]; exact h1⟩)) h2
        · simpa using e
  refine ⟨⟨m, hx.hg, ?_, hx.sg, hx.lt⟩, hc.frm⟩
  rcases hx.hm with ⟨h1, rfl⟩ | ⟨b, h1, h2, h3⟩
  · exact .inl ⟨h1, List.eq_nil_iff_forall_not_mem.2 fun y hy => by have := (hmm y).1 hy; cases this⟩
  · exact .inr ⟨b, h1, h2.congr (hu.filter _) hmm, h3⟩
set_option maxRecDepth 8000 in
set_option maxHeartbeats 4000000 in
theorem xclear_any (s : Int) (h : PX W g S k l) (hlen : l.length ≤ 100000) :
    Calls Try.prog 14 #[.pointer (some ⟨g, 0, none⟩), .int .i64 s] W fun e w' => e = .returned (.int .i64 ((ixIs l s).length : Nat)) ∧ PX w' g S k (ixClr l s) ∧ Frm S W w' := by
  have cI := xids_any s h hlen
  have hu := h.u
  have ht := h.t
  obtain ⟨m, h⟩ := h
  have hst : ∀ ds w1, Below W.heap.size W w1 → Cl W g S m k s l ds 0 w1 := fun ds w1 hb => ⟨⟨l, h.below hb, fun y => ⟨fun e => ⟨e, .inr (by simp)⟩, fun e => e.1⟩⟩, Frm.of_below hb⟩
  have hSl := h.lt
  clear h
  go_enter Try.func14, Try.ntmps14
  go_wp2_with (first
    | (go_at_call 20; refine cI.mono ?_; rintro e w1 ⟨ko, ao, cap, ds, rfl, hO, hP, hb, hko⟩; clear cI; replace hst := hst ds _ hb)
    | fail)
  have hdl : ds.length ≤ 100000 := by rw [hP.length_eq]; exact Nat.le_trans (idsOf_len l s) hlen
  have hrl : ds.length = (ixIs l s).length := by rw [hP.length_eq, List.length_map]
  replace hrl := Lib.hid hrl
  replace hP := Lib.hid hP
  replace hu := Lib.hid hu
  replace ht := Lib.hid ht
  replace hko := Lib.hid hko
  replace hSl := Lib.hid hSl
  clear hlen
  go_loopg [13] ds.length (fun j p13 wr => ∃ q : Nat, q + j = ds.length ∧ p13 = .int .i64 (q : Int) ∧ Hid (Cl W g S m k s l ds q wr) ∧ OwI wr ko ao cap ds)
  case atStart => exact ⟨0, by omega, rfl, Lib.hid hst, hO⟩
  case round =>
    clear hst hO
    obtain ⟨q, hqj, rfl, hc, ho⟩ := hrel
    by_cases hj : q < ds.length
    · obtain ⟨d, hd⟩ : ∃ d, ds[q]? = some d := ⟨ds[q], List.getElem?_eq_getElem hj⟩
      obtain ⟨b, rfl, c0, w2, e2, hc2, hf2⟩ := hc.out.drop hd hP.out hu.out ht.out
      obtain ⟨c, rfl, rfl, y0, -⟩ := ho.cell q (vI d) (by simp [hd])
      have ho2 := ho.frm hf2 (fun c e hS => by have := hSl.out c hS; have := hko.out c e; omega)
      replace hc2 := Lib.hid hc2
      have hql : (q : Int) < (ds.length : Int) := by omega
      clear hc ho hf2 hd
      go_wp2_with fail
      go_roundg (ds.length - (q + 1))
      case measure => omega
      case rel => exact ⟨q + 1, by omega, by go_num, hc2, ho2⟩
    · have hq : q = ds.length := by omega
      subst hq
      obtain ⟨hp1, hf1⟩ := hc.out.fin hP.out hu.out
      replace hp1 := Lib.hid hp1
      replace hf1 := Lib.hid hf1
      clear hc ho
      go_wp2_with fail
      go_ret
      exact ⟨by rw [← hrl.out]; rfl, hp1.out, hf1.out⟩
theorem xclearNil_any (s : Int) (W : World) : Calls Try.prog 14 #[.pointer none, .int .i64 s] W fun e w' => e = .returned (.int .i64 0) ∧ Below W.heap.size W w' := by
  have cI := xidsNil_any s W
  go_enter Try.func14, Try.ntmps14
  go_wp2_with (first
    | (go_at_call 20; refine cI.mono ?_; rintro e w1 ⟨rfl, hb⟩; clear cI)
    | fail)
  go_loopg [13] 0 (fun j p13 wr => p13 = .int .i64 0 ∧ wr = w1)
  case atStart => exact ⟨rfl, rfl⟩
  case round =>
    obtain ⟨rfl, rfl⟩ := hrel
    go_wp2_with fail
    go_ret
    exact ⟨rfl, hb⟩
end
end Go.Proofs.Ytbfidpngpdaieaa
