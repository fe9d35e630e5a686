/-
  A statement whose order Go leaves open, which stores a struct last (its calls may make memory): what its law (RegS) holds of the world. (No Go text.)
  A statement whose order Go leaves open, which reads a row and stores into it last ('q[i] += x'): what its law (RegS) holds of the world. (No Go text.)
  levels of the program's curve. (Written by gen/p_cvo.py.)
-/
import Derived.Test.YtohenmnpmgghhaaGreatDoorGC
import Derived.Test.YtohenmnpmgghhaaGreatDoorGA
import Derived.Test.YtohenmnpmgghhaaGreatDoorGCd
import Derived.Test.YtohenmnpmgghhaaGreatDoorGW
import Derived.Test.YtohenmnpmgghhaaGreatDoorGM
import Derived.RangeFuncCalls
import Derived.Shelf.RegionOpen
import Derived.OwnWalkIn
import Derived.TacticsInMore
import Derived.LoopNIn
import Derived.LoopIn
import Derived.LoopN
namespace Go.Proofs.YtohenmnpmgghhaaGreatDoor
open Go.RowKit
/-- Only the block of what is stored has turned; it is as it was (z) till the store (operation n) has come up, and then what is stored (f). -/
structure Stl (V : World) (rb : Nat) (T : TypeId) (z f : Array Value) (n : Nat) (L : Array Bool) (w : World) : Prop where
  frm : Frm (fun c => c = rb) V w
  ahead : L.getD n false = false → Blk w rb T z
  behind : L.getD n false = true → Blk w rb T f
section
variable {V w w' : World} {rb n k : Nat} {T : TypeId} {z f : Array Value} {L : Array Bool}
theorem Stl.start (h : Blk V rb T z) (m : Nat) : Stl V rb T z f n (Array.replicate m false) V.drew :=
  ⟨Frm.of_below (Below.refl _ _).drew, fun _ => h.below (Below.refl _ _).drew h.lt, fun e => by
    rcases Nat.lt_or_ge n m with h | h
    · simp [h] at e
    · simp [Array.getElem?_eq_none (xs := Array.replicate m false) (i := n) (by simpa using h)] at e⟩
theorem getD_stl {L : Array Bool} {k n : Nat} (h : k ≠ n) : (L.setIfInBounds k true).getD n false = L.getD n false := by
  simp only [Array.getD_eq_getD_getElem?]
  rw [Array.getElem?_setIfInBounds_ne h]
theorem Stl.other (hk : k ≠ n) (h : Stl V rb T z f n L w) : Stl V rb T z f n (L.setIfInBounds k true) w := by
  refine ⟨h.frm, ?_, ?_⟩
  · rw [getD_stl hk]; exact h.ahead
  · rw [getD_stl hk]; exact h.behind
theorem Stl.call (hk : k ≠ n) (h : Stl V rb T z f n L w) (hb : Below w.heap.size w w') : Stl V rb T z f n (L.setIfInBounds k true) w' := by
  refine ⟨h.frm.trans (Frm.of_below (S := fun _ => False) hb) (fun _ e => e.elim), ?_, ?_⟩
  · rw [getD_stl hk]
    intro e
    have := h.ahead e
    exact this.below hb this.lt
  · rw [getD_stl hk]
    intro e
    have := h.behind e
    exact this.below hb this.lt
theorem ready_lt {md : Region.Mode} {ops : Array Oper} {L : Array Bool} {i : Nat} (h : i ∈ Region.ready md ops L) : i < L.size := by
  have h0 := (mem_ready.1 h).1
  rcases Nat.lt_or_ge i L.size with h' | h'
  · exact h'
  · simp [Array.getElem?_eq_none h'] at h0
theorem Stl.done (hn : n < L.size) (h : Stl V rb T z f n L w) (hf : Frm (fun c => c = rb) w w') (hB : Blk w' rb T f) : Stl V rb T z f n (L.setIfInBounds n true) w' := by
  refine ⟨h.frm.trans hf (fun _ e => .inl e), fun e => ?_, fun _ => hB⟩
  have : (L.setIfInBounds n true).getD n false = true := by simp [hn]
  rw [this] at e
  cases e
/-- The end: what has come up last is there. -/
theorem Stl.end' {m : Nat} (h : Stl V rb T z f n L w) (hL : L.getD n false = true) : Blk w rb T f ∧ Frm (fun c => c = rb) V w := ⟨h.behind hL, h.frm⟩
end
end Go.Proofs.YtohenmnpmgghhaaGreatDoor
namespace Go.Proofs.YtohenmnpmgghhaaGreatDoor
open Go.RowKit
/-- Only the block of what is stored has turned; it is as it was (z) till the store (operation n) has come up, which comes behind the read (operation k); and then as stored (f). -/
structure Lst (V : World) (rb : Nat) (T : TypeId) (z f : Array Value) (n k : Nat) (L : Array Bool) (w : World) : Prop where
  frm : Frm (fun c => c = rb) V w
  ahead : L.getD n false = false → Blk w rb T z
  behind : L.getD n false = true → L.getD k false = true ∧ Blk w rb T f
section
variable {V w w' : World} {rb n k j : Nat} {T : TypeId} {z f : Array Value} {L : Array Bool} {md : Region.Mode} {ops : Array Oper}
theorem Lst.start (h : Blk V rb T z) (m : Nat) : Lst V rb T z f n k (Array.replicate m false) V.drew :=
  ⟨Frm.of_below (Below.refl _ _).drew, fun _ => h.below (Below.refl _ _).drew h.lt, fun e => by
    rcases Nat.lt_or_ge n m with h | h
    · simp [h] at e
    · simp [Array.getElem?_eq_none (xs := Array.replicate m false) (i := n) (by simpa using h)] at e⟩
theorem Lst.other (hj : j ≠ n) (h : Lst V rb T z f n k L w) : Lst V rb T z f n k (L.setIfInBounds j true) w := by
  refine ⟨h.frm, ?_, ?_⟩
  · rw [getD_stl hj]; exact h.ahead
  · rw [getD_stl hj]
    intro e
    obtain ⟨h1, h2⟩ := h.behind e
    exact ⟨getD_set_true h1, h2⟩
theorem Lst.call (hj : j ≠ n) (h : Lst V rb T z f n k L w) (hb : Below w.heap.size w w') : Lst V rb T z f n k (L.setIfInBounds j true) w' := by
  refine ⟨h.frm.trans (Frm.of_below (S := fun _ => False) hb) (fun _ e => e.elim), ?_, ?_⟩
  · rw [getD_stl hj]
    intro e
    have := h.ahead e
    exact this.below hb this.lt
  · rw [getD_stl hj]
    intro e
    obtain ⟨h1, h2⟩ := h.behind e
    exact ⟨getD_set_true h1, h2.below hb h2.lt⟩
/-- As long as the read may come up, the row is as it was. -/
theorem Lst.read (h : Lst V rb T z f n k L w) (hk : k ∈ Region.ready md ops L) : Blk w rb T z := by
  have h0 := ready_not hk
  cases e : L.getD n false with
  | false => exact h.ahead e
  | true => have := (h.behind e).1; rw [h0] at this; cases this
theorem Lst.old (h : Lst V rb T z f n k L w) (hn : n ∈ Region.ready md ops L) : Blk w rb T z := h.ahead (ready_not hn)
theorem Lst.done (h : Lst V rb T z f n k L w) (hn : n ∈ Region.ready md ops L) (hk : L.getD k false = true) (hf : Frm (fun c => c = rb) w w') (hB : Blk w' rb T f) : Lst V rb T z f n k (L.setIfInBounds n true) w' := by
  refine ⟨h.frm.trans hf (fun _ e => .inl e), fun e => ?_, fun _ => ⟨getD_set_true hk, hB⟩⟩
  have : (L.setIfInBounds n true).getD n false = true := by simp [ready_lt hn]
  rw [this] at e
  cases e
theorem Lst.end' (h : Lst V rb T z f n k L w) (hL : L.getD n false = true) : Blk w rb T f ∧ Frm (fun c => c = rb) V w := ⟨(h.behind hL).2, h.frm⟩
/-- The store. -/
theorem yieldsS_skip {P : Program} {S : Array Bool → World → Prop} {i : Nat} {o : Oper} {a : Act} (hw : Region.wanted o (yielded ops a.tmps) = true)
    (h : ∀ L w, i ∈ Region.ready md ops L → S L w → ∃ w', (execOp a.eval o).run P w = .ok .skip w' ∧ S (L.setIfInBounds i true) w') : YieldsS P md ops S i o undef a :=
  .inl ⟨hw, fun L w hL hS => .inr (.inl ⟨rfl, h L w hL hS⟩)⟩
end
end Go.Proofs.YtohenmnpmgghhaaGreatDoor
namespace Go.Proofs.YtohenmnpmgghhaaGreatDoor
open Go.RowKit
set_option linter.unusedSimpArgs false
attribute [local go_sem] Oper.semAt_some
attribute [local go_sem] wide_fn
/-- What the program's Each hands back yields just these orders, whatever of what is new turns meanwhile. -/
def EachQ (p : Option Addr) (Q : Int → List Ord) (W : World) : Prop := ∀ (s : Int) (V : World) (m : Nat), (s = 0 ∨ s = 1) → Frm (fun c => W.heap.size ≤ c) W V → W.heap.size ≤ m → m < V.heap.size →
  Calls Tryz.prog 77 #[.pointer p, .int .i64 s] V fun e w' => ∃ lb, e = .returned (.func (.func 95) #[] lb) ∧ Below V.heap.size V w' ∧
    SeqsT Fence.wide 5 Tryz.prog 95 lb encO (goodO (Q s)) (fun c => c = m) (fun ys => ys.length = (Q s).length) (fun pre => pre.length ≤ (Q s).length) (Q s).length w'
theorem LOk.sub {l L : List Ord} (h : LOk L) (hs : l.Sublist L) : LOk l := ⟨Nat.le_trans hs.length_le h.len, fun x hx => h.ok x (hs.subset hx)⟩
theorem qvL_snoc (l : List Ord) (x : Ord) : qvL (l ++ [x]) x.price = (sumO (eqS 0 x.price) l + eqS 0 x.price x, sumO (eqS 1 x.price) l + eqS 1 x.price x) := by
  unfold qvL
  rw [sumO_snoc, sumO_snoc]
theorem eqS_self (x : Ord) : eqS x.side x.price x = x.qty := if_pos ⟨rfl, rfl⟩
theorem eqS_not {s : Int} (x : Ord) (h : x.side ≠ s) : eqS s x.price x = 0 := if_neg fun e => h e.1
theorem arr2_cells {w : World} {b : Nat} {T : TypeId} {x y : Int} (h : Blk w b T #[.int .i64 x, .int .i64 y]) : w.cell? ⟨b, 0, none⟩ = some (.int .i64 x) ∧ w.cell? ⟨b, 1, none⟩ = some (.int .i64 y) := ⟨h.cell_eq 0 _ rfl, h.cell_eq 1 _ rfl⟩
/-! The range over the map: how far it has come. -/
def rowV (v : Int → Int × Int) (p : Int) : Pnt := ⟨p, (v p).1, (v p).2⟩
theorem infoPc : (Tryz.prog.info? 106).map (fun i => (i.zero, i.size, i.bytes)) = some (some (.agg #[.int .i64 0, .int .i64 0, .int .i64 0]), 3, 24) := by kernel_rfl
structure Lvs (V : World) (m r n : Nat) (ks : List Int) (v : Int → Int × Int) (q ds : List Int) (g : Nat) (ao : Option Addr) (cap : Nat) (w : World) : Prop where
  ow : OwG 106 3 w (some g) ao cap ds.length (pcs (ds.map (rowV v)))
  gv : V.heap.size ≤ g
  gr : g ≠ r
  rg : QrB w m r n ks v q
  perm : (ds ++ q).Perm ks
  frm : Frm (fun c => V.heap.size ≤ c) V w
  rv : V.heap.size ≤ r
  mv : m < V.heap.size
theorem Lvs.next {V : World} {m r n : Nat} {ks : List Int} {v : Int → Int × Int} {q ds : List Int} {g : Nat} {ao : Option Addr} {cap : Nat} {w : World} (h : Lvs V m r n ks v q ds g ao cap w) {x : Int} {q' : List Int} {w2 : World} (hp : q.Perm (x :: q')) (hR : QrB w2 m r n ks v q') (hf : Frm (fun c => c = r) w w2) (hs : w2.heap.size = w.heap.size)
    {w4 : World} (hb : Below w2.heap.size w2 w4) :
    OwG 106 3 w4 (some g) ao cap ds.length (pcs (ds.map (rowV v))) ∧ ∀ ao' cap' ko' w5, OwG 106 3 w5 ko' ao' cap' (ds.length + 1) (pcs (ds.map (rowV v)) ++ (cPnt (rowV v x)).toList) → Frm (fun b => some g = some b) w4 w5 → Moved w4 (some g) ko' → ∃ g', Lvs V m r n ks v q' (ds ++ [x]) g' ao' cap' w5 := by
  have hgl := h.ow.lt
  have h2 : OwG 106 3 w2 (some g) ao cap ds.length (pcs (ds.map (rowV v))) := h.ow.frm hf (fun k e => by cases e; exact h.gr)
  have hrl := hR.lt
  have hb' := hb.size
  refine ⟨h2.below hb, fun ao' cap' ko' w5 ho hf5 hm => ?_⟩
  obtain ⟨g', rfl⟩ : ∃ g', ko' = some g' := by
    rcases ho.at' with ⟨-, -, h0⟩ | ⟨k, cur, e, -⟩
    · have := ho.len; omega
    · exact ⟨k, e⟩
  have hgg : g' = g ∨ w4.heap.size ≤ g' := by
    rcases hm with e | e | ⟨k, e, h1⟩
    · cases e
    · cases e; exact .inl rfl
    · cases e; exact .inr h1
  have hsz := h.frm.size
  have hrv := h.rv
  have hgv := h.gv
  have hmv := h.mv
  have hgr := h.gr
  refine ⟨g', ?_, by omega, by omega, ?_, ?_, ?_, h.rv, h.mv⟩
  · rw [List.map_append, pcs, List.flatMap_append]
    simpa using ho
  · exact (hR.below hb).frm hf5 (fun e => by cases e; omega) (fun e => by cases e; exact hgr rfl)
  · rw [List.append_assoc]
    exact (hp.append_left ds).symm.trans h.perm
  · refine ((h.frm.trans hf (fun c e => .inl (by omega))).trans (Frm.of_below (S := fun _ => False) hb) (fun _ f => f.elim)).trans hf5 (fun c e => .inl (by cases e; omega))
theorem levels_sorted {L : List Ord} {ks ds : List Int} {l : List Pnt} (hL : LOk L) (hk : ∀ x, x ∈ ks ↔ ∃ o ∈ L, o.price = x) (hn : ks.Nodup) (hd : ds.Perm ks) (hl : l.Perm (ds.map (rowV (qvL L)))) (hs : l.Pairwise (fun x y => ¬ y.price < x.price)) : l = (cprA L).map (row0 L) := by
  have he : ∀ y ∈ l, y = row0 L y.price := fun y hy => by
    obtain ⟨x, -, rfl⟩ := List.mem_map.1 (hl.mem_iff.1 hy)
    rfl
  have hmp : l.map Pnt.price = cprA L := by
    have hperm : (l.map Pnt.price).Perm ds := by
      have := hl.map Pnt.price
      rwa [List.map_map, show Pnt.price ∘ rowV (qvL L) = id from rfl, List.map_id] at this
    have hnd : (l.map Pnt.price).Nodup := (hperm.trans hd).nodup_iff.2 hn
    refine rise_ext ?_ (prs_all hL).rise fun x => ?_
    · have h1 : (l.map Pnt.price).Pairwise (fun a b => ¬ b < a) := by rw [List.pairwise_map]; exact hs
      exact (h1.and hnd).imp fun ⟨a, b⟩ => by omega
    · rw [(hperm.trans hd).mem_iff, hk, (prs_all hL).mem]
  conv => lhs; rw [← List.map_id l]
  rw [← hmp, List.map_map]
  exact List.map_congr_left fun y hy => by rw [id]; exact he y hy
theorem levels_len {L : List Ord} {ks : List Int} (hL : LOk L) (hk : ∀ x, x ∈ ks ↔ ∃ o ∈ L, o.price = x) (hn : ks.Nodup) : ks.length ≤ 500 := by
  have h1 : ks.Perm (cprA L) := by
    refine (List.perm_ext_iff_of_nodup hn ?_).2 fun x => by rw [hk, (prs_all hL).mem]
    exact (prs_all hL).rise.imp fun h e => by omega
  rw [h1.length_eq]
  exact Nat.le_trans (cpr_len _ _ _) hL.len
section
variable {w w' W : World} {p : Option Addr} {Q : Int → List Ord}
set_option maxRecDepth 100000 in
set_option maxHeartbeats 8000000 in
theorem levels_any (hE : EachQ p Q W) (h0 : ∀ x ∈ Q 0, x.side = 0) (h1 : ∀ x ∈ Q 1, x.side = 1) (hQ : LOk (Q 0 ++ Q 1)) :
    Calls Tryz.prog 52 #[.pointer p] W fun e w' => ∃ g ao cap l, e = .returned (.slice ao l.length cap) ∧ l = (cprA (Q 0 ++ Q 1)).map (row0 (Q 0 ++ Q 1)) ∧ OwG 106 3 w' (some g) ao cap l.length (pcs l) ∧ W.heap.size ≤ g ∧ Below W.heap.size W w' := by
  have hmm := @run_makeMap Tryz.prog
  obtain ⟨W3, hW3⟩ : ∃ W3, W3 = ((W.alloc (.map #[] 0)).alloc (.cells #[.map (some W.heap.size)] 155)).alloc (.cells #[.int .i64 0, .int .i64 1] 3) := ⟨_, rfl⟩
  have hb3 : Below W.heap.size W W3 := by rw [hW3]; exact (((Below.refl _ _).alloc (Nat.le_refl _) _).alloc (by simp) _).alloc (by simp; omega) _
  have hs3 := Lib.hid (show W3.heap.size = W.heap.size + 3 by rw [hW3]; simp)
  have hm3 : QmL W3 W.heap.size [] := by
    rw [hW3]
    exact ((QmL.made W).below ((Below.refl _ _).alloc (Nat.le_refl _) _)).below ((Below.refl _ _).alloc (Nat.le_refl _) _)
  have hq3 : Blk W3 (W.heap.size + 1) 155 #[.map (some W.heap.size)] := by rw [hW3]; exact (Blk.new' (by simp)).alloc _
  have hi3 : Blk W3 (W.heap.size + 2) 3 #[.int .i64 0, .int .i64 1] := by rw [hW3]; exact Blk.new' (by simp)
  refine (callsIn_wide (n := 6)).1 ?_
  refine callsIn_of_wp_marks Tryz.func52 rfl trivial ?_ rfl
  simp only [Tryz.ntmps52, List.size_toArray, List.length_cons, List.length_nil, Nat.reduceAdd, Nat.reduceSub, Array.replicate_succ, Array.replicate_zero, List.push_toArray, List.append_toArray, List.nil_append, List.cons_append]
  refine wpIn_wide.2 ?_
  go_wp2_with (first | (rw [← hW3]; clear hW3) | fail)
  refine wp_loop_rounds 3 ?_
  rw [rounds_succ]
  have hi0 : W3.cell? ⟨W.heap.size + 1 + 1, 0, none⟩ = some (.int .i64 0) := hi3.cell_eq 0 _ rfl
  obtain ⟨V1, hV1⟩ : ∃ V1, V1 = W3.alloc (.cells #[.int .i64 0] 3) := ⟨_, rfl⟩
  have hbV1 : Below W3.heap.size W3 V1 := by rw [hV1]; exact (Below.refl _ _).alloc (Nat.le_refl _) _
  have hsV1 : Blk V1 W3.heap.size 3 #[.int .i64 0] := by rw [hV1]; exact Blk.new _ _ _
  have hzV1 := hbV1.size
  have hcs0 := hsV1.cell_eq 0 _ rfl
  have hbW1 := hb3.trans (hbV1.mono hb3.size)
  have cE0 := hE 0 V1 W.heap.size (.inl rfl) (Frm.of_below hbW1) (Nat.le_refl _) (by have := hsV1.lt; have := hs3.out; omega)
  go_wp2_with (first
    | (go_at_call 77; rw [← hV1]; refine cE0.mono ?_; rintro e w1 ⟨lb0, rfl, hb1, hseq0⟩; clear cE0 hV1)
    | fail)
  have hz1 := hb1.size
  have hm0 := (hm3.below hbV1).below hb1
  have hq0 := (hq3.below hbV1 hq3.lt).below hb1 (Nat.lt_of_lt_of_le hq3.lt hbV1.size)
  have hi1 := (hi3.below hbV1 hi3.lt).below hb1 (Nat.lt_of_lt_of_le hi3.lt hbV1.size)
  have hsb0 := hsV1.below hb1 hsV1.lt
  have hbw1 := hbW1.trans (hb1.mono hbW1.size)
  have hsl0 := hsb0.lt
  have hsg0 : W.heap.size + 2 < W3.heap.size := by have := hs3.out; omega
  have hml0 := hm0.lt
  have hql0 := hq0.lt
  clear hm3 hq3 hi3 hi0 hcs0 hbV1 hsV1 hb1
  refine (wpIn_wide (n := 6)).1 ?_
  have hseq0' := hseq0
  clear hseq0
  refine range_law5 (F := Fence.wide) rfl (by omega) (gf := 95) (lb := lb0) rfl trivial (goes_of Tryz.func95 (by kernel_rfl) rfl) (enc := encO) (fun _ => rfl) (fun c => c = W.heap.size) (fun c e => by omega) (G := goodO (Q 0)) (goodO_put (Q 0)) hseq0'
    (fun pre A => QmL A W.heap.size ([] ++ pre) ∧ Frm (fun c => c = W.heap.size ∨ w1.heap.size ≤ c) w1 A ∧ pre = (Q 0).take pre.length)
    (fun _ _ _ => False)
    (fun pre A B ⟨g1, g2, g3⟩ hf => ⟨g1.frm hf (by omega), g2.trans hf (fun c e => .inl (.inr (by omega))), g3⟩)
    (fun c pre A B h hf => h)
    ⟨by simpa using hm0, Frm.refl _ _, rfl⟩
    ?a0 (fun x A => A.alloc (.cells (cOrd x) 52)) (fun x A => (Below.refl _ _).alloc (Nat.le_refl _) _) (fun _ _ _ h => h) ?assign0 ?body0 ?done0 ?stop0
  case assign0 =>
    intro l x V K hK
    simp only [encO]
    gi_wp2
    exact hK
  case stop0 =>
    rintro D c pre V hD hsp h hK
    exact h.elim
  case body0 =>
    rintro l pre x A0 A ⟨g1, g2, g3⟩ hgood hlen hl0 hfA
    have hx : (Q 0)[pre.length]? = some x := hgood
    have hA1 := g2.size
    have hbox := blk_frm (Blk.new A0 52 (cOrd x)) hfA (by omega)
    have hq := (blk_frm hq0 g2 (by omega)).cell_eq 0 _ rfl
    have hsb := (blk_frm hsb0 g2 (by omega)).cell_eq 0 _ rfl
    have hsub : ([] ++ pre ++ [x]).Sublist (Q 0 ++ Q 1) := by
      have e : pre ++ [x] = (Q 0).take (pre.length + 1) := by rw [List.take_add_one, hx, ← g3]; rfl
      rw [List.append_assoc, e]
      exact (List.take_sublist _ _).trans (List.sublist_append_left _ _)
    have hlo := hQ.sub hsub
    have hxo : x.Ok := hlo.ok x (by simp)
    have hpr : In64 x.price := ⟨by have := hxo.p1; omega, by have := hxo.p2; omega⟩
    have hsd : x.side = 0 := h0 x (List.mem_of_getElem? hx)
    have hlk := g1.look hpr
    have hll : ([] ++ pre).length < 100000 := by
      have := hlo.len
      rw [List.length_append] at this
      omega
    have hb2 := eqS_small hlo 0 x.price
    rw [sumO_snoc] at hb2
    have hnew := qvL_snoc ([] ++ pre) x
    rw [eqS_not (s := 1) x (by omega)] at hnew
    have hself : eqS 0 x.price x = x.qty := by rw [← hsd]; exact eqS_self x
    rw [hself] at hnew hb2
    have hqn := (eqS_small (hQ.sub ((List.sublist_append_left _ [x]).trans hsub)) 0 x.price).1
    have hput : ∀ A3, Frm (fun c => c = A.heap.size) A A3 → ∃ A4, (Instr.mapUpdate 155 (.map (some W.heap.size)) (.int .i64 x.price) (vP2 (qvL ([] ++ pre ++ [x]) x.price))).run Tryz.prog A3 = .ok () A4 ∧ QmL A4 W.heap.size ([] ++ (pre ++ [x])) ∧ Frm (fun c => c = W.heap.size) A A4 ∧ Frm (fun c => c = W.heap.size ∨ w1.heap.size ≤ c) w1 A4 ∧ pre ++ [x] = (Q 0).take (pre ++ [x]).length := by
      intro A3 hf
      obtain ⟨A4, e, g5, g6⟩ := (g1.frm hf (by have := g1.lt; omega)).put hll x hpr
      have hf4 : Frm (fun c => c = W.heap.size) A A4 := by
        refine ⟨?_, ?_, ?_, ?_, fun c hc hn => ?_⟩
        · exact g6.os.trans hf.os
        · exact g6.tape.trans hf.tape
        · exact g6.output.trans hf.output
        · exact Nat.le_trans hf.size g6.size
        · exact (g6.block c (Nat.lt_of_lt_of_le hc hf.size) hn).trans (hf.block c hc (by omega))
      refine ⟨A4, e, by rw [← List.append_assoc]; exact g5, hf4, g2.trans hf4 (fun c e => .inl (.inl e)), ?_⟩
      have e : (pre ++ [x]).length = pre.length + 1 := by simp
      rw [e, List.take_add_one, hx, ← g3]
      rfl
    obtain ⟨A1, hA1e⟩ : ∃ A1, A1 = A.alloc (.cells #[.int .i64 (sumO (eqS 0 x.price) ([] ++ pre)), .int .i64 (sumO (eqS 1 x.price) ([] ++ pre))] 159) := ⟨_, rfl⟩
    have hbA : Below A.heap.size A A1 := by rw [hA1e]; exact (Below.refl _ _).alloc (Nat.le_refl _) _
    have hbq : Blk A1 A.heap.size 159 #[.int .i64 (sumO (eqS 0 x.price) ([] ++ pre)), .int .i64 (sumO (eqS 1 x.price) ([] ++ pre))] := by rw [hA1e]; exact Blk.new _ _ _
    have hfA1 : Frm (fun c => c = A.heap.size) A A1 := Frm.of_below hbA
    have hfacts : ∀ w, Frm (fun c => c = A.heap.size) A1 w → w.cell? ⟨W3.heap.size, 0, none⟩ = some (.int .i64 0) ∧ w.cell? ⟨A0.heap.size, 3, none⟩ = some (.int .i64 x.price) ∧ w.cell? ⟨A0.heap.size, 4, none⟩ = some (.int .i64 x.qty) ∧ w.cell? ⟨W.heap.size + 1, 0, none⟩ = some (.map (some W.heap.size)) := by
      intro w hf
      have hf1 := hfA1.trans hf (fun c e => .inl e)
      have k1 := blk_frm (blk_frm hsb0 g2 (by omega)) hf1 (by have := hsb0.lt; omega)
      have k2 := blk_frm hbox hf1 (by have := hbox.lt; omega)
      have k3 := blk_frm (blk_frm hq0 g2 (by omega)) hf1 (by have := hq0.lt; omega)
      obtain ⟨t0, t1, t2, t3, t4, t5, t6⟩ := Ord.cells k2
      exact ⟨k1.cell_eq 0 _ rfl, t3, t4, k3.cell_eq 0 _ rfl⟩
    obtain ⟨t0, t1, t2, t3, t4, t5, t6⟩ := Ord.cells hbox
    replace hfacts := Lib.hid hfacts
    replace hput := Lib.hid (fun A3 (h : Frm (fun c => c = A.heap.size) A1 A3) => hput A3 (hfA1.trans h (fun c e => .inl e)))
    unfold qvL at hlk
    rw [hnew] at hput
    clear hnew hself g1 hgood hlen hl0 hfA hxo hpr hsd hll hsub hlo hx hbox
    generalize sumO (eqS 0 x.price) ([] ++ pre) = a0 at *
    generalize sumO (eqS 1 x.price) ([] ++ pre) = a1 at *
    obtain ⟨o0, o1, o2, o3, o4, o5, o6⟩ := x
    simp only at t0 t1 t2 t3 t4 t5 t6 hlk hfacts hput hb2
    simp only [vP2, Int.add_zero] at hlk hput
    obtain ⟨an, han⟩ : ∃ an, an = a0 + o4 := ⟨_, rfl⟩
    have hwr : IntKind.i64.wrap (a0 + o4) = an := by rw [han, IntKind.wrap_i64]; omega
    rw [← han] at hput
    clear hb2 hqn han
    gi_wp2_with (first | (rw [← hA1e]; clear hA1e) | fail)
    refine wpIn_region_S_round (S := Lst A1 A.heap.size 159 #[.int .i64 a0, .int .i64 a1] #[.int .i64 an, .int .i64 a1] 7 2) (by kernel_rfl) (by kernel_rfl) (Lst.start hbq _) ?_
    refine AllS.next (v := ?_) rfl rfl rfl (by kernel_rfl) ?_ ?_
    rotate_left
    · refine yieldsS_runr ?_ (by rfl) ?_
      · intro L wx hL hS
        exact Lst.other (by decide) hS
      intro L wx hL hS
      obtain ⟨f1, f2, f3, f4⟩ := hfacts.out wx hS.frm
      go_simp
      try with_reducible rfl
    try simp only [Act.put, List.setIfInBounds_toArray, List.set_cons_zero, List.set_cons_succ, List.getElem_toArray, List.getElem_cons_zero, List.getElem_cons_succ]
    refine AllS.next (v := ?_) rfl rfl rfl (by kernel_rfl) ?_ ?_
    rotate_left
    · refine yieldsS_runr ?_ (by rfl) ?_
      · intro L wx hL hS
        exact Lst.other (by decide) hS
      intro L wx hL hS
      skip
      go_simp
      try with_reducible rfl
    try simp only [Act.put, List.setIfInBounds_toArray, List.set_cons_zero, List.set_cons_succ, List.getElem_toArray, List.getElem_cons_zero, List.getElem_cons_succ]
    refine AllS.next (v := ?_) rfl rfl rfl (by kernel_rfl) ?_ ?_
    rotate_left
    · refine yieldsS_runr ?_ (by rfl) ?_
      · intro L wx hL hS
        exact Lst.other (by decide) hS
      intro L wx hL hS
      obtain ⟨c0, c1⟩ := arr2_cells (hS.read hL)
      go_simp
      try with_reducible rfl
    try simp only [Act.put, List.setIfInBounds_toArray, List.set_cons_zero, List.set_cons_succ, List.getElem_toArray, List.getElem_cons_zero, List.getElem_cons_succ]
    refine AllS.next (v := ?_) rfl rfl rfl (by kernel_rfl) ?_ ?_
    rotate_left
    · refine yieldsS_runr ?_ (by rfl) ?_
      · intro L wx hL hS
        exact Lst.other (by decide) hS
      intro L wx hL hS
      skip
      go_simp
      try with_reducible rfl
    try simp only [Act.put, List.setIfInBounds_toArray, List.set_cons_zero, List.set_cons_succ, List.getElem_toArray, List.getElem_cons_zero, List.getElem_cons_succ]
    refine AllS.next (v := ?_) rfl rfl rfl (by kernel_rfl) ?_ ?_
    rotate_left
    · refine yieldsS_runr ?_ (by rfl) ?_
      · intro L wx hL hS
        exact Lst.other (by decide) hS
      intro L wx hL hS
      obtain ⟨f1, f2, f3, f4⟩ := hfacts.out wx hS.frm
      go_simp
      try with_reducible rfl
    try simp only [Act.put, List.setIfInBounds_toArray, List.set_cons_zero, List.set_cons_succ, List.getElem_toArray, List.getElem_cons_zero, List.getElem_cons_succ]
    refine AllS.next (v := (.int .i64 an)) rfl rfl rfl (by kernel_rfl) ?_ ?_
    · refine yieldsS_runr ?_ (by rfl) ?_
      · intro L wx hL hS
        exact Lst.other (by decide) hS
      intro L wx hL hS
      skip
      go_simp
      all_goals exact hwr
    try simp only [Act.put, List.setIfInBounds_toArray, List.set_cons_zero, List.set_cons_succ, List.getElem_toArray, List.getElem_cons_zero, List.getElem_cons_succ]
    refine AllS.next (v := ?_) rfl rfl rfl (by kernel_rfl) ?_ ?_
    rotate_left
    · refine yieldsS_runr ?_ (by rfl) ?_
      · intro L wx hL hS
        exact Lst.other (by decide) hS
      intro L wx hL hS
      skip
      go_simp
      try with_reducible rfl
    try simp only [Act.put, List.setIfInBounds_toArray, List.set_cons_zero, List.set_cons_succ, List.getElem_toArray, List.getElem_cons_zero, List.getElem_cons_succ]
    refine AllS.next (v := undef) rfl rfl rfl (by kernel_rfl) ?_ ?_
    · refine yieldsS_skip (by rfl) fun L wx hL hS => ?_
      have k0 := hS.old hL
      have fz := k0.free 0
      obtain ⟨c0, c1⟩ := arr2_cells k0
      refine ⟨wx.setCell ⟨A.heap.size, 0, none⟩ (.int .i64 an), ?_, hS.done hL (ready_dep hL (by kernel_rfl)) ((Frm.refl _ _).setCell _ _ (.inl rfl)) (k0.set 0 _)⟩
      go_simp
    refine AllS.done (by kernel_rfl) fun w6 hS => ?_
    obtain ⟨k6, hf6⟩ := hS.end' (by rfl)
    obtain ⟨f1, f2, f3, f4⟩ := hfacts.out w6 hf6
    obtain ⟨c0, c1⟩ := arr2_cells k6
    obtain ⟨A4, hup, p1, p2, p3, p4⟩ := hput.out w6 hf6
    clear hfacts hput hS
    simp only [Act.put, List.setIfInBounds_toArray, List.set_cons_zero, List.set_cons_succ, List.getElem_toArray, List.getElem_cons_zero, List.getElem_cons_succ]
    gi_wp2
    exact ⟨p2, p1, p3, p4⟩
  case done0 =>
    rintro D ys V hD hys ⟨g1, g2, g3⟩ hK
    have hQs : ys = Q 0 := by rw [g3, hys, List.take_length]
    subst hQs
    clear g3 hys hseq0'
    rw [List.nil_append] at g1
    go_wp2_with fail
    rw [rounds_succ]
    have hgs := g2.size
    have hi2 : V.cell? ⟨W.heap.size + 1 + 1, 1, none⟩ = some (.int .i64 1) := (blk_frm hi1 g2 (by have := hi1.lt; omega)).cell_eq 1 _ rfl
    obtain ⟨V2, hV2⟩ : ∃ V2, V2 = V.alloc (.cells #[.int .i64 1] 3) := ⟨_, rfl⟩
    have hbV2 : Below V.heap.size V V2 := by rw [hV2]; exact (Below.refl _ _).alloc (Nat.le_refl _) _
    have hsV2 : Blk V2 V.heap.size 3 #[.int .i64 1] := by rw [hV2]; exact Blk.new _ _ _
    have hcs1 := hsV2.cell_eq 0 _ rfl
    have hgW : Frm (fun c => W.heap.size ≤ c) W V2 := ((Frm.of_below (S := fun c => W.heap.size ≤ c) hbw1).trans g2 (fun c e => .inl (by have := hbw1.size; omega))).trans (Frm.of_below (S := fun _ => False) hbV2) (fun _ f => f.elim)
    have cE1 := hE 1 V2 W.heap.size (.inr rfl) hgW (Nat.le_refl _) (by have := hsV2.lt; omega)
    go_wp2_with (first
      | (rw [← hV2]; clear hV2)
      | (go_at_call 77; refine cE1.mono ?_; rintro e w2 ⟨lb1, rfl, hb2, hseq1⟩; clear cE1)
      | fail)
    have hzV2 := hbV2.size
    have hz2 := hb2.size
    have hbV12 := hbV2.trans (hb2.mono hbV2.size)
    have hm1 := g1.below hbV12
    have hq1 := (blk_frm hq0 g2 (by omega)).below hbV12 (by have := (blk_frm hq0 g2 (by omega)).lt; exact this)
    have hsb1 := hsV2.below hb2 hsV2.lt
    have hKw := (hbV12.block _ (Array.getElem?_eq_some_iff.1 hK).1).trans hK
    have hbw2 := hgW.trans (Frm.of_below (S := fun _ => False) hb2) (fun _ f => f.elim)
    have hsl1 := hsb1.lt
    have hml1 := hm1.lt
    have hql1 := hq1.lt
    have hsg1 : W.heap.size + 2 < V.heap.size := by omega
    have hDl := (Array.getElem?_eq_some_iff.1 hK).1
    clear hi2 hcs1 hbV2 hsV2 hb2 hgW g1 hbV12
    refine (wpIn_wide (n := 6)).1 ?_
    have hseq1' := hseq1
    clear hseq1
    refine range_law5 (F := Fence.wide) rfl (by omega) (gf := 95) (lb := lb1) rfl trivial (goes_of Tryz.func95 (by kernel_rfl) rfl) (enc := encO) (fun _ => rfl) (fun c => c = W.heap.size) (fun c e => by omega) (G := goodO (Q 1)) (goodO_put (Q 1)) hseq1'
      (fun pre A => QmL A W.heap.size (Q 0 ++ pre) ∧ Frm (fun c => c = W.heap.size ∨ w2.heap.size ≤ c) w2 A ∧ pre = (Q 1).take pre.length)
      (fun _ _ _ => False)
      (fun pre A B ⟨g1, g2, g3⟩ hf => ⟨g1.frm hf (by omega), g2.trans hf (fun c e => .inl (.inr (by omega))), g3⟩)
      (fun c pre A B h hf => h)
      ⟨by simpa using hm1, Frm.refl _ _, rfl⟩
      ?a1 (fun x A => A.alloc (.cells (cOrd x) 52)) (fun x A => (Below.refl _ _).alloc (Nat.le_refl _) _) (fun _ _ _ h => h) ?assign1 ?body1 ?done1 ?stop1
    case assign1 =>
      intro l x V K hK
      simp only [encO]
      gi_wp2
      exact hK
    case stop1 =>
      rintro D c pre V hD hsp h hK
      exact h.elim
    case body1 =>
      rintro l pre x A0 A ⟨g1, g2, g3⟩ hgood hlen hl0 hfA
      have hx : (Q 1)[pre.length]? = some x := hgood
      have hA1 := g2.size
      have hbox := blk_frm (Blk.new A0 52 (cOrd x)) hfA (by omega)
      have hq := (blk_frm hq1 g2 (by omega)).cell_eq 0 _ rfl
      have hsb := (blk_frm hsb1 g2 (by omega)).cell_eq 0 _ rfl
      have hsub : (Q 0 ++ pre ++ [x]).Sublist (Q 0 ++ Q 1) := by
        have e : pre ++ [x] = (Q 1).take (pre.length + 1) := by rw [List.take_add_one, hx, ← g3]; rfl
        rw [List.append_assoc, e]
        exact List.Sublist.append (List.Sublist.refl _) (List.take_sublist _ _)
      have hlo := hQ.sub hsub
      have hxo : x.Ok := hlo.ok x (by simp)
      have hpr : In64 x.price := ⟨by have := hxo.p1; omega, by have := hxo.p2; omega⟩
      have hsd : x.side = 1 := h1 x (List.mem_of_getElem? hx)
      have hlk := g1.look hpr
      have hll : (Q 0 ++ pre).length < 100000 := by
        have := hlo.len
        rw [List.length_append] at this
        omega
      have hb2 := eqS_small hlo 1 x.price
      rw [sumO_snoc] at hb2
      have hnew := qvL_snoc (Q 0 ++ pre) x
      rw [eqS_not (s := 0) x (by omega)] at hnew
      have hself : eqS 1 x.price x = x.qty := by rw [← hsd]; exact eqS_self x
      rw [hself] at hnew hb2
      have hqn := (eqS_small (hQ.sub ((List.sublist_append_left _ [x]).trans hsub)) 1 x.price).1
      have hput : ∀ A3, Frm (fun c => c = A.heap.size) A A3 → ∃ A4, (Instr.mapUpdate 155 (.map (some W.heap.size)) (.int .i64 x.price) (vP2 (qvL (Q 0 ++ pre ++ [x]) x.price))).run Tryz.prog A3 = .ok () A4 ∧ QmL A4 W.heap.size (Q 0 ++ (pre ++ [x])) ∧ Frm (fun c => c = W.heap.size) A A4 ∧ Frm (fun c => c = W.heap.size ∨ w2.heap.size ≤ c) w2 A4 ∧ pre ++ [x] = (Q 1).take (pre ++ [x]).length := by
        intro A3 hf
        obtain ⟨A4, e, g5, g6⟩ := (g1.frm hf (by have := g1.lt; omega)).put hll x hpr
        have hf4 : Frm (fun c => c = W.heap.size) A A4 := by
          refine ⟨?_, ?_, ?_, ?_, fun c hc hn => ?_⟩
          · exact g6.os.trans hf.os
          · exact g6.tape.trans hf.tape
          · exact g6.output.trans hf.output
          · exact Nat.le_trans hf.size g6.size
          · exact (g6.block c (Nat.lt_of_lt_of_le hc hf.size) hn).trans (hf.block c hc (by omega))
        refine ⟨A4, e, by rw [← List.append_assoc]; exact g5, hf4, g2.trans hf4 (fun c e => .inl (.inl e)), ?_⟩
        have e : (pre ++ [x]).length = pre.length + 1 := by simp
        rw [e, List.take_add_one, hx, ← g3]
        rfl
      obtain ⟨A1, hA1e⟩ : ∃ A1, A1 = A.alloc (.cells #[.int .i64 (sumO (eqS 0 x.price) (Q 0 ++ pre)), .int .i64 (sumO (eqS 1 x.price) (Q 0 ++ pre))] 159) := ⟨_, rfl⟩
      have hbA : Below A.heap.size A A1 := by rw [hA1e]; exact (Below.refl _ _).alloc (Nat.le_refl _) _
      have hbq : Blk A1 A.heap.size 159 #[.int .i64 (sumO (eqS 0 x.price) (Q 0 ++ pre)), .int .i64 (sumO (eqS 1 x.price) (Q 0 ++ pre))] := by rw [hA1e]; exact Blk.new _ _ _
      have hfA1 : Frm (fun c => c = A.heap.size) A A1 := Frm.of_below hbA
      have hfacts : ∀ w, Frm (fun c => c = A.heap.size) A1 w → w.cell? ⟨V.heap.size, 0, none⟩ = some (.int .i64 1) ∧ w.cell? ⟨A0.heap.size, 3, none⟩ = some (.int .i64 x.price) ∧ w.cell? ⟨A0.heap.size, 4, none⟩ = some (.int .i64 x.qty) ∧ w.cell? ⟨W.heap.size + 1, 0, none⟩ = some (.map (some W.heap.size)) := by
        intro w hf
        have hf1 := hfA1.trans hf (fun c e => .inl e)
        have k1 := blk_frm (blk_frm hsb1 g2 (by omega)) hf1 (by have := hsb1.lt; omega)
        have k2 := blk_frm hbox hf1 (by have := hbox.lt; omega)
        have k3 := blk_frm (blk_frm hq1 g2 (by omega)) hf1 (by have := hq1.lt; omega)
        obtain ⟨t0, t1, t2, t3, t4, t5, t6⟩ := Ord.cells k2
        exact ⟨k1.cell_eq 0 _ rfl, t3, t4, k3.cell_eq 0 _ rfl⟩
      obtain ⟨t0, t1, t2, t3, t4, t5, t6⟩ := Ord.cells hbox
      replace hfacts := Lib.hid hfacts
      replace hput := Lib.hid (fun A3 (h : Frm (fun c => c = A.heap.size) A1 A3) => hput A3 (hfA1.trans h (fun c e => .inl e)))
      unfold qvL at hlk
      rw [hnew] at hput
      clear hnew hself g1 hgood hlen hl0 hfA hxo hpr hsd hll hsub hlo hx hbox
      generalize sumO (eqS 0 x.price) (Q 0 ++ pre) = a0 at *
      generalize sumO (eqS 1 x.price) (Q 0 ++ pre) = a1 at *
      obtain ⟨o0, o1, o2, o3, o4, o5, o6⟩ := x
      simp only at t0 t1 t2 t3 t4 t5 t6 hlk hfacts hput hb2
      simp only [vP2, Int.add_zero] at hlk hput
      obtain ⟨an, han⟩ : ∃ an, an = a1 + o4 := ⟨_, rfl⟩
      have hwr : IntKind.i64.wrap (a1 + o4) = an := by rw [han, IntKind.wrap_i64]; omega
      rw [← han] at hput
      clear hb2 hqn han
      gi_wp2_with (first | (rw [← hA1e]; clear hA1e) | fail)
      refine wpIn_region_S_round (S := Lst A1 A.heap.size 159 #[.int .i64 a0, .int .i64 a1] #[.int .i64 a0, .int .i64 an] 7 2) (by kernel_rfl) (by kernel_rfl) (Lst.start hbq _) ?_
      refine AllS.next (v := ?_) rfl rfl rfl (by kernel_rfl) ?_ ?_
      rotate_left
      · refine yieldsS_runr ?_ (by rfl) ?_
        · intro L wx hL hS
          exact Lst.other (by decide) hS
        intro L wx hL hS
        obtain ⟨f1, f2, f3, f4⟩ := hfacts.out wx hS.frm
        go_simp
        try with_reducible rfl
      try simp only [Act.put, List.setIfInBounds_toArray, List.set_cons_zero, List.set_cons_succ, List.getElem_toArray, List.getElem_cons_zero, List.getElem_cons_succ]
      refine AllS.next (v := ?_) rfl rfl rfl (by kernel_rfl) ?_ ?_
      rotate_left
      · refine yieldsS_runr ?_ (by rfl) ?_
        · intro L wx hL hS
          exact Lst.other (by decide) hS
        intro L wx hL hS
        skip
        go_simp
        try with_reducible rfl
      try simp only [Act.put, List.setIfInBounds_toArray, List.set_cons_zero, List.set_cons_succ, List.getElem_toArray, List.getElem_cons_zero, List.getElem_cons_succ]
      refine AllS.next (v := ?_) rfl rfl rfl (by kernel_rfl) ?_ ?_
      rotate_left
      · refine yieldsS_runr ?_ (by rfl) ?_
        · intro L wx hL hS
          exact Lst.other (by decide) hS
        intro L wx hL hS
        obtain ⟨c0, c1⟩ := arr2_cells (hS.read hL)
        go_simp
        try with_reducible rfl
      try simp only [Act.put, List.setIfInBounds_toArray, List.set_cons_zero, List.set_cons_succ, List.getElem_toArray, List.getElem_cons_zero, List.getElem_cons_succ]
      refine AllS.next (v := ?_) rfl rfl rfl (by kernel_rfl) ?_ ?_
      rotate_left
      · refine yieldsS_runr ?_ (by rfl) ?_
        · intro L wx hL hS
          exact Lst.other (by decide) hS
        intro L wx hL hS
        skip
        go_simp
        try with_reducible rfl
      try simp only [Act.put, List.setIfInBounds_toArray, List.set_cons_zero, List.set_cons_succ, List.getElem_toArray, List.getElem_cons_zero, List.getElem_cons_succ]
      refine AllS.next (v := ?_) rfl rfl rfl (by kernel_rfl) ?_ ?_
      rotate_left
      · refine yieldsS_runr ?_ (by rfl) ?_
        · intro L wx hL hS
          exact Lst.other (by decide) hS
        intro L wx hL hS
        obtain ⟨f1, f2, f3, f4⟩ := hfacts.out wx hS.frm
        go_simp
        try with_reducible rfl
      try simp only [Act.put, List.setIfInBounds_toArray, List.set_cons_zero, List.set_cons_succ, List.getElem_toArray, List.getElem_cons_zero, List.getElem_cons_succ]
      refine AllS.next (v := (.int .i64 an)) rfl rfl rfl (by kernel_rfl) ?_ ?_
      · refine yieldsS_runr ?_ (by rfl) ?_
        · intro L wx hL hS
          exact Lst.other (by decide) hS
        intro L wx hL hS
        skip
        go_simp
        all_goals exact hwr
      try simp only [Act.put, List.setIfInBounds_toArray, List.set_cons_zero, List.set_cons_succ, List.getElem_toArray, List.getElem_cons_zero, List.getElem_cons_succ]
      refine AllS.next (v := ?_) rfl rfl rfl (by kernel_rfl) ?_ ?_
      rotate_left
      · refine yieldsS_runr ?_ (by rfl) ?_
        · intro L wx hL hS
          exact Lst.other (by decide) hS
        intro L wx hL hS
        skip
        go_simp
        try with_reducible rfl
      try simp only [Act.put, List.setIfInBounds_toArray, List.set_cons_zero, List.set_cons_succ, List.getElem_toArray, List.getElem_cons_zero, List.getElem_cons_succ]
      refine AllS.next (v := undef) rfl rfl rfl (by kernel_rfl) ?_ ?_
      · refine yieldsS_skip (by rfl) fun L wx hL hS => ?_
        have k0 := hS.old hL
        have fz := k0.free 1
        obtain ⟨c0, c1⟩ := arr2_cells k0
        refine ⟨wx.setCell ⟨A.heap.size, 1, none⟩ (.int .i64 an), ?_, hS.done hL (ready_dep hL (by kernel_rfl)) ((Frm.refl _ _).setCell _ _ (.inl rfl)) (k0.set 1 _)⟩
        go_simp
      refine AllS.done (by kernel_rfl) fun w6 hS => ?_
      obtain ⟨k6, hf6⟩ := hS.end' (by rfl)
      obtain ⟨f1, f2, f3, f4⟩ := hfacts.out w6 hf6
      obtain ⟨c0, c1⟩ := arr2_cells k6
      obtain ⟨A4, hup, p1, p2, p3, p4⟩ := hput.out w6 hf6
      clear hfacts hput hS
      simp only [Act.put, List.setIfInBounds_toArray, List.set_cons_zero, List.set_cons_succ, List.getElem_toArray, List.getElem_cons_zero, List.getElem_cons_succ]
      gi_wp2
      exact ⟨p2, p1, p3, p4⟩
    case done1 =>
      rintro D2 ys V3 hD2 hys ⟨k1, k2, k3⟩ hK2
      have hQs2 : ys = Q 1 := by rw [k3, hys, List.take_length]
      subst hQs2
      clear k3 hys hseq1'
      go_wp2_with fail
      rw [rounds_succ]
      have hf3 : Frm (fun c => W.heap.size ≤ c) W V3 := hbw2.trans k2 (fun c e => .inl (by omega))
      clear hi1
      have hz3 := k2.size
      have hcq : V3.cell? ⟨W.heap.size + 1, 0, none⟩ = some (.map (some W.heap.size)) := (blk_frm hq1 k2 (by omega)).cell_eq 0 _ rfl
      have hK3 : V3.heap[D]? = some (.deferred (some [])) := (k2.block D (Array.getElem?_eq_some_iff.1 hKw).1 (fun e => by have := (Array.getElem?_eq_some_iff.1 hK).1; omega)).trans hKw
      obtain ⟨ks, hM, hks⟩ := k1
      obtain ⟨n, hn, hlen⟩ := hM.len
      have hnd : ks.Nodup := hM.choose_spec.2.nd
      have hk5 := levels_len hQ hks hnd
      have hnq : n ≤ 500 := Nat.le_trans hn hQ.len
      obtain ⟨i1, hi1, e1⟩ := Option.map_eq_some_iff.1 infoPc
      simp only [Prod.mk.injEq] at e1
      obtain ⟨hz1', hs1', hby1⟩ := e1
      have hmk := run_make (P := Tryz.prog) V3 104 106 i1 _ Tryz.underlying104 hi1 hz1' .i64 .i64 0 (n : Int) (by omega) (by omega) (by rw [hby1]; omega) (by omega)
      simp only [Int.toNat_zero, Int.toNat_natCast] at hmk
      rw [hs1'] at hmk
      obtain ⟨V4, hV4⟩ : ∃ V4, V4 = V3.alloc (.cells (madeCells (Value.agg #[.int .i64 0, .int .i64 0, .int .i64 0]).cells (n * 3)) 106) := ⟨_, rfl⟩
      have hb4 : Below V3.heap.size V3 V4 := by rw [hV4]; exact (Below.refl _ _).alloc (Nat.le_refl _) _
      have hO4 : OwG 106 3 V4 (some V3.heap.size) (some ⟨V3.heap.size, 0, none⟩) n 0 [] := by
        rw [hV4]
        exact ⟨by simp, Nat.zero_le _, by unfold maxLen; omega, .inr ⟨_, _, rfl, rfl, World.alloc_heap_new _ _, by rw [size_madeCells], by simp⟩⟩
      have hz4 : V3.heap.size < V4.heap.size := by rw [hV4]; simp
      rw [← hV4] at hmk
      have hcq4 : V4.cell? ⟨W.heap.size + 1, 0, none⟩ = some (.map (some W.heap.size)) := ((blk_frm hq1 k2 (by omega)).below hb4 (blk_frm hq1 k2 (by omega)).lt).cell_eq 0 _ rfl
      obtain ⟨w5, e5, hR5, hb5, hs5⟩ := (hM.below hb4).range
      have hL5 : Lvs V3 W.heap.size V4.heap.size (Q 0 ++ Q 1).length ks (qvL (Q 0 ++ Q 1)) ks [] V3.heap.size (some ⟨V3.heap.size, 0, none⟩) n w5 :=
        ⟨by simpa using hO4.below hb5, Nat.le_refl _, by omega, hR5, by simp, Frm.of_below (hb4.trans (hb5.mono hb4.size)), by omega, hM.lt⟩
      have hend : ∀ w l (g : Nat), Frm (fun c => V3.heap.size ≤ c) V3 w → V3.heap.size ≤ g → ∀ w6, Frm (fun c => c = g) w w6 → w6.heap[D2]? = some (.deferred (some [])) ∧ ∀ w7, w7 = w6.putObj D2 (.deferred none) → w7.heap[D]? = some (.deferred (some [])) ∧ ∀ w8, w8 = w7.putObj D (.deferred none) → Below W.heap.size W w8 ∧ ∀ ao cap, OwG 106 3 w6 (some g) ao cap (l : List Pnt).length (pcs l) → OwG 106 3 w8 (some g) ao cap l.length (pcs l) := by
        intro w l g hf hg w6 hf6
        have hD2l := (Array.getElem?_eq_some_iff.1 hK2).1
        have hDl3 := (Array.getElem?_eq_some_iff.1 hK3).1
        have q1 : w6.heap[D2]? = some (.deferred (some [])) := ((hf6.block D2 (Nat.lt_of_lt_of_le hD2l hf.size) (by omega)).trans (hf.block D2 hD2l (by omega))).trans hK2
        have q2 : w6.heap[D]? = some (.deferred (some [])) := ((hf6.block D (Nat.lt_of_lt_of_le hDl3 hf.size) (by omega)).trans (hf.block D hDl3 (by omega))).trans hK3
        refine ⟨q1, ?_⟩
        rintro w7 rfl
        have hDw := (Array.getElem?_eq_some_iff.1 hKw).1
        refine ⟨(World.putObj_heap_other (by omega)).trans q2, ?_⟩
        rintro w8 rfl
        have P1 := Frm.put (S := fun b => W.heap.size ≤ b) w6 D2 (.deferred none) (by omega)
        have P2 := Frm.put (S := fun b => W.heap.size ≤ b) (w6.putObj D2 (.deferred none)) D (.deferred none) (by omega)
        have hall : Frm (fun c => W.heap.size ≤ c) W ((w6.putObj D2 (.deferred none)).putObj D (.deferred none)) := (((hf3.trans hf (fun c e => .inl (by omega))).trans hf6 (fun c e => .inl (by omega))).trans P1 (fun c e => .inl e)).trans P2 (fun c e => .inl e)
        refine ⟨hall.below (Nat.le_refl _) (fun c e => e), fun ao cap ho => ?_⟩
        refine (ho.frm (Frm.put (S := fun b => b = D2) w6 D2 (.deferred none) rfl) (fun k e => ?_)).frm (Frm.put (S := fun b => b = D) _ D (.deferred none) rfl) (fun k e => ?_)
        · cases e; omega
        · cases e; omega
      have hsort := fun (ds : List Int) (l : List Pnt) h1 h2 h3 => levels_sorted (ks := ks) (ds := ds) (l := l) hQ hks hnd h1 h2 h3
      replace hend := Lib.hid hend
      replace hsort := Lib.hid hsort
      have hgW3 := Lib.hid (show W.heap.size ≤ V3.heap.size from hf3.size)
      generalize (Q 0 ++ Q 1).length = nl at *
      generalize qvL (Q 0 ++ Q 1) = vf at *
      clear hf3 hK3 hM hks hnd hn hb4 hO4 hR5 hb5 hs5 hz4 hV4 k2 hq1 hKw hK hK2 hbw2 hE h0 h1 hsb0 hq0 hbw1 hb3 hs3
      go_wp2_with fail
      clear hcq hcq4 hmk e5 hlen
      go_loopg [8] ks.length (fun j p8 wr => ∃ (q ds : List Int) (g : Nat) (ao : Option Addr) (cap : Nat), q.length = j ∧ p8 = .slice ao ds.length cap ∧ Hid (Lvs V3 W.heap.size V4.heap.size nl ks vf q ds g ao cap wr))
      case atStart => exact ⟨ks, [], _, _, _, rfl, rfl, Lib.hid hL5⟩
      case round =>
        clear hL5
        obtain ⟨q, ds, g, ao, cap, rfl, rfl, hL⟩ := hrel
        rcases hL.out.rg.next 0 with ⟨rfl, e1⟩ | ⟨x, q', w2, hp, hxl, e1, hR2, e2, hf2, hs2⟩
        · have hdl : ds.length = (ds.map (rowV vf)).length := by rw [List.length_map]
          have hLo := hL.out.ow
          rw [hdl] at hLo
          have hd5 : ds.length ≤ 500 := by
            have := hL.out.perm.length_eq
            rw [List.append_nil] at this
            omega
          have cS := sortp_any hLo (by rw [← hdl]; exact hd5)
          rw [← hdl] at cS
          have hpr : ds.Perm ks := by have := hL.out.perm; rwa [List.append_nil] at this
          have hfr := Lib.hid hL.out.frm
          have hgv := Lib.hid hL.out.gv
          replace hpr := Lib.hid hpr
          replace hdl := Lib.hid hdl
          clear hL hLo hd5
          go_wp2_with (first
            | (go_at_call 78; refine cS.mono ?_; rintro e w6 ⟨rfl, l', hp1, hs1, ho1, hf6⟩; clear cS; obtain ⟨q1, hq2⟩ := hend.out _ l' g hfr.out hgv.out w6 hf6; obtain ⟨q2, hq3⟩ := hq2 _ rfl; obtain ⟨hB8, hO8⟩ := hq3 _ rfl)
            | fail)
          refine ⟨by simp, .inl ⟨_, _, rfl, run_takeDeferred q1, ?_⟩⟩
          refine ⟨by simp, .inl ⟨_, _, rfl, run_takeDeferred q2, ?_⟩⟩
          have hll : l'.length = ds.length := by rw [hp1.length_eq, ← hdl.out]
          rw [← hll] at ho1 ⊢
          refine ⟨.slice ao l'.length cap, ?_, g, ao, cap, l', rfl, ?_, hO8 _ _ ho1, Nat.le_trans hgW3.out hgv.out, hB8⟩
          · simp [results, Tryz.results52, go_sem]
          · exact hsort.out ds l' hpr.out hp1 hs1
        · have hlen2 := hp.length_eq
          simp only [List.length_cons] at hlen2
          have hds5 : ds.length ≤ 500 := by
            have := hL.out.perm.length_eq
            rw [List.length_append] at this
            omega
          obtain ⟨w3, hw3⟩ : ∃ w3, w3 = w2.alloc (.cells #[.int .i64 (vf x).1, .int .i64 (vf x).2] 159) := ⟨_, rfl⟩
          have hb3' : Below w2.heap.size w2 w3 := by rw [hw3]; exact (Below.refl _ _).alloc (Nat.le_refl _) _
          have hB3 : Blk w3 w2.heap.size 159 #[.int .i64 (vf x).1, .int .i64 (vf x).2] := by rw [hw3]; exact Blk.new _ _ _
          obtain ⟨c3, c4⟩ := arr2_cells hB3
          obtain ⟨hO3, hnx⟩ := hL.out.next hp hR2 hf2 hs2 (hb3'.alloc hb3'.size (.cells (cPnt (rowV vf x)) 106))
          have hsrc : SrcG 3 (w3.alloc (.cells (cPnt (rowV vf x)) 106)) (some ⟨w3.heap.size, 0, none⟩) 1 1 (cPnt (rowV vf x)).toList := SrcG.row (cs := cPnt (rowV vf x)) (Blk.new _ _ _) rfl (fun u hu => by simp [cPnt] at hu; rcases hu with rfl | rfl | rfl <;> rfl)
          replace hnx := Lib.hid hnx
          replace hlen2 := Lib.hid hlen2
          clear hL hp hxl hR2 hf2 hs2 hb3' hB3
          simp only [vP2] at e1 e2
          go_wp2_with (first
            | (rw [← hw3]; clear hw3)
            | (at_builtin; refine wpList_appG rfl (.tmp 48) (.tmp 55) 104 106 i1 _ 3 24 Tryz.underlying104 hi1 hz1' hs1' hby1 rfl (by decide) rfl hO3 hsrc rfl rfl (by omega) (by omega) ?_; intro ao2 cap2 ko2 w4 ho4 hf4 hm4; obtain ⟨g', hL'⟩ := hnx.out _ _ _ _ ho4 hf4 hm4; clear hnx ho4 hf4 hm4 hO3 hsrc)
            | fail)
          go_roundg q'.length
          case measure => have := hlen2.out; omega
          case rel => exact ⟨q', ds ++ [x], g', ao2, cap2, rfl, by simp, Lib.hid hL'⟩

end
end Go.Proofs.YtohenmnpmgghhaaGreatDoor
