/-
  A map of int64 whose elements are arrays of two int64, read as a list of keys and what each has; and as the sums of a list of orders.
  The points as they are yielded where rounds append; Prices of the program's curve. (Written by gen/p_cvx.py.)
  slices.SortFunc at the program's points: the shelf's contract, laid over this program. (Written by gen/p_srf.py; the fields as the shelf's own laying has them.)
-/
import Derived.Test.YtohenmnpmgghhaaGreatDoorGCa
import Derived.Test.YtohenmnpmgghhaaGreatDoorGA
import Derived.Test.YtohenmnpmgghhaaGreatDoorGO
import Derived.Test.YtohenmnpmgghhaaGreatDoorGB
import Derived.Maps.Range
import Derived.Maps.RangeWalk
import Derived.Maps.OwnOps
import Derived.Lib.Hide
import Derived.Test.YtohenmnpmgghhaaGreatDoorGCc
import Derived.Test.YtohenmnpmgghhaaGreatDoorGZ
import Derived.Shelf.SlSortCmp.WholeK
namespace Go.Proofs.YtohenmnpmgghhaaGreatDoor
open Go.RowKit Go.WideMaps Go.WideElems
set_option maxRecDepth 20000
abbrev vP2 (x : Int × Int) : Value := .agg #[.int .i64 x.1, .int .i64 x.2]
/-- How such an element reads. -/
def pairE (v : Value) : Option (DataW (Int × Int) × List MemPlace) :=
  match v with
  | .agg cs => match cs.toList with
    | [.int .i64 a, .int .i64 b] => some (.held (a, b), [])
    | _ => none
  | _ => none
theorem pairE_mk (x : Int × Int) : pairE (vP2 x) = some (.held x, []) := rfl
theorem pairE_inv {v : Value} {z : DataW (Int × Int) × List MemPlace} (h : pairE v = some z) : ∃ x, v = vP2 x ∧ z = (.held x, []) := by
  unfold pairE at h
  split at h
  · rename_i cs
    split at h
    · rename_i a b e
      cases h
      refine ⟨(a, b), ?_, rfl⟩
      have : cs = #[.int .i64 a, .int .i64 b] := Array.ext' (by rw [e])
      rw [this]
    · cases h
  · cases h
theorem kq_law : Maps.Keyed Tryz.prog 2 := Maps.int_keyed Tryz.underlying2
theorem wf_of_in64q {x : Int} (h : In64 x) : (Lit.int .i64 x).wf = true := by
  unfold In64 at h
  simp [Lit.wf, IntKind.min, IntKind.max, IntKind.signed, IntKind.bits]
  omega
theorem kq_mk {x : Int} (h : In64 x) : keyOf Tryz.prog 2 (.int .i64 x) = some (.int .i64 x) := Maps.keyOf_int_mk Tryz.underlying2 (wf_of_in64q h)
theorem kq_lit (x : Int) : WideAt.IsKeyLit (.int .i64 x) := trivial
theorem kq_ne {x y : Int} (h : x ≠ y) : (Lit.int .i64 x) ≠ (Lit.int .i64 y) := fun e => h (by cases e; rfl)
theorem arr2_zero (w : World) : (zeroValue 159).run Tryz.prog w = .ok (vP2 (0, 0)) w := by kernel_rfl
/-- What the map's datum says. -/
structure Qag (D : DataW (Int × Int)) (ks : List Int) (v : Int → Int × Int) : Prop where
  has : ∀ p, In64 p → Maps.has D (.int .i64 p) = decide (p ∈ ks)
  at' : ∀ p, p ∈ ks → D.atKey (.int .i64 p) (.held (0, 0)) = .held (v p)
  out : ∀ p, p ∉ ks → v p = (0, 0)
  fit : ∀ p ∈ ks, In64 p
  nd : ks.Nodup
def QmB (w : World) (b k : Nat) (ks : List Int) (v : Int → Int × Int) : Prop := ∃ D, w.ownsMap Tryz.prog 2 pairE b k D ∧ Qag D ks v
section
variable {w w' W : World} {b r k : Nat} {ks q : List Int} {v : Int → Int × Int} {S : Nat → Prop}
theorem qfrm_turned (h : w.mapTurned w' b) : Frm (fun c => c = b) w w' := by
  have g := h.grown
  exact ⟨g.os, g.tape, g.output, g.size, fun c hc hn => g.block c hc (fun e => hn (Option.some.inj e))⟩
theorem qfrm_grown {row : Nat} (g : w.grownBy w' (some row)) : Frm (fun c => c = row) w w' :=
  ⟨g.os, g.tape, g.output, g.size, fun c hc hn => g.block c hc (fun e => hn (Option.some.inj e))⟩
theorem qbelow_grown (g : w.grownBy w' none) : Below w.heap.size w w' := ⟨g.os, g.tape, g.output, g.size, fun c hc => g.block c hc (by simp)⟩
theorem QmB.lt (h : QmB w b k ks v) : b < w.heap.size := h.choose_spec.1.lt
theorem QmB.keep (h : QmB w b k ks v) (e : w'.heap[b]? = w.heap[b]?) : QmB w' b k ks v := by
  obtain ⟨D, ⟨es, clock, hb, r⟩, h2⟩ := h
  exact ⟨D, ⟨es, clock, e.trans hb, r⟩, h2⟩
theorem QmB.frm (h : QmB w b k ks v) (hf : Frm S w w') (hb : ¬ S b) : QmB w' b k ks v := h.keep (hf.block b h.lt hb)
theorem QmB.below (h : QmB w b k ks v) (hb : Below w.heap.size w w') : QmB w' b k ks v := h.keep (hb.block b h.lt)
theorem QmB.made (w : World) : QmB (w.alloc (.map #[] 0)) w.heap.size 0 [] (fun _ => (0, 0)) :=
  ⟨_, World.ownsMap_made _ _ _ _, ⟨fun p _ => (by simp [Maps.has]), fun p h => (by cases h), fun _ _ => rfl, fun _ h => (by cases h), List.nodup_nil⟩⟩
theorem QmB.look (h : QmB w b k ks v) {p : Int} (hp : In64 p) : (Instr.lookup 155 (.map (some b)) (.int .i64 p) false).run Tryz.prog w = .ok (vP2 (v p)) w := by
  obtain ⟨D, h1, h2⟩ := h
  obtain ⟨v', ps, hrun, hv⟩ := h1.lookup kq_law Tryz.underlying155 (arr2_zero w) (pairE_mk (0, 0)) (kq_mk hp)
  obtain ⟨x, rfl, hc⟩ := pairE_inv hv
  have e3 := congrArg Prod.fst hc
  simp only at e3
  have hh := h2.has p hp
  by_cases hm : p ∈ ks
  · rw [h2.at' p hm] at e3
    cases e3
    exact hrun
  · rw [decide_eq_false hm] at hh
    rw [Maps.atKey_of_not_has hh] at e3
    cases e3
    rw [h2.out p hm]
    exact hrun
theorem QmB.put (h : QmB w b k ks v) (hk : k < 100000) {p : Int} (hp : In64 p) (x : Int × Int) :
    ∃ w', (Instr.mapUpdate 155 (.map (some b)) (.int .i64 p) (vP2 x)).run Tryz.prog w = .ok () w' ∧ QmB w' b (k + 1) (if p ∈ ks then ks else ks ++ [p]) (fun y => if y = p then x else v y) ∧ Frm (fun c => c = b) w w' := by
  obtain ⟨D, h1, h2⟩ := h
  obtain ⟨w', hrun, h4, h5⟩ := h1.store kq_law Tryz.underlying155 (by unfold maxLen; omega) (kq_mk hp) (pairE_mk x)
  have hD := h1.isMap
  have hmem : ∀ y, y ∈ (if p ∈ ks then ks else ks ++ [p]) ↔ y ∈ ks ∨ y = p := by
    intro y
    split
    · next hm => exact ⟨.inl, fun e => e.elim id (fun e => e ▸ hm)⟩
    · simp
  refine ⟨w', hrun, ⟨_, h4, fun y hy => ?_, fun y hy => ?_, fun y hy => ?_, fun y hy => ?_, ?_⟩, qfrm_turned h5⟩
  · by_cases e : y = p
    · subst e
      rw [Maps.has_put_same hD (kq_lit _) _, decide_eq_true ((hmem _).2 (.inr rfl))]
    · rw [Maps.has_put_other (kq_ne e), h2.has y hy]
      exact decide_eq_decide.2 ⟨fun h => (hmem _).2 (.inl h), fun h => ((hmem _).1 h).resolve_right e⟩
  · by_cases e : y = p
    · subst e
      rw [Maps.atKey_put_same hD (kq_lit _) _ _, if_pos rfl]
    · rw [Maps.atKey_put_other (kq_ne e), if_neg e]
      exact h2.at' y (((hmem _).1 hy).resolve_right e)
  · have e : y ≠ p := fun e => hy ((hmem _).2 (.inr e))
    rw [if_neg e]
    exact h2.out y fun h => hy ((hmem _).2 (.inl h))
  · rcases (hmem _).1 hy with e | rfl
    · exact h2.fit y e
    · exact hp
  · split
    · exact h2.nd
    · next hm =>
      rw [List.nodup_append]
      exact ⟨h2.nd, by simp, fun a ha c hc e => hm (by rw [List.mem_singleton] at hc; rw [← hc, ← e]; exact ha)⟩
theorem QmB.len (h : QmB w b k ks v) : ∃ m : Nat, m ≤ k ∧ ∀ ty, (Builtin.len_ #[155] ty #[.map (some b)]).run Tryz.prog w = .ok (.int .i64 (m : Int)) w := by
  obtain ⟨D, h1, h2⟩ := h
  exact ⟨_, h1.size_le, fun ty => h1.len Tryz.underlying155 ty⟩
/-- A range (its iterator in block r) over the map in block b; q: the keys still to come. -/
def QrB (w : World) (b r k : Nat) (ks : List Int) (v : Int → Int × Int) (q : List Int) : Prop := ∃ D left cnt, w.ranges Tryz.prog 2 pairE b r k D left cnt ∧ Qag D ks v ∧ q.Nodup ∧ ∀ x, x ∈ q ↔ x ∈ ks ∧ left (.int .i64 x) = true
theorem QrB.map (h : QrB w b r k ks v q) : QmB w b k ks v := by
  obtain ⟨D, left, cnt, h1, h2, -⟩ := h
  exact ⟨D, h1.owns, h2⟩
theorem QrB.lt (h : QrB w b r k ks v q) : r < w.heap.size := by
  obtain ⟨D, left, cnt, h1, -⟩ := h
  exact h1.lt
theorem QrB.keep (h : QrB w b r k ks v q) (e : w'.heap[b]? = w.heap[b]?) (e2 : w'.heap[r]? = w.heap[r]?) : QrB w' b r k ks v q := by
  obtain ⟨D, left, cnt, ⟨es, clock, since, seen, c0, hb, h1, h2, h3, hr, h4⟩, h5⟩ := h
  exact ⟨D, left, cnt, ⟨es, clock, since, seen, c0, e.trans hb, h1, h2, h3, e2.trans hr, h4⟩, h5⟩
theorem QrB.below (h : QrB w b r k ks v q) (hb : Below w.heap.size w w') : QrB w' b r k ks v q := h.keep (hb.block b h.map.lt) (hb.block r h.lt)
theorem QrB.frm (h : QrB w b r k ks v q) (hf : Frm S w w') (h1 : ¬ S b) (h2 : ¬ S r) : QrB w' b r k ks v q := h.keep (hf.block b h.map.lt h1) (hf.block r h.lt h2)
theorem QmB.range (h : QmB w b k ks v) : ∃ w', (Instr.range 155 (.map (some b))).run Tryz.prog w = .ok (.pointer (some ⟨w.heap.size, 0, none⟩)) w' ∧ QrB w' b w.heap.size k ks v ks ∧ Below w.heap.size w w' ∧ w'.heap.size = w.heap.size + 1 := by
  obtain ⟨D, h1, h2⟩ := h
  obtain ⟨w', e, h5, h6, h7⟩ := h1.range kq_law Tryz.underlying155
  refine ⟨w', e, ⟨D, _, _, h5, h2, h2.nd, fun x => ⟨fun hx => ⟨hx, ?_⟩, fun hx => hx.1⟩⟩, qbelow_grown h6, h7⟩
  rw [h2.has x (h2.fit x hx), decide_eq_true hx]
theorem QrB.next (h : QrB w b r k ks v q) (ty : TypeId) :
    (q = [] ∧ (Instr.next (.pointer (some ⟨r, 0, none⟩)) false ty).run Tryz.prog w = .ok (.tuple #[.bool false]) w) ∨
    ∃ x q' w', q.Perm (x :: q') ∧ x ∈ ks ∧ (Instr.next (.pointer (some ⟨r, 0, none⟩)) false ty).run Tryz.prog w = .ok (.tuple #[.bool true, .int .i64 x, vP2 (v x)]) w' ∧ QrB w' b r k ks v q' ∧
      (Instr.entry (.pointer (some ⟨r, 0, none⟩))).run Tryz.prog w' = .ok (.tuple #[.int .i64 x, vP2 (v x)]) w' ∧ Frm (fun c => c = r) w w' ∧ w'.heap.size = w.heap.size := by
  obtain ⟨D, left, cnt, h1, h2, h5, h6⟩ := h
  rcases h1.next kq_law ty with ⟨-, h0, hrun⟩ | ⟨key, val, kl', y, w', cnt', hkey, hleft, hv, hat, hrun, hrg, -, hg, hsz, hen⟩
  · left
    refine ⟨List.eq_nil_iff_forall_not_mem.2 fun x hx => ?_, hrun⟩
    have := ((h6 x).1 hx).2
    rw [h0] at this
    cases this
  · right
    obtain ⟨x, rfl, rfl, hwf⟩ := Maps.keyOf_int_inv Tryz.underlying2 hkey
    obtain ⟨z, rfl, rfl⟩ := pairE_inv hv
    have hx64 : In64 x := in64_of_wf hwf
    have hhas := Maps.has_true_of_atKey hat
    rw [h2.has x hx64] at hhas
    have hx : x ∈ ks := of_decide_eq_true hhas
    have e3 := h2.at' x hx
    rw [hat] at e3
    cases e3
    have hxq : x ∈ q := (h6 x).2 ⟨hx, hleft⟩
    have hperm := List.perm_cons_erase hxq
    have hu' : (x :: q.erase x).Nodup := hperm.nodup_iff.1 h5
    have hu2 := List.nodup_cons.1 hu'
    refine ⟨x, q.erase x, w', hperm, hx, hrun, ⟨D, _, _, hrg, h2, hu2.2, fun y => ?_⟩, hen, qfrm_grown hg, hsz⟩
    constructor
    · intro hy
      obtain ⟨g1, g2⟩ := (h6 y).1 (List.mem_of_mem_erase hy)
      refine ⟨g1, ?_⟩
      have hne : y ≠ x := fun e => hu2.1 (e ▸ hy)
      rw [g2, Maps.sameKey_ne (kq_ne hne)]
      rfl
    · rintro ⟨g1, g2⟩
      simp only [Bool.and_eq_true, Bool.not_eq_true'] at g2
      have hyq := (h6 y).2 ⟨g1, g2.1⟩
      rcases List.mem_cons.1 (hperm.mem_iff.1 hyq) with rfl | g
      · have := WideAt.sameKey_self (kq_lit y)
        rw [this] at g2
        cases g2.2
      · exact g
end
/-! As the sums of a list of orders. -/
def qvL (l : List Ord) (p : Int) : Int × Int := (sumO (eqS 0 p) l, sumO (eqS 1 p) l)
def QmL (w : World) (b : Nat) (l : List Ord) : Prop := ∃ ks, QmB w b l.length ks (qvL l) ∧ ∀ x, x ∈ ks ↔ ∃ o ∈ l, o.price = x
section
variable {w w' W : World} {b : Nat} {l : List Ord} {S : Nat → Prop}
theorem QmL.lt (h : QmL w b l) : b < w.heap.size := h.choose_spec.1.lt
theorem QmL.frm (h : QmL w b l) (hf : Frm S w w') (hb : ¬ S b) : QmL w' b l := h.imp fun _ g => ⟨g.1.frm hf hb, g.2⟩
theorem QmL.below (h : QmL w b l) (hb : Below w.heap.size w w') : QmL w' b l := h.imp fun _ g => ⟨g.1.below hb, g.2⟩
theorem QmL.made (w : World) : QmL (w.alloc (.map #[] 0)) w.heap.size [] := ⟨[], QmB.made w, fun x => by simp⟩
theorem QmL.look (h : QmL w b l) {p : Int} (hp : In64 p) : (Instr.lookup 155 (.map (some b)) (.int .i64 p) false).run Tryz.prog w = .ok (vP2 (qvL l p)) w := h.choose_spec.1.look hp
theorem sumO_snoc (f : Ord → Int) (l : List Ord) (o : Ord) : sumO f (l ++ [o]) = sumO f l + f o := by
  rw [sumO_append]
  simp [sumO]
theorem QmL.put (h : QmL w b l) (hk : l.length < 100000) (o : Ord) (hp : In64 o.price) :
    ∃ w', (Instr.mapUpdate 155 (.map (some b)) (.int .i64 o.price) (vP2 (qvL (l ++ [o]) o.price))).run Tryz.prog w = .ok () w' ∧ QmL w' b (l ++ [o]) ∧ Frm (fun c => c = b) w w' := by
  obtain ⟨ks, h1, h2⟩ := h
  obtain ⟨w', e, h3, h4⟩ := h1.put hk hp (qvL (l ++ [o]) o.price)
  have hf : (fun y => if y = o.price then qvL (l ++ [o]) o.price else qvL l y) = qvL (l ++ [o]) := by
    funext y
    by_cases e : y = o.price
    · rw [if_pos e, e]
    · rw [if_neg e]
      unfold qvL
      rw [sumO_snoc, sumO_snoc]
      have z : ∀ s, eqS s y o = 0 := fun s => if_neg fun g => e g.2.symm
      rw [z, z, Int.add_zero, Int.add_zero]
  rw [hf] at h3
  refine ⟨w', e, ⟨_, by rw [List.length_append]; exact h3, fun x => ?_⟩, h4⟩
  have hsp : (∃ y ∈ l ++ [o], y.price = x) ↔ x ∈ ks ∨ x = o.price := by
    rw [h2 x]
    constructor
    · rintro ⟨y, hy, rfl⟩
      rcases List.mem_append.1 hy with g | g
      · exact .inl ⟨y, g, rfl⟩
      · rw [List.mem_singleton] at g; subst g; exact .inr rfl
    · rintro (⟨y, hy, rfl⟩ | rfl)
      · exact ⟨y, List.mem_append_left _ hy, rfl⟩
      · exact ⟨o, by simp, rfl⟩
  rw [hsp]
  split
  · next hm => exact ⟨.inl, fun e => e.elim id (fun e => e ▸ hm)⟩
  · simp
/-- The orders in another order. -/
theorem QmL.perm (h : QmL w b l) {l' : List Ord} (hp : l.Perm l') : QmL w b l' := by
  obtain ⟨ks, h1, h2⟩ := h
  have e : qvL l = qvL l' := by
    funext p
    unfold qvL
    rw [sumO_perm _ hp, sumO_perm _ hp]
  refine ⟨ks, by rw [← e, ← hp.length_eq]; exact h1, fun x => by rw [h2 x]; exact ⟨fun ⟨o, g, e⟩ => ⟨o, hp.mem_iff.1 g, e⟩, fun ⟨o, g, e⟩ => ⟨o, hp.mem_iff.2 g, e⟩⟩⟩
end
end Go.Proofs.YtohenmnpmgghhaaGreatDoor
namespace Go.Proofs.YtohenmnpmgghhaaGreatDoor
open Go.RowKit
set_option linter.unusedSimpArgs false
attribute [local go_sem] Oper.semAt_some
attribute [local go_sem] wide_fn
section
variable {w w' W : World} {B : Nat} {p : Option Addr} {L : List Ord}
set_option maxRecDepth 100000 in
set_option maxHeartbeats 8000000 in
theorem points1_seqsx {w0 : World} (n : Nat) (hn : 1 ≤ n) {t1 : Nat} {T1 : TypeId} (T : Nat → Prop) (hc : CvP B w0 p L) (hw0 : Below w0.heap.size w0 w) (hb1 : Blk w t1 T1 #[.pointer p]) (hT : ∀ c, T c → c < B ∨ w0.heap.size ≤ c) :
    SeqsX Fence.wide n Tryz.prog 100 #[.pointer (some ⟨t1, 0, none⟩)] encP (goodP (cvQ L)) T (fun ys => ys.length = (cvQ L).length) (fun pre => pre.length ≤ (cvQ L).length) (cvQ L).length w := by
  intro l J Jx W hW hlW hlw hJ hJx hY h0
  have hB := hc.2.1
  have hl1 := hb1.lt
  have hWs := hW.size
  have hW1 := hb1.below hW hl1
  have hw0s := hw0.size
  have cL := clist_any hc (hw0.trans (hW.mono hw0s))
  have hP := cvQ_len hc.1
  obtain ⟨P, hPe⟩ : ∃ P, P = cvQ L := ⟨_, rfl⟩
  rw [← hPe] at cL hP hY ⊢
  clear hPe hc
  refine callsIn_of_wp Tryz.func100 rfl trivial ?_ rfl
  simp only [Tryz.ntmps100, List.size_toArray, List.length_cons, List.length_nil, Nat.reduceAdd, Nat.reduceSub, Array.replicate_succ, Array.replicate_zero, List.push_toArray, List.append_toArray, List.nil_append, List.cons_append]
  have cb1 := hW1.cell_eq 0 _ rfl
  gi_wp2_with (first
    | (gi_at_call 58; refine (callsIn_wide.2 cL).mono ?_; rintro e w2 ⟨ao, cap, rfl, hI0, hao, hb2⟩; clear cL))
  have hs2 := hb2.size
  have hI := hI0.below hb2
  have hJ1 := (hJ _).below h0 hb2
  clear cb1 hW1 hb1 h0 hI0
  gi_loopw [8] (fun p8 wr => ∃ (k : Nat) (pre : List Pnt) (X : Nat → Prop), p8 = .int .i64 (k : Int) ∧ k ≤ P.length ∧ J X pre wr ∧ Frm (fun b => T b ∨ b = l ∨ w2.heap.size ≤ b) w2 wr ∧ (∀ c, X c → w2.heap.size ≤ c ∧ c < wr.heap.size) ∧ Hid (pre.length = k))
    (fun p _ => P.length - (intOf p).toNat)
  case atStart => exact ⟨0, [], fun _ => False, rfl, Nat.zero_le _, hJ1, Frm.refl _ _, fun _ e => e.elim, Lib.hid rfl⟩
  case round =>
    clear hJ1
    obtain ⟨k, pre, X, rfl, hk, hJs, hfr, hX, hpre⟩ := hrel
    have hws := hfr.size
    by_cases hkn : k < P.length
    · obtain ⟨y, hx⟩ : ∃ y, P[k]? = some y := ⟨_, List.getElem?_eq_getElem hkn⟩
      have hIr := hI.frmP hfr (fun b off s e h => by
        have := hao b off s e
        rcases h with h | h | h
        · have := hT b h; omega
        · omega
        · omega)
      obtain ⟨rb, off, rfl, u0, u1, u2⟩ := hIr.get hx
      replace u0 : wr.cell? ⟨rb, off + k * 3, none⟩ = some (.int .i64 y.price) := u0
      have hbA : Below wr.heap.size wr (wr.alloc (.cells (cPnt y) 106)) := (Below.refl _ _).alloc (Nat.le_refl _) _
      have hthen : Blk (wr.alloc (.cells (cPnt y) 106)) wr.heap.size 106 (cPnt y) := Blk.new _ _ _
      obtain ⟨i0, i1, i2⟩ := Pnt.cells hthen
      have hgood : goodP P pre y (wr.alloc (.cells (cPnt y) 106)) := by show P[pre.length]? = some y; rw [hpre.out]; exact hx
      have hlt : pre.length < P.length := by rw [hpre.out]; exact hkn
      have hn2 : Hid ((pre ++ [y]).length = k + 1) := Lib.hid (by rw [List.length_append, hpre.out]; rfl)
      obtain ⟨fn, tmps, assign, body, hyy, hRR⟩ := hY X pre y _ ((hJ X).below hJs hbA) (fun c e => ⟨by have := (hX c e).1; omega, by have := (hX c e).2; have := hbA.size; omega⟩) hgood hlt
      have hb3s := hbA.size
      have hfW : Frm (fun b => T b ∨ b = l ∨ w2.heap.size ≤ b) w2 (wr.alloc (.cells (cPnt y) 106)) := hfr.trans (Frm.of_below (S := fun _ => False) hbA) (fun _ f => f.elim)
      have hki : (k : Int) < (P.length : Int) := by omega
      clear hgood hx hI hIr hao hJs hJ hY hfr hT hbA hthen
      obtain ⟨y0, y1, y2⟩ := y
      simp only at u0 u1 u2 i0 i1 i2
      dsimp only [encP, vPnt, cPnt] at hyy hRR i0 i1 i2 hfW hb3s
      gi_wp2_with (first
        | (refine hRR.mono ?_; rintro e W3 h3; obtain ⟨kk, rfl, hk'⟩ := merge3 h3; rcases hk' with ⟨rfl, X', hJ3, hG3, hk3⟩ | ⟨rfl, hJx3, hk3⟩; have hk3s := Nat.le_trans hb3s hk3.size))
      all_goals first
        | exact ⟨⟨k + 1, _, X', by go_num, hkn, hJ3, hfW.trans hk3 (fun c h => .inl (h.imp id (Or.imp id (fun e => (hX c e).1)))), fun c e => (by
          rcases hG3 c e with e' | e'
          · have := hX c e'
            omega
          · have e1 := Nat.le_trans hb3s e'.1
            have := e'.2
            omega), hn2⟩, by simp [intOf]; omega⟩
        | (refine bodyPost_end (results_none rfl _ _ _) rfl ?_
           exact ⟨⟨_, rfl⟩, .inr ⟨_, by rw [List.length_append]; exact hlt, hJx3⟩⟩)
        | (refine bodyPost_ret (results_none rfl _ _ _) rfl ?_
           exact ⟨⟨_, rfl⟩, .inr ⟨_, by rw [List.length_append]; exact hlt, hJx3⟩⟩)
        | trace_state
    · clear hY
      gi_wp2
      have hqe : k = P.length := by omega
      rw [hqe] at hpre
      exact bodyPost_end (results_none rfl _ _ _) rfl ⟨⟨_, rfl⟩, .inl ⟨pre, X, hpre.out, hJs⟩⟩
theorem goodP_putx (P : List Pnt) : ∀ (pre : List Pnt) (x : Pnt) (A : World) (l : Nat) (o o' : Obj), goodP P pre x A → A.heap[l]? = some o → o.isCells = false → goodP P pre x (A.putObj l o') := fun _ _ _ _ _ _ h _ _ => h
/-- The prices of points, from one to another. -/
def selP (lo hi : Int) (pre : List Pnt) : List Int := (pre.map Pnt.price).filter fun x => decide (lo ≤ x ∧ x ≤ hi)
theorem selP_len (lo hi : Int) (pre : List Pnt) : (selP lo hi pre).length ≤ pre.length := by
  unfold selP
  exact Nat.le_trans (List.length_filter_le _ _) (by rw [List.length_map]; exact Nat.le_refl _)
theorem selP_yes {lo hi : Int} {pre : List Pnt} {y : Pnt} (h : lo ≤ y.price ∧ y.price ≤ hi) : selP lo hi (pre ++ [y]) = selP lo hi pre ++ [y.price] := by
  unfold selP
  rw [List.map_append, List.filter_append]
  simp [h]
theorem selP_no {lo hi : Int} {pre : List Pnt} {y : Pnt} (h : ¬ (lo ≤ y.price ∧ y.price ≤ hi)) : selP lo hi (pre ++ [y]) = selP lo hi pre := by
  unfold selP
  rw [List.map_append, List.filter_append]
  simp [h]
theorem selP_all (hL : LOk L) (lo hi : Int) : selP lo hi (cvQ L) = cpr lo hi L := by
  rw [cpr_filter (lo' := 0) (hi' := 4611686018427387904) fun o ho => by
    have h1 := (hL.ok o ho).p1
    have h2 := (hL.ok o ho).p2
    omega]
  unfold selP cvQ
  rw [List.map_map, show Pnt.price ∘ catL L = id from rfl, List.map_id]
  rfl
set_option maxRecDepth 100000 in
set_option maxHeartbeats 8000000 in
theorem cv_pricesO (lo hi : Int) (h : CvP B W p L) : Calls Tryz.prog 55 #[.pointer p, .int .i64 lo, .int .i64 hi] W fun e w' => ∃ ko ao cap, e = .returned (.slice ao (cpr lo hi L).length cap) ∧ OwG 2 1 w' ko ao cap (cpr lo hi L).length (ics (cpr lo hi L)) ∧ (∀ k, ko = some k → W.heap.size ≤ k) ∧ Below W.heap.size W w' := by
  have hL := h.1
  have hP := cvQ_len hL
  have hall := selP_all hL lo hi
  rw [← hall]
  obtain ⟨i1, hi1, e1⟩ := Option.map_eq_some_iff.1 infoI64
  simp only [Prod.mk.injEq] at e1
  obtain ⟨hz1, hs1, hb1⟩ := e1
  obtain ⟨V0, hV0⟩ : ∃ V0, V0 = ((W.alloc (.cells #[.int .i64 lo] 2)).alloc (.cells #[.int .i64 hi] 2)).alloc (.cells #[.slice none 0 0] 42) := ⟨_, rfl⟩
  have hbV0 : Below W.heap.size W V0 := by rw [hV0]; exact (((Below.refl _ _).alloc (Nat.le_refl _) _).alloc (by simp) _).alloc (by simp; omega) _
  have hs0 := Lib.hid (show V0.heap.size = W.heap.size + 3 by rw [hV0]; simp)
  have hq1 : Blk V0 W.heap.size 2 #[.int .i64 lo] := by rw [hV0]; exact ((Blk.new _ _ _).alloc _).alloc _
  have hq2 : Blk V0 (W.heap.size + 1) 2 #[.int .i64 hi] := by rw [hV0]; exact (Blk.new' (by simp)).alloc _
  have hq3 : Blk V0 (W.heap.size + 2) 42 #[.slice none 0 0] := by rw [hV0]; exact Blk.new' (by simp)
  have cP : Calls Tryz.prog 81 #[.pointer p] V0 fun e w' => ∃ lb, e = .returned (.func (.func 100) #[] lb) ∧ Below V0.heap.size V0 w' ∧ SeqsX Fence.wide 11 Tryz.prog 100 lb encP (goodP (cvQ L)) (fun c => c = W.heap.size + 2) (fun ys => ys.length = (cvQ L).length) (fun pre => pre.length ≤ (cvQ L).length) (cvQ L).length w' := by
    refine (cpoints_fn p V0).mono fun e w' ⟨he, hb, T1, hA⟩ => ⟨_, he, hb, ?_⟩
    exact points1_seqsx 11 (by omega) _ h (hbV0.trans (hb.mono hbV0.size)) hA (fun c e => .inr (by omega))
  clear h hall
  generalize cvQ L = P at *
  refine (callsIn_wide (n := 12)).1 ?_
  refine callsIn_of_wp_marks Tryz.func55 rfl trivial ?_ rfl
  simp only [Tryz.ntmps55, List.size_toArray, List.length_cons, List.length_nil, Nat.reduceAdd, Nat.reduceSub, Array.replicate_succ, Array.replicate_zero, List.push_toArray, List.append_toArray, List.nil_append, List.cons_append]
  refine wpIn_wide.2 ?_
  go_wp2_with (first
    | (go_at_call 81; rw [← hV0]; refine cP.mono ?_; rintro e w3 ⟨lb, rfl, hb3, hseq⟩; clear cP hV0)
    | fail)
  refine (wpIn_wide (n := 12)).1 ?_
  have hs3 := hb3.size
  have hB1 := hq1.below hb3 hq1.lt
  have hB2 := hq2.below hb3 hq2.lt
  have hB3 := hq3.below hb3 hq3.lt
  have hbW3 : Below W.heap.size W w3 := hbV0.trans (hb3.mono hbV0.size)
  have hW3 := Lib.hid (show W.heap.size + 3 ≤ w3.heap.size by have := hs0.out; omega)
  clear hs0 hs3 hq1 hq2 hq3 hb3 hbV0
  refine range_law5x (F := Fence.wide) rfl (by omega) (gf := 100) (lb := lb) rfl trivial (goes_of Tryz.func100 (by kernel_rfl) rfl) (enc := encP) (fun _ => rfl) (fun c => c = W.heap.size + 2) (fun c e => by have := hW3.out; omega) (G := goodP P) (goodP_putx P) hseq
    (fun X pre A => ∃ ko ao cap, Blk A (W.heap.size + 2) 42 #[.slice ao (selP lo hi pre).length cap] ∧ OwG 2 1 A ko ao cap (selP lo hi pre).length (ics (selP lo hi pre)) ∧ (∀ k, ko = some k → X k ∧ W.heap.size + 2 < k) ∧ pre = P.take pre.length ∧ Frm (fun c => c = W.heap.size + 2 ∨ w3.heap.size ≤ c) w3 A)
    (fun _ _ _ => False)
    (fun X pre A B ⟨ko, ao, cap, h1, h2, h3, h4, h5⟩ hf => ⟨ko, ao, cap, h1.quiet hf, h2.quiet hf, h3, h4, h5.trans hf (fun c e => .inl (.inr e.1))⟩)
    (fun c pre A B h hf => h)
    ⟨none, none, 0, hB3, OwG.nil _ _ _, (fun k e => by cases e), rfl, Frm.refl _ _⟩
    ?a1 (fun y A => A.alloc (.cells (cPnt y) 106)) (fun y A => (Below.refl _ _).alloc (Nat.le_refl _) _) (fun _ _ _ h => h) ?assign ?body ?done ?stop
  case assign =>
    intro l' y V K hK
    simp only [encP]
    gi_wp2
    exact hK
  case body =>
    rintro l X pre y A0 A hlo hr ⟨ko, ao, cap, h1, h2, h3, h4, h5⟩ hX hgood hlen hl0 hfA
    have hy : P[pre.length]? = some y := hgood
    have hbx := blk_frm (Blk.new A0 106 (cPnt y)) hfA (by omega)
    have hA5 := h5.size
    have hl1 := h1.lt
    have c3 := h1.cell_eq 0 _ rfl
    have c1 := (blk_frm hB1 h5 (by have := hW3.out; omega)).cell_eq 0 _ rfl
    have c2 := (blk_frm hB2 h5 (by have := hW3.out; omega)).cell_eq 0 _ rfl
    obtain ⟨t0, t1, t2⟩ := Pnt.cells hbx
    have hpre : pre ++ [y] = P.take (pre ++ [y]).length := by
      have e : (pre ++ [y]).length = pre.length + 1 := by simp
      rw [e, List.take_add_one, hy, ← h4]
      rfl
    have hno : ¬ (lo ≤ y.price ∧ y.price ≤ hi) → Hid (∀ aa, roundOutX (fun c => c = W.heap.size + 2) X (fun X pre A => ∃ ko ao cap, Blk A (W.heap.size + 2) 42 #[.slice ao (selP lo hi pre).length cap] ∧ OwG 2 1 A ko ao cap (selP lo hi pre).length (ics (selP lo hi pre)) ∧ (∀ k, ko = some k → X k ∧ W.heap.size + 2 < k) ∧ pre = P.take pre.length ∧ Frm (fun c => c = W.heap.size + 2 ∨ w3.heap.size ≤ c) w3 A) (fun _ _ _ => False) (pre ++ [y]) A .normal aa A) := fun hc =>
      Lib.hid fun _ => ⟨Frm.refl _ _, X, fun c e => .inl e, ko, ao, cap, by rw [selP_no hc]; exact h1, by rw [selP_no hc]; exact h2, h3, hpre, h5⟩
    have hsl := selP_len lo hi pre
    have hp500 : (selP lo hi pre).length < 501 := by omega
    by_cases g1 : lo ≤ y.price
    · by_cases g2 : y.price ≤ hi
      · have hsel := selP_yes (pre := pre) (y := y) ⟨g1, g2⟩
        have hend : ∀ ao' cap' ko' w8, OwG 2 1 w8 ko' ao' cap' ((selP lo hi pre).length + 1) (ics (selP lo hi pre) ++ [.int .i64 y.price]) → Frm (fun b => ko = some b) (A.alloc (.cells #[.int .i64 y.price] 2)) w8 → Moved (A.alloc (.cells #[.int .i64 y.price] 2)) ko ko' →
            (w8.cell? ⟨W.heap.size + 2, 0, none⟩ = some (.slice ao (selP lo hi pre).length cap) ∧ w8.frozen? ⟨W.heap.size + 2, 0, none⟩ = false) ∧ ∀ aa, roundOutX (fun c => c = W.heap.size + 2) X (fun X pre A => ∃ ko ao cap, Blk A (W.heap.size + 2) 42 #[.slice ao (selP lo hi pre).length cap] ∧ OwG 2 1 A ko ao cap (selP lo hi pre).length (ics (selP lo hi pre)) ∧ (∀ k, ko = some k → X k ∧ W.heap.size + 2 < k) ∧ pre = P.take pre.length ∧ Frm (fun c => c = W.heap.size + 2 ∨ w3.heap.size ≤ c) w3 A) (fun _ _ _ => False) (pre ++ [y]) A .normal aa (w8.setCell ⟨W.heap.size + 2, 0, none⟩ (.slice ao' ((selP lo hi pre).length + 1) cap')) := by
          intro ao' cap' ko' w8 ho hf hm
          have hb8 := h1.alloc (.cells #[.int .i64 y.price] 2)
          have hb9 := blk_frm hb8 hf (fun e => by have := (h3 _ e).2; omega)
          have hAw : A.heap.size ≤ w8.heap.size := by have := hf.size; rw [World.size_alloc] at this; omega
          have hfs : Frm (fun c => c = W.heap.size + 2 ∨ X c) A (w8.setCell ⟨W.heap.size + 2, 0, none⟩ (.slice ao' ((selP lo hi pre).length + 1) cap')) := by
            have e1 : Frm (fun c => c = W.heap.size + 2 ∨ X c) A (A.alloc (.cells #[.int .i64 y.price] 2)) := (Frm.refl _ _).alloc _
            exact (e1.trans hf (fun c e => .inl (.inr (h3 c e).1))).setCell _ _ (.inl (.inl rfl))
          have hsz : (w8.setCell ⟨W.heap.size + 2, 0, none⟩ (.slice ao' ((selP lo hi pre).length + 1) cap')).heap.size = w8.heap.size := by simp [World.setCell]
          have hko : ∀ k, ko' = some k → (X k ∨ (A.heap.size ≤ k ∧ k < w8.heap.size)) ∧ W.heap.size + 2 < k := by
            intro k e
            subst e
            have hkl := ho.lt
            rcases hm with e | e | ⟨k2, e, e2⟩
            · cases e
            · have := h3 k e.symm
              exact ⟨.inl this.1, this.2⟩
            · cases e
              rw [World.size_alloc] at e2
              exact ⟨.inr ⟨by omega, hkl⟩, by omega⟩
          have hsl2 : (selP lo hi (pre ++ [y])).length = (selP lo hi pre).length + 1 := by rw [hsel]; simp
          have hic : ics (selP lo hi (pre ++ [y])) = ics (selP lo hi pre) ++ [.int .i64 y.price] := by rw [hsel, ics_map, ics_map, List.map_append]; rfl
          refine ⟨⟨hb9.cell_eq 0 _ rfl, hb9.free 0⟩, fun _ => ⟨hfs, fun c => X c ∨ (A.heap.size ≤ c ∧ c < w8.heap.size), fun c e => by rw [hsz]; exact e, ko', ao', cap', ?_, ?_, hko, hpre, h5.trans hfs (fun c e => ?_)⟩⟩
          · rw [hsl2]; exact hb9.set 0 _
          · rw [hic, hsl2]
            refine ho.frm (S := fun c => c = W.heap.size + 2) ((Frm.refl _ _).setCell _ _ (.inl rfl)) (fun k e => ?_)
            have := (hko k e).2
            omega
          · rcases e with e | e
            · exact .inl (.inl e)
            · have := (hX c e).1
              exact .inl (.inr (by omega))
        have hsrc : SrcG 1 (A.alloc (.cells #[.int .i64 y.price] 2)) (some ⟨A.heap.size, 0, none⟩) 1 1 [.int .i64 y.price] := SrcG.one1 A (.int .i64 y.price) rfl _
        have hend := Lib.hid hend
        have h2' := h2.alloc (.cells #[.int .i64 y.price] 2)
        clear h1 h2 h3 h4 h5 hX hgood hy hbx hpre hsel hsl hfA hr hlo hl0 hseq hno hB1 hB2 hB3
        obtain ⟨o0, o1, o2⟩ := y
        simp only at t0 t1 t2 g1 g2
        gi_wp2_with (first
          | (gi_at_builtin; refine wpListIn_appG rfl (.tmp 22) (.tmp 25) 42 2 i1 _ 1 8 Tryz.underlying42 hi1 hz1 hs1 hb1 rfl (by decide) rfl h2' hsrc rfl rfl (by omega) (by omega) ?_; intro ao' cap' ko' w8 ho hf8 hm8; obtain ⟨⟨c2', f2'⟩, hout⟩ := hend.out ao' cap' ko' w8 ho hf8 hm8; clear hend hsrc)
          | fail)
      · have hno' := hno (fun h => g2 h.2)
        clear h1 h2 h3 h4 h5 hX hgood hy hbx hpre hsl hfA hr hlo hl0 hseq hno hB1 hB2 hB3
        obtain ⟨o0, o1, o2⟩ := y
        simp only at t0 t1 t2 g1 g2
        gi_wp2
        exact hno'.out _
    · have hno' := hno (fun h => g1 h.1)
      clear h1 h2 h3 h4 h5 hX hgood hy hbx hpre hsl hfA hr hlo hl0 hseq hno hB1 hB2 hB3
      obtain ⟨o0, o1, o2⟩ := y
      simp only at t0 t1 t2 g1
      gi_wp2
      exact hno'.out _
  case done =>
    rintro D ys X V hD hys ⟨ko, ao, cap, h1, h2, h3, h4, h5⟩ hK
    have hQs : ys = P := by rw [h4, hys, List.take_length]
    subst hQs
    have hK2 : W.heap.size + 2 < D := by have := hW3.out; omega
    have hbV : Below W.heap.size W V := hbW3.trans (h5.below hbW3.size (fun c e => by have := hW3.out; omega))
    have hP := Frm.put (S := fun b => b = D) V D (.deferred none) rfl
    have hfin : Below W.heap.size W (V.putObj D (.deferred none)) := hbV.trans (hP.below hbV.size (fun c e => by omega))
    have c3 := h1.cell_eq 0 _ rfl
    have hOo : OwG 2 1 (V.putObj D (.deferred none)) ko ao cap (selP lo hi ys).length (ics (selP lo hi ys)) := h2.frm hP (fun k e e' => by
      subst e'
      have := h2
      rw [e] at this
      exact absurd (this.isCells hK) (by decide))
    have hpost := Lib.hid (show ∃ ko' ao' cap', (Ending.returned (.slice ao (selP lo hi ys).length cap) = .returned (.slice ao' (selP lo hi ys).length cap')) ∧ OwG 2 1 (V.putObj D (.deferred none)) ko' ao' cap' (selP lo hi ys).length (ics (selP lo hi ys)) ∧ (∀ k, ko' = some k → W.heap.size ≤ k) ∧ Below W.heap.size W (V.putObj D (.deferred none)) from ⟨ko, ao, cap, rfl, hOo, fun k e => by have := (h3 k e).2; omega, hfin⟩)
    clear h1 h2 h3 h4 h5 hbV hP hfin hOo hseq hys hB1 hB2 hB3
    go_wp2_with fail
    refine ⟨by simp, .inl ⟨_, _, rfl, run_takeDeferred hK, ?_⟩⟩
    refine ⟨.slice ao (selP lo hi ys).length cap, ?_, hpost.out⟩
    simp [results, Tryz.results55, go_sem]
  case stop =>
    rintro D c pre V hD hsp h hK
    exact h.elim
end
end Go.Proofs.YtohenmnpmgghhaaGreatDoor
namespace Go.Proofs.YtohenmnpmgghhaaGreatDoor
open Go.RowKit Go.Shelf Go.Sort
set_option linter.unusedSimpArgs false
def sortPRen : Go.Shelf.Ren := ⟨fun | 6 => 78 | 15 => 99 | 14 => 98 | 28 => 120 | 29 => 121 | 20 => 112 | 21 => 113 | 22 => 114 | 23 => 115 | 24 => 116 | 25 => 117 | 26 => 118 | 27 => 119 | 46 => 131 | 47 => 132 | 48 => 133 | 49 => 134 | 50 => 135 | 57 => 141 | n => n, fun | 22 => 104 | 24 => 106 | 25 => 161 | 3 => 3 | 39 => 165 | 0 => 0 | 53 => 200 | 55 => 120 | 4 => 4 | 46 => 194 | 45 => 193 | 50 => 111 | 5 => 5 | 9 => 9 | 66 => 209 | 70 => 213 | 76 => 218 | 77 => 219 | n => n, fun n => n⟩
theorem sortPLaid : SlLaysF0.n6 Tryz.prog sortPRen := {
  mixed := by kernel_rfl,
  f6 := ⟨Tryz.f78.name, by decide, Tryz.func78.trans (congrArg some (by kernel_rfl))⟩,
  f14 := ⟨Tryz.f98.name, by decide, Tryz.func98.trans (congrArg some (by kernel_rfl))⟩,
  f15 := Tryz.func99.trans (congrArg some (by kernel_rfl)),
  f20 := ⟨Tryz.f112.name, by decide, Tryz.func112.trans (congrArg some (by kernel_rfl))⟩,
  f21 := ⟨Tryz.f113.name, by decide, Tryz.func113.trans (congrArg some (by kernel_rfl))⟩,
  f22 := ⟨Tryz.f114.name, by decide, Tryz.func114.trans (congrArg some (by kernel_rfl))⟩,
  f23 := ⟨Tryz.f115.name, by decide, Tryz.func115.trans (congrArg some (by kernel_rfl))⟩,
  f24 := ⟨Tryz.f116.name, by decide, Tryz.func116.trans (congrArg some (by kernel_rfl))⟩,
  f25 := ⟨Tryz.f117.name, by decide, Tryz.func117.trans (congrArg some (by kernel_rfl))⟩,
  f26 := ⟨Tryz.f118.name, by decide, Tryz.func118.trans (congrArg some (by kernel_rfl))⟩,
  f27 := ⟨Tryz.f119.name, by decide, Tryz.func119.trans (congrArg some (by kernel_rfl))⟩,
  f28 := Tryz.func120.trans (congrArg some (by kernel_rfl)),
  f29 := Tryz.func121.trans (congrArg some (by kernel_rfl)),
  f46 := ⟨Tryz.f131.name, by decide, Tryz.func131.trans (congrArg some (by kernel_rfl))⟩,
  f47 := Tryz.func132.trans (congrArg some (by kernel_rfl)),
  f48 := Tryz.func133.trans (congrArg some (by kernel_rfl)),
  f49 := ⟨Tryz.f134.name, by decide, Tryz.func134.trans (congrArg some (by kernel_rfl))⟩,
  f50 := ⟨Tryz.f135.name, by decide, Tryz.func135.trans (congrArg some (by kernel_rfl))⟩,
  f57 := ⟨Tryz.f141.name, by decide, Tryz.func141.trans (congrArg some (by kernel_rfl))⟩,
  t0 := Tryz.underlying0,
  a0 := Tryz.isAgg0,
  z0 := Tryz.sizeOf0,
  v0 := Tryz.zeroValue0,
  t3 := Tryz.underlying3,
  a3 := Tryz.isAgg3,
  z3 := Tryz.sizeOf3,
  v3 := Tryz.zeroValue3,
  t4 := Tryz.underlying4,
  a4 := Tryz.isAgg4,
  z4 := Tryz.sizeOf4,
  v4 := Tryz.zeroValue4,
  t5 := Tryz.underlying5,
  a5 := Tryz.isAgg5,
  z5 := Tryz.sizeOf5,
  v5 := Tryz.zeroValue5,
  t9 := Tryz.underlying9,
  a9 := Tryz.isAgg9,
  z9 := Tryz.sizeOf9,
  v9 := Tryz.zeroValue9,
  t22 := Tryz.underlying104,
  a22 := Tryz.isAgg104,
  z22 := Tryz.sizeOf104,
  v22 := Tryz.zeroValue104,
  t25 := Tryz.underlying161,
  a25 := Tryz.isAgg161,
  z25 := Tryz.sizeOf161,
  v25 := Tryz.zeroValue161,
  t39 := Tryz.underlying165,
  a39 := Tryz.isAgg165,
  z39 := Tryz.sizeOf165,
  v39 := Tryz.zeroValue165,
  t45 := Tryz.underlying193,
  a45 := Tryz.isAgg193,
  z45 := Tryz.sizeOf193,
  v45 := Tryz.zeroValue193,
  t46 := Tryz.underlying194,
  a46 := Tryz.isAgg194,
  z46 := Tryz.sizeOf194,
  v46 := Tryz.zeroValue194,
  t50 := Tryz.underlying111,
  a50 := Tryz.isAgg111,
  z50 := Tryz.sizeOf111,
  v50 := Tryz.zeroValue111,
  t53 := Tryz.underlying200,
  a53 := Tryz.isAgg200,
  z53 := Tryz.sizeOf200,
  v53 := Tryz.zeroValue200,
  t55 := Tryz.underlying120,
  a55 := Tryz.isAgg120,
  z55 := Tryz.sizeOf120,
  v55 := Tryz.zeroValue120,
  t66 := Tryz.underlying209,
  a66 := Tryz.isAgg209,
  z66 := Tryz.sizeOf209,
  v66 := Tryz.zeroValue209,
  t70 := Tryz.underlying213,
  a70 := Tryz.isAgg213,
  z70 := Tryz.sizeOf213,
  v70 := Tryz.zeroValue213,
  t76 := Tryz.underlying218,
  a76 := Tryz.isAgg218,
  z76 := Tryz.sizeOf218,
  v76 := Tryz.zeroValue218,
  t77 := Tryz.underlying219,
  a77 := Tryz.isAgg219,
  z77 := Tryz.sizeOf219,
  v77 := Tryz.zeroValue219 }
instance : Inhabited Pnt := ⟨Pnt.zero⟩
abbrev encPl (x : Pnt) : List Value := (cPnt x).toList
abbrev pcs (l : List Pnt) : List Value := l.flatMap fun m => (cPnt m).toList
theorem pcs_len (l : List Pnt) : (pcs l).length = l.length * 3 := by
  induction l with
  | nil => rfl
  | cons x t ih =>
    have h3 : ((cPnt x).toList).length = 3 := rfl
    rw [pcs, List.flatMap_cons, List.length_append, ← pcs, ih, h3, List.length_cons]
    omega
theorem pcs_get {l : List Pnt} {i : Nat} {m : Pnt} (hi : l[i]? = some m) {j : Nat} {v : Value} (hj : (cPnt m)[j]? = some v) : (pcs l)[i * 3 + j]? = some v := by
  induction l generalizing i with
  | nil => simp at hi
  | cons x t ih =>
    have hx : ((cPnt x).toList).length = 3 := rfl
    rw [pcs, List.flatMap_cons]
    cases i with
    | zero =>
      obtain rfl : x = m := by simpa using hi
      have hlt : j < 3 := by
        have := (Array.getElem?_eq_some_iff.1 hj).1
        simpa using this
      rw [List.getElem?_append_left (by rw [hx]; omega), Nat.zero_mul, Nat.zero_add]
      simpa using hj
    | succ i =>
      rw [List.getElem?_append_right (by rw [hx]; omega), hx, show (i + 1) * 3 + j - 3 = i * 3 + j by omega]
      exact ih (by simpa using hi)
theorem flat_pcs (l : List Pnt) : (flatK encPl 3 l.toArray).toList = pcs l := by
  refine List.ext_getElem? fun t => ?_
  by_cases ht : t < l.length * 3
  · have h1 : t / 3 < l.length := by omega
    have h2 : t % 3 < 3 := by omega
    have e := get_flatK encPl 3 l.toArray t (by simpa using ht)
    have e2 : (flatK encPl 3 l.toArray).toList[t]? = some (flatK encPl 3 l.toArray)[t]! := by
      rw [Array.getElem?_toList, Array.getElem?_eq_getElem (by simpa using ht), getElem!_pos _ t (by simpa using ht)]
    have e4 : l.toArray[t / 3]! = l[t / 3] := by rw [getElem!_pos _ _ (by simpa using h1)]; simp
    have hm : l[t / 3]? = some l[t / 3] := List.getElem?_eq_getElem h1
    have hv : (cPnt l[t / 3])[t % 3]? = some ((encPl l[t / 3])[t % 3]!) := by
      have hs : t % 3 < (cPnt l[t / 3]).size := h2
      rw [Array.getElem?_eq_getElem hs, getElem!_pos _ _ (by simpa using hs)]
      simp
    have e3 := pcs_get hm hv
    rw [show t / 3 * 3 + t % 3 = t by omega] at e3
    rw [e2, e, e4, e3]
  · rw [List.getElem?_eq_none (by simpa using Nat.le_of_not_lt ht), List.getElem?_eq_none (by rw [pcs_len]; omega)]
section
variable {w : World} {g n : Nat} {os : Array Obj} {cur : Array Value} {e : TypeId} {fr : Nat × Nat}
theorem heap_sortedV (d : Array Value) (hb : w.heap[g]? = some (.cells cur e fr)) : (grow (putRow id (Sort.ahead w n) g 0 d) os).heap[g]? = some (.cells (putCells id 0 d cur) e fr) := by
  rw [heap_grow_old _ _ (by simpa using (Array.getElem?_eq_some_iff.1 hb).1)]
  simp [putRow, mapBlock, Sort.ahead, Array.getElem?_modify, hb, onCells]
theorem frm_sortedV (d : Array Value) : Frm (fun c => c = g) w (grow (putRow id (Sort.ahead w n) g 0 d) os) := by
  refine ⟨rfl, rfl, rfl, by simp, fun k hk hne => ?_⟩
  rw [heap_grow_old _ _ (by simpa using hk)]
  have : g ≠ k := fun e => hne e.symm
  simp [putRow, mapBlock, Sort.ahead, Array.getElem?_modify, this]
theorem take_putCellsV (cur d : Array Value) (h : d.size ≤ cur.size) : (putCells id 0 d cur).toList.take d.size = d.toList := by
  apply List.ext_getElem?
  intro j
  by_cases hj : j < d.size
  · rw [List.getElem?_take_of_lt hj, Array.getElem?_toList]
    simp [putCells, hj, show j < cur.size by omega]
  · rw [List.getElem?_take_eq_none (by omega), List.getElem?_eq_none (by simp; omega)]
end
/-- The closure by which levels sorts. -/
theorem clos1_any (x y : Pnt) (W : World) : Calls Tryz.prog 79 #[vPnt x, vPnt y] W fun e w' => e = .returned (.int .i64 (cmpI x.price y.price)) ∧ ∃ q os', w' = grow (W.drewN q) os' := by
  obtain ⟨x0, x1, x2⟩ := x
  obtain ⟨y0, y1, y2⟩ := y
  have hcon := fun w => ccmp_any x0 y0 w
  simp only [vPnt, cPnt]
  generalize cmpI x0 y0 = r at hcon ⊢
  go_enter Tryz.func79, Tryz.ntmps79
  go_wp2_with (go_at_call 61; refine (hcon _).mono ?_; rintro e w' ⟨rfl, rfl⟩)
  go_ret
  exact ⟨rfl, 0, _, by rw [alloc_eq_grow, alloc_eq_grow, grow_grow]; rfl⟩
theorem ltP (x y : Pnt) : ltOf (fun x y : Pnt => cmpI x.price y.price) x y = decide (x.price < y.price) := by
  unfold ltOf cmpI
  by_cases h1 : x.price < y.price
  · simp [h1]
  · by_cases h2 : y.price < x.price <;> simp [h1, h2]
theorem swoP : SWO (ltOf fun x y : Pnt => cmpI x.price y.price) where
  irrefl x := by rw [ltP]; simp
  trans x y z h1 h2 := by rw [ltP] at *; simp at *; omega
  ntrans x y z h1 h2 := by rw [ltP] at *; simp at *; omega
theorem sortp_any {w : World} {g : Nat} {ao : Option Addr} {cap : Nat} {l : List Pnt} (h : OwG 106 3 w (some g) ao cap l.length (pcs l)) (hl : l.length ≤ 500) :
    Calls Tryz.prog 78 #[.slice ao l.length cap, .func (.func 79) #[] #[]] w fun e w' => e = .returned (.tuple #[]) ∧ ∃ l' : List Pnt, l'.Perm l ∧ l'.Pairwise (fun x y => ¬ y.price < x.price) ∧ OwG 106 3 w' (some g) ao cap l.length (pcs l') ∧ Frm (fun c => c = g) w w' := by
  obtain ⟨hcells, hlen, htop, hat⟩ := id h
  rcases hat with ⟨h0, -⟩ | ⟨k, cur, hk, rfl, hb, h4, h5⟩
  · cases h0
  cases hk
  have hg : g < w.heap.size := (Array.getElem?_eq_some_iff.1 hb).1
  have eg : ∀ args w, (callFunc 79 args).run Tryz.prog w = .ok (.enter 79 args) w := enters_of Tryz.func79 (by kernel_rfl) rfl
  have hH : HoldsK encPl 3 w g 0 l.toArray := by
    intro j hj
    have hj' : j < l.length * 3 := by simpa using hj
    have e1 : (pcs l)[j]? = some (flatK encPl 3 l.toArray)[j]! := by
      rw [← flat_pcs, Array.getElem?_toList, Array.getElem?_eq_getElem hj, getElem!_pos _ j hj]
    obtain ⟨k', e2, -, h3, h6⟩ := h.cell j _ e1
    cases e2
    rw [Nat.zero_add]
    exact ⟨h3, h6⟩
  have hcmp : CmpLays Tryz.prog 79 #[] encPl 3 (fun x y => cmpI x.price y.price) g 0 l.toArray.size w := fun _ _ _ _ x y => clos1_any x y _
  have hcon := AnyQ.slices_SortFunc sortPLaid 3 Tryz.isAgg106 Tryz.sizeOf106 encPl (fun _ => rfl) (fun x v hv => by simp [encPl, cPnt] at hv; rcases hv with rfl | rfl | rfl <;> rfl) (fun x y => cmpI x.price y.price) swoP 79 #[] g 0 cap l.toArray w eg hcmp hH hg (by simp; omega)
  rw [List.size_toArray] at hcon
  refine hcon.mono ?_
  rintro e w' ⟨he, d', n, os, hp, hs, rfl⟩
  have hsz : d'.size = l.length := by simpa using hp.1
  have hl' : d' = d'.toList.toArray := by simp
  refine ⟨he, d'.toList, ?_, ?_, ?_, frm_sortedV _⟩
  · have := hp.2.2
    rw [show d'.extract 0 l.length = d' by rw [← hsz]; exact Array.extract_size] at this
    rw [show l.toArray.extract 0 l.length = l.toArray by rw [show l.length = l.toArray.size by simp]; exact Array.extract_size] at this
    simpa using this
  · rw [List.pairwise_iff_getElem]
    intro i j hi hj hij
    have hj' : j < l.length := by rw [← hsz]; simpa using hj
    have := hs i j (Nat.zero_le _) hij hj'
    rw [ltP, getElem!_pos d' j (by simpa using hj), getElem!_pos d' i (by simpa using hi)] at this
    simpa using this
  · have hf : flatK encPl 3 d' = flatK encPl 3 d'.toList.toArray := by rw [← hl']
    have hfl : (flatK encPl 3 d').toList = pcs d'.toList := by rw [hf]; exact flat_pcs _
    refine ⟨by rw [pcs_len]; simp [hsz], hlen, htop, .inr ⟨g, _, rfl, rfl, heap_sortedV _ hb, by simp [putCells, h4], ?_⟩⟩
    have hs3 : (flatK encPl 3 d').size = l.length * 3 := by rw [size_flatK, hsz]
    have hfit : l.length * 3 ≤ cur.size := by rw [h4]; omega
    have := take_putCellsV cur (flatK encPl 3 d') (by omega)
    rw [hs3, hfl] at this
    exact this
end Go.Proofs.YtohenmnpmgghhaaGreatDoor
