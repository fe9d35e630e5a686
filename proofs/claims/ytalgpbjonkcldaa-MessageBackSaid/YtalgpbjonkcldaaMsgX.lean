/-
  The contract of package message's All.
-/
import Derived.Test.YtalgpbjonkcldaaMsgA
import Derived.Test.YtalgpbjonkcldaaMsgW
import Derived.Test.YtalgpbjonkcldaaFEachI
import Derived.Test.YtalgpbjonkcldaaAppIn
namespace Go.Proofs.Ytalgpbjonkcldaa
open Go.RowKit
attribute [local go_sem] Oper.semAt_some
theorem allF_stops : ∀ (n : Nat) (b : List Nat), b.length ≤ n → ((allF b).2.1 = b.length ∧ (allF b).2.2 = 0) ∨ ((allF b).2.1 < b.length ∧ (allF b).2.2 ≠ 0 ∧ takeF (b.drop (allF b).2.1) = ([], 0, (allF b).2.2))
  | 0, b, h => by
    obtain rfl : b = [] := List.eq_nil_of_length_eq_zero (by omega)
    exact .inl ⟨rfl, rfl⟩
  | n + 1, b, h => by
    by_cases h0 : b.length = 0
    · obtain rfl : b = [] := List.eq_nil_of_length_eq_zero h0
      exact .inl ⟨rfl, rfl⟩
    · rcases takeF_cases b with h1 | h1 | ⟨p, h1, h2, h3⟩
      · have e := allF_stop h0 (by rw [h1]; decide)
        rw [e, h1]
        exact .inr ⟨by simp only; omega, by decide, by rw [List.drop_zero, h1]⟩
      · have e := allF_stop h0 (by rw [h1]; decide)
        rw [e, h1]
        exact .inr ⟨by simp only; omega, by decide, by rw [List.drop_zero, h1]⟩
      · have e := allF_step h0 h1
        have hd : (b.drop (2 + p.length)).length = b.length - (2 + p.length) := List.length_drop
        have ih := allF_stops n (b.drop (2 + p.length)) (by omega)
        rw [e]
        simp only
        rcases ih with ⟨i1, i2⟩ | ⟨i1, i2, i3⟩
        · exact .inl ⟨by omega, i2⟩
        · refine .inr ⟨by omega, i2, ?_⟩
          rw [List.drop_drop] at i3
          exact i3
theorem tot_app (l r : List (List Nat)) : tot (l ++ r) = tot l + tot r := by
  induction l with
  | nil => simp [tot]
  | cons x t ih =>
    have e : ∀ u : List (List Nat), tot (x :: u) = 2 + x.length + tot u := fun _ => rfl
    rw [List.cons_append, e, e, ih]
    omega
theorem at_tot {l : List (List Nat)} {n i : Nat} {p : List Nat} (hp : l[n]? = some p) (hi : (ats 0 l)[n]? = some i) : i = tot (l.take n) ∧ tot (l.take (n + 1)) = i + 2 + p.length ∧ i + 2 + p.length ≤ tot l := by
  obtain ⟨hn, -⟩ := List.getElem?_eq_some_iff.1 hp
  have h1 : l.take (n + 1) = l.take n ++ [p] := by rw [List.take_add_one, hp]; rfl
  have h2 : l = l.take n ++ p :: l.drop (n + 1) := by
    have h3 : l = l.take (n + 1) ++ l.drop (n + 1) := (List.take_append_drop _ _).symm
    rw [h1, List.append_assoc] at h3
    exact h3
  have hl : (l.take n).length = n := by rw [List.length_take]; omega
  have h3 := ats_get (l.take n) (l.drop (n + 1)) p 0
  rw [← h2, hl, hi, Nat.zero_add] at h3
  cases h3
  have h4 := tot_app (l.take (n + 1)) (l.drop (n + 1))
  rw [List.take_append_drop] at h4
  have h5 := tot_snoc (l.take n) p
  rw [← h1] at h5
  exact ⟨rfl, by omega, by omega⟩
theorem mem_tot {l : List (List Nat)} {p : List Nat} (h : p ∈ l) : p.length ≤ tot l := by
  induction l with
  | nil => simp at h
  | cons x t ih =>
    have e : tot (x :: t) = 2 + x.length + tot t := rfl
    rcases List.mem_cons.1 h with rfl | h
    · omega
    · have := ih h; omega
/-- What stands between two rounds: the results are zero, the messages and the end so far lie in their boxes. -/
def Ax (W w4 : World) (b : List Nat) (n : Nat) (A : World) : Prop := ∃ (l : List Msg) (ko : Option Nat) (oc : Nat) (oo : Option Addr),
  Blk A (W.heap.size) 35 #[.slice none 0 0] ∧ Blk A (W.heap.size + 1) 25 #[.int .i64 0] ∧ Blk A (W.heap.size + 1 + 1) 35 #[.slice oo l.length oc] ∧ Blk A (W.heap.size + 1 + 1 + 1) 3 #[.int .i64 ((tot ((allF b).1.take n) : Nat) : Int)] ∧
  Om W A l ko oc oo ∧ (∀ k, ko = some k → w4.heap.size + 1 < k) ∧ Hid (decLs ((allF b).1.take n) = (l, 0))
theorem Ax.frm {W w4 A B : World} {b : List Nat} {n : Nat} (h : Ax W w4 b n A) (hW : W.heap.size + 4 ≤ w4.heap.size) (hf : Frm (fun k => k = w4.heap.size + 1) A B) : Ax W w4 b n B := by
  obtain ⟨l, ko, oc, oo, h0, h1, h2, h3, hM, hk, hD⟩ := h
  refine ⟨l, ko, oc, oo, h0.frm hf (by omega), h1.frm hf (by omega), h2.frm hf (by omega), h3.frm hf (by omega), ⟨hM.ow.frm hf (fun q e => by have := hk q e; omega), hM.own, hM.bel.trans (hf.below hM.bel.size (by rintro q rfl; omega))⟩, hk, hD⟩
/-- The boxes, and the messages so far. -/
structure Ay (W w4 A : World) (v : Value) (e : Int) (l : List Msg) (ko : Option Nat) (oc : Nat) (oo : Option Addr) : Prop where
  b0 : Blk A (W.heap.size) 35 #[.slice none 0 0]
  b1 : Blk A (W.heap.size + 1) 25 #[.int .i64 0]
  b2 : Blk A (W.heap.size + 1 + 1) 35 #[v]
  b3 : Blk A (W.heap.size + 1 + 1 + 1) 3 #[.int .i64 e]
  om : Om W A l ko oc oo
  hk : ∀ k, ko = some k → w4.heap.size + 1 < k
theorem Ay.call {W w4 A B : World} {v : Value} {e : Int} {l : List Msg} {ko : Option Nat} {oc : Nat} {oo : Option Addr} (h : Ay W w4 A v e l ko oc oo) (hb : Below A.heap.size A B) : Ay W w4 B v e l ko oc oo :=
  ⟨h.b0.below hb h.b0.lt, h.b1.below hb h.b1.lt, h.b2.below hb h.b2.lt, h.b3.below hb h.b3.lt, h.om.call hb, h.hk⟩
theorem Ay.alloc {W w4 A : World} {v : Value} {e : Int} {l : List Msg} {ko : Option Nat} {oc : Nat} {oo : Option Addr} (h : Ay W w4 A v e l ko oc oo) (o : Obj) : Ay W w4 (A.alloc o) v e l ko oc oo := h.call ((Below.refl _ A).alloc (Nat.le_refl _) o)
theorem Ay.app {W w4 w2 w3 : World} {v : Value} {e : Int} {l : List Msg} {ko ko' : Option Nat} {oc oc' : Nat} {oo oo' : Option Addr} {m : Msg} (h : Ay W w4 w2 v e l ko oc oo) (hW : W.heap.size + 4 ≤ w4.heap.size) (h2 : w4.heap.size + 1 < w2.heap.size)
    (ho : OwG 23 9 w3 ko' oo' oc' (l.length + 1) ((l.flatMap fun m => (cMsg m).toList) ++ (cMsg m).toList)) (hf : Frm (fun b => ko = some b) w2 w3) (hm : Moved w2 ko ko') : Ay W w4 w3 v e (l ++ [m]) ko' oc' oo' := by
  have hn : ∀ r, r < w4.heap.size → ¬ ko = some r := fun r hr hk => by have := h.hk r hk; omega
  refine ⟨h.b0.frm hf (hn _ (by omega)), h.b1.frm hf (hn _ (by omega)), h.b2.frm hf (hn _ (by omega)), h.b3.frm hf (hn _ (by omega)), h.om.app ho hf hm, ?_⟩
  intro k hk
  rcases hm with h1 | h1 | ⟨k2, h1, h3⟩
  · rw [h1] at hk; cases hk
  · rw [h1] at hk; exact h.hk k hk
  · rw [h1] at hk; cases hk; omega
theorem Ay.laid {W w4 A : World} {v : Value} {e e' : Int} {l : List Msg} {ko : Option Nat} {oc n : Nat} {oo : Option Addr} {b : List Nat} (h : Ay W w4 A v e l ko oc oo) (hW : W.heap.size + 4 ≤ w4.heap.size)
    (hD : Hid (decLs ((allF b).1.take n) = (l, 0))) {ln : Nat} (hln : ln = l.length) (he : e' = ((tot ((allF b).1.take n) : Nat) : Int)) :
    Ax W w4 b n ((A.setCell ⟨W.heap.size + 1 + 1, 0, none⟩ (.slice oo ln oc)).setCell ⟨W.heap.size + 1 + 1 + 1, 0, none⟩ (.int .i64 e')) := by
  subst hln
  subst he
  refine ⟨l, ko, oc, oo, ((h.b0.other (by show W.heap.size + 1 + 1 ≠ W.heap.size; omega) _).other (by show W.heap.size + 1 + 1 + 1 ≠ W.heap.size; omega) _), ((h.b1.other (by show W.heap.size + 1 + 1 ≠ W.heap.size + 1; omega) _).other (by show W.heap.size + 1 + 1 + 1 ≠ W.heap.size + 1; omega) _), ((h.b2.set 0 _).other (by show W.heap.size + 1 + 1 + 1 ≠ W.heap.size + 1 + 1; omega) _), ((h.b3.other (by show W.heap.size + 1 + 1 ≠ W.heap.size + 1 + 1 + 1; omega) _).set 0 _), ⟨?_, h.om.own, (h.om.bel.setCell (p := ⟨W.heap.size + 1 + 1, 0, none⟩) (by show _ ≤ W.heap.size + 1 + 1; omega) _).setCell (p := ⟨W.heap.size + 1 + 1 + 1, 0, none⟩) (by show _ ≤ W.heap.size + 1 + 1 + 1; omega) _⟩, h.hk, hD⟩
  refine h.om.ow.frm (S := fun q => q = W.heap.size + 1 + 1 ∨ q = W.heap.size + 1 + 1 + 1) (((Frm.refl _ A).setCell ⟨W.heap.size + 1 + 1, 0, none⟩ _ (.inl (.inl rfl))).setCell ⟨W.heap.size + 1 + 1 + 1, 0, none⟩ _ (.inl (.inr rfl))) (fun q e => by have := h.hk q e; omega)
/-- A payload was none: the fault is laid. -/
def Bx (W _w4 : World) (b : List Nat) (A : World) : Prop := ∃ f : Nat, allM b = ([], f) ∧ Blk A (W.heap.size) 35 #[.slice none 0 0] ∧ Blk A (W.heap.size + 1) 25 #[.int .i64 (f : Int)] ∧ Below W.heap.size W A
theorem Bx.frm {W w4 A B : World} {b : List Nat} (h : Bx W w4 b A) (hW : W.heap.size + 4 ≤ w4.heap.size) (hf : Frm (fun k => k = w4.heap.size + 1) A B) : Bx W w4 b B := by
  obtain ⟨f, h0, h1, h2, h3⟩ := h
  exact ⟨f, h0, h1.frm hf (by omega), h2.frm hf (by omega), h3.trans (hf.below h3.size (by rintro q rfl; omega))⟩
theorem OwG.undeferred {E : TypeId} {sz : Nat} {w : World} {ko : Option Nat} {ao : Option Addr} {cap n k D : Nat} {cs : List Value} (h : OwG E sz w ko ao cap n cs) (hk : ko = some k) (hD : w.heap[D]? = some (.deferred (some []))) : k ≠ D := by
  rintro rfl
  rcases h.at' with ⟨h0, _⟩ | ⟨k2, cur, h1, _, h3, _⟩
  · rw [h0] at hk; cases hk
  · rw [h1] at hk
    cases hk
    rw [h3] at hD
    cases hD
/-- The results are laid, and the deferred calls are taken. -/
theorem all_laid {W V : World} {Dd n : Nat} (v0 v1 : Value) (x : Obj) (hn : n = W.heap.size) (h0 : Blk V n 35 #[.slice none 0 0]) (h1 : Blk V (n + 1) 25 #[.int .i64 0]) (hK : V.heap[Dd]? = some (.deferred (some []))) (hb : Below W.heap.size W V) (hDd : W.heap.size + 4 ≤ Dd) :
    ((V.setCell ⟨n, 0, none⟩ v0).setCell ⟨n + 1, 0, none⟩ v1).heap[Dd]? = some (.deferred (some [])) ∧
    (((V.setCell ⟨n, 0, none⟩ v0).setCell ⟨n + 1, 0, none⟩ v1).putObj Dd x).cell? ⟨n, 0, none⟩ = some v0 ∧ (((V.setCell ⟨n, 0, none⟩ v0).setCell ⟨n + 1, 0, none⟩ v1).putObj Dd x).cell? ⟨n + 1, 0, none⟩ = some v1 ∧
    Below W.heap.size W (((V.setCell ⟨n, 0, none⟩ v0).setCell ⟨n + 1, 0, none⟩ v1).putObj Dd x) ∧ Frm (fun q => q = n ∨ q = n + 1 ∨ q = Dd) V (((V.setCell ⟨n, 0, none⟩ v0).setCell ⟨n + 1, 0, none⟩ v1).putObj Dd x) := by
  have g0 := (h0.set 0 v0).other (by show n + 1 ≠ n; omega : (⟨n + 1, 0, none⟩ : Addr).block ≠ n) v1
  have g1 := (h1.other (by show n ≠ n + 1; omega : (⟨n, 0, none⟩ : Addr).block ≠ n + 1) v0).set 0 v1
  have f := ((Frm.refl (S := fun q => q = n ∨ q = n + 1 ∨ q = Dd) V).setCell ⟨n, 0, none⟩ v0 (.inl (.inl rfl))).setCell ⟨n + 1, 0, none⟩ v1 (.inl (.inr (.inl rfl)))
  have f2 := f.trans (Frm.put (S := fun q => q = Dd) _ Dd x rfl) (fun q e => .inl (.inr (.inr e)))
  refine ⟨(Below.heap_setCell _ _ _ _ (by show Dd ≠ n + 1; omega)).trans ((Below.heap_setCell _ _ _ _ (by show Dd ≠ n; omega)).trans hK), ?_, ?_, hb.trans (f2.below hb.size (fun q e => by omega)), f2⟩
  · exact (World.cell?_of_block (a := ⟨n, 0, none⟩) (World.putObj_heap_other (by show n ≠ Dd; omega))).trans (g0.cell_eq 0 _ rfl)
  · exact (World.cell?_of_block (a := ⟨n + 1, 0, none⟩) (World.putObj_heap_other (by show n + 1 ≠ Dd; omega))).trans (g1.cell_eq 0 _ rfl)
set_option maxRecDepth 100000 in
set_option maxHeartbeats 2000000 in
theorem mall_any (k cap : Nat) (ao : Option Addr) (b : List Nat) (hx : b.length ≤ 2000000) (W : World) (hB : Bt W k ao cap b) :
    Calls Try.prog 18 #[.slice ao b.length cap] W fun e w' => AllM W w' e b := by
  obtain ⟨i1, hi1, hz1, hs1, hb1⟩ := info_parts infoMsg
  refine (callsIn_wide (n := 6)).1 ?_
  refine callsIn_of_wp_marks Try.func18 rfl trivial ?_ rfl
  simp only [Try.ntmps18, List.size_toArray, List.length_cons, List.length_nil, Nat.reduceAdd, Nat.reduceSub, Array.replicate_succ, Array.replicate_zero, List.push_toArray, List.append_toArray, List.nil_append, List.cons_append]
  obtain ⟨W1, hW1⟩ : ∃ W1, W1 = (((W.alloc (.cells #[.slice none 0 0] 35)).alloc (.cells #[.int .i64 0] 25)).alloc (.cells #[.slice none 0 0] 35)).alloc (.cells #[.int .i64 0] 3) := ⟨_, rfl⟩
  have m1 : Mem W [(W.heap.size + 3, 3, #[.int .i64 0]), (W.heap.size + 2, 35, #[.slice none 0 0]), (W.heap.size + 1, 25, #[.int .i64 0]), (W.heap.size, 35, #[.slice none 0 0])] W1 := by
    rw [hW1]
    exact ((((Mem.start W).new _ _).new' _ _ (by simp)).new' _ _ (by simp)).new' _ _ (by simp)
  have hB1 : Bt W1 k ao cap b := by rw [hW1]; exact (((hB.alloc _).alloc _).alloc _).alloc _
  gi_wp2_with (first
    | (refine ⟨trivial, ?_⟩; gi_at_call 37; rw [← hW1]; refine (callsIn_wide.2 (each_any k cap ao b hx W1 hB1)).mono ?_; rintro e w4 ⟨Bs, ao4, cap4, k4, rfl, hb4, hB4, hbel4, hBs, hk4⟩; have m4 := m1.keep hbel4))
  have hs4 := hbel4.size
  have hzW : W1.heap.size = W.heap.size + 4 := by rw [hW1]; simp
  have hW4 : W.heap.size + 4 ≤ w4.heap.size := by omega
  have hlt := hb4.lt
  obtain ⟨kk, hBk, hkk⟩ : ∃ kk, Bt w4 kk ao4 cap4 b ∧ kk ≤ w4.heap.size ∧ W.heap.size + 4 ≤ kk := by
    by_cases h0 : b = []
    · subst h0; exact ⟨w4.heap.size, ⟨hB4.len, hB4.top, hB4.bare, hB4.lt, .inl rfl⟩, Nat.le_refl _, hW4⟩
    · exact ⟨k4, hB4, Nat.le_of_lt (hB4.size h0), by omega⟩
  have hA0 : Ax W w4 b 0 w4 := ⟨[], none, 0, none, m4.blk _ _ _ (by simp), m4.blk _ _ _ (by simp), m4.blk _ _ _ (by simp), m4.blk _ _ _ (by simp [tot]), ⟨OwG.nil _ _ _, fun k h => (by cases h), m4.below⟩, fun k h => (by cases h), Lib.hid rfl⟩
  refine range_law2 (F := Fence.wide) rfl (by omega) (gf := 50) (lb := #[.pointer (some ⟨Bs, 0, none⟩)]) rfl trivial (enters_of Try.func50 (by kernel_rfl) rfl) (enc := fun x => #[.int .i64 (x.i : Int), .slice x.ao x.p.length x.cap]) (fun _ => rfl)
    (fun q => q = W.heap.size ∨ q = W.heap.size + 1 ∨ q = W.heap.size + 1 + 1 ∨ q = W.heap.size + 1 + 1 + 1 ∨ w4.heap.size + 1 < q) (by intro q h; omega) (G := El.good b) (El.good_put b)
    (each_seqs Fence.wide rfl (6 - 1) (by omega) Bs kk cap4 ao4 b w4 _ hb4 hBk (by omega) (by omega))
    (fun pre A => Ax W w4 b pre.length A)
    (fun c pre A => c = .ret ∧ Bx W w4 b A)
    (fun pre A B h hf => h.frm hW4 hf)
    (fun c pre A B h hf => ⟨h.1, h.2.frm hW4 hf⟩)
    hA0
    (fun x => { tmps := #[.slice ao b.length cap, undef, .pointer (some ⟨W.heap.size, 0, none⟩), .pointer (some ⟨W.heap.size + 1, 0, none⟩), .pointer (some ⟨W.heap.size + 1 + 1, 0, none⟩), .pointer (some ⟨W.heap.size + 1 + 1 + 1, 0, none⟩), .int .i64 (x.i : Int), .slice x.ao x.p.length x.cap, undef, undef, undef, undef, undef, .slice ao b.length cap, .func (.func 50) #[] #[.pointer (some ⟨Bs, 0, none⟩)], .int .i64 (x.i : Int), .slice x.ao x.p.length x.cap, undef, undef, undef, undef, undef, undef, undef, undef, undef, undef, undef, undef, undef, undef, undef, undef, undef, undef, undef, undef, undef, undef, undef, undef, undef, undef, undef, undef, undef, undef, undef], defers := [] })
    ?assign ?body ?done ?stop
  case assign =>
    intro l x V K hK
    gi_wp2
    exact hK
  case body =>
    rintro l pre x A hAx ⟨hp, hgp, hgi⟩ hlen hsz
    obtain ⟨ms, ko, oc, oo, h0, h1, h2, h3, hM, hko, hD⟩ := hAx
    obtain ⟨t1, t2, t3⟩ := at_tot hgp hgi
    have hxi : x.i + 2 + x.p.length ≤ 2000000 := by
      have := (allF_size b).1
      rw [tot_allF] at t3
      omega
    have hml : ms.length ≤ 1000000 := by
      have g1 := decLs_len hD.out
      have g2 := length_le_tot (allF b).1
      have g3 := (allF_size b).1
      rw [tot_allF] at g2
      rw [List.length_take] at g1
      omega
    have cD := mdecode_any x.k x.cap x.ao x.p (by omega) A hp
    have tBad := fun e : (decM x.p).2 ≠ 0 => all_bad hgp (by rw [hD.out]) e
    have tNext := fun e : (decM x.p).2 = 0 => all_next hgp hD.out e
    have hS := hM.bel.size
    have hlen2 : (pre ++ [x]).length = pre.length + 1 := by simp
    clear t3 hp hgp hgi hlen hD
    generalize decM x.p = d at cD tBad tNext
    obtain ⟨m, f⟩ := d
    simp only at cD tBad tNext
    by_cases hf : f = 0
    · subst hf
      have tN := Lib.hid (tNext rfl)
      clear tNext tBad
      have hY : Ay W w4 A (.slice oo ms.length oc) _ ms ko oc oo := ⟨h0, h1, h2, h3, hM, hko⟩
      have hXX := fun (w2 w3 : World) (ko' : Option Nat) (oc' : Nat) (oo' : Option Addr) (ev : Int) (h : Ay W w4 w2 (.slice oo ms.length oc) ev ms ko oc oo) (h2 : w4.heap.size + 1 < w2.heap.size) => h.app (w3 := w3) (ko' := ko') (oc' := oc') (oo' := oo') (m := m) hW4 h2
      clear h0 h1 h2 h3 hM hko
      obtain ⟨kind, sym, seq, tick, id, other, price, qty, code⟩ := m
      gi_wp2_with (first
        | (refine ⟨trivial, ?_⟩; gi_at_call 14; refine (CallsIn.inRound l (callsIn_wide.2 cD)).mono ?_; rintro e w5 ⟨rfl, hb5⟩; have hY2 := (hY.call hb5).alloc (.cells (cMsg ⟨kind, sym, seq, tick, id, other, price, qty, code⟩) 23); have hs5 := hb5.size; have c2 := hY2.b2.cell_eq 0 _ rfl)
        | (gi_at_builtin; refine wpListIn_appG rfl (.tmp 25) (.tmp 27) 35 23 i1 _ 9 72 Try.underlying35 hi1 hz1 hs1 hb1 rfl (by decide) rfl (hY2.alloc _).om.ow (SrcG.msg (m := ⟨kind, sym, seq, tick, id, other, price, qty, code⟩) (Blk.new' (by simp))) rfl rfl (by omega) (by omega) ?_; intro oo' oc' ko' w8 ho hf8 hm8; have hY3 := hXX _ _ _ _ _ _ (hY2.alloc _) (by simp; omega) ho hf8 hm8; have c2' := hY3.b2.cell_eq 0 _ rfl; have f2' := hY3.b2.free 0; have c3' := hY3.b3.cell_eq 0 _ rfl; have f3' := hY3.b3.free 0))
      refine ⟨?_, ?_⟩
      · have g1 : Frm (fun q => q = W.heap.size ∨ q = W.heap.size + 1 ∨ q = W.heap.size + 1 + 1 ∨ q = W.heap.size + 1 + 1 + 1 ∨ w4.heap.size + 1 < q) A ((w5.alloc (.cells (cMsg ⟨kind, sym, seq, tick, id, other, price, qty, code⟩) 23)).alloc (.cells (cMsg ⟨kind, sym, seq, tick, id, other, price, qty, code⟩) 23)) := ((Frm.of_below hb5).alloc _).alloc _
        exact ((g1.trans hf8 (fun q e => .inl (.inr (.inr (.inr (.inr (hY.hk q e))))))).setCell ⟨W.heap.size + 1 + 1, 0, none⟩ _ (.inl (.inr (.inr (.inl rfl))))).setCell ⟨W.heap.size + 1 + 1 + 1, 0, none⟩ _ (.inl (.inr (.inr (.inr (.inl rfl)))))
      · show Ax W w4 b (pre ++ [x]).length _
        rw [hlen2]
        exact hY3.laid hW4 tN (by simp) (by rw [t2]; omega)
    · have tB := tBad hf
      clear tNext tBad
      have q1 : ((f : Int) != 0) = true := by simp; omega
      have q2 : ((f : Int) == 0) = false := by simp; omega
      have hMb := hM.bel
      clear hf h2 h3 hM hko hml hxi t1 t2
      have hN := fun (w5 : World) (h : Below A.heap.size A w5) (o : Obj) => (⟨(h0.below h h0.lt).alloc o, (h1.below h h1.lt).alloc o, h.size⟩ : Blk (w5.alloc o) W.heap.size 35 #[.slice none 0 0] ∧ Blk (w5.alloc o) (W.heap.size + 1) 25 #[.int .i64 0] ∧ A.heap.size ≤ w5.heap.size)
      obtain ⟨kind, sym, seq, tick, id, other, price, qty, code⟩ := m
      gi_wp2_with (refine ⟨trivial, ?_⟩; gi_at_call 14; refine (CallsIn.inRound l (callsIn_wide.2 cD)).mono ?_; rintro e w5 ⟨rfl, hb5⟩; obtain ⟨g0, g1, g5⟩ := hN w5 hb5 (.cells (cMsg ⟨kind, sym, seq, tick, id, other, price, qty, code⟩) 23); have f0 := g0.free 0; have f1 := g1.free 0; have c0 := g0.cell_eq 0 _ rfl; have c1 := g1.cell_eq 0 _ rfl)
      refine ⟨?_, rfl, f, tB, (g0.set 0 _).other (by show W.heap.size + 1 ≠ W.heap.size; omega) _, (g1.other (by show W.heap.size ≠ W.heap.size + 1; omega) _).set 0 _, ?_⟩
      · exact (((Frm.of_below hb5).alloc _).setCell ⟨W.heap.size, 0, none⟩ _ (.inl (.inl rfl))).setCell ⟨W.heap.size + 1, 0, none⟩ _ (.inl (.inr (.inl rfl)))
      · exact (((hMb.trans (hb5.mono hS)).alloc (by omega) _).setCell (p := ⟨W.heap.size, 0, none⟩) (Nat.le_refl _) _).setCell (p := ⟨W.heap.size + 1, 0, none⟩) (by show _ ≤ W.heap.size + 1; omega) _
  case done =>
    rintro Dd ys V hDd hys hAx hK
    obtain ⟨ms, ko, oc, oo, h0, h1, h2, h3, hM, hko, hD⟩ := hAx
    have hD2 := hD.out
    rw [hys, List.take_length] at hD2
    rw [hys, List.take_length, tot_allF] at h3
    clear hD
    have hBV := hB.below hM.bel
    have c2 := h2.cell_eq 0 _ rfl
    have c3 := h3.cell_eq 0 _ rfl
    rcases allF_stops b.length b (Nat.le_refl _) with ⟨e1, e2⟩ | ⟨e1, e2, e3⟩
    · have hA := all_fine hD2 e2
      rw [e1] at c3
      have c0 := h0.cell_eq 0 _ rfl
      have c1 := h1.cell_eq 0 _ rfl
      have f0 := h0.free 0
      have f1 := h1.free 0
      clear hD2 h3 e1 e2
      gi_wp2
      obtain ⟨r1, r2, r3, r4, r5⟩ := all_laid (.slice oo ms.length oc) (.int .i64 0) (.deferred none) rfl h0 h1 hK hM.bel (by omega)
      refine ⟨by simp, .inl ⟨_, _, rfl, run_takeDeferred r1, ?_⟩⟩
      refine ⟨.tuple #[.slice oo ms.length oc, .int .i64 0], ?_, allM_some hA (Msgs.of_own (hM.ow.frm r5 (fun q e => by have h6 := hko q e; have h7 := hM.ow.undeferred e hK; omega))) r4⟩
      simp [results, Try.results18, go_sem, r2, r3]
    · have hA := all_fault hD2 e2
      generalize hf : (allF b).2.2 = f at e2 e3 hA
      generalize (allF b).2.1 = E at e1 e3 c3
      have hdl : (b.drop E).length = b.length - E := List.length_drop
      have cT : ∀ a c, Bt V k a c (b.drop E) → Calls Try.prog 38 #[.slice a (b.length - E) c] V fun e w' => Took V w' e ([], 0, f) := fun a c h => by
        have h5 := ftake_any k c a (b.drop E) V h
        rw [hdl, e3] at h5
        exact h5
      have hc := hBV.len
      have hcm := hBV.top
      unfold maxLen at hcm
      clear hD2 h3 e3 hf hdl
      gi_wp2_with (refine ⟨trivial, ?_⟩; gi_at_call 38; (with_reducible refine (callsIn_wide.2 (cT _ _ (hBV.drop (Nat.le_of_lt e1)))).mono ?_); rintro e w6 ⟨a6, c6, k6, rfl, hp6, hb6, hk6⟩; have g0 := h0.below hb6 h0.lt; have g1 := h1.below hb6 h1.lt; have c0 := g0.cell_eq 0 _ rfl; have c1 := g1.cell_eq 0 _ rfl; have f0 := g0.free 0; have f1 := g1.free 0)
      have hK6 := (hb6.block Dd (Array.getElem?_eq_some_iff.1 hK).1).trans hK
      obtain ⟨r1, r2, r3, r4, r5⟩ := all_laid (.slice none 0 0) (.int .i64 (f : Int)) (.deferred none) rfl g0 g1 hK6 (hM.bel.trans (hb6.mono hM.bel.size)) (by omega)
      refine ⟨by simp, .inl ⟨_, _, rfl, run_takeDeferred r1, ?_⟩⟩
      refine ⟨.tuple #[.slice none 0 0, .int .i64 (f : Int)], ?_, allM_none hA r4⟩
      simp [results, Try.results18, go_sem, r2, r3]
  case stop =>
    rintro Dd c pre V hDd hsp ⟨rfl, hBx⟩ hK
    obtain ⟨f, hA, h0, h1, hbel⟩ := hBx
    gi_wp2
    have f2 := Frm.put (S := fun q => q = Dd) V Dd (.deferred none) rfl
    have g0 := h0.frm f2 (by omega)
    have g1 := h1.frm f2 (by omega)
    have c0 := g0.cell_eq 0 _ rfl
    have c1 := g1.cell_eq 0 _ rfl
    refine ⟨by simp, .inl ⟨_, _, rfl, run_takeDeferred hK, ?_⟩⟩
    refine ⟨.tuple #[.slice none 0 0, .int .i64 (f : Int)], ?_, allM_none hA (hbel.trans (f2.below hbel.size (fun q e => by omega)))⟩
    simp [results, Try.results18, go_sem, c0, c1]
end Go.Proofs.Ytalgpbjonkcldaa
