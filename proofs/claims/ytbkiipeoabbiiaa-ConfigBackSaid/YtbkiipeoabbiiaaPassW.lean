/-
  The contract of pass: each number of a row goes through a function value that has a state.
-/
import Derived.Test.YtbkiipeoabbiiaaPass
import Derived.Test.YtbkiipeoabbiiaaChn
namespace Go.Proofs.Ytbkiipeoabbiiaa
open Go.RowKit
def Cv (pre : List Value) (vs : List Int) (post : List Value) : Array Value := (pre ++ vs.map (Value.int .i64) ++ post).toArray
theorem Cv.at' {pre post : List Value} {done rest : List Int} {v : Int} {n : Nat} (hn : n = pre.length + done.length) : (Cv pre (done ++ v :: rest) post)[n]? = some (.int .i64 v) := by
  subst hn
  unfold Cv
  simp
theorem Cv.put {pre post : List Value} {done rest : List Int} {v u : Int} {n : Nat} (hn : n = pre.length + done.length) : (Cv pre (done ++ v :: rest) post).setIfInBounds n (.int .i64 u) = Cv pre ((done ++ [u]) ++ rest) post := by
  subst hn
  unfold Cv
  simp [List.set_append_right]
section
variable {σ : Type} {gn : Nat} {gc : Array Value} {I : σ → (Nat → Prop) → World → Prop} {ok : Int → Prop} {ans : σ → Int → Int} {nx : σ → Int → σ} {fu : σ → Nat}
/-- The cells of fields: pointers to the numbers from one on, long or short. -/
def fieldC (bs : Nat) : Nat → List Bool → List Value
  | _, [] => []
  | o, true :: ks => .pointer (some ⟨bs, o, none⟩) :: .pointer none :: fieldC bs (o + 1) ks
  | o, false :: ks => .pointer none :: .pointer (some ⟨bs, o, none⟩) :: fieldC bs (o + 1) ks
theorem fieldC_at (bs : Nat) : ∀ (ks : List Bool) (o i : Nat) (k : Bool), ks[i]? = some k → (fieldC bs o ks)[i * 2]? = some (if k then .pointer (some ⟨bs, o + i, none⟩) else .pointer none) ∧ (fieldC bs o ks)[i * 2 + 1]? = some (if k then .pointer none else .pointer (some ⟨bs, o + i, none⟩))
  | [], o, i, k, h => by simp at h
  | a :: ks, o, 0, k, h => by
    obtain rfl : a = k := by simpa using h
    cases a <;> simp [fieldC]
  | a :: ks, o, i + 1, k, h => by
    have ih := fieldC_at bs ks (o + 1) i k (by simpa using h)
    have e1 : (i + 1) * 2 = i * 2 + 2 := by omega
    have e2 : o + (i + 1) = o + 1 + i := by omega
    rw [e1, e2]
    cases a <;> simpa [fieldC] using ih
set_option maxRecDepth 8000 in
set_option maxHeartbeats 4000000 in
theorem pass_any (hN : Nm σ gn gc I ok ans nx fu) (ks : List Bool) (vs : List Int) (hlen : ks.length = vs.length) (hl : ks.length ≤ 100) (hv : ∀ v ∈ vs, ok v) {W : World} {S0 : Nat → Prop} {bs : Nat} {T FT : TypeId} {ob : List (Nat × TypeId × Array Value)} {s : σ} {pre post : List Value} {fb cap n o : Nat}
    (hn : n = ks.length) (ho : o = pre.length) (hob : (fb, FT, (fieldC bs o ks).toArray) ∈ ob) {w : World} (hfu : ks.length ≤ fu s) (hP : PJ I W S0 bs T ob s (Cv pre vs post) w) :
    Calls Try.prog 66 #[.slice (some ⟨fb, 0, none⟩) n cap, .func (.func gn) #[] gc] w fun e w' => e = .returned (.tuple #[]) ∧ PJ I W S0 bs T ob (passL ans nx ks vs s).2 (Cv pre (passL ans nx ks vs s).1 post) w' := by
  subst hn ho
  replace hlen := Lib.hid hlen
  go_enter Try.func66, Try.ntmps66
  go_wp2_with fail
  go_loopg [8] ks.length (fun j p8 wr => ∃ (q : Nat), q + j = ks.length ∧ p8 = .int .i64 (q : Int) ∧ PJ I W S0 bs T ob (passL ans nx (ks.take q) (vs.take q) s).2 (Cv pre ((passL ans nx (ks.take q) (vs.take q) s).1 ++ vs.drop q) post) wr)
  case atStart => exact ⟨0, by omega, rfl, by simpa [passL] using hP⟩
  case round =>
    clear hP
    obtain ⟨q, hq, rfl, hP⟩ := hrel
    by_cases hj : q < ks.length
    · obtain ⟨k, hk⟩ : ∃ k, ks[q]? = some k := ⟨ks[q], List.getElem?_eq_getElem hj⟩
      obtain ⟨v, hvq⟩ : ∃ v, vs[q]? = some v := ⟨vs[q]'(by have := hlen.out; omega), List.getElem?_eq_getElem (by have := hlen.out; omega)⟩
      have hok := hv v (List.mem_of_getElem? hvq)
      have hfq : 0 < fu (passL ans nx (ks.take q) (vs.take q) s).2 := by
        have h1 := passL_fuel (fu := fu) ans nx hN.fuel (ks.take q) (vs.take q) s
        rw [List.length_take] at h1
        omega
      have hlq : (passL ans nx (ks.take q) (vs.take q) s).1.length = q := by
        rw [passL_length _ _ _ _ _ (by rw [List.length_take, List.length_take, hlen.out]), List.length_take]; have := hlen.out; omega
      have hd : vs.drop q = v :: vs.drop (q + 1) := by
        obtain ⟨h1, h2⟩ := List.getElem?_eq_some_iff.1 hvq
        rw [← h2]; exact List.drop_eq_getElem_cons h1
      have hs := passL_snoc ans nx k v (ks.take q) (vs.take q) s (by rw [List.length_take, List.length_take, hlen.out])
      have ek : ks.take (q + 1) = ks.take q ++ [k] := by rw [List.take_add_one, hk]; rfl
      have ev : vs.take (q + 1) = vs.take q ++ [v] := by rw [List.take_add_one, hvq]; rfl
      rw [← ek, ← ev] at hs
      rw [hd] at hP
      have hat : (Cv pre ((passL ans nx (ks.take q) (vs.take q) s).1 ++ v :: vs.drop (q + 1)) post)[pre.length + q]? = some (.int .i64 v) := Cv.at' (by rw [hlq])
      have hput := fun u => Cv.put (pre := pre) (post := post) (done := (passL ans nx (ks.take q) (vs.take q) s).1) (rest := vs.drop (q + 1)) (v := v) (u := u) (n := pre.length + q) (by rw [hlq])
      obtain ⟨f0, f1⟩ := fieldC_at bs ks pre.length q k hk
      have hfb := hP.get _ _ _ hob
      have g0 := hfb.cell_eq (q * 2) _ (by simpa using f0)
      have g1 := hfb.cell_eq (q * 2 + 1) _ (by simpa using f1)
      clear f0 f1 hfb hk hvq hv hd hlq hlen ek ev hob
      generalize Cv pre ((passL ans nx (ks.take q) (vs.take q) s).1 ++ v :: vs.drop (q + 1)) post = cs at hP hat hput
      generalize (passL ans nx (ks.take q) (vs.take q) s).1 = done at hput hs
      generalize (passL ans nx (ks.take q) (vs.take q) s).2 = s1 at hP hs hfq
      replace hs := Lib.hid hs
      generalize pre.length + q = o at *
      cases k with
      | true =>
        replace g0 : wr.cell? ⟨fb, q * 2, none⟩ = some (.pointer (some ⟨bs, o, none⟩)) := g0
        replace g1 : wr.cell? ⟨fb, q * 2 + 1, none⟩ = some (.pointer none) := g1
        have hPn := hP.new hN 93 #[.pointer (some ⟨bs, o, none⟩), .pointer none]
        go_wp2_with fail
        all_goals first
          | (exfalso; omega)
          | skip
        have hget : ∀ (L : Array Bool) (wx : World), Chn 6 [3, 4, 5] (fun n w => if n ≤ 1 then PJ I W S0 bs T ((wr.heap.size, 93, #[.pointer (some ⟨bs, o, none⟩), .pointer none]) :: ob) s1 cs w else if n = 2 then PJ I W S0 bs T ((wr.heap.size, 93, #[.pointer (some ⟨bs, o, none⟩), .pointer none]) :: ob) (nx s1 v) cs w else PJ I W S0 bs T ((wr.heap.size, 93, #[.pointer (some ⟨bs, o, none⟩), .pointer none]) :: ob) (nx s1 v) (cs.setIfInBounds o (.int .i64 (ans s1 v))) w) L wx → Blk wx wr.heap.size 93 #[.pointer (some ⟨bs, o, none⟩), .pointer none] := by
          intro L wx h
          have h2 := h.at'
          split at h2
          · exact h2.get _ _ _ (by simp)
          · split at h2
            · exact h2.get _ _ _ (by simp)
            · exact h2.get _ _ _ (by simp)
        refine wp_region_S (S := Chn 6 [3, 4, 5] (fun n w => if n ≤ 1 then PJ I W S0 bs T ((wr.heap.size, 93, #[.pointer (some ⟨bs, o, none⟩), .pointer none]) :: ob) s1 cs w else if n = 2 then PJ I W S0 bs T ((wr.heap.size, 93, #[.pointer (some ⟨bs, o, none⟩), .pointer none]) :: ob) (nx s1 v) cs w else PJ I W S0 bs T ((wr.heap.size, 93, #[.pointer (some ⟨bs, o, none⟩), .pointer none]) :: ob) (nx s1 v) (cs.setIfInBounds o (.int .i64 (ans s1 v))) w)) (by kernel_rfl) (Chn.start _ _ (hPn.drew hN)) ?_
        refine AllS.next (v := ?_) rfl rfl rfl (by kernel_rfl) ?_ ?_
        rotate_left
        · refine yieldsS_run (fun L w h => h.other (by decide)) (by rfl) ?_
          intro L wx hS
          have hbk := hget _ _ hS
          have z0 := hbk.cell_eq 0 _ rfl
          have z1 := hbk.cell_eq 1 _ rfl
          go_simp
          try with_reducible rfl
        simp only [Act.put, List.setIfInBounds_toArray, List.set_cons_zero, List.set_cons_succ, List.getElem_toArray, List.getElem_cons_zero]
        refine AllS.next (v := ?_) rfl rfl rfl (by kernel_rfl) ?_ ?_
        rotate_left
        · refine yieldsS_run (fun L w h => h.other (by decide)) (by rfl) ?_
          intro L wx hS
          go_simp
          try with_reducible rfl
        simp only [Act.put, List.setIfInBounds_toArray, List.set_cons_zero, List.set_cons_succ, List.getElem_toArray, List.getElem_cons_zero, List.getElem_cons_succ]
        refine AllS.next (v := ?_) rfl rfl rfl (by kernel_rfl) ?_ ?_
        rotate_left
        · refine yieldsS_run (fun L w h => h.other (by decide)) (by rfl) ?_
          intro L wx hS
          have hbk := hget _ _ hS
          have z0 := hbk.cell_eq 0 _ rfl
          have z1 := hbk.cell_eq 1 _ rfl
          go_simp
          try with_reducible rfl
        simp only [Act.put, List.setIfInBounds_toArray, List.set_cons_zero, List.set_cons_succ, List.getElem_toArray, List.getElem_cons_zero, List.getElem_cons_succ]
        refine AllS.next (v := .int .i64 v) rfl rfl rfl (by kernel_rfl) ?_ ?_
        · refine yieldsS_callr (f := 76) (args := #[.agg #[.pointer (some ⟨bs, o, none⟩), .pointer none]]) (by rfl) ?_ ?_
          · intro wx
            go_simp
            try with_reducible rfl
          · intro L wx hL hS
            exact hS.call hL (p := 0) rfl (by decide) (by decide) (by kernel_rfl) fun w1 hA => (number_long ⟨bs, o, none⟩ v w1 (hA.blk.cell_eq o _ hat) hA.blk.lt).mono fun e w' h => ⟨h.1, PJ.below hN hA h.2⟩
        simp only [Act.put, List.setIfInBounds_toArray, List.set_cons_zero, List.set_cons_succ, List.getElem_toArray, List.getElem_cons_zero, List.getElem_cons_succ]
        refine AllS.next (v := .int .i64 (ans s1 v)) rfl rfl rfl (by kernel_rfl) ?_ ?_
        · refine yieldsS_callr (f := gn) (args := #[.int .i64 v] ++ gc) (by rfl) ?_ ?_
          · intro wx
            have hGo := hN.goes (#[.int .i64 v] ++ gc) wx
            go_simp
            try with_reducible rfl
          · intro L wx hL hS
            exact hS.call hL (p := 1) rfl (by decide) (by decide) (by kernel_rfl) fun w1 hA => PJ.call hN hA hok hfq
        simp only [Act.put, List.setIfInBounds_toArray, List.set_cons_zero, List.set_cons_succ, List.getElem_toArray, List.getElem_cons_zero, List.getElem_cons_succ]
        refine AllS.next (v := .tuple #[]) rfl rfl rfl (by kernel_rfl) ?_ ?_
        · refine yieldsS_callr (f := 75) (args := #[.agg #[.pointer (some ⟨bs, o, none⟩), .pointer none], .int .i64 (ans s1 v)]) (by rfl) ?_ ?_
          · intro wx
            go_simp
            try with_reducible rfl
          · intro L wx hL hS
            exact hS.call hL (p := 2) rfl (by decide) (by decide) (by kernel_rfl) fun w1 hA => (set_long ⟨bs, o, none⟩ (ans s1 v) v w1 (hA.blk.cell_eq o _ hat) (hA.blk.free o) hA.blk.lt).mono fun e w' h => ⟨h.1, by obtain ⟨ob2, e2⟩ := h.2; rw [e2]; exact PJ.set hN (PJ.alloc hN hA ob2) o _⟩
        simp only [Act.put, List.setIfInBounds_toArray, List.set_cons_zero, List.set_cons_succ, List.getElem_toArray, List.getElem_cons_zero, List.getElem_cons_succ]
        refine AllS.done rfl ?_
        intro w9 hS9
        have hJ : PJ I W S0 bs T ((wr.heap.size, 93, #[.pointer (some ⟨bs, o, none⟩), .pointer none]) :: ob) (nx s1 v) (cs.setIfInBounds o (.int .i64 (ans s1 v))) w9 := hS9.at'
        replace hJ := hJ.drop
        rw [hput] at hJ
        go_wp2_with fail
        go_roundg (ks.length - (q + 1))
        case measure => omega
        case rel => exact ⟨q + 1, by omega, by go_num, by rw [hs.out]; exact hJ⟩
      | false =>
        replace g0 : wr.cell? ⟨fb, q * 2, none⟩ = some (.pointer none) := g0
        replace g1 : wr.cell? ⟨fb, q * 2 + 1, none⟩ = some (.pointer (some ⟨bs, o, none⟩)) := g1
        have hPn := hP.new hN 93 #[.pointer none, .pointer (some ⟨bs, o, none⟩)]
        go_wp2_with fail
        all_goals first
          | (exfalso; omega)
          | skip
        have hget : ∀ (L : Array Bool) (wx : World), Chn 6 [3, 4, 5] (fun n w => if n ≤ 1 then PJ I W S0 bs T ((wr.heap.size, 93, #[.pointer none, .pointer (some ⟨bs, o, none⟩)]) :: ob) s1 cs w else if n = 2 then PJ I W S0 bs T ((wr.heap.size, 93, #[.pointer none, .pointer (some ⟨bs, o, none⟩)]) :: ob) (nx s1 v) cs w else PJ I W S0 bs T ((wr.heap.size, 93, #[.pointer none, .pointer (some ⟨bs, o, none⟩)]) :: ob) (nx s1 v) (cs.setIfInBounds o (.int .i64 ((if ans s1 v ≤ 2147483647 then ans s1 v else 2147483647)))) w) L wx → Blk wx wr.heap.size 93 #[.pointer none, .pointer (some ⟨bs, o, none⟩)] := by
          intro L wx h
          have h2 := h.at'
          split at h2
          · exact h2.get _ _ _ (by simp)
          · split at h2
            · exact h2.get _ _ _ (by simp)
            · exact h2.get _ _ _ (by simp)
        refine wp_region_S (S := Chn 6 [3, 4, 5] (fun n w => if n ≤ 1 then PJ I W S0 bs T ((wr.heap.size, 93, #[.pointer none, .pointer (some ⟨bs, o, none⟩)]) :: ob) s1 cs w else if n = 2 then PJ I W S0 bs T ((wr.heap.size, 93, #[.pointer none, .pointer (some ⟨bs, o, none⟩)]) :: ob) (nx s1 v) cs w else PJ I W S0 bs T ((wr.heap.size, 93, #[.pointer none, .pointer (some ⟨bs, o, none⟩)]) :: ob) (nx s1 v) (cs.setIfInBounds o (.int .i64 ((if ans s1 v ≤ 2147483647 then ans s1 v else 2147483647)))) w)) (by kernel_rfl) (Chn.start _ _ (hPn.drew hN)) ?_
        refine AllS.next (v := ?_) rfl rfl rfl (by kernel_rfl) ?_ ?_
        rotate_left
        · refine yieldsS_run (fun L w h => h.other (by decide)) (by rfl) ?_
          intro L wx hS
          have hbk := hget _ _ hS
          have z0 := hbk.cell_eq 0 _ rfl
          have z1 := hbk.cell_eq 1 _ rfl
          go_simp
          try with_reducible rfl
        simp only [Act.put, List.setIfInBounds_toArray, List.set_cons_zero, List.set_cons_succ, List.getElem_toArray, List.getElem_cons_zero]
        refine AllS.next (v := ?_) rfl rfl rfl (by kernel_rfl) ?_ ?_
        rotate_left
        · refine yieldsS_run (fun L w h => h.other (by decide)) (by rfl) ?_
          intro L wx hS
          go_simp
          try with_reducible rfl
        simp only [Act.put, List.setIfInBounds_toArray, List.set_cons_zero, List.set_cons_succ, List.getElem_toArray, List.getElem_cons_zero, List.getElem_cons_succ]
        refine AllS.next (v := ?_) rfl rfl rfl (by kernel_rfl) ?_ ?_
        rotate_left
        · refine yieldsS_run (fun L w h => h.other (by decide)) (by rfl) ?_
          intro L wx hS
          have hbk := hget _ _ hS
          have z0 := hbk.cell_eq 0 _ rfl
          have z1 := hbk.cell_eq 1 _ rfl
          go_simp
          try with_reducible rfl
        simp only [Act.put, List.setIfInBounds_toArray, List.set_cons_zero, List.set_cons_succ, List.getElem_toArray, List.getElem_cons_zero, List.getElem_cons_succ]
        refine AllS.next (v := .int .i64 v) rfl rfl rfl (by kernel_rfl) ?_ ?_
        · refine yieldsS_callr (f := 76) (args := #[.agg #[.pointer none, .pointer (some ⟨bs, o, none⟩)]]) (by rfl) ?_ ?_
          · intro wx
            go_simp
            try with_reducible rfl
          · intro L wx hL hS
            exact hS.call hL (p := 0) rfl (by decide) (by decide) (by kernel_rfl) fun w1 hA => (number_short ⟨bs, o, none⟩ v w1 (hA.blk.cell_eq o _ hat) hA.blk.lt).mono fun e w' h => ⟨h.1, PJ.below hN hA h.2⟩
        simp only [Act.put, List.setIfInBounds_toArray, List.set_cons_zero, List.set_cons_succ, List.getElem_toArray, List.getElem_cons_zero, List.getElem_cons_succ]
        refine AllS.next (v := .int .i64 (ans s1 v)) rfl rfl rfl (by kernel_rfl) ?_ ?_
        · refine yieldsS_callr (f := gn) (args := #[.int .i64 v] ++ gc) (by rfl) ?_ ?_
          · intro wx
            have hGo := hN.goes (#[.int .i64 v] ++ gc) wx
            go_simp
            try with_reducible rfl
          · intro L wx hL hS
            exact hS.call hL (p := 1) rfl (by decide) (by decide) (by kernel_rfl) fun w1 hA => PJ.call hN hA hok hfq
        simp only [Act.put, List.setIfInBounds_toArray, List.set_cons_zero, List.set_cons_succ, List.getElem_toArray, List.getElem_cons_zero, List.getElem_cons_succ]
        refine AllS.next (v := .tuple #[]) rfl rfl rfl (by kernel_rfl) ?_ ?_
        · refine yieldsS_callr (f := 75) (args := #[.agg #[.pointer none, .pointer (some ⟨bs, o, none⟩)], .int .i64 (ans s1 v)]) (by rfl) ?_ ?_
          · intro wx
            go_simp
            try with_reducible rfl
          · intro L wx hL hS
            exact hS.call hL (p := 2) rfl (by decide) (by decide) (by kernel_rfl) fun w1 hA => (set_short ⟨bs, o, none⟩ (ans s1 v) v w1 (hA.blk.cell_eq o _ hat) (hA.blk.free o) hA.blk.lt).mono fun e w' h => ⟨h.1, by obtain ⟨ob2, e2⟩ := h.2; rw [e2]; exact PJ.set hN (PJ.alloc hN hA ob2) o _⟩
        simp only [Act.put, List.setIfInBounds_toArray, List.set_cons_zero, List.set_cons_succ, List.getElem_toArray, List.getElem_cons_zero, List.getElem_cons_succ]
        refine AllS.done rfl ?_
        intro w9 hS9
        have hJ : PJ I W S0 bs T ((wr.heap.size, 93, #[.pointer none, .pointer (some ⟨bs, o, none⟩)]) :: ob) (nx s1 v) (cs.setIfInBounds o (.int .i64 ((if ans s1 v ≤ 2147483647 then ans s1 v else 2147483647)))) w9 := hS9.at'
        replace hJ := hJ.drop
        rw [hput] at hJ
        go_wp2_with fail
        go_roundg (ks.length - (q + 1))
        case measure => omega
        case rel => exact ⟨q + 1, by omega, by go_num, by rw [hs.out]; exact hJ⟩
    · have hqe : q = ks.length := by omega
      have e1 : ks.take q = ks := by rw [hqe, List.take_length]
      have e2 : vs.take q = vs := by rw [hqe, hlen.out, List.take_length]
      have e3 : vs.drop q = [] := by rw [hqe, hlen.out, List.drop_length]
      rw [e1, e2, e3, List.append_nil] at hP
      clear e1 e2 e3
      go_wp2_with fail
      all_goals first
        | (exfalso; omega)
        | (go_end0; exact ⟨rfl, hP⟩)
end
end Go.Proofs.Ytbkiipeoabbiiaa
