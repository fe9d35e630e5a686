/-
  FifoOrder. (Written by gen/p_foo.py.)
-/
import Derived.Test.YtipmhialflincaaDoorFor
import Derived.Test.YtipmhialflincaaDoorFir
import Derived.Test.YtipmhialflincaaDoorFrp
namespace Go.Proofs.YtipmhialflincaaDoor
open Go.RowKit
set_option linter.unusedSimpArgs false
theorem infoBo : (Tryd.prog.info? 4).map (fun i => (i.zero, i.size, i.bytes)) = some (some (.bool false), 1, 1) := by kernel_rfl
theorem make_Bo : ∀ w, (Instr.makeSlice 45 (.int .i64 20) (.int .i64 20)).run Tryd.prog w = .ok (.slice (some ⟨w.heap.size, 0, none⟩) 20 20) (w.alloc (.cells (madeCells #[.bool false] 20) 4)) := by
  intro w
  obtain ⟨i1, hi1, e1⟩ := Option.map_eq_some_iff.1 infoBo
  simp only [Prod.mk.injEq] at e1
  obtain ⟨hz1, hs1, hb1⟩ := e1
  have := run_make (P := Tryd.prog) w 45 4 i1 _ Tryd.underlying45 hi1 hz1 .i64 .i64 20 20 (by omega) (by omega) (by rw [hb1]; omega) (by omega)
  rw [hs1] at this
  exact this
theorem inb_nil : Inb (madeCells #[.bool false] 20) [] := by
  rw [made_rep _ (.bool false) (by decide) (fun r hr => by
    match r, hr with
    | 0, _ => rfl
    | r + 1, hr => exact absurd hr (by simp))]
  refine ⟨by simp, fun x hx => ?_⟩
  rw [List.getElem?_toArray, List.getElem?_replicate, if_pos hx]
  rfl
/-- All of it: the queue q in the program's blocks, who is in (I) in block bi, what is wanted (wl) in a row of its own. -/
structure Od (W : World) (g bl be bs bi : Nat) (q I wl : List Nat) (ko : Option Nat) (ao : Option Addr) (cap : Nat) (w : World) : Prop where
  bel : Below W.heap.size W w
  prog : ∃ K E Z, PM w g bl be bs K E Z ∧ Fqp K E Z (Fq.one q)
  nod : q.Nodup
  inb : ∃ c, Blk w bi 4 c ∧ Inb c I
  own : OwG 3 1 w ko ao cap wl.length (zv wl)
  hk : ∀ k, ko = some k → W.heap.size ≤ k ∧ k ≠ bi ∧ ¬ Qb g bl be bs k
  bi1 : W.heap.size ≤ bi
  bi2 : ¬ Qb g bl be bs bi
  hq : ∀ b, Qb g bl be bs b → W.heap.size ≤ b
  z : 2 ≤ W.heap.size
section
variable {W w w' : World} {g bl be bs bi : Nat} {q q' I I' wl : List Nat} {ko : Option Nat} {ao : Option Addr} {cap : Nat}
theorem Od.gl (h : Od W g bl be bs bi q I wl ko ao cap w) : Gl w := by
  obtain ⟨K, E, Z, h1, -⟩ := h.prog
  exact h1.gl
theorem Od.below (h : Od W g bl be bs bi q I wl ko ao cap w) (hb : Below w.heap.size w w') : Od W g bl be bs bi q I wl ko ao cap w' := by
  obtain ⟨K, E, Z, h1, h2⟩ := h.prog
  obtain ⟨c, h3, h4⟩ := h.inb
  exact ⟨h.bel.trans (hb.mono h.bel.size), ⟨K, E, Z, h1.below hb, h2⟩, h.nod, ⟨c, h3.below hb h3.lt, h4⟩, h.own.below hb, h.hk, h.bi1, h.bi2, h.hq, h.z⟩
theorem Od.step (h : Od W g bl be bs bi q I wl ko ao cap w) (hn : q'.Nodup) (hf : Frm (Qb g bl be bs) w w') (ha : ∃ K E Z, Fqp K E Z (Fq.one q') ∧ PM w' g bl be bs K E Z) : Od W g bl be bs bi q' I wl ko ao cap w' := by
  obtain ⟨K, E, Z, h1, h2⟩ := ha
  obtain ⟨c, h3, h4⟩ := h.inb
  exact ⟨h.bel.trans (hf.below h.bel.size h.hq), ⟨K, E, Z, h2, h1⟩, hn, ⟨c, (hf.block _ h3.lt h.bi2).trans h3, h4⟩, h.own.frm hf (fun k e => (h.hk k e).2.2), h.hk, h.bi1, h.bi2, h.hq, h.z⟩
theorem Od.cell (h : Od W g bl be bs bi q I wl ko ao cap w) {x : Nat} (hx : x < 20) : w.cell? ⟨bi, x, none⟩ = some (.bool (decide (x ∈ I))) := by
  obtain ⟨c, h3, h4⟩ := h.inb
  exact h3.cell_eq _ _ (h4.at' x hx)
theorem Od.free (h : Od W g bl be bs bi q I wl ko ao cap w) (x : Nat) : w.frozen? ⟨bi, x, none⟩ = false := by
  obtain ⟨c, h3, h4⟩ := h.inb
  exact h3.free x
theorem Od.set (h : Od W g bl be bs bi q I wl ko ao cap w) {x : Nat} (hx : x < 20) {b : Bool} (hb : b = decide (x ∈ I')) (ho : ∀ y, y ≠ x → (y ∈ I' ↔ y ∈ I)) : Od W g bl be bs bi q I' wl ko ao cap (w.setCell ⟨bi, x, none⟩ (.bool b)) := by
  obtain ⟨K, E, Z, h1, h2⟩ := h.prog
  obtain ⟨c, h3, h4⟩ := h.inb
  have ho' : ∀ k, k ≠ bi → (w.setCell ⟨bi, x, none⟩ (.bool b)).heap[k]? = w.heap[k]? := fun k hk => heap_other w _ _ hk
  have hz := h.z
  have hb1 := h.bi1
  exact ⟨h.bel.setCell (p := ⟨bi, x, none⟩) h.bi1 _, ⟨K, E, Z, h1.of_heap (fun k hk => ho' k (fun e => h.bi2 (e ▸ hk))) (h1.gl.of_heap (ho' _ (by omega)) (ho' _ (by omega))), h2⟩, h.nod, ⟨_, h3.set x _, h4.set hx hb ho⟩, h.own.keep (fun k e => ho' k (h.hk k e).2.1), h.hk, h.bi1, h.bi2, h.hq, h.z⟩
theorem Od.app (h : Od W g bl be bs bi q I wl ko ao cap w) (x : Nat) {ko' : Option Nat} {ao' : Option Addr} {cap' : Nat} (ho : OwG 3 1 w' ko' ao' cap' (wl.length + 1) (zv wl ++ [.int .i64 (x : Int)])) (hf : Frm (fun b => ko = some b) (w.alloc (.cells #[.int .i64 (x : Int)] 3)) w') (hm : Moved (w.alloc (.cells #[.int .i64 (x : Int)] 3)) ko ko') :
    Od W g bl be bs bi q I (wl ++ [x]) ko' ao' cap' w' := by
  obtain ⟨K, E, Z, h1, h2⟩ := h.prog
  obtain ⟨c, h3, h4⟩ := h.inb
  have hsz := h.bel.size
  have hz := h.z
  have hl3 := h3.lt
  have hbw : Below w.heap.size w (w.alloc (.cells #[.int .i64 (x : Int)] 3)) := (Below.refl _ _).alloc (Nat.le_refl _) _
  have k1 := h.below hbw
  have hsz2 := k1.bel.size
  refine ⟨k1.bel.trans (hf.below hsz2 (fun b e => (h.hk b e).1)), ⟨K, E, Z, (h1.below hbw).frm hf (fun b e => ⟨by have := (h.hk b e).1; omega, (h.hk b e).2.2⟩), h2⟩, h.nod, ⟨c, (hf.block _ (by simp; omega) (fun e => (h.hk bi e).2.1 rfl)).trans (h3.below hbw hl3), h4⟩, by rw [List.length_append, zv_app]; exact ho, fun k e => ?_, h.bi1, h.bi2, h.hq, h.z⟩
  rcases hm with e' | e' | ⟨k2, e', h'⟩
  · rw [e'] at e; cases e
  · rw [e'] at e; exact h.hk k e
  · rw [e'] at e
    cases e
    simp at h'
    exact ⟨by omega, by omega, fun hq => by have := h1.lt _ hq; omega⟩
end
section
variable {W w w' : World} {g bl be bs bi : Nat} {q I wl : List Nat} {ko : Option Nat} {ao : Option Addr} {cap : Nat}
theorem odPush (h : Od W g bl be bs bi q I wl ko ao cap w) {x : Nat} (hx : x < 20) : Calls Tryd.prog 14 #[.pointer (some ⟨g, 0, none⟩), .int .i64 0, .int .i64 (x : Int)] w fun e w' => e = .returned (.bool (decide (x ∉ q))) ∧ Od W g bl be bs bi (if x ∈ q then q else q ++ [x]) I wl ko ao cap w' := by
  obtain ⟨K, E, Z, h1, h2⟩ := h.prog
  have := push_any 0 (x : Int) h2 h1
  rw [Fq.one_pushB q hx, Fq.one_push q hx] at this
  exact this.mono fun e w' ⟨he, hf, ha⟩ => ⟨he, h.step (nodup_push h.nod x) hf ha⟩
theorem odRem (h : Od W g bl be bs bi q I wl ko ao cap w) (x : Nat) : Calls Tryd.prog 15 #[.pointer (some ⟨g, 0, none⟩), .int .i64 (x : Int)] w fun e w' => e = .returned (.tuple #[.int .i64 ((Fq.one q).ofV (x : Int)), .bool (decide (x ∈ q))]) ∧ Od W g bl be bs bi (q.filter (fun y => !(y == x))) I wl ko ao cap w' := by
  obtain ⟨K, E, Z, h1, h2⟩ := h.prog
  have := remove_any (x : Int) h2 h1
  rw [Fq.one_ofB, Fq.one_rem h.nod] at this
  exact this.mono fun e w' ⟨he, hf, ha⟩ => ⟨he, h.step (h.nod.filter _) hf ha⟩
theorem odPop {y : Nat} {t : List Nat} (h : Od W g bl be bs bi (y :: t) I wl ko ao cap w) : Calls Tryd.prog 16 #[.pointer (some ⟨g, 0, none⟩), .int .i64 0] w fun e w' => e = .returned (.tuple #[.int .i64 (y : Int), .bool true]) ∧ Od W g bl be bs bi t I wl ko ao cap w' := by
  obtain ⟨K, E, Z, h1, h2⟩ := h.prog
  have := pop_any 0 h2 h1
  obtain ⟨e1, e2, e3⟩ := Fq.one_pop h.nod
  rw [e1, e2, e3] at this
  exact this.mono fun e w' ⟨he, hf, ha⟩ => ⟨he, h.step (List.nodup_cons.1 h.nod).2 hf ha⟩
theorem odPopNil (h : Od W g bl be bs bi [] I wl ko ao cap w) : Calls Tryd.prog 16 #[.pointer (some ⟨g, 0, none⟩), .int .i64 0] w fun e w' => e = .returned (.tuple #[.int .i64 0, .bool false]) ∧ Od W g bl be bs bi [] I wl ko ao cap w' := by
  obtain ⟨K, E, Z, h1, h2⟩ := h.prog
  have := pop_any 0 h2 h1
  obtain ⟨e1, e2, e3⟩ := Fq.one_nil
  rw [e1, e2, e3] at this
  exact this.mono fun e w' ⟨he, hf, ha⟩ => ⟨he, h.step h.nod hf ha⟩
theorem Od.want (h : Od W g bl be bs bi q I wl ko ao cap w) {i y : Nat} (hi : wl[i]? = some y) : ∃ k, ao = some ⟨k, 0, none⟩ ∧ ko = some k := by
  obtain ⟨k, e1, e2, -⟩ := h.own.cell i (.int .i64 (y : Int)) (by simp [zv, zs, hi])
  exact ⟨k, e2, e1⟩
theorem Od.wcell {k : Nat} (h : Od W g bl be bs bi q I wl (some k) (some ⟨k, 0, none⟩) cap w) {i y : Nat} (hi : wl[i]? = some y) : w.cell? ⟨k, i, none⟩ = some (.int .i64 (y : Int)) := by
  obtain ⟨k', e1, e2, e3, -⟩ := h.own.cell i (.int .i64 (y : Int)) (by simp [zv, zs, hi])
  cases e1
  exact e3
end
theorem Fq.one_new : Fq.new 20 1 = Fq.one [] := rfl
/-- An element of an argument. -/
theorem It.all {kd : IntKind} {W : World} {ao : Option Addr} {cap : Nat} {zl : List Int} (h : It kd W ao cap zl) {i : Nat} {z : Int} (hi : zl[i]? = some z) : ∃ b off, ao = some ⟨b, off, none⟩ ∧ ∀ w, Below W.heap.size W w → w.cell? ⟨b, off + i, none⟩ = some (.int kd z) := by
  obtain ⟨b, off, e, hc⟩ := h.get hi
  exact ⟨b, off, e, hc⟩
set_option maxRecDepth 20000 in
set_option maxHeartbeats 8000000 in
theorem order_any (ao0 : Option Addr) (cap0 : Nat) (zl : List Int) (ao1 : Option Addr) (cap1 : Nat) (zg : List Int) (W : World) (hG : Gl W) (hI0 : It .i64 W ao0 cap0 zl) (hI1 : It .i64 W ao1 cap1 zg) :
    Calls Tryd.prog 5 #[.slice ao0 zl.length cap0, .slice ao1 zg.length cap1] W fun e w' => e = .returned (.bool true) ∧ Below W.heap.size W w' := by
  have cA := fun w (h : Gl w) => alive_any w h
  have cN : Calls Tryd.prog 8 #[.int .i64 20, .int .i64 1] W _ := new_any 20 1 (by omega) (by omega) (by omega) (by omega) W hG
  rw [Fq.one_new] at cN
  generalize W.heap.size + 1 + 1 + 1 = g at *
  obtain ⟨n0, hn0⟩ : ∃ n, n = zl.length := ⟨_, rfl⟩
  obtain ⟨n1, hn1⟩ : ∃ n, n = zg.length := ⟨_, rfl⟩
  have hl0 := hI0.len
  have ht0 := hI0.top
  have hl1 := hI1.len
  have ht1 := hI1.top
  unfold maxLen at ht0 ht1
  rw [← hn0] at hl0 ⊢
  rw [← hn1] at hl1 ⊢
  replace hn0 := Lib.hid hn0
  replace hn1 := Lib.hid hn1
  by_cases hbig : 60 < n0 ∨ 60 < n1
  · have d : decide (60 < n0) = true ∨ (decide (60 < n0) = false ∧ decide (60 < n1) = true) := by
      by_cases h : 60 < n0
      · exact .inl (decide_eq_true h)
      · exact .inr ⟨decide_eq_false h, decide_eq_true (by omega)⟩
    clear hI0 hI1
    rcases d with d | ⟨d, d2⟩
    all_goals
      go_enter Tryd.func5, Tryd.ntmps5
      go_wp2_with (first
        | (go_at_call 8; refine cN.mono ?_; rintro e w1 ⟨rfl, hb1, bl, be, bs, K0, E0, Z0, hq, p0, f0⟩; clear cN)
        | (go_at_call 7; refine (cA _ p0.gl).mono ?_; rintro e w2 ⟨rfl, hb2⟩))
      all_goals first
        | (exfalso; omega)
        | (go_ret; exact ⟨by simp, hb1.trans (hb2.mono hb1.size)⟩)
  have hn60 : n0 ≤ 60 := by omega
  have hm60 : n1 ≤ 60 := by omega
  clear hbig
  have mB := make_Bo
  have hnil := inb_nil
  generalize madeCells #[.bool false] 20 = zb at *
  have hz2 := hG.two
  go_enter Tryd.func5, Tryd.ntmps5
  go_wp2_with (go_at_call 8; refine cN.mono ?_; rintro e w1 ⟨rfl, hb1, bl, be, bs, K0, E0, Z0, hq, p0, f0⟩; clear cN)
  have hs1 := hb1.size
  have k0 : Od W g bl be bs w1.heap.size [] [] [] none none 0 (w1.alloc (.cells zb 4)) :=
    ⟨hb1.alloc hs1 _, ⟨K0, E0, Z0, p0.below ((Below.refl _ _).alloc (Nat.le_refl _) _), f0⟩, by simp, ⟨zb, Blk.new _ _ _, hnil⟩, OwG.nil _ _ _, fun k e => (by cases e), hs1, fun e => by have := p0.lt _ e; omega, hq, hz2⟩
  generalize w1.alloc (.cells zb 4) = W2 at k0 ⊢
  generalize w1.heap.size = bi at k0 ⊢
  clear p0 f0 hb1 hs1 hnil mB hq
  obtain ⟨i1, hi1, e1⟩ := Option.map_eq_some_iff.1 infoIn
  simp only [Prod.mk.injEq] at e1
  obtain ⟨hz1, hs1', hb1'⟩ := e1
  go_loopg [8, 9] n0 (fun j p8 p9 wr => ∃ (i : Nat) (wl : List Nat) (ko : Option Nat) (ao : Option Addr) (cap : Nat), i + j = n0 ∧ p8 = .slice ao wl.length cap ∧ p9 = .int .i64 (i : Int) ∧ Od W g bl be bs bi wl wl wl ko ao cap wr ∧ Hid (∀ x ∈ wl, x < 20) ∧ Hid (wl.length ≤ i))
  case atStart => exact ⟨0, [], none, none, 0, by omega, rfl, rfl, k0, Lib.hid (by simp), Lib.hid (by simp)⟩
  case round =>
    clear k0
    obtain ⟨i, wl, ko, ao, cap, hij, rfl, rfl, k, hw20, hwi⟩ := hrel
    by_cases hi : i < n0
    · obtain ⟨z, hz⟩ : ∃ z, zl[i]? = some z := ⟨_, List.getElem?_eq_getElem (by rw [← hn0.out]; exact hi)⟩
      obtain ⟨lb, loff, rfl, hc⟩ := hI0.all hz
      have hcz := hc wr k.bel
      have hil : (i : Int) < (n0 : Int) := by omega
      have hbk := k.bel
      have hcA := cA wr k.gl
      clear hI0 hI1 hz
      by_cases hzn : z < 0
      · clear k hc
        go_wp2_with (go_at_call 7; (with_reducible refine hcA.mono ?_); rintro e w3 ⟨rfl, hb3⟩)
        all_goals first
          | (exfalso; omega)
          | (go_ret; exact ⟨rfl, hbk.trans (hb3.mono hbk.size)⟩)
      by_cases hzg : 19 < z
      · clear k hc
        go_wp2_with (go_at_call 7; (with_reducible refine hcA.mono ?_); rintro e w3 ⟨rfl, hb3⟩)
        all_goals first
          | (exfalso; omega)
          | (go_ret; exact ⟨rfl, hbk.trans (hb3.mono hbk.size)⟩)
      obtain ⟨x, rfl⟩ : ∃ x : Nat, z = (x : Int) := ⟨z.toNat, by omega⟩
      have hx : x < 20 := by omega
      have hxI : (x : Int) < 20 := by omega
      have hd1 : decide ((x : Int) < 0) = false := decide_eq_false hzn
      have hd2 : decide (19 < (x : Int)) = false := decide_eq_false hzg
      clear hcA hzn hzg
      have cP := odPush (k.below (Below.refl _ _).drew) hx
      have y1 := k.cell hx
      have hlen60 := hwi.out
      have hwl60 : wl.length < 100 := by omega
      clear hlen60
      by_cases hxw : x ∈ wl
      · rw [decide_eq_false (show ¬ (x ∉ wl) from fun h => h hxw), if_pos hxw] at cP
        rw [decide_eq_true hxw] at y1
        have hS3 := fun w (h : Od W g bl be bs bi wl wl wl ko ao cap w) => And.intro (hc w h.bel) ((h.cell hx).trans (by rw [decide_eq_true hxw]))
        have hfin := fun w (h : Od W g bl be bs bi wl wl wl ko ao cap w) => h.set (I' := wl) (b := true) hx (decide_eq_true hxw).symm (fun y _ => Iff.rfl)
        clear k hbk cA hc
        go_wp2_with fail
        refine GoL.start (S := fun _ w => w.cell? ⟨lb, loff + i, none⟩ = some (.int .i64 (x : Int)) ∧ w.cell? ⟨bi, x, none⟩ = some (.bool true)) (by kernel_rfl) ⟨hcz, y1⟩ ?_
        clear hcz y1
        refine GoL.take (i := 0) (v := ?_) rfl rfl (by kernel_rfl) (fun _ _ _ h => h) (fun _ _ => Iff.rfl) (by rfl) ?_ ?_
        rotate_left
        · intro wx hwx
          go_simp
          try with_reducible rfl
        try simp only [Act.put, List.setIfInBounds_toArray, List.set_cons_zero, List.set_cons_succ, List.getElem_toArray, List.getElem_cons_zero, List.getElem_cons_succ, Nat.zero_add, List.nil_append]
        refine GoL.take (i := 1) (v := ?_) rfl rfl (by kernel_rfl) (fun _ _ _ h => h) (fun _ _ => Iff.rfl) (by rfl) ?_ ?_
        rotate_left
        · intro wx hwx
          go_simp
          try with_reducible rfl
        try simp only [Act.put, List.setIfInBounds_toArray, List.set_cons_zero, List.set_cons_succ, List.getElem_toArray, List.getElem_cons_zero, List.getElem_cons_succ, Nat.zero_add, List.nil_append]
        refine GoL.take (i := 2) (v := ?_) rfl rfl (by kernel_rfl) (fun _ _ _ h => h) (fun _ _ => Iff.rfl) (by rfl) ?_ ?_
        rotate_left
        · intro wx hwx
          go_simp
          try with_reducible rfl
        try simp only [Act.put, List.setIfInBounds_toArray, List.set_cons_zero, List.set_cons_succ, List.getElem_toArray, List.getElem_cons_zero, List.getElem_cons_succ, Nat.zero_add, List.nil_append]
        refine GoL.take (i := 3) (v := ?_) rfl rfl (by kernel_rfl) (fun _ _ _ h => h) (fun _ _ => Iff.rfl) (by rfl) ?_ ?_
        rotate_left
        · intro wx hwx
          go_simp
          try with_reducible rfl
        try simp only [Act.put, List.setIfInBounds_toArray, List.set_cons_zero, List.set_cons_succ, List.getElem_toArray, List.getElem_cons_zero, List.getElem_cons_succ, Nat.zero_add, List.nil_append]
        refine GoL.take (i := 4) (v := ?_) rfl rfl (by kernel_rfl) (fun _ _ _ h => h) (fun _ _ => Iff.rfl) (by rfl) ?_ ?_
        rotate_left
        · intro wx hwx
          obtain ⟨y0, y1⟩ := hwx.at'
          go_simp
          try with_reducible rfl
        try simp only [Act.put, List.setIfInBounds_toArray, List.set_cons_zero, List.set_cons_succ, List.getElem_toArray, List.getElem_cons_zero, List.getElem_cons_succ, Nat.zero_add, List.nil_append]
        refine GoL.take (i := 6) (v := ?_) rfl rfl (by kernel_rfl) (fun _ _ _ h => h) (fun _ _ => Iff.rfl) (by rfl) ?_ ?_
        rotate_left
        · intro wx hwx
          go_simp
          try with_reducible rfl
        try simp only [Act.put, List.setIfInBounds_toArray, List.set_cons_zero, List.set_cons_succ, List.getElem_toArray, List.getElem_cons_zero, List.getElem_cons_succ, Nat.zero_add, List.nil_append]
        refine GoL.take (i := 7) (v := ?_) rfl rfl (by kernel_rfl) (fun _ _ _ h => h) (fun _ _ => Iff.rfl) (by rfl) ?_ ?_
        rotate_left
        · intro wx hwx
          go_simp
          try with_reducible rfl
        try simp only [Act.put, List.setIfInBounds_toArray, List.set_cons_zero, List.set_cons_succ, List.getElem_toArray, List.getElem_cons_zero, List.getElem_cons_succ, Nat.zero_add, List.nil_append]
        refine GoL.take (i := 8) (v := ?_) rfl rfl (by kernel_rfl) (fun _ _ _ h => h) (fun _ _ => Iff.rfl) (by rfl) ?_ ?_
        rotate_left
        · intro wx hwx
          go_simp
          try with_reducible rfl
        try simp only [Act.put, List.setIfInBounds_toArray, List.set_cons_zero, List.set_cons_succ, List.getElem_toArray, List.getElem_cons_zero, List.getElem_cons_succ, Nat.zero_add, List.nil_append]
        refine GoL.take (i := 9) (v := ?_) rfl rfl (by kernel_rfl) (fun _ _ _ h => h) (fun _ _ => Iff.rfl) (by rfl) ?_ ?_
        rotate_left
        · intro wx hwx
          go_simp
          try with_reducible rfl
        try simp only [Act.put, List.setIfInBounds_toArray, List.set_cons_zero, List.set_cons_succ, List.getElem_toArray, List.getElem_cons_zero, List.getElem_cons_succ, Nat.zero_add, List.nil_append]
        refine GoL.take (i := 10) (v := ?_) rfl rfl (by kernel_rfl) (fun _ _ _ h => h) (fun _ _ => Iff.rfl) (by rfl) ?_ ?_
        rotate_left
        · intro wx hwx
          obtain ⟨y0, y1⟩ := hwx.at'
          go_simp
          try with_reducible rfl
        try simp only [Act.put, List.setIfInBounds_toArray, List.set_cons_zero, List.set_cons_succ, List.getElem_toArray, List.getElem_cons_zero, List.getElem_cons_succ, Nat.zero_add, List.nil_append]
        refine GoL.take (i := 11) (v := ?_) rfl rfl (by kernel_rfl) (fun _ _ _ h => h) (fun _ _ => Iff.rfl) (by rfl) ?_ ?_
        rotate_left
        · intro wx hwx
          go_simp
          try with_reducible rfl
        try simp only [Act.put, List.setIfInBounds_toArray, List.set_cons_zero, List.set_cons_succ, List.getElem_toArray, List.getElem_cons_zero, List.getElem_cons_succ, Nat.zero_add, List.nil_append]
        refine GoL.take (i := 12) (v := ?_) rfl rfl (by kernel_rfl) (fun _ _ _ h => h) (fun _ _ => Iff.rfl) (by rfl) ?_ ?_
        rotate_left
        · intro wx hwx
          obtain ⟨y0, y1⟩ := hwx.at'
          go_simp
          try with_reducible rfl
        try simp only [Act.put, List.setIfInBounds_toArray, List.set_cons_zero, List.set_cons_succ, List.getElem_toArray, List.getElem_cons_zero, List.getElem_cons_succ, Nat.zero_add, List.nil_append]
        refine GoL.on (rs := [5]) (by kernel_rfl) (by decide) ?_
        refine OnL.cons rfl ?_ OnL.nil
        intro K hK
        replace hK := Lib.hid hK
        go_simp
        refine (cP).mono ?_
        rintro e wz ⟨rfl, k3⟩
        clear cP
        refine hK.out _ _ (hS3 _ k3) ?_
        clear hK
        try simp only [Act.put, List.setIfInBounds_toArray, List.set_cons_zero, List.set_cons_succ, List.getElem_toArray, List.getElem_cons_zero, List.getElem_cons_succ, Nat.zero_add, List.nil_append]
        refine GoL.take (i := 13) (v := ?_) rfl rfl (by kernel_rfl) (fun _ _ _ h => h) (fun _ _ => Iff.rfl) (by rfl) ?_ ?_
        rotate_left
        · intro wx hwx
          go_simp
          try with_reducible rfl
        try simp only [Act.put, List.setIfInBounds_toArray, List.set_cons_zero, List.set_cons_succ, List.getElem_toArray, List.getElem_cons_zero, List.getElem_cons_succ, Nat.zero_add, List.nil_append]
        refine GoL.done (by kernel_rfl) ?_
        refine NoPanic.normal ?_
        obtain ⟨y0, y1⟩ := hS3 _ k3
        have f1 := k3.free x
        have k4 := hfin _ k3
        clear hS3 k3 hfin
        go_wp2_with fail
        go_roundg (n0 - (i + 1))
        case measure => omega
        case rel => exact ⟨i + 1, wl, ko, ao, cap, by omega, rfl, by go_num, k4, hw20, Lib.hid (Nat.le_succ_of_le hwi.out)⟩
      · rw [decide_eq_true hxw, if_neg hxw] at cP
        rw [decide_eq_false hxw] at y1
        have hS3 := fun w (h : Od W g bl be bs bi (wl ++ [x]) wl wl ko ao cap w) => And.intro (hc w h.bel) ((h.cell hx).trans (by rw [decide_eq_false hxw]))
        have happ := fun w w' ko' ao' cap' (h : Od W g bl be bs bi (wl ++ [x]) wl wl ko ao cap w) ho hf hm => h.app (w' := w') (ko' := ko') (ao' := ao') (cap' := cap') x ho hf hm
        have hown := fun w (h : Od W g bl be bs bi (wl ++ [x]) wl wl ko ao cap w) => h.own
        have hset := fun w ko' ao' cap' (h : Od W g bl be bs bi (wl ++ [x]) wl (wl ++ [x]) ko' ao' cap' w) => h.set (I' := wl ++ [x]) (b := true) hx (by simp) (fun y hy => by simp [hy])
        have hw20' : Hid (∀ y ∈ wl ++ [x], y < 20) := Lib.hid (fun y hy => by
          rcases List.mem_append.1 hy with h | h
          · exact hw20.out y h
          · simp at h; omega)
        have hwi' : Hid ((wl ++ [x]).length ≤ i + 1) := Lib.hid (by have := hwi.out; simp; omega)
        have hln : (wl ++ [x]).length = wl.length + 1 := by simp
        generalize wl.length = wn at *
        clear k hbk cA hw20 hwi
        go_wp2_with fail
        refine GoL.start (S := fun _ w => w.cell? ⟨lb, loff + i, none⟩ = some (.int .i64 (x : Int)) ∧ w.cell? ⟨bi, x, none⟩ = some (.bool false)) (by kernel_rfl) ⟨hcz, y1⟩ ?_
        clear hcz y1
        refine GoL.take (i := 0) (v := ?_) rfl rfl (by kernel_rfl) (fun _ _ _ h => h) (fun _ _ => Iff.rfl) (by rfl) ?_ ?_
        rotate_left
        · intro wx hwx
          go_simp
          try with_reducible rfl
        try simp only [Act.put, List.setIfInBounds_toArray, List.set_cons_zero, List.set_cons_succ, List.getElem_toArray, List.getElem_cons_zero, List.getElem_cons_succ, Nat.zero_add, List.nil_append]
        refine GoL.take (i := 1) (v := ?_) rfl rfl (by kernel_rfl) (fun _ _ _ h => h) (fun _ _ => Iff.rfl) (by rfl) ?_ ?_
        rotate_left
        · intro wx hwx
          go_simp
          try with_reducible rfl
        try simp only [Act.put, List.setIfInBounds_toArray, List.set_cons_zero, List.set_cons_succ, List.getElem_toArray, List.getElem_cons_zero, List.getElem_cons_succ, Nat.zero_add, List.nil_append]
        refine GoL.take (i := 2) (v := ?_) rfl rfl (by kernel_rfl) (fun _ _ _ h => h) (fun _ _ => Iff.rfl) (by rfl) ?_ ?_
        rotate_left
        · intro wx hwx
          go_simp
          try with_reducible rfl
        try simp only [Act.put, List.setIfInBounds_toArray, List.set_cons_zero, List.set_cons_succ, List.getElem_toArray, List.getElem_cons_zero, List.getElem_cons_succ, Nat.zero_add, List.nil_append]
        refine GoL.take (i := 3) (v := ?_) rfl rfl (by kernel_rfl) (fun _ _ _ h => h) (fun _ _ => Iff.rfl) (by rfl) ?_ ?_
        rotate_left
        · intro wx hwx
          go_simp
          try with_reducible rfl
        try simp only [Act.put, List.setIfInBounds_toArray, List.set_cons_zero, List.set_cons_succ, List.getElem_toArray, List.getElem_cons_zero, List.getElem_cons_succ, Nat.zero_add, List.nil_append]
        refine GoL.take (i := 4) (v := ?_) rfl rfl (by kernel_rfl) (fun _ _ _ h => h) (fun _ _ => Iff.rfl) (by rfl) ?_ ?_
        rotate_left
        · intro wx hwx
          obtain ⟨y0, y1⟩ := hwx.at'
          go_simp
          try with_reducible rfl
        try simp only [Act.put, List.setIfInBounds_toArray, List.set_cons_zero, List.set_cons_succ, List.getElem_toArray, List.getElem_cons_zero, List.getElem_cons_succ, Nat.zero_add, List.nil_append]
        refine GoL.take (i := 6) (v := ?_) rfl rfl (by kernel_rfl) (fun _ _ _ h => h) (fun _ _ => Iff.rfl) (by rfl) ?_ ?_
        rotate_left
        · intro wx hwx
          go_simp
          try with_reducible rfl
        try simp only [Act.put, List.setIfInBounds_toArray, List.set_cons_zero, List.set_cons_succ, List.getElem_toArray, List.getElem_cons_zero, List.getElem_cons_succ, Nat.zero_add, List.nil_append]
        refine GoL.take (i := 7) (v := ?_) rfl rfl (by kernel_rfl) (fun _ _ _ h => h) (fun _ _ => Iff.rfl) (by rfl) ?_ ?_
        rotate_left
        · intro wx hwx
          go_simp
          try with_reducible rfl
        try simp only [Act.put, List.setIfInBounds_toArray, List.set_cons_zero, List.set_cons_succ, List.getElem_toArray, List.getElem_cons_zero, List.getElem_cons_succ, Nat.zero_add, List.nil_append]
        refine GoL.take (i := 8) (v := ?_) rfl rfl (by kernel_rfl) (fun _ _ _ h => h) (fun _ _ => Iff.rfl) (by rfl) ?_ ?_
        rotate_left
        · intro wx hwx
          go_simp
          try with_reducible rfl
        try simp only [Act.put, List.setIfInBounds_toArray, List.set_cons_zero, List.set_cons_succ, List.getElem_toArray, List.getElem_cons_zero, List.getElem_cons_succ, Nat.zero_add, List.nil_append]
        refine GoL.take (i := 9) (v := ?_) rfl rfl (by kernel_rfl) (fun _ _ _ h => h) (fun _ _ => Iff.rfl) (by rfl) ?_ ?_
        rotate_left
        · intro wx hwx
          go_simp
          try with_reducible rfl
        try simp only [Act.put, List.setIfInBounds_toArray, List.set_cons_zero, List.set_cons_succ, List.getElem_toArray, List.getElem_cons_zero, List.getElem_cons_succ, Nat.zero_add, List.nil_append]
        refine GoL.take (i := 10) (v := ?_) rfl rfl (by kernel_rfl) (fun _ _ _ h => h) (fun _ _ => Iff.rfl) (by rfl) ?_ ?_
        rotate_left
        · intro wx hwx
          obtain ⟨y0, y1⟩ := hwx.at'
          go_simp
          try with_reducible rfl
        try simp only [Act.put, List.setIfInBounds_toArray, List.set_cons_zero, List.set_cons_succ, List.getElem_toArray, List.getElem_cons_zero, List.getElem_cons_succ, Nat.zero_add, List.nil_append]
        refine GoL.take (i := 11) (v := ?_) rfl rfl (by kernel_rfl) (fun _ _ _ h => h) (fun _ _ => Iff.rfl) (by rfl) ?_ ?_
        rotate_left
        · intro wx hwx
          go_simp
          try with_reducible rfl
        try simp only [Act.put, List.setIfInBounds_toArray, List.set_cons_zero, List.set_cons_succ, List.getElem_toArray, List.getElem_cons_zero, List.getElem_cons_succ, Nat.zero_add, List.nil_append]
        refine GoL.take (i := 12) (v := ?_) rfl rfl (by kernel_rfl) (fun _ _ _ h => h) (fun _ _ => Iff.rfl) (by rfl) ?_ ?_
        rotate_left
        · intro wx hwx
          obtain ⟨y0, y1⟩ := hwx.at'
          go_simp
          try with_reducible rfl
        try simp only [Act.put, List.setIfInBounds_toArray, List.set_cons_zero, List.set_cons_succ, List.getElem_toArray, List.getElem_cons_zero, List.getElem_cons_succ, Nat.zero_add, List.nil_append]
        refine GoL.on (rs := [5]) (by kernel_rfl) (by decide) ?_
        refine OnL.cons rfl ?_ OnL.nil
        intro K hK
        replace hK := Lib.hid hK
        go_simp
        refine (cP).mono ?_
        rintro e wz ⟨rfl, k3⟩
        clear cP
        refine hK.out _ _ (hS3 _ k3) ?_
        clear hK
        try simp only [Act.put, List.setIfInBounds_toArray, List.set_cons_zero, List.set_cons_succ, List.getElem_toArray, List.getElem_cons_zero, List.getElem_cons_succ, Nat.zero_add, List.nil_append]
        refine GoL.take (i := 13) (v := ?_) rfl rfl (by kernel_rfl) (fun _ _ _ h => h) (fun _ _ => Iff.rfl) (by rfl) ?_ ?_
        rotate_left
        · intro wx hwx
          go_simp
          try with_reducible rfl
        try simp only [Act.put, List.setIfInBounds_toArray, List.set_cons_zero, List.set_cons_succ, List.getElem_toArray, List.getElem_cons_zero, List.getElem_cons_succ, Nat.zero_add, List.nil_append]
        refine GoL.done (by kernel_rfl) ?_
        refine NoPanic.normal ?_
        obtain ⟨y0, y1⟩ := hS3 _ k3
        go_wp2_with (at_builtin; refine wpList_appG rfl (.tmp 81) (.tmp 86) 36 3 i1 _ 1 8 Tryd.underlying36 hi1 hz1 hs1' hb1' rfl (by decide) rfl ((hown _ k3).alloc _) (SrcG.one1 _ _ rfl _) rfl rfl (by omega) (by omega) ?_; intro ao' cap' ko' w5 ho5 hf5 hm5; have k5 := happ _ _ _ _ _ k3 ho5 hf5 hm5; clear ho5 hf5 hm5 y0 y1 happ hown; have y0 := hc _ k5.bel; have f1 := k5.free x; have c5 := k5.cell hx)
        have k6 := hset _ _ _ _ k5
        clear hS3 k3 k5 hset hc
        go_roundg (n0 - (i + 1))
        case measure => omega
        case rel => exact ⟨i + 1, wl ++ [x], ko', ao', cap', by omega, by rw [hln], by go_num, k6, hw20', hwi'⟩
    · have hw60 : wl.length ≤ 60 := by have := hwi.out; omega
      clear hI0 hwi
      obtain ⟨wn, hwn⟩ : ∃ n, n = wl.length := ⟨_, rfl⟩
      rw [← hwn] at hw60 ⊢
      replace hwn := Lib.hid hwn
      go_wp2_with fail
      go_loopg [10] n1 (fun j p10 wr => ∃ (i : Nat) (q : List Nat) (p : Nat → Bool), i + j = n1 ∧ p10 = .int .i64 (i : Int) ∧ Od W g bl be bs bi q q wl ko ao cap wr ∧ Hid (q = wl.filter p))
      case atStart => exact ⟨0, wl, fun _ => true, by omega, rfl, k, Lib.hid (List.filter_eq_self.2 (fun _ _ => rfl)).symm⟩
      case round =>
        clear k
        obtain ⟨i, q, p, hij, rfl, k, hqp⟩ := hrel
        by_cases hi : i < n1
        · obtain ⟨z, hz⟩ : ∃ z, zg[i]? = some z := ⟨_, List.getElem?_eq_getElem (by rw [← hn1.out]; exact hi)⟩
          obtain ⟨lb, loff, rfl, hc⟩ := hI1.all hz
          have hcz := hc wr k.bel
          have hil : (i : Int) < (n1 : Int) := by omega
          have hbk := k.bel
          have hcA := cA wr k.gl
          clear hI1 hz
          by_cases hzn : z < 0
          · clear k hc
            go_wp2_with (go_at_call 7; (with_reducible refine hcA.mono ?_); rintro e w3 ⟨rfl, hb3⟩)
            all_goals first
              | (exfalso; omega)
              | (go_ret; exact ⟨rfl, hbk.trans (hb3.mono hbk.size)⟩)
          by_cases hzg : 19 < z
          · clear k hc
            go_wp2_with (go_at_call 7; (with_reducible refine hcA.mono ?_); rintro e w3 ⟨rfl, hb3⟩)
            all_goals first
              | (exfalso; omega)
              | (go_ret; exact ⟨rfl, hbk.trans (hb3.mono hbk.size)⟩)
          obtain ⟨x, rfl⟩ : ∃ x : Nat, z = (x : Int) := ⟨z.toNat, by omega⟩
          have hx : x < 20 := by omega
          have hxI : (x : Int) < 20 := by omega
          have hd1 : decide ((x : Int) < 0) = false := decide_eq_false hzn
          have hd2 : decide (19 < (x : Int)) = false := decide_eq_false hzg
          have cR := odRem k x
          have y1 := k.cell hx
          have hcl := fun w (h : Od W g bl be bs bi (q.filter (fun y => !(y == x))) q wl ko ao cap w) => h.cell hx
          have hset := fun w (h : Od W g bl be bs bi (q.filter (fun y => !(y == x))) q wl ko ao cap w) => h.set (I' := q.filter (fun y => !(y == x))) (b := false) hx (by simp) (fun y hy => by simp [hy])
          have hqp' : Hid (q.filter (fun y => !(y == x)) = wl.filter (fun y => (!(y == x)) && p y)) := Lib.hid (by rw [hqp.out, List.filter_filter])
          generalize (Fq.one q).ofV (x : Int) = v at *
          generalize q.filter (fun y => !(y == x)) = q' at *
          generalize decide (x ∈ q) = b at *
          clear hcA hzn hzg k hbk cA hqp
          cases b
          all_goals
            go_wp2_with (go_at_call 15; (with_reducible refine cR.mono ?_); rintro e w3 ⟨rfl, k3⟩; clear cR y1 hcz; have hcz := hc _ k3.bel; have y1 := hcl _ k3; have f1 := k3.free x)
            have k4 := hset _ k3
            clear k3 hset hcl hc
            go_roundg (n1 - (i + 1))
            case measure => omega
            case rel => exact ⟨i + 1, q', _, by omega, by go_num, k4, hqp'⟩
        · clear hI1
          have hst : Hid (q = (wl.drop 0).filter (fun y => decide (y ∈ q))) := Lib.hid (by
            rw [List.drop_zero]
            refine hqp.out.trans (List.filter_congr fun y hy => ?_)
            rw [hqp.out, Bool.eq_iff_iff, decide_eq_true_iff, List.mem_filter]
            simp [hy])
          clear hqp
          go_wp2_with fail
          go_loopg [13] wn (fun j p13 wr => ∃ (i : Nat) (q2 : List Nat), i + j = wn ∧ p13 = .int .i64 (i : Int) ∧ Od W g bl be bs bi q2 q wl ko ao cap wr ∧ Hid (q2 = (wl.drop i).filter (fun y => decide (y ∈ q))))
          case atStart => exact ⟨0, q, by omega, rfl, k, hst⟩
          case round =>
            clear k hst
            obtain ⟨i, q2, hij, rfl, k, hst⟩ := hrel
            by_cases hi : i < wn
            · have hil : (i : Int) < (wn : Int) := by omega
              have hiw : i < wl.length := by rw [← hwn.out]; exact hi
              obtain ⟨y, hy⟩ : ∃ y, wl[i]? = some y := ⟨_, List.getElem?_eq_getElem hiw⟩
              have hdr : wl.drop i = y :: wl.drop (i + 1) := by
                rw [List.drop_eq_getElem_cons hiw]
                rw [List.getElem?_eq_getElem hiw] at hy
                cases hy
                rfl
              have hy20 : y < 20 := hw20.out y (List.mem_of_getElem? hy)
              have hyI : (y : Int) < 20 := by omega
              obtain ⟨kb, rfl, rfl⟩ := k.want hy
              have y0 := k.wcell hy
              have y1 := k.cell hy20
              by_cases hyq : y ∈ q
              · rw [decide_eq_true hyq] at y1
                have e2 : q2 = y :: (wl.drop (i + 1)).filter (fun y => decide (y ∈ q)) := by rw [hst.out, hdr, List.filter_cons_of_pos (by simpa using hyq)]
                rw [e2] at k
                have cP := odPop k
                have hwc := fun w (h : Od W g bl be bs bi ((wl.drop (i + 1)).filter (fun y => decide (y ∈ q))) q wl (some kb) (some ⟨kb, 0, none⟩) cap w) => h.wcell hy
                generalize hq3 : (wl.drop (i + 1)).filter (fun y => decide (y ∈ q)) = q3 at *
                have hst' : Hid (q3 = (wl.drop (i + 1)).filter (fun y => decide (y ∈ q))) := Lib.hid hq3.symm
                clear hq3 e2 hst k hdr hy hyq hiw cA hw20
                go_wp2_with (go_at_call 16; (with_reducible refine cP.mono ?_); rintro e w3 ⟨rfl, k3⟩; clear cP y0 y1; have y0 := hwc _ k3)
                go_roundg (wn - (i + 1))
                case measure => omega
                case rel => exact ⟨i + 1, q3, by omega, by go_num, k3, hst'⟩
              · rw [decide_eq_false hyq] at y1
                have hst' : Hid (q2 = (wl.drop (i + 1)).filter (fun y => decide (y ∈ q))) := Lib.hid (by rw [hst.out, hdr, List.filter_cons_of_neg (by simpa using hyq)])
                clear hst hdr hy hyq hiw cA hw20
                go_wp2_with fail
                go_roundg (wn - (i + 1))
                case measure => omega
                case rel => exact ⟨i + 1, q2, by omega, by go_num, k, hst'⟩
            · have e2 : q2 = [] := by
                rw [hst.out, List.drop_eq_nil_of_le (by rw [← hwn.out]; omega)]
                rfl
              rw [e2] at k
              have cP := odPopNil k
              clear hst k e2 hw20
              go_wp2_with (first
                | (go_at_call 16; (with_reducible refine cP.mono ?_); rintro e w3 ⟨rfl, k3⟩; clear cP)
                | (go_at_call 7; (with_reducible refine (cA _ k3.gl).mono ?_); rintro e w4 ⟨rfl, hb4⟩))
              go_ret
              exact ⟨rfl, k3.bel.trans (hb4.mono k3.bel.size)⟩
end Go.Proofs.YtipmhialflincaaDoor
