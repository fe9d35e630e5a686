/-
  IndexApart. (Written by gen/p_iap.py.)
-/
import Derived.Test.YtbfidpngpdaieaaIbx
import Derived.Test.YtbfidpngpdaieaaKstV
import Derived.Test.YtbfidpngpdaieaaRegL
namespace Go.Proofs.Ytbfidpngpdaieaa
open Go.RowKit
set_option linter.unusedSimpArgs false
/-- The program's index, whose blocks are S and new ones; of what was there at v only S has turned. -/
structure Xt (v : World) (S : Nat → Prop) (g k : Nat) (l : List Ixr) (w : World) : Prop where
  frm : Frm S v w
  px : ∃ S', PX w g S' k l ∧ ∀ c, S' c → S c ∨ v.heap.size ≤ c
section
variable {v w w' : World} {S : Nat → Prop} {g k : Nat} {l : List Ixr}
theorem Xt.below (h : Xt v S g k l w) (hb : Below w.heap.size w w') : Xt v S g k l w' := by
  obtain ⟨S', h1, h2⟩ := h.px
  exact ⟨h.frm.trans (Frm.of_below (S := S) hb) (fun _ e => .inl e), S', h1.below hb, h2⟩
theorem Xt.put (h : Xt v S g k l w) (hk : k < 100000) {s d t : Int} (hs : In64 s) (hd : In64 d) (ht : In64 t) : Calls Try.prog 12 #[.pointer (some ⟨g, 0, none⟩), .agg #[.int .i64 s, .int .i64 d], .int .i64 t] w fun e w' => e = .returned (.bool (ixg l s d).isNone) ∧ Xt v S g (k + 1) (ixPut l s d t) w' := by
  obtain ⟨S', h1, h2⟩ := h.px
  exact (xput_any s d t hs hd ht h1 hk).mono fun _ _ ⟨he, ⟨S2, h3, h4⟩, hf⟩ => ⟨he, h.frm.trans hf h2, S2, h3, fun c hc => (h4 c hc).elim (h2 c) (fun g => .inr (Nat.le_trans h.frm.size g))⟩
theorem Xt.drop (h : Xt v S g k l w) {s d : Int} (hs : In64 s) (hd : In64 d) : Calls Try.prog 13 #[.pointer (some ⟨g, 0, none⟩), .agg #[.int .i64 s, .int .i64 d]] w fun e w' => e = .returned (.bool (ixg l s d).isSome) ∧ Xt v S g k (ixDrop l s d) w' := by
  obtain ⟨S', h1, h2⟩ := h.px
  exact (xdrop_any s d hs hd h1).mono fun _ _ ⟨he, h3, hf⟩ => ⟨he, h.frm.trans hf h2, S', h3, h2⟩
theorem Xt.clear (h : Xt v S g k l w) (hl : l.length ≤ 100000) (s : Int) : Calls Try.prog 14 #[.pointer (some ⟨g, 0, none⟩), .int .i64 s] w fun e w' => e = .returned (.int .i64 ((ixIs l s).length : Nat)) ∧ Xt v S g k (ixClr l s) w' := by
  obtain ⟨S', h1, h2⟩ := h.px
  exact (xclear_any s h1 hl).mono fun _ _ ⟨he, h3, hf⟩ => ⟨he, h.frm.trans hf h2, S', h3, h2⟩
theorem Xt.get (h : Xt v S g k l w) {s d : Int} (hs : In64 s) (hd : In64 d) : Calls Try.prog 15 #[.pointer (some ⟨g, 0, none⟩), .agg #[.int .i64 s, .int .i64 d]] w fun e w' => e = .returned (.tuple #[.int .i64 ((ixg l s d).getD 0), .bool (ixg l s d).isSome]) ∧ Xt v S g k l w' := by
  obtain ⟨S', h1, h2⟩ := h.px
  exact (xget_any s d hs hd h1).mono fun _ _ ⟨he, hb⟩ => ⟨he, h.below hb⟩
theorem Xt.len (h : Xt v S g k l w) (hl : l.length ≤ 100000) (s : Int) : Calls Try.prog 9 #[.pointer (some ⟨g, 0, none⟩), .int .i64 s] w fun e w' => e = .returned (.int .i64 ((ixIs l s).length : Nat)) ∧ Xt v S g k l w' := by
  obtain ⟨S', h1, h2⟩ := h.px
  exact (xlen_any s h1 hl).mono fun _ _ ⟨he, hb⟩ => ⟨he, h.below hb⟩
end
/-- The law's boxes: the two acts (behind W), their keys (behind v). -/
def Cap (W v : World) (a b : Iac) (w : World) : Prop :=
  w.cell? ⟨W.heap.size, 0, none⟩ = some (.int .i64 a.kind) ∧ w.cell? ⟨W.heap.size, 1, none⟩ = some (.int .i64 a.sym) ∧ w.cell? ⟨W.heap.size, 2, none⟩ = some (.int .i64 a.slot) ∧ w.cell? ⟨W.heap.size, 3, none⟩ = some (.int .i64 a.id) ∧
  w.cell? ⟨W.heap.size + 1, 0, none⟩ = some (.int .i64 b.kind) ∧ w.cell? ⟨W.heap.size + 1, 1, none⟩ = some (.int .i64 b.sym) ∧ w.cell? ⟨W.heap.size + 1, 2, none⟩ = some (.int .i64 b.slot) ∧ w.cell? ⟨W.heap.size + 1, 3, none⟩ = some (.int .i64 b.id) ∧
  w.cell? ⟨v.heap.size, 0, none⟩ = some (.int .i64 a.sym) ∧ w.cell? ⟨v.heap.size, 1, none⟩ = some (.int .i64 a.id) ∧ w.cell? ⟨v.heap.size + 1, 0, none⟩ = some (.int .i64 b.sym) ∧ w.cell? ⟨v.heap.size + 1, 1, none⟩ = some (.int .i64 b.id)
theorem cap_start {W v : World} {a b : Iac} {S : Nat → Prop} {g : Nat} (hb : Below ((W.alloc (.cells (cIac a) 32)).alloc (.cells (cIac b) 32)).heap.size ((W.alloc (.cells (cIac a) 32)).alloc (.cells (cIac b) 32)) v)
    (h : PX v g S 0 []) (hS : ∀ c, S c → W.heap.size + 2 ≤ c) :
    ∃ v2, v2 = (v.alloc (.cells #[.int .i64 a.sym, .int .i64 a.id] 43)).alloc (.cells #[.int .i64 b.sym, .int .i64 b.id] 43) ∧ Xt v2 S g 0 [] v2 ∧ Below W.heap.size W v2 ∧ (∀ k l w, Xt v2 S g k l w → Cap W v a b w) ∧ (∀ k l w, Xt v2 S g k l w → Below W.heap.size W w) ∧
      v.cell? ⟨W.heap.size, 1, none⟩ = some (.int .i64 a.sym) ∧ v.cell? ⟨W.heap.size, 3, none⟩ = some (.int .i64 a.id) ∧ (v.alloc (.cells #[.int .i64 a.sym, .int .i64 a.id] 43)).cell? ⟨W.heap.size + 1, 1, none⟩ = some (.int .i64 b.sym) ∧ (v.alloc (.cells #[.int .i64 a.sym, .int .i64 a.id] 43)).cell? ⟨W.heap.size + 1, 3, none⟩ = some (.int .i64 b.id) := by
  have hv := hb.size
  have hb0 := hb
  simp only [World.size_alloc] at hv hb
  have ka : Blk v W.heap.size 32 (cIac a) := ((Blk.new W _ _).alloc _).below hb0 (by simp; omega)
  have kb : Blk v (W.heap.size + 1) 32 (cIac b) := (Blk.new' (by simp)).below hb0 (by simp)
  have hv1 : Below v.heap.size v (v.alloc (.cells #[.int .i64 a.sym, .int .i64 a.id] 43)) := (Below.refl _ _).alloc (Nat.le_refl _) _
  have hv2 : Below v.heap.size v ((v.alloc (.cells #[.int .i64 a.sym, .int .i64 a.id] 43)).alloc (.cells #[.int .i64 b.sym, .int .i64 b.id] 43)) := hv1.alloc hv1.size _
  have hW : Below W.heap.size W v := (((Below.refl _ W).alloc (Nat.le_refl _) (.cells (cIac a) 32)).alloc (by simp) (.cells (cIac b) 32)).trans (hb.mono (by omega))
  have ka1 := Iac.cells (ka.below hv1 ka.lt)
  have kb1 := Iac.cells (kb.below hv1 kb.lt)
  have ka0 := Iac.cells ka
  refine ⟨_, rfl, ⟨Frm.refl _ _, S, h.below hv2, fun c e => .inl e⟩, hW.trans (hv2.mono hW.size), fun k l w q => ?_, fun k l w q => (hW.trans (hv2.mono hW.size)).trans (q.frm.below (Nat.le_trans hW.size hv2.size) (fun c e => by have := hS c e; omega)), ka0.2.1, ka0.2.2.2, kb1.2.1, kb1.2.2.2⟩
  have hno : ∀ c, c < W.heap.size + 2 → ¬ S c := fun c hc e => by have := hS c e; omega
  have hno2 : ∀ c, v.heap.size ≤ c → ¬ S c := fun c hc e => by have := h.lt c e; omega
  have ka2 := Iac.cells (blk_frmX (ka.below hv2 ka.lt) q.frm (hno _ (by omega)))
  have kb2 := Iac.cells (blk_frmX (kb.below hv2 kb.lt) q.frm (hno _ (by omega)))
  have kp : Blk w v.heap.size 43 #[.int .i64 a.sym, .int .i64 a.id] := blk_frmX ((Blk.new v _ _).alloc _) q.frm (hno2 _ (Nat.le_refl _))
  have kq : Blk w (v.heap.size + 1) 43 #[.int .i64 b.sym, .int .i64 b.id] := blk_frmX (Blk.new' (by simp)) q.frm (hno2 _ (Nat.le_succ _))
  exact ⟨ka2.1, ka2.2.1, ka2.2.2.1, ka2.2.2.2, kb2.1, kb2.2.1, kb2.2.2.1, kb2.2.2.2, kp.cell_eq 0 _ rfl, kp.cell_eq 1 _ rfl, kq.cell_eq 0 _ rfl, kq.cell_eq 1 _ rfl⟩
set_option maxRecDepth 8000 in
set_option maxHeartbeats 8000000 in
theorem iapart_any (a b : Iac) (ha : a.Fit) (hb : b.Fit) (W : World) :
    Calls Try.prog 5 #[vIac a, vIac b] W fun e w' => e = .returned (.bool true) ∧ Below W.heap.size W w' := by
  have cA := fun w => alive_any w
  have hN := xnew_any ((W.alloc (.cells (cIac a) 32)).alloc (.cells (cIac b) 32))
  have n1 := fun w => xputNil_any a.sym a.id 1 w
  have n2 := fun w => xdropNil_any a.sym a.id w
  have n3 := fun w => xlenNil_any a.sym w
  have n4 := fun w => xclearNil_any a.sym w
  have n5 := fun w => xgetNil_any a.sym a.id w
  simp only [cIac] at hN
  go_enter Try.func5, Try.ntmps5
  go_wp2_with (go_at_call 7; refine hN.mono ?_; rintro e v1 ⟨g, S, rfl, hP, hS, hB⟩; clear hN; obtain ⟨v2, hv2, k1, hW2, hcap, hbel, y1, y3, z1, z3⟩ := cap_start (a := a) (b := b) hB hP (fun c e => by have := hS c e; simpa using this); clear hP hS hB)
  rw [← hv2]
  clear hv2 y1 y3 z1 z3
  have k1 := k1.below ((Below.refl _ _).drew)
  have c1 : Calls Try.prog 12 #[.pointer (some ⟨g, 0, none⟩), .agg #[.int .i64 a.sym, .int .i64 a.id], .int .i64 a.slot] v2.drew fun e w' => e = .returned (.bool true) ∧ Xt v2 S g 1 [⟨a.sym, a.id, a.slot⟩] w' := k1.put (by omega) ha.sym ha.id ha.slot
  refine GoL.start (S := fun _ w => Cap W v1 a b w) (by kernel_rfl) (hcap _ _ _ k1) ?_
  refine GoL.take (i := 0) (v := ?_) rfl rfl (by kernel_rfl) (fun _ _ _ h => h) (fun _ _ => Iff.rfl) (by rfl) ?_ ?_
  rotate_left
  · intro wx hwx
    go_simp
    try with_reducible rfl
  try simp only [Act.put, List.setIfInBounds_toArray, List.set_cons_zero, List.set_cons_succ, List.getElem_toArray, List.getElem_cons_zero, List.getElem_cons_succ, Nat.zero_add, List.nil_append]
  refine GoL.take (i := 1) (v := ?_) rfl rfl (by kernel_rfl) (fun _ _ _ h => h) (fun _ _ => Iff.rfl) (by rfl) ?_ ?_
  rotate_left
  · intro wx hwx
    have x0 := hwx.at'
    obtain ⟨a0, a1, a2, a3, b0, b1, b2, b3, p0, p1, q0, q1⟩ := x0
    go_simp
    try with_reducible rfl
  try simp only [Act.put, List.setIfInBounds_toArray, List.set_cons_zero, List.set_cons_succ, List.getElem_toArray, List.getElem_cons_zero, List.getElem_cons_succ, Nat.zero_add, List.nil_append]
  refine GoL.take (i := 2) (v := ?_) rfl rfl (by kernel_rfl) (fun _ _ _ h => h) (fun _ _ => Iff.rfl) (by rfl) ?_ ?_
  rotate_left
  · intro wx hwx
    go_simp
    try with_reducible rfl
  try simp only [Act.put, List.setIfInBounds_toArray, List.set_cons_zero, List.set_cons_succ, List.getElem_toArray, List.getElem_cons_zero, List.getElem_cons_succ, Nat.zero_add, List.nil_append]
  refine GoL.take (i := 3) (v := ?_) rfl rfl (by kernel_rfl) (fun _ _ _ h => h) (fun _ _ => Iff.rfl) (by rfl) ?_ ?_
  rotate_left
  · intro wx hwx
    have x0 := hwx.at'
    obtain ⟨a0, a1, a2, a3, b0, b1, b2, b3, p0, p1, q0, q1⟩ := x0
    go_simp
    try with_reducible rfl
  try simp only [Act.put, List.setIfInBounds_toArray, List.set_cons_zero, List.set_cons_succ, List.getElem_toArray, List.getElem_cons_zero, List.getElem_cons_succ, Nat.zero_add, List.nil_append]
  refine GoL.on (rs := [4]) (by kernel_rfl) (by decide) ?_
  refine OnL.cons rfl ?_ OnL.nil
  intro K hK
  replace hK := Lib.hid hK
  go_simp
  refine (c1).mono ?_
  rintro e u2 ⟨rfl, k2⟩
  clear c1
  refine hK.out _ _ (hcap _ _ _ k2) ?_
  clear hK
  try simp only [Act.put, List.setIfInBounds_toArray, List.set_cons_zero, List.set_cons_succ, List.getElem_toArray, List.getElem_cons_zero, List.getElem_cons_succ, Nat.zero_add, List.nil_append]
  refine GoL.take (i := 5) (v := ?_) rfl rfl (by kernel_rfl) (fun _ _ _ h => h) (fun _ _ => Iff.rfl) (by rfl) ?_ ?_
  rotate_left
  · intro wx hwx
    go_simp
    try with_reducible rfl
  try simp only [Act.put, List.setIfInBounds_toArray, List.set_cons_zero, List.set_cons_succ, List.getElem_toArray, List.getElem_cons_zero, List.getElem_cons_succ, Nat.zero_add, List.nil_append]
  refine GoL.take (i := 6) (v := ?_) rfl rfl (by kernel_rfl) (fun _ _ _ h => h) (fun _ _ => Iff.rfl) (by rfl) ?_ ?_
  rotate_left
  · intro wx hwx
    go_simp
    try with_reducible rfl
  try simp only [Act.put, List.setIfInBounds_toArray, List.set_cons_zero, List.set_cons_succ, List.getElem_toArray, List.getElem_cons_zero, List.getElem_cons_succ, Nat.zero_add, List.nil_append]
  refine GoL.take (i := 7) (v := ?_) rfl rfl (by kernel_rfl) (fun _ _ _ h => h) (fun _ _ => Iff.rfl) (by rfl) ?_ ?_
  rotate_left
  · intro wx hwx
    go_simp
    try with_reducible rfl
  try simp only [Act.put, List.setIfInBounds_toArray, List.set_cons_zero, List.set_cons_succ, List.getElem_toArray, List.getElem_cons_zero, List.getElem_cons_succ, Nat.zero_add, List.nil_append]
  refine GoL.take (i := 8) (v := ?_) rfl rfl (by kernel_rfl) (fun _ _ _ h => h) (fun _ _ => Iff.rfl) (by rfl) ?_ ?_
  rotate_left
  · intro wx hwx
    have x0 := hwx.at'
    obtain ⟨a0, a1, a2, a3, b0, b1, b2, b3, p0, p1, q0, q1⟩ := x0
    go_simp
    try with_reducible rfl
  try simp only [Act.put, List.setIfInBounds_toArray, List.set_cons_zero, List.set_cons_succ, List.getElem_toArray, List.getElem_cons_zero, List.getElem_cons_succ, Nat.zero_add, List.nil_append]
  refine GoL.on (rs := [9]) (by kernel_rfl) (by decide) ?_
  refine OnL.cons rfl ?_ OnL.nil
  intro K hK
  replace hK := Lib.hid hK
  go_simp
  refine (n1 u2).mono ?_
  rintro e u3 ⟨rfl, hb⟩
  replace k2 := k2.below hb
  clear n1 hb
  refine hK.out _ _ (hcap _ _ _ k2) ?_
  clear hK
  try simp only [Act.put, List.setIfInBounds_toArray, List.set_cons_zero, List.set_cons_succ, List.getElem_toArray, List.getElem_cons_zero, List.getElem_cons_succ, Nat.zero_add, List.nil_append]
  refine GoL.take (i := 10) (v := ?_) rfl rfl (by kernel_rfl) (fun _ _ _ h => h) (fun _ _ => Iff.rfl) (by rfl) ?_ ?_
  rotate_left
  · intro wx hwx
    go_simp
    try with_reducible rfl
  try simp only [Act.put, List.setIfInBounds_toArray, List.set_cons_zero, List.set_cons_succ, List.getElem_toArray, List.getElem_cons_zero, List.getElem_cons_succ, Nat.zero_add, List.nil_append]
  refine GoL.take (i := 11) (v := ?_) rfl rfl (by kernel_rfl) (fun _ _ _ h => h) (fun _ _ => Iff.rfl) (by rfl) ?_ ?_
  rotate_left
  · intro wx hwx
    go_simp
    try with_reducible rfl
  try simp only [Act.put, List.setIfInBounds_toArray, List.set_cons_zero, List.set_cons_succ, List.getElem_toArray, List.getElem_cons_zero, List.getElem_cons_succ, Nat.zero_add, List.nil_append]
  refine GoL.take (i := 12) (v := ?_) rfl rfl (by kernel_rfl) (fun _ _ _ h => h) (fun _ _ => Iff.rfl) (by rfl) ?_ ?_
  rotate_left
  · intro wx hwx
    go_simp
    try with_reducible rfl
  try simp only [Act.put, List.setIfInBounds_toArray, List.set_cons_zero, List.set_cons_succ, List.getElem_toArray, List.getElem_cons_zero, List.getElem_cons_succ, Nat.zero_add, List.nil_append]
  refine GoL.take (i := 13) (v := ?_) rfl rfl (by kernel_rfl) (fun _ _ _ h => h) (fun _ _ => Iff.rfl) (by rfl) ?_ ?_
  rotate_left
  · intro wx hwx
    have x0 := hwx.at'
    obtain ⟨a0, a1, a2, a3, b0, b1, b2, b3, p0, p1, q0, q1⟩ := x0
    go_simp
    try with_reducible rfl
  try simp only [Act.put, List.setIfInBounds_toArray, List.set_cons_zero, List.set_cons_succ, List.getElem_toArray, List.getElem_cons_zero, List.getElem_cons_succ, Nat.zero_add, List.nil_append]
  refine GoL.on (rs := [14]) (by kernel_rfl) (by decide) ?_
  refine OnL.cons rfl ?_ OnL.nil
  intro K hK
  replace hK := Lib.hid hK
  go_simp
  refine (n2 u3).mono ?_
  rintro e u4 ⟨rfl, hb⟩
  replace k2 := k2.below hb
  clear n2 hb
  refine hK.out _ _ (hcap _ _ _ k2) ?_
  clear hK
  try simp only [Act.put, List.setIfInBounds_toArray, List.set_cons_zero, List.set_cons_succ, List.getElem_toArray, List.getElem_cons_zero, List.getElem_cons_succ, Nat.zero_add, List.nil_append]
  refine GoL.take (i := 15) (v := ?_) rfl rfl (by kernel_rfl) (fun _ _ _ h => h) (fun _ _ => Iff.rfl) (by rfl) ?_ ?_
  rotate_left
  · intro wx hwx
    go_simp
    try with_reducible rfl
  try simp only [Act.put, List.setIfInBounds_toArray, List.set_cons_zero, List.set_cons_succ, List.getElem_toArray, List.getElem_cons_zero, List.getElem_cons_succ, Nat.zero_add, List.nil_append]
  refine GoL.take (i := 16) (v := ?_) rfl rfl (by kernel_rfl) (fun _ _ _ h => h) (fun _ _ => Iff.rfl) (by rfl) ?_ ?_
  rotate_left
  · intro wx hwx
    go_simp
    try with_reducible rfl
  try simp only [Act.put, List.setIfInBounds_toArray, List.set_cons_zero, List.set_cons_succ, List.getElem_toArray, List.getElem_cons_zero, List.getElem_cons_succ, Nat.zero_add, List.nil_append]
  refine GoL.take (i := 17) (v := ?_) rfl rfl (by kernel_rfl) (fun _ _ _ h => h) (fun _ _ => Iff.rfl) (by rfl) ?_ ?_
  rotate_left
  · intro wx hwx
    go_simp
    try with_reducible rfl
  try simp only [Act.put, List.setIfInBounds_toArray, List.set_cons_zero, List.set_cons_succ, List.getElem_toArray, List.getElem_cons_zero, List.getElem_cons_succ, Nat.zero_add, List.nil_append]
  refine GoL.take (i := 18) (v := ?_) rfl rfl (by kernel_rfl) (fun _ _ _ h => h) (fun _ _ => Iff.rfl) (by rfl) ?_ ?_
  rotate_left
  · intro wx hwx
    go_simp
    try with_reducible rfl
  try simp only [Act.put, List.setIfInBounds_toArray, List.set_cons_zero, List.set_cons_succ, List.getElem_toArray, List.getElem_cons_zero, List.getElem_cons_succ, Nat.zero_add, List.nil_append]
  refine GoL.take (i := 19) (v := ?_) rfl rfl (by kernel_rfl) (fun _ _ _ h => h) (fun _ _ => Iff.rfl) (by rfl) ?_ ?_
  rotate_left
  · intro wx hwx
    have x0 := hwx.at'
    obtain ⟨a0, a1, a2, a3, b0, b1, b2, b3, p0, p1, q0, q1⟩ := x0
    go_simp
    try with_reducible rfl
  try simp only [Act.put, List.setIfInBounds_toArray, List.set_cons_zero, List.set_cons_succ, List.getElem_toArray, List.getElem_cons_zero, List.getElem_cons_succ, Nat.zero_add, List.nil_append]
  refine GoL.take (i := 21) (v := ?_) rfl rfl (by kernel_rfl) (fun _ _ _ h => h) (fun _ _ => Iff.rfl) (by rfl) ?_ ?_
  rotate_left
  · intro wx hwx
    go_simp
    try with_reducible rfl
  try simp only [Act.put, List.setIfInBounds_toArray, List.set_cons_zero, List.set_cons_succ, List.getElem_toArray, List.getElem_cons_zero, List.getElem_cons_succ, Nat.zero_add, List.nil_append]
  refine GoL.take (i := 22) (v := ?_) rfl rfl (by kernel_rfl) (fun _ _ _ h => h) (fun _ _ => Iff.rfl) (by rfl) ?_ ?_
  rotate_left
  · intro wx hwx
    go_simp
    try with_reducible rfl
  try simp only [Act.put, List.setIfInBounds_toArray, List.set_cons_zero, List.set_cons_succ, List.getElem_toArray, List.getElem_cons_zero, List.getElem_cons_succ, Nat.zero_add, List.nil_append]
  refine GoL.take (i := 23) (v := ?_) rfl rfl (by kernel_rfl) (fun _ _ _ h => h) (fun _ _ => Iff.rfl) (by rfl) ?_ ?_
  rotate_left
  · intro wx hwx
    have x0 := hwx.at'
    obtain ⟨a0, a1, a2, a3, b0, b1, b2, b3, p0, p1, q0, q1⟩ := x0
    go_simp
    try with_reducible rfl
  try simp only [Act.put, List.setIfInBounds_toArray, List.set_cons_zero, List.set_cons_succ, List.getElem_toArray, List.getElem_cons_zero, List.getElem_cons_succ, Nat.zero_add, List.nil_append]
  refine GoL.on (rs := [20]) (by kernel_rfl) (by decide) ?_
  refine OnL.cons rfl ?_ OnL.nil
  intro K hK
  replace hK := Lib.hid hK
  go_simp
  refine (n3 u4).mono ?_
  rintro e u5 ⟨rfl, hb⟩
  replace k2 := k2.below hb
  clear n3 hb
  refine hK.out _ _ (hcap _ _ _ k2) ?_
  clear hK
  try simp only [Act.put, List.setIfInBounds_toArray, List.set_cons_zero, List.set_cons_succ, List.getElem_toArray, List.getElem_cons_zero, List.getElem_cons_succ, Nat.zero_add, List.nil_append]
  refine GoL.on (rs := [24]) (by kernel_rfl) (by decide) ?_
  refine OnL.cons rfl ?_ OnL.nil
  intro K hK
  replace hK := Lib.hid hK
  go_simp
  refine (n4 u5).mono ?_
  rintro e u6 ⟨rfl, hb⟩
  replace k2 := k2.below hb
  clear n4 hb
  refine hK.out _ _ (hcap _ _ _ k2) ?_
  clear hK
  try simp only [Act.put, List.setIfInBounds_toArray, List.set_cons_zero, List.set_cons_succ, List.getElem_toArray, List.getElem_cons_zero, List.getElem_cons_succ, Nat.zero_add, List.nil_append]
  refine GoL.take (i := 25) (v := ?_) rfl rfl (by kernel_rfl) (fun _ _ _ h => h) (fun _ _ => Iff.rfl) (by rfl) ?_ ?_
  rotate_left
  · intro wx hwx
    go_simp
    try with_reducible rfl
  try simp only [Act.put, List.setIfInBounds_toArray, List.set_cons_zero, List.set_cons_succ, List.getElem_toArray, List.getElem_cons_zero, List.getElem_cons_succ, Nat.zero_add, List.nil_append]
  refine GoL.take (i := 26) (v := ?_) rfl rfl (by kernel_rfl) (fun _ _ _ h => h) (fun _ _ => Iff.rfl) (by rfl) ?_ ?_
  rotate_left
  · intro wx hwx
    go_simp
    try with_reducible rfl
  try simp only [Act.put, List.setIfInBounds_toArray, List.set_cons_zero, List.set_cons_succ, List.getElem_toArray, List.getElem_cons_zero, List.getElem_cons_succ, Nat.zero_add, List.nil_append]
  refine GoL.take (i := 27) (v := ?_) rfl rfl (by kernel_rfl) (fun _ _ _ h => h) (fun _ _ => Iff.rfl) (by rfl) ?_ ?_
  rotate_left
  · intro wx hwx
    go_simp
    try with_reducible rfl
  try simp only [Act.put, List.setIfInBounds_toArray, List.set_cons_zero, List.set_cons_succ, List.getElem_toArray, List.getElem_cons_zero, List.getElem_cons_succ, Nat.zero_add, List.nil_append]
  refine GoL.done (by kernel_rfl) ?_
  refine NoPanic.normal ?_
  have hne := neq_Kst ⟨a.sym, a.id⟩ ⟨b.sym, b.id⟩
  have cL : ∀ k w, Xt v2 S g k [⟨a.sym, a.id, a.slot⟩] w → Calls Try.prog 9 #[.pointer (some ⟨g, 0, none⟩), .int .i64 a.sym] w fun e w' => e = .returned (.int .i64 1) ∧ Xt v2 S g k [⟨a.sym, a.id, a.slot⟩] w' := fun k w h => by
    have := h.len (by simp) a.sym
    rwa [show (ixIs [(⟨a.sym, a.id, a.slot⟩ : Ixr)] a.sym).length = 1 by simp [ixIs]] at this
  have cC : ∀ k w, Xt v2 S g k [⟨a.sym, a.id, a.slot⟩] w → Calls Try.prog 14 #[.pointer (some ⟨g, 0, none⟩), .int .i64 a.sym] w fun e w' => e = .returned (.int .i64 1) ∧ Xt v2 S g k (ixClr [⟨a.sym, a.id, a.slot⟩] a.sym) w' := fun k w h => by
    have := h.clear (by simp) a.sym
    rwa [show (ixIs [(⟨a.sym, a.id, a.slot⟩ : Ixr)] a.sym).length = 1 by simp [ixIs]] at this
  have g1 : ixg [(⟨a.sym, a.id, a.slot⟩ : Ixr)] a.sym a.id = some a.slot := by simp [ixg, ixf, List.findIdx?_cons]
  have cG : ∀ k w, Xt v2 S g k [⟨a.sym, a.id, a.slot⟩] w → Calls Try.prog 15 #[.pointer (some ⟨g, 0, none⟩), .agg #[.int .i64 a.sym, .int .i64 a.id]] w fun e w' => e = .returned (.tuple #[.int .i64 a.slot, .bool true]) ∧ Xt v2 S g k [⟨a.sym, a.id, a.slot⟩] w' := fun k w h => by
    have := h.get ha.sym ha.id
    rwa [g1] at this
  by_cases hk : a.sym = b.sym ∧ a.id = b.id
  · have c2 : Calls Try.prog 12 #[.pointer (some ⟨g, 0, none⟩), .agg #[.int .i64 b.sym, .int .i64 b.id], .int .i64 b.slot] u6 fun e w' => e = .returned (.bool false) ∧ Xt v2 S g 2 [⟨a.sym, a.id, a.slot⟩] w' := by
      have := k2.put (by omega) hb.sym hb.id hb.slot
      rw [← hk.1, ← hk.2] at this
      rw [← hk.1, ← hk.2]
      unfold ixPut at this
      rw [g1, (ixg_some.1 g1).choose_spec.1] at this
      exact this
    have hq : eqKst ⟨a.sym, a.id⟩ ⟨b.sym, b.id⟩ = true := by simp [eqKst, hk]
    rw [hq] at hne
    simp only [vKst, cKst] at hne
    obtain ⟨a0, a1, a2, a3, b0, b1, b2, b3, p0, p1, q0, q1⟩ := hcap _ _ _ k2
    clear hq hk g1 k1
    go_wp2_with (first
      | (go_at_call 12; (with_reducible refine (c2).mono ?_); rintro e u7 ⟨rfl, k7⟩; clear c2; clear a0 a1 a2 a3 b0 b1 b2 b3 p0 p1 q0 q1; obtain ⟨a0, a1, a2, a3, b0, b1, b2, b3, p0, p1, q0, q1⟩ := hcap _ _ _ k7)
      | (go_at_call 15; (with_reducible refine (cG _ _ k7).mono ?_); rintro e u8 ⟨rfl, k8⟩; clear a0 a1 a2 a3 b0 b1 b2 b3 p0 p1 q0 q1; obtain ⟨a0, a1, a2, a3, b0, b1, b2, b3, p0, p1, q0, q1⟩ := hcap _ _ _ k8)
      | (go_at_call 15; (with_reducible refine (cG _ _ k8).mono ?_); rintro e u9 ⟨rfl, k9⟩; clear cG; clear a0 a1 a2 a3 b0 b1 b2 b3 p0 p1 q0 q1; obtain ⟨a0, a1, a2, a3, b0, b1, b2, b3, p0, p1, q0, q1⟩ := hcap _ _ _ k9)
      | (go_at_call 15; (with_reducible refine (n5 _).mono ?_); rintro e u10 ⟨rfl, hb10⟩; have k10 := k9.below hb10; clear n5; clear a0 a1 a2 a3 b0 b1 b2 b3 p0 p1 q0 q1; obtain ⟨a0, a1, a2, a3, b0, b1, b2, b3, p0, p1, q0, q1⟩ := hcap _ _ _ k10)
      | (go_at_call 9; (with_reducible refine (cL _ _ k10).mono ?_); rintro e u11 ⟨rfl, k11⟩; clear cL; clear a0 a1 a2 a3 b0 b1 b2 b3 p0 p1 q0 q1; obtain ⟨a0, a1, a2, a3, b0, b1, b2, b3, p0, p1, q0, q1⟩ := hcap _ _ _ k11)
      | (go_at_call 14; (with_reducible refine (cC _ _ k11).mono ?_); rintro e u12 ⟨rfl, k12⟩; clear cC; clear a0 a1 a2 a3 b0 b1 b2 b3 p0 p1 q0 q1; obtain ⟨a0, a1, a2, a3, b0, b1, b2, b3, p0, p1, q0, q1⟩ := hcap _ _ _ k12)
      | (go_at_call 6; (with_reducible refine (cA _).mono ?_); rintro e u13 ⟨rfl, hb13⟩; have k13 := k12.below hb13)
      | fail)
    go_ret
    exact ⟨by simp, hbel _ _ _ k13⟩
  · have hkb : (a.sym == b.sym && a.id == b.id) = false := by
      cases h : (a.sym == b.sym && a.id == b.id) with
      | false => rfl
      | true => exact absurd (by simpa using h) hk
    have gb : ixf [(⟨a.sym, a.id, a.slot⟩ : Ixr)] b.sym b.id = none := by simp [ixf, List.findIdx?_cons, hkb]
    have fb : ixf [(⟨a.sym, a.id, a.slot⟩ : Ixr), ⟨b.sym, b.id, b.slot⟩] b.sym b.id = some 1 := by simp [ixf, List.findIdx?_cons, hkb]
    have ga2 : ixg [(⟨a.sym, a.id, a.slot⟩ : Ixr), ⟨b.sym, b.id, b.slot⟩] a.sym a.id = some a.slot := by simp [ixg, ixf, List.findIdx?_cons]
    have gb2 : ixg [(⟨a.sym, a.id, a.slot⟩ : Ixr), ⟨b.sym, b.id, b.slot⟩] b.sym b.id = some b.slot := by unfold ixg; rw [fb]; rfl
    have c2 : Calls Try.prog 12 #[.pointer (some ⟨g, 0, none⟩), .agg #[.int .i64 b.sym, .int .i64 b.id], .int .i64 b.slot] u6 fun e w' => e = .returned (.bool true) ∧ Xt v2 S g 2 [⟨a.sym, a.id, a.slot⟩, ⟨b.sym, b.id, b.slot⟩] w' := by
      have := k2.put (by omega) hb.sym hb.id hb.slot
      unfold ixPut at this
      rw [ixg_none.2 gb, gb] at this
      exact this
    have cGa : ∀ k w, Xt v2 S g k [⟨a.sym, a.id, a.slot⟩, ⟨b.sym, b.id, b.slot⟩] w → Calls Try.prog 15 #[.pointer (some ⟨g, 0, none⟩), .agg #[.int .i64 a.sym, .int .i64 a.id]] w fun e w' => e = .returned (.tuple #[.int .i64 a.slot, .bool true]) ∧ Xt v2 S g k [⟨a.sym, a.id, a.slot⟩, ⟨b.sym, b.id, b.slot⟩] w' := fun k w h => by
      have := h.get ha.sym ha.id
      rwa [ga2] at this
    have cGb : ∀ k w, Xt v2 S g k [⟨a.sym, a.id, a.slot⟩, ⟨b.sym, b.id, b.slot⟩] w → Calls Try.prog 15 #[.pointer (some ⟨g, 0, none⟩), .agg #[.int .i64 b.sym, .int .i64 b.id]] w fun e w' => e = .returned (.tuple #[.int .i64 b.slot, .bool true]) ∧ Xt v2 S g k [⟨a.sym, a.id, a.slot⟩, ⟨b.sym, b.id, b.slot⟩] w' := fun k w h => by
      have := h.get hb.sym hb.id
      rwa [gb2] at this
    have cD : ∀ k w, Xt v2 S g k [⟨a.sym, a.id, a.slot⟩, ⟨b.sym, b.id, b.slot⟩] w → Calls Try.prog 13 #[.pointer (some ⟨g, 0, none⟩), .agg #[.int .i64 b.sym, .int .i64 b.id]] w fun e w' => e = .returned (.bool true) ∧ Xt v2 S g k [⟨a.sym, a.id, a.slot⟩] w' := fun k w h => by
      have := h.drop hb.sym hb.id
      unfold ixDrop at this
      rw [gb2, fb] at this
      exact this
    have hq : eqKst ⟨a.sym, a.id⟩ ⟨b.sym, b.id⟩ = false := by simp only [eqKst]; exact hkb
    rw [hq] at hne
    simp only [vKst, cKst] at hne
    obtain ⟨a0, a1, a2, a3, b0, b1, b2, b3, p0, p1, q0, q1⟩ := hcap _ _ _ k2
    clear hq hk hkb g1 gb fb ga2 gb2 k1
    go_wp2_with (first
      | (go_at_call 12; (with_reducible refine (c2).mono ?_); rintro e u7 ⟨rfl, k7⟩; clear c2; clear a0 a1 a2 a3 b0 b1 b2 b3 p0 p1 q0 q1; obtain ⟨a0, a1, a2, a3, b0, b1, b2, b3, p0, p1, q0, q1⟩ := hcap _ _ _ k7)
      | (go_at_call 15; (with_reducible refine (cGa _ _ k7).mono ?_); rintro e u8 ⟨rfl, k8⟩; clear cGa; clear a0 a1 a2 a3 b0 b1 b2 b3 p0 p1 q0 q1; obtain ⟨a0, a1, a2, a3, b0, b1, b2, b3, p0, p1, q0, q1⟩ := hcap _ _ _ k8)
      | (go_at_call 15; (with_reducible refine (cGb _ _ k8).mono ?_); rintro e u9 ⟨rfl, k9⟩; clear cGb; clear a0 a1 a2 a3 b0 b1 b2 b3 p0 p1 q0 q1; obtain ⟨a0, a1, a2, a3, b0, b1, b2, b3, p0, p1, q0, q1⟩ := hcap _ _ _ k9)
      | (go_at_call 13; (with_reducible refine (cD _ _ k9).mono ?_); rintro e u10 ⟨rfl, k10⟩; clear cD; clear a0 a1 a2 a3 b0 b1 b2 b3 p0 p1 q0 q1; obtain ⟨a0, a1, a2, a3, b0, b1, b2, b3, p0, p1, q0, q1⟩ := hcap _ _ _ k10)
      | (go_at_call 15; (with_reducible refine (cG _ _ k10).mono ?_); rintro e u11 ⟨rfl, k11⟩; clear cG; clear a0 a1 a2 a3 b0 b1 b2 b3 p0 p1 q0 q1; obtain ⟨a0, a1, a2, a3, b0, b1, b2, b3, p0, p1, q0, q1⟩ := hcap _ _ _ k11)
      | (go_at_call 15; (with_reducible refine (n5 _).mono ?_); rintro e u12 ⟨rfl, hb12⟩; have k12 := k11.below hb12; clear n5; clear a0 a1 a2 a3 b0 b1 b2 b3 p0 p1 q0 q1; obtain ⟨a0, a1, a2, a3, b0, b1, b2, b3, p0, p1, q0, q1⟩ := hcap _ _ _ k12)
      | (go_at_call 9; (with_reducible refine (cL _ _ k12).mono ?_); rintro e u13 ⟨rfl, k13⟩; clear cL; clear a0 a1 a2 a3 b0 b1 b2 b3 p0 p1 q0 q1; obtain ⟨a0, a1, a2, a3, b0, b1, b2, b3, p0, p1, q0, q1⟩ := hcap _ _ _ k13)
      | (go_at_call 14; (with_reducible refine (cC _ _ k13).mono ?_); rintro e u14 ⟨rfl, k14⟩; clear cC; clear a0 a1 a2 a3 b0 b1 b2 b3 p0 p1 q0 q1; obtain ⟨a0, a1, a2, a3, b0, b1, b2, b3, p0, p1, q0, q1⟩ := hcap _ _ _ k14)
      | (go_at_call 6; (with_reducible refine (cA _).mono ?_); rintro e u15 ⟨rfl, hb15⟩; have k15 := k14.below hb15)
      | fail)
    go_ret
    exact ⟨by simp, hbel _ _ _ k15⟩
end Go.Proofs.Ytbfidpngpdaieaa
