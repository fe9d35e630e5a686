/-
  The program's queues in memory; the contracts of the methods that read.
-/
import Derived.Test.YtipmhialflincaaDoorFil
import Derived.Test.YtipmhialflincaaDoorFlt
import Derived.Laws.StructEq
import Derived.Lib.Hide
import Derived.ProofKit
import Derived.OpenShut
import Derived.Deep.QuietTactic
import Derived.BigQuiet
import Derived.IntWalk
namespace Go.Proofs.YtipmhialflincaaDoor
open Go.RowKit
abbrev cLk (k : Lk) : Array Value := #[.int .i64 k.q, .int .i64 k.p, .int .i64 k.x]
abbrev cEn (e : En) : Array Value := #[.int .i64 e.f, .int .i64 e.l]
abbrev cI (z : Int) : Array Value := #[.int .i64 z]
abbrev vLk (k : Lk) : Value := .agg (cLk k)
abbrev vEn (e : En) : Value := .agg (cEn e)
def eqLk (a b : Lk) : Bool := a.q == b.q && a.p == b.p && a.x == b.x
def eqEn (a b : En) : Bool := a.f == b.f && a.l == b.l
theorem eqF_step (p : Prop) [Decidable p] (q : Bool) (w : World) {X : Result Bool} (h : X = Result.ok q w) : (if p then X else Result.ok false w) = Result.ok (decide p && q) w := by
  subst h
  by_cases hp : p <;> simp [hp]
theorem eqF_last (p : Prop) [Decidable p] (w : World) : (if p then Result.ok true w else Result.ok false w) = Result.ok (decide p) w := by
  by_cases hp : p <;> simp [hp]
theorem eqIn_Lk (a b : Lk) (w : World) : (Op.equalIn 10000 55 (vLk a) (vLk b)).run Tryd.prog w = .ok (eqLk a b) w := by
  have hu := Tryd.underlying55
  have hf : Tryd.prog.underlying 55 = some (.struct (Tryd.prog.fieldsOf 55)) := by rw [Program.fieldsOf, hu]
  have uint := Tryd.underlying3
  rw [show (10000 : Nat) = 9999 + 1 from rfl, run_equalIn_agg w 9999 _ _ _ hf (by kernel_rfl), Program.fieldsOf, hu]
  simp only [Op.eqFields]
  unfold eqLk
  simp [go_sem, part]
  clear hu hf uint
  simp only [Bool.and_assoc]
  exact eqF_step _ _ w (eqF_step _ _ w (eqF_last _ w))
theorem eql_Lk (a b : Lk) (w : World) : (binOp .eql 55 (vLk a) (vLk b)).run Tryd.prog w = .ok (.bool (eqLk a b)) w := by
  rw [run_eql_struct, eqIn_Lk]; rfl
theorem neq_Lk (a b : Lk) (w : World) : (binOp .neq 55 (vLk a) (vLk b)).run Tryd.prog w = .ok (.bool (!eqLk a b)) w := by
  rw [run_neq_struct, eqIn_Lk]; rfl
theorem eqIn_En (a b : En) (w : World) : (Op.equalIn 10000 57 (vEn a) (vEn b)).run Tryd.prog w = .ok (eqEn a b) w := by
  have hu := Tryd.underlying57
  have hf : Tryd.prog.underlying 57 = some (.struct (Tryd.prog.fieldsOf 57)) := by rw [Program.fieldsOf, hu]
  have uint := Tryd.underlying3
  rw [show (10000 : Nat) = 9999 + 1 from rfl, run_equalIn_agg w 9999 _ _ _ hf (by kernel_rfl), Program.fieldsOf, hu]
  simp only [Op.eqFields]
  unfold eqEn
  simp [go_sem, part]
  clear hu hf uint
  exact eqF_step _ _ w (eqF_last _ w)
theorem eql_En (a b : En) (w : World) : (binOp .eql 57 (vEn a) (vEn b)).run Tryd.prog w = .ok (.bool (eqEn a b)) w := by
  rw [run_eql_struct, eqIn_En]; rfl
/-- What the package's variables hold. -/
structure Gl (w : World) : Prop where
  a0 : w.cell? ⟨0, 0, none⟩ = some (.int .i64 (-1))
  a1 : w.cell? ⟨0, 1, none⟩ = some (.int .i64 (-1))
  a2 : w.cell? ⟨0, 2, none⟩ = some (.int .i64 (-1))
  b0 : w.cell? ⟨1, 0, none⟩ = some (.int .i64 (-1))
  b1 : w.cell? ⟨1, 1, none⟩ = some (.int .i64 (-1))
theorem Gl.lt {w : World} (h : Gl w) : 0 < w.heap.size ∧ 1 < w.heap.size := ⟨World.block_lt_of_cell? w _ h.a0, World.block_lt_of_cell? w _ h.b0⟩
theorem Gl.two {w : World} (h : Gl w) : 2 ≤ w.heap.size := by have := h.lt; omega
theorem Gl.of_heap {w w' : World} (h : Gl w) (h0 : w'.heap[0]? = w.heap[0]?) (h1 : w'.heap[1]? = w.heap[1]?) : Gl w' :=
  ⟨(World.cell?_of_block h0).trans h.a0, (World.cell?_of_block h0).trans h.a1, (World.cell?_of_block h0).trans h.a2, (World.cell?_of_block h1).trans h.b0, (World.cell?_of_block h1).trans h.b1⟩
theorem Gl.frm {S : Nat → Prop} {w w' : World} (h : Gl w) (hf : Frm S w w') (hS : ∀ b, S b → 2 ≤ b) : Gl w' :=
  h.of_heap (hf.block _ h.lt.1 (fun e => by have := hS _ e; omega)) (hf.block _ h.lt.2 (fun e => by have := hS _ e; omega))
theorem Gl.below {w w' : World} (h : Gl w) (hb : Below w.heap.size w w') : Gl w' := h.of_heap (hb.block _ h.lt.1) (hb.block _ h.lt.2)
theorem Gl.belowB {B : Nat} {w w' : World} (h : Gl w) (hB : 2 ≤ B) (hb : Below B w w') : Gl w' := h.of_heap (hb.block _ (by omega)) (hb.block _ (by omega))
theorem Flt.upd {α : Type} {enc : α → Array Value} {sz : Nat} {c : Array Value} {l : List α} (h : Flt enc sz c l) (he : ∀ x, (enc x).size ≤ sz) {i : Nat} {x : α} (x' : α) (hi : l[i]? = some x) (j : Nat) (v : Value) (hj : j < sz)
    (hx : ∀ (j' : Nat) (v' : Value), (enc x')[j']? = some v' → (j' = j ∧ v' = v) ∨ (j' ≠ j ∧ (enc x)[j']? = some v')) : Flt enc sz (c.setIfInBounds (i * sz + j) v) (l.set i x') := by
  have hlt := (List.getElem?_eq_some_iff.1 hi).1
  have hin := h.lt hlt hj
  refine h.set he i x' (by simp) (fun j' v' hv => ?_) (fun k hk => ?_)
  · rw [Array.getElem?_setIfInBounds]
    rcases hx j' v' hv with ⟨rfl, rfl⟩ | ⟨h1, h2⟩
    · rw [if_pos rfl, if_pos hin]
    · rw [if_neg (by omega)]
      exact h.at' i x hi j' v' h2
  · rw [Array.getElem?_setIfInBounds, if_neg (fun e => hk j hj e.symm)]
/-- The struct in block g, its rows in bl, be, bs: links, ends, sizes. -/
structure PM (w : World) (g bl be bs : Nat) (K : List Lk) (E : List En) (Z : List Int) : Prop where
  hg : Blk w g 53 #[.slice (some ⟨bl, 0, none⟩) K.length K.length, .slice (some ⟨be, 0, none⟩) E.length E.length, .slice (some ⟨bs, 0, none⟩) E.length E.length]
  hl : ∃ c, Blk w bl 55 c ∧ Flt cLk 3 c K
  he : ∃ c, Blk w be 57 c ∧ Flt cEn 2 c E
  hs : ∃ c, Blk w bs 3 c ∧ Flt cI 1 c Z
  lz : Z.length = E.length
  nk : K.length ≤ 500
  ne : E.length ≤ 400
  gl : Gl w
  d1 : g ≠ bl
  d2 : g ≠ be
  d3 : g ≠ bs
  d4 : bl ≠ be
  d5 : bl ≠ bs
  d6 : be ≠ bs
  z1 : 2 ≤ g
  z2 : 2 ≤ bl
  z3 : 2 ≤ be
  z4 : 2 ≤ bs
/-- The four blocks. -/
def Qb (g bl be bs : Nat) (b : Nat) : Prop := b = g ∨ b = bl ∨ b = be ∨ b = bs
section
variable {w w' : World} {g bl be bs : Nat} {K : List Lk} {E : List En} {Z : List Int}
theorem PM.two (h : PM w g bl be bs K E Z) : ∀ b, Qb g bl be bs b → 2 ≤ b := by
  rintro b (e | e | e | e) <;> rw [e]
  · exact h.z1
  · exact h.z2
  · exact h.z3
  · exact h.z4
theorem PM.lt (h : PM w g bl be bs K E Z) : ∀ b, Qb g bl be bs b → b < w.heap.size := by
  obtain ⟨_, h1, _⟩ := h.hl
  obtain ⟨_, h2, _⟩ := h.he
  obtain ⟨_, h3, _⟩ := h.hs
  rintro b (e | e | e | e) <;> rw [e]
  · exact h.hg.lt
  · exact h1.lt
  · exact h2.lt
  · exact h3.lt
theorem PM.of_heap (h : PM w g bl be bs K E Z) (hh : ∀ b, Qb g bl be bs b → w'.heap[b]? = w.heap[b]?) (hgl : Gl w') : PM w' g bl be bs K E Z := by
  obtain ⟨c1, h1, f1⟩ := h.hl
  obtain ⟨c2, h2, f2⟩ := h.he
  obtain ⟨c3, h3, f3⟩ := h.hs
  exact { h with hg := (hh g (.inl rfl)).trans h.hg, hl := ⟨c1, (hh bl (.inr (.inl rfl))).trans h1, f1⟩, he := ⟨c2, (hh be (.inr (.inr (.inl rfl)))).trans h2, f2⟩, hs := ⟨c3, (hh bs (.inr (.inr (.inr rfl)))).trans h3, f3⟩, gl := hgl }
theorem PM.frm {S : Nat → Prop} (h : PM w g bl be bs K E Z) (hf : Frm S w w') (hS : ∀ b, S b → 2 ≤ b ∧ ¬ Qb g bl be bs b) : PM w' g bl be bs K E Z :=
  h.of_heap (fun b hb => hf.block b (h.lt b hb) (fun e => (hS b e).2 hb)) (h.gl.frm hf (fun b e => (hS b e).1))
theorem PM.below (h : PM w g bl be bs K E Z) (hb : Below w.heap.size w w') : PM w' g bl be bs K E Z := h.of_heap (fun b hq => hb.block b (h.lt b hq)) (h.gl.below hb)
theorem PM.drew (h : PM w g bl be bs K E Z) : PM w.drew g bl be bs K E Z := h.of_heap (fun _ _ => rfl) (h.gl.of_heap rfl rfl)
theorem PM.drewN (h : PM w g bl be bs K E Z) (n : Nat) : PM (w.drewN n) g bl be bs K E Z := h.of_heap (fun _ _ => rfl) (h.gl.of_heap rfl rfl)
theorem PM.lk (h : PM w g bl be bs K E Z) {x : Nat} {k : Lk} (hk : K[x]? = some k) : w.cell? ⟨bl, x * 3, none⟩ = some (.int .i64 k.q) ∧ w.cell? ⟨bl, x * 3 + 1, none⟩ = some (.int .i64 k.p) ∧ w.cell? ⟨bl, x * 3 + 2, none⟩ = some (.int .i64 k.x) := by
  obtain ⟨c, hB, hF⟩ := h.hl
  exact ⟨hB.cell_eq _ _ (hF.at' x k hk 0 _ rfl), hB.cell_eq _ _ (hF.at' x k hk 1 _ rfl), hB.cell_eq _ _ (hF.at' x k hk 2 _ rfl)⟩
theorem PM.en (h : PM w g bl be bs K E Z) {i : Nat} {e : En} (he : E[i]? = some e) : w.cell? ⟨be, i * 2, none⟩ = some (.int .i64 e.f) ∧ w.cell? ⟨be, i * 2 + 1, none⟩ = some (.int .i64 e.l) := by
  obtain ⟨c, hB, hF⟩ := h.he
  exact ⟨hB.cell_eq _ _ (hF.at' i e he 0 _ rfl), hB.cell_eq _ _ (hF.at' i e he 1 _ rfl)⟩
theorem PM.sz (h : PM w g bl be bs K E Z) {i : Nat} {z : Int} (hz : Z[i]? = some z) : w.cell? ⟨bs, i, none⟩ = some (.int .i64 z) := by
  obtain ⟨c, hB, hF⟩ := h.hs
  have := hB.cell_eq _ _ (hF.at' i z hz 0 _ rfl)
  rwa [Nat.mul_one, Nat.add_zero] at this
theorem PM.c0 (h : PM w g bl be bs K E Z) : w.cell? ⟨g, 0, none⟩ = some (.slice (some ⟨bl, 0, none⟩) K.length K.length) := h.hg.cell_eq 0 _ rfl
theorem PM.c1 (h : PM w g bl be bs K E Z) : w.cell? ⟨g, 1, none⟩ = some (.slice (some ⟨be, 0, none⟩) E.length E.length) := h.hg.cell_eq 1 _ rfl
theorem PM.c2 (h : PM w g bl be bs K E Z) : w.cell? ⟨g, 2, none⟩ = some (.slice (some ⟨bs, 0, none⟩) E.length E.length) := h.hg.cell_eq 2 _ rfl
theorem PM.fl (h : PM w g bl be bs K E Z) (i : Nat) : w.frozen? ⟨bl, i, none⟩ = false := by obtain ⟨c, hB, -⟩ := h.hl; exact hB.free i
theorem PM.fe (h : PM w g bl be bs K E Z) (i : Nat) : w.frozen? ⟨be, i, none⟩ = false := by obtain ⟨c, hB, -⟩ := h.he; exact hB.free i
theorem PM.fs (h : PM w g bl be bs K E Z) (i : Nat) : w.frozen? ⟨bs, i, none⟩ = false := by obtain ⟨c, hB, -⟩ := h.hs; exact hB.free i
theorem heap_other (w : World) (a : Addr) (v : Value) {b : Nat} (h : b ≠ a.block) : (w.setCell a v).heap[b]? = w.heap[b]? := Below.heap_setCell w a v b h
theorem PM.putL (h : PM w g bl be bs K E Z) {c' : Array Value} {K' : List Lk} (hc : Flt cLk 3 c' K') (hlen : K'.length = K.length) (hB : Blk w' bl 55 c') (ho : ∀ b, b ≠ bl → w'.heap[b]? = w.heap[b]?) : PM w' g bl be bs K' E Z := by
  obtain ⟨c2, h2, f2⟩ := h.he
  obtain ⟨c3, h3, f3⟩ := h.hs
  exact { h with hg := by rw [hlen]; exact (ho g h.d1).trans h.hg, hl := ⟨c', hB, hc⟩, he := ⟨c2, (ho be (fun e => h.d4 e.symm)).trans h2, f2⟩, hs := ⟨c3, (ho bs (fun e => h.d5 e.symm)).trans h3, f3⟩, nk := by rw [hlen]; exact h.nk, gl := h.gl.of_heap (ho _ (by have := h.z2; omega)) (ho _ (by have := h.z2; omega)) }
theorem PM.setLq (h : PM w g bl be bs K E Z) {x : Nat} {k : Lk} (hk : K[x]? = some k) (v : Int) : PM (w.setCell ⟨bl, x * 3, none⟩ (.int .i64 v)) g bl be bs (K.set x ⟨v, k.p, k.x⟩) E Z := by
  obtain ⟨c, hB, hF⟩ := h.hl
  refine h.putL (hF.upd (fun _ => Nat.le_refl _) ⟨v, k.p, k.x⟩ hk 0 (.int .i64 v) (by omega) (fun j' v' hv => ?_)) (by simp) (hB.set (x * 3) _) (fun b hb => heap_other w _ _ hb)
  match j', hv with
  | 0, hv => simp at hv; exact .inl ⟨rfl, hv.symm⟩
  | 1, hv => exact .inr ⟨by omega, hv⟩
  | 2, hv => exact .inr ⟨by omega, hv⟩
theorem PM.setLp (h : PM w g bl be bs K E Z) {x : Nat} {k : Lk} (hk : K[x]? = some k) (v : Int) : PM (w.setCell ⟨bl, x * 3 + 1, none⟩ (.int .i64 v)) g bl be bs (K.set x ⟨k.q, v, k.x⟩) E Z := by
  obtain ⟨c, hB, hF⟩ := h.hl
  refine h.putL (hF.upd (fun _ => Nat.le_refl _) ⟨k.q, v, k.x⟩ hk 1 (.int .i64 v) (by omega) (fun j' v' hv => ?_)) (by simp) (hB.set (x * 3 + 1) _) (fun b hb => heap_other w _ _ hb)
  match j', hv with
  | 0, hv => exact .inr ⟨by omega, hv⟩
  | 1, hv => simp at hv; exact .inl ⟨rfl, hv.symm⟩
  | 2, hv => exact .inr ⟨by omega, hv⟩
theorem PM.setLx (h : PM w g bl be bs K E Z) {x : Nat} {k : Lk} (hk : K[x]? = some k) (v : Int) : PM (w.setCell ⟨bl, x * 3 + 2, none⟩ (.int .i64 v)) g bl be bs (K.set x ⟨k.q, k.p, v⟩) E Z := by
  obtain ⟨c, hB, hF⟩ := h.hl
  refine h.putL (hF.upd (fun _ => Nat.le_refl _) ⟨k.q, k.p, v⟩ hk 2 (.int .i64 v) (by omega) (fun j' v' hv => ?_)) (by simp) (hB.set (x * 3 + 2) _) (fun b hb => heap_other w _ _ hb)
  match j', hv with
  | 0, hv => exact .inr ⟨by omega, hv⟩
  | 1, hv => exact .inr ⟨by omega, hv⟩
  | 2, hv => simp at hv; exact .inl ⟨rfl, hv.symm⟩
theorem PM.putE (h : PM w g bl be bs K E Z) {c' : Array Value} {E' : List En} (hc : Flt cEn 2 c' E') (hlen : E'.length = E.length) (hB : Blk w' be 57 c') (ho : ∀ b, b ≠ be → w'.heap[b]? = w.heap[b]?) : PM w' g bl be bs K E' Z := by
  obtain ⟨c1, h1, f1⟩ := h.hl
  obtain ⟨c3, h3, f3⟩ := h.hs
  exact { h with hg := by rw [hlen]; exact (ho g h.d2).trans h.hg, hl := ⟨c1, (ho bl h.d4).trans h1, f1⟩, he := ⟨c', hB, hc⟩, hs := ⟨c3, (ho bs (fun e => h.d6 e.symm)).trans h3, f3⟩, lz := by rw [hlen]; exact h.lz, ne := by rw [hlen]; exact h.ne, gl := h.gl.of_heap (ho _ (by have := h.z3; omega)) (ho _ (by have := h.z3; omega)) }
theorem PM.setEf (h : PM w g bl be bs K E Z) {i : Nat} {e : En} (he : E[i]? = some e) (v : Int) : PM (w.setCell ⟨be, i * 2, none⟩ (.int .i64 v)) g bl be bs K (E.set i ⟨v, e.l⟩) Z := by
  obtain ⟨c, hB, hF⟩ := h.he
  refine h.putE (hF.upd (fun _ => Nat.le_refl _) ⟨v, e.l⟩ he 0 (.int .i64 v) (by omega) (fun j' v' hv => ?_)) (by simp) (hB.set (i * 2) _) (fun b hb => heap_other w _ _ hb)
  match j', hv with
  | 0, hv => simp at hv; exact .inl ⟨rfl, hv.symm⟩
  | 1, hv => exact .inr ⟨by omega, hv⟩
theorem PM.setEl (h : PM w g bl be bs K E Z) {i : Nat} {e : En} (he : E[i]? = some e) (v : Int) : PM (w.setCell ⟨be, i * 2 + 1, none⟩ (.int .i64 v)) g bl be bs K (E.set i ⟨e.f, v⟩) Z := by
  obtain ⟨c, hB, hF⟩ := h.he
  refine h.putE (hF.upd (fun _ => Nat.le_refl _) ⟨e.f, v⟩ he 1 (.int .i64 v) (by omega) (fun j' v' hv => ?_)) (by simp) (hB.set (i * 2 + 1) _) (fun b hb => heap_other w _ _ hb)
  match j', hv with
  | 0, hv => exact .inr ⟨by omega, hv⟩
  | 1, hv => simp at hv; exact .inl ⟨rfl, hv.symm⟩
theorem PM.setZ (h : PM w g bl be bs K E Z) {i : Nat} {z : Int} (hz : Z[i]? = some z) (v : Int) : PM (w.setCell ⟨bs, i, none⟩ (.int .i64 v)) g bl be bs K E (Z.set i v) := by
  obtain ⟨c1, h1, f1⟩ := h.hl
  obtain ⟨c2, h2, f2⟩ := h.he
  obtain ⟨c, hB, hF⟩ := h.hs
  have ho : ∀ b, b ≠ bs → (w.setCell ⟨bs, i, none⟩ (.int .i64 v)).heap[b]? = w.heap[b]? := fun b hb => heap_other w _ _ hb
  have hF' := hF.upd (fun _ => Nat.le_refl _) v hz 0 (.int .i64 v) (by omega) (fun j' v' hv => by
    match j', hv with
    | 0, hv => simp at hv; exact .inl ⟨rfl, hv.symm⟩)
  rw [Nat.mul_one, Nat.add_zero] at hF'
  exact { h with hg := (ho g h.d3).trans h.hg, hl := ⟨c1, (ho bl h.d5).trans h1, f1⟩, he := ⟨c2, (ho be h.d6).trans h2, f2⟩, hs := ⟨_, hB.set i _, hF'⟩, lz := by simp; exact h.lz, gl := h.gl.of_heap (ho _ (by have := h.z4; omega)) (ho _ (by have := h.z4; omega)) }
end
def inR (n : Nat) (x : Int) : Bool := decide (0 ≤ x) && decide (x.toNat < n)
theorem inR_neg {n : Nat} {x : Int} (h : x < 0) : inR n x = false := by simp [inR]; omega
theorem inR_nat (n i : Nat) : inR n (i : Int) = decide (i < n) := by simp [inR]
section
variable {W : World} {g bl be bs : Nat} {K : List Lk} {E : List En} {Z : List Int}
set_option maxRecDepth 8000 in
set_option maxHeartbeats 1000000 in
theorem hasQueue_any (x : Int) (h : PM W g bl be bs K E Z) :
    Calls Tryd.prog 24 #[.pointer (some ⟨g, 0, none⟩), .int .i64 x] W fun e w' => e = .returned (.bool (inR E.length x)) ∧ w' = W := by
  have c1 := h.c1
  have hn := h.ne
  generalize E.length = n at *
  clear h
  by_cases h0 : x < 0
  · rw [inR_neg h0]
    go_enter Tryd.func24, Tryd.ntmps24
    go_wp2_with fail
    all_goals go_ret
    all_goals trivial
  · obtain ⟨i, rfl⟩ : ∃ i : Nat, x = (i : Int) := ⟨x.toNat, by omega⟩
    rw [inR_nat]
    by_cases h1 : i < n
    · rw [decide_eq_true h1]
      go_enter Tryd.func24, Tryd.ntmps24
      go_wp2_with fail
      all_goals go_ret
      all_goals trivial
    · rw [decide_eq_false h1]
      go_enter Tryd.func24, Tryd.ntmps24
      go_wp2_with fail
      all_goals go_ret
      all_goals trivial
set_option maxRecDepth 8000 in
set_option maxHeartbeats 1000000 in
theorem hasNode_any (x : Int) (h : PM W g bl be bs K E Z) :
    Calls Tryd.prog 27 #[.pointer (some ⟨g, 0, none⟩), .int .i64 x] W fun e w' => e = .returned (.bool (inR K.length x)) ∧ w' = W := by
  have c0 := h.c0
  have hn := h.nk
  generalize K.length = n at *
  clear h
  by_cases h0 : x < 0
  · rw [inR_neg h0]
    go_enter Tryd.func27, Tryd.ntmps27
    go_wp2_with fail
    all_goals go_ret
    all_goals trivial
  · obtain ⟨i, rfl⟩ : ∃ i : Nat, x = (i : Int) := ⟨x.toNat, by omega⟩
    rw [inR_nat]
    by_cases h1 : i < n
    · rw [decide_eq_true h1]
      go_enter Tryd.func27, Tryd.ntmps27
      go_wp2_with fail
      all_goals go_ret
      all_goals trivial
    · rw [decide_eq_false h1]
      go_enter Tryd.func27, Tryd.ntmps27
      go_wp2_with fail
      all_goals go_ret
      all_goals trivial
end
section
variable (x : Int) (W : World)
theorem hasQueueNil_any : Calls Tryd.prog 24 #[.pointer none, .int .i64 x] W fun e w' => e = .returned (.bool false) ∧ w' = W := by
  go_enter Tryd.func24, Tryd.ntmps24
  go_wp2_with fail
  all_goals go_ret
  all_goals trivial
theorem hasNodeNil_any : Calls Tryd.prog 27 #[.pointer none, .int .i64 x] W fun e w' => e = .returned (.bool false) ∧ w' = W := by
  go_enter Tryd.func27, Tryd.ntmps27
  go_wp2_with fail
  all_goals go_ret
  all_goals trivial
end
end Go.Proofs.YtipmhialflincaaDoor
