/-
  The program's queue as a list of its own (list); what comes at any rate (alive).
-/
import Derived.Test.YtdmjcjheanedgaaDoorFinq
import Derived.Test.YtdmjcjheanedgaaDoorGB
import Derived.Deep.LoopGhost
import Derived.WalkMore
import Derived.Deep.DeepMust
namespace Go.Proofs.YtdmjcjheanedgaaDoor
open Go.RowKit
def zs (l : List Nat) : List Int := l.map fun (x : Nat) => (x : Int)
theorem zs_length (l : List Nat) : (zs l).length = l.length := by simp [zs]
theorem zs_get (l : List Nat) (i : Nat) : (zs l)[i]? = l[i]?.map fun (x : Nat) => (x : Int) := by simp [zs]
/-- The cells of numbers. -/
def zv (l : List Nat) : List Value := (zs l).map (Value.int .i64)
theorem zv_app (l : List Nat) (x : Nat) : zv (l ++ [x]) = zv l ++ [.int .i64 (x : Int)] := by simp [zv, zs]
theorem zs_wf {l : List Nat} (h : ∀ x ∈ l, x < 1000) : ∀ z ∈ zs l, (Lit.int .i64 z).wf = true := by
  intro z hz
  simp only [zs, List.mem_map] at hz
  obtain ⟨x, hx, rfl⟩ := hz
  have := h x hx
  simp [Lit.wf, IntKind.min, IntKind.max, IntKind.signed, IntKind.bits]
  omega
theorem make_cap (n : Nat) (hn : n ≤ 500) : ∀ w, (Instr.makeSlice 115 (.int .i64 0) (.int .i64 (n : Int))).run Tryd.prog w = .ok (.slice (some ⟨w.heap.size, 0, none⟩) 0 n) (w.alloc (.cells (madeCells (cI 0) n) 3)) := by
  intro w
  obtain ⟨i1, hi1, e1⟩ := Option.map_eq_some_iff.1 infoIn
  simp only [Prod.mk.injEq] at e1
  obtain ⟨hz1, hs1, hb1⟩ := e1
  have := run_make (P := Tryd.prog) w 115 3 i1 _ Tryd.underlying115 hi1 hz1 .i64 .i64 0 (n : Int) (by omega) (by omega) (by rw [hb1]; omega) (by omega)
  rw [hs1, Int.toNat_natCast, Nat.mul_one] at this
  exact this
theorem own_cap (w : World) (n : Nat) (hn : n ≤ 500) : OwG 3 1 (w.alloc (.cells (madeCells (cI 0) n) 3)) (some w.heap.size) (some ⟨w.heap.size, 0, none⟩) n 0 [] :=
  ⟨rfl, Nat.zero_le _, by unfold maxLen; omega, .inr ⟨w.heap.size, _, rfl, rfl, heap_alloc_last w _, by simp [madeCells], rfl⟩⟩
/-- Whether a block is new, or there is none. -/
def Nw (B : Nat) (ko : Option Nat) : Prop := ∀ k, ko = some k → B ≤ k
section
variable {W : World} {g bl be bs : Nat} {K : List Lk} {E : List En} {Z : List Int}
theorem OwG.it {w : World} {ko : Option Nat} {ao : Option Addr} {cap : Nat} {l : List Nat} (hl : ∀ x ∈ l, x < 1000) (h : OwG 3 1 w ko ao cap l.length (zv l)) : It .i64 w ao cap (zs l) :=
  It.of_own (zs_wf hl) (by rw [zs_length]; exact h)
theorem OwG.new_addr {B : Nat} {w : World} {ko : Option Nat} {ao : Option Addr} {cap n : Nat} {cs : List Value} (h : OwG 3 1 w ko ao cap n cs) (hk : Nw B ko) : ∀ b off, ao = some ⟨b, off, none⟩ → B ≤ b ∧ b < w.heap.size := by
  intro b off e
  rcases h.at' with ⟨-, e1, -⟩ | ⟨k, cur, e1, e2, e3, -⟩
  · rw [e1] at e; cases e
  · rw [e2] at e
    cases e
    exact ⟨hk _ e1, (Array.getElem?_eq_some_iff.1 e3).1⟩
set_option maxRecDepth 8000 in
set_option maxHeartbeats 2000000 in
theorem list_any (i : Int) {s : Fq} (hF : Fqp K E Z s) (h : PM W g bl be bs K E Z) :
    Calls Tryd.prog 95 #[.pointer (some ⟨g, 0, none⟩), .int .i64 i] W fun e w' => ∃ ao cap, e = .returned (.slice ao (s.qi i).length cap) ∧ Below W.heap.size W w' ∧ It .i64 w' ao cap (zs (s.qi i)) ∧ ∀ b off, ao = some ⟨b, off, none⟩ → W.heap.size ≤ b := by
  have cL := len_any i hF h
  have cF := fun w (k : PM w g bl be bs K E Z) => front_any i hF k
  have hqn : ∀ (k x : Nat), (s.qi i)[k]? = some x → ∃ kk, K[x]? = some kk ∧ kk.x = nt (s.qi i) (k + 1) := by
    intro k x hx
    cases hq : s.hasQ i with
    | false => rw [Fq.qi_no hq] at hx; simp at hx
    | true =>
      obtain ⟨j, q, rfl, hj, hq, hqi⟩ := Fq.hasQ_pos hq
      rw [hqi] at hx ⊢
      exact ⟨_, hF.inn x j k q hq hx, rfl⟩
  have hlen : (s.qi i).length ≤ 500 := by
    cases hq : s.hasQ i with
    | false => rw [Fq.qi_no hq]; simp
    | true =>
      obtain ⟨j, q, rfl, hj, hq, hqi⟩ := Fq.hasQ_pos hq
      rw [hqi]
      have := hF.wf.len hq
      have := hF.lk
      have := h.nk
      omega
  have hlt : ∀ x ∈ s.qi i, x < 1000 := by
    intro x hx
    obtain ⟨k, hk⟩ := List.mem_iff_getElem?.1 hx
    obtain ⟨kk, hkk, -⟩ := hqn k x hk
    have := (List.getElem?_eq_some_iff.1 hkk).1
    have := h.nk
    omega
  have hfB : s.frontB i = !(s.qi i).isEmpty := rfl
  have hfV : s.frontV i = ((s.qi i)[0]?.map fun (y : Nat) => (y : Int)).getD 0 := rfl
  rw [hfB, hfV] at cF
  generalize s.qi i = q at *
  have mC := make_cap q.length hlen
  have oC := fun w => own_cap w q.length hlen
  generalize madeCells (cI 0) q.length = zi at *
  obtain ⟨i1, hi1, e1⟩ := Option.map_eq_some_iff.1 infoIn
  simp only [Prod.mk.injEq] at e1
  obtain ⟨hz1, hs1, hb1⟩ := e1
  have hp : ∀ w, Below W.heap.size W w → PM w g bl be bs K E Z := fun w hb => h.below hb
  have hN : ∀ (k x : Nat) w, q[k]? = some x → Below W.heap.size W w → Calls Tryd.prog 99 #[.pointer (some ⟨g, 0, none⟩), .int .i64 (x : Int)] w fun e w' => ∃ (y : Int) (b : Bool), e = .returned (.tuple #[.int .i64 y, .bool b]) ∧ w' = w ∧ b = decide (k + 1 < q.length) ∧ ∀ z : Nat, q[k + 1]? = some z → y = (z : Int) := by
    intro k x w hx hb
    obtain ⟨kk, hkk, hkx⟩ := hqn k x hx
    refine (next_any x kk (hp w hb) hkk).mono fun e w' he => ⟨kk.x, _, he.1, he.2, ?_, fun z hz => by rw [hkx]; exact nt_some hz⟩
    rw [hkx]
    rcases nt_cases q (k + 1) with ⟨e1, e2⟩ | ⟨y, e1, e2⟩
    · rw [e1, decide_eq_false (by omega)]; rfl
    · have := (List.getElem?_eq_some_iff.1 e2).1
      rw [e1, decide_eq_true this]
      have : ((y : Int) == -1) = false := by simp
      rw [this]; rfl
  have hb0 := Below.refl W.heap.size W
  have hemp : (!q.isEmpty) = decide (0 < q.length) := by cases q <;> simp
  rw [hemp] at cF
  have hz0 : ∀ z : Nat, q[0]? = some z → ((q[0]?.map fun (y : Nat) => (y : Int)).getD 0) = (z : Int) := by intro z hz; rw [hz]; rfl
  generalize ((q[0]?.map fun (y : Nat) => (y : Int)).getD 0) = v0 at *
  obtain ⟨n, hn⟩ : ∃ n, n = q.length := ⟨_, rfl⟩
  rw [← hn] at cL cF mC oC hlen
  replace hn := Lib.hid hn
  obtain ⟨k0, hk0⟩ : ∃ k0, decide (0 < n) = k0 := ⟨_, rfl⟩
  rw [hk0] at cF
  replace hk0 := Lib.hid hk0
  clear hfB hfV hqn hemp
  go_enter Tryd.func95, Tryd.ntmps95
  go_wp2_with (first
    | (go_at_call 100; (with_reducible refine cL.mono ?_); rintro e w1 ⟨rfl, rfl⟩; clear cL)
    | (go_at_call 101; (with_reducible refine (cF _ (hp _ (hb0.alloc (Nat.le_refl _) _))).mono ?_); rintro e w2 ⟨rfl, n2, rfl⟩; clear cF))
  obtain ⟨V, hV⟩ : ∃ V, V = (w1.alloc (Obj.cells zi 3)).drewN n2 := ⟨_, rfl⟩
  have hO : OwG 3 1 V (some w1.heap.size) (some ⟨w1.heap.size, 0, none⟩) n 0 (zv (q.take 0)) := by rw [hV]; exact (oC w1).keep (fun _ _ => rfl)
  have hB : Below w1.heap.size w1 V := by rw [hV]; exact fbelow_drewN (hb0.alloc (Nat.le_refl _) _) n2
  have hK0 : Nw w1.heap.size (some w1.heap.size) := fun k e => by cases e; exact Nat.le_refl _
  rw [← hV]
  clear hV oC mC
  generalize (some w1.heap.size : Option Nat) = ko0 at *
  generalize (some ⟨w1.heap.size, 0, none⟩ : Option Addr) = ao0 at *
  go_loopg [6, 7, 8] n (fun j p6 p7 p8 wr => ∃ (k : Nat) (ao : Option Addr) (cap : Nat) (ko : Option Nat) (v : Int) (b : Bool), k + j = n ∧ p6 = .slice ao k cap ∧ p7 = .int .i64 v ∧ p8 = .bool b ∧ Hid (b = decide (k < n)) ∧ OwG 3 1 wr ko ao cap k (zv (q.take k)) ∧ Nw w1.heap.size ko ∧ Below w1.heap.size w1 wr ∧ (∀ z : Nat, q[k]? = some z → v = (z : Int)))
  case atStart => exact ⟨0, ao0, n, ko0, v0, k0, by omega, rfl, rfl, rfl, Lib.hid hk0.out.symm, hO, hK0, hB, hz0⟩
  case round =>
    clear hO hK0 hB hz0 hk0
    obtain ⟨k, ao, cap, ko, v, b, hkj, rfl, rfl, rfl, hb, hO, hK, hB, hv⟩ := hrel
    by_cases hk : k < n
    · obtain rfl : b = true := by rw [hb.out]; simpa using hk
      obtain ⟨x, hx⟩ : ∃ x, q[k]? = some x := ⟨_, List.getElem?_eq_getElem (by rw [← hn.out]; exact hk)⟩
      obtain rfl := hv x hx
      have hsz := hB.size
      have cN := fun w hb => hN k x w hx hb
      have htk : zv (q.take (k + 1)) = zv (q.take k) ++ [.int .i64 (x : Int)] := by
        have hl := (List.getElem?_eq_some_iff.1 hx)
        rw [List.take_succ_eq_append_getElem hl.1, hl.2, zv_app]
      have hX : ∀ ao' cap' ko' w', OwG 3 1 w' ko' ao' cap' (k + 1) (zv (q.take k) ++ [.int .i64 (x : Int)]) → Frm (fun b => ko = some b) (wr.alloc (.cells #[.int .i64 (x : Int)] 3)) w' → Moved (wr.alloc (.cells #[.int .i64 (x : Int)] 3)) ko ko' →
          Below w1.heap.size w1 w' ∧ Nw w1.heap.size ko' ∧ OwG 3 1 w' ko' ao' cap' (k + 1) (zv (q.take (k + 1))) := by
        intro ao' cap' ko' w' ho hf hm
        refine ⟨(hB.alloc hsz _).trans (hf.below (by have := hB.size; simp; omega) (fun b e => hK b e)), fun k' e => ?_, by rw [htk]; exact ho⟩
        rcases hm with e' | e' | ⟨k2, e', h'⟩
        · rw [e'] at e; cases e
        · rw [e'] at e; exact hK k' e
        · rw [e'] at e; cases e; simp at h'; omega
      clear htk hb hv hx hN hK hB hp hb0
      go_wp2_with (first
        | (at_builtin; refine wpList_appG rfl (.tmp 28) (.tmp 30) 115 3 i1 _ 1 8 Tryd.underlying115 hi1 hz1 hs1 hb1 rfl (by decide) rfl (hO.alloc _) (SrcG.one1 _ _ rfl _) rfl rfl (by omega) (by omega) ?_; intro ao' cap' ko' w2 ho2 hf2 hm2; obtain ⟨hB2, hK2, hO2⟩ := hX _ _ _ _ ho2 hf2 hm2; clear hX hO ho2 hf2 hm2)
        | (go_at_call 99; (with_reducible refine (cN _ hB2).mono ?_); rintro e w3 ⟨y, b, rfl, rfl, rfl, hy⟩; clear cN))
      go_roundg (n - (k + 1))
      case measure => omega
      case rel => exact ⟨k + 1, ao', cap', ko', y, _, by omega, rfl, rfl, rfl, Lib.hid (by rw [hn.out]), hO2, hK2, hB2, hy⟩
    · obtain rfl : b = false := by rw [hb.out]; simpa using hk
      have hkn : k = q.length := by rw [← hn.out]; omega
      clear hN hp hb0
      go_wp2_with fail
      go_ret
      rw [hkn, List.take_length] at hO
      exact ⟨ao, cap, by rw [← hkn]; rfl, hB, hO.it hlt, fun b off e => (hO.new_addr hK b off e).1⟩
end
end Go.Proofs.YtdmjcjheanedgaaDoor
