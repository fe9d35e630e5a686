/-
  A list of parts in memory, and the contract of the statements' light.
-/
import Derived.Test.YtniccdnjaaepcaaOctA
namespace Go.Proofs.Ytniccdnjaaepcaa
open Go.RowKit

/-- A part's numbers fit. -/
structure Prt.Fit (p : Prt) : Prop where
  n : p.n < 18446744073709551616
  s0 : -9223372036854775808 ≤ p.s
  s1 : p.s < 9223372036854775808
  z : p.size < 9223372036854775808
/-- The parts lie from offset off of block b on, five cells each. -/
def Pts (w : World) (b off : Nat) (ps : List Prt) : Prop := ∀ (i : Nat) (p : Prt), ps[i]? = some p → p.Fit ∧ ∃ k ro rc, Bt w k ro rc p.raw ∧
  w.cell? ⟨b, off + i * 5, none⟩ = some (.int .i64 p.kind) ∧ w.cell? ⟨b, off + i * 5 + 1, none⟩ = some (.int .i64 p.size) ∧ w.cell? ⟨b, off + i * 5 + 2, none⟩ = some (.int .u64 (p.n : Int)) ∧
  w.cell? ⟨b, off + i * 5 + 3, none⟩ = some (.int .i64 p.s) ∧ w.cell? ⟨b, off + i * 5 + 4, none⟩ = some (.slice ro p.raw.length rc)
/-- The parts behind a slice. -/
structure Pl (w : World) (ao : Option Addr) (cap : Nat) (ps : List Prt) : Prop where
  len : ps.length ≤ cap
  top : cap ≤ maxLen
  at' : ps = [] ∨ ∃ b off, ao = some ⟨b, off, none⟩ ∧ Pts w b off ps
theorem Pts.below {w w' : World} {b off : Nat} {ps : List Prt} (h : Pts w b off ps) (hb : Below w.heap.size w w') : Pts w' b off ps := by
  intro i p hp
  obtain ⟨hf, k, ro, rc, hB, c0, c1, c2, c3, c4⟩ := h i p hp
  have hlt : b < w.heap.size := World.block_lt_of_cell? w ⟨b, off + i * 5, none⟩ c0
  have e : ∀ o, w'.cell? ⟨b, o, none⟩ = w.cell? ⟨b, o, none⟩ := fun o => World.cell?_of_block (a := ⟨b, o, none⟩) (hb.block b hlt)
  exact ⟨hf, k, ro, rc, hB.below hb, (e _).trans c0, (e _).trans c1, (e _).trans c2, (e _).trans c3, (e _).trans c4⟩
theorem Pl.below {w w' : World} {ao : Option Addr} {cap : Nat} {ps : List Prt} (h : Pl w ao cap ps) (hb : Below w.heap.size w w') : Pl w' ao cap ps := by
  refine ⟨h.len, h.top, ?_⟩
  rcases h.at' with h0 | ⟨b, off, ha, hp⟩
  · exact .inl h0
  · exact .inr ⟨b, off, ha, hp.below hb⟩
/-- Few, and short. -/
def Light (ps : List Prt) : Prop := ps.length ≤ 40 ∧ ∀ p ∈ ps, p.raw.length ≤ 60
theorem light_any (ao : Option Addr) (cap : Nat) (ps : List Prt) (W : World) (hP : Pl W ao cap ps) :
    Calls Try.prog 7 #[.slice ao ps.length cap] W fun e w' => (∃ r : Bool, e = .returned (.bool r) ∧ (r = true → Light ps)) ∧ W = w' := by
  have hlen := hP.len
  have hmax := hP.top
  unfold maxLen at hmax
  by_cases h40 : ps.length ≤ 40
  · go_enter Try.func7, Try.ntmps7
    go_wp2_with fail
    go_loopg [3] ps.length (fun j p3 wr => wr = W ∧ ∃ q : Nat, q + j = ps.length ∧ p3 = .int .i64 (q : Int) ∧ Hid (∀ (i : Nat) (p : Prt), i < q → ps[i]? = some p → p.raw.length ≤ 60))
    case atStart => exact ⟨rfl, 0, by omega, rfl, fun i p h => by omega⟩
    case round =>
      obtain ⟨rfl, q, hq, rfl, hall⟩ := hrel
      by_cases hj : q < ps.length
      · obtain ⟨p, hp⟩ : ∃ p, ps[q]? = some p := ⟨ps[q], List.getElem?_eq_getElem hj⟩
        obtain ⟨b, off, rfl, hpt⟩ : ∃ b off, ao = some ⟨b, off, none⟩ ∧ Pts wr b off ps := by
          rcases hP.at' with h0 | h0
          · subst h0; simp at hj
          · exact h0
        obtain ⟨hf, k, ro, rc, hB, c0, c1, c2, c3, c4⟩ := hpt q p hp
        have hrl := hB.len
        have hrm := hB.top
        unfold maxLen at hrm
        have HP : Hid (ps[q]? = some p) := hp
        clear hpt hp hf c0 c1 c2 c3 hP hB
        go_wp2_with fail
        · go_ret
          exact ⟨⟨false, rfl, fun h => by cases h⟩, rfl⟩
        · have h60 : p.raw.length ≤ 60 := by omega
          go_roundg (ps.length - (q + 1))
          case measure => omega
          case rel =>
            refine ⟨rfl, q + 1, by omega, by go_num, fun i p' hi hp' => ?_⟩
            by_cases hiq : i = q
            · subst hiq
              rw [HP.out] at hp'
              cases hp'
              exact h60
            · exact hall.out i p' (by omega) hp'
      · have hqe : q = ps.length := by omega
        subst hqe
        go_wp2_with fail
        go_ret
        refine ⟨⟨true, rfl, fun _ => ⟨h40, fun p hp => ?_⟩⟩, rfl⟩
        obtain ⟨i, hi, hpi⟩ := List.mem_iff_getElem.1 hp
        exact hall.out i p hi (by rw [List.getElem?_eq_getElem hi, hpi])
  · go_enter Try.func7, Try.ntmps7
    go_wp2_with fail
    go_ret
    exact ⟨⟨false, rfl, fun h => by cases h⟩, rfl⟩
/-- A slice that owns its row, block k, or is nil (none). -/
def Ow2 (w : World) (ko : Option Nat) (ao : Option Addr) (cap : Nat) (xs : List Nat) : Prop := match ko with
  | none => ao = none ∧ cap = 0 ∧ xs = []
  | some k => Ow w k ao cap xs ∧ k < w.heap.size
theorem Ow.two {w : World} {k cap : Nat} {ao : Option Addr} {xs : List Nat} (h : Ow w k ao cap xs) : ∃ ko, Ow2 w ko ao cap xs ∧ (ko = none ∨ ko = some k) := by
  cases ao with
  | none =>
    have h0 := h.bt.bare rfl
    have h1 := h.len
    exact ⟨none, ⟨rfl, h0, List.eq_nil_of_length_eq_zero (by omega)⟩, .inl rfl⟩
  | some a => exact ⟨some k, ⟨h, h.size (by simp)⟩, .inr rfl⟩
theorem Ow2.one {w : World} {ko : Option Nat} {cap : Nat} {ao : Option Addr} {xs : List Nat} (h : Ow2 w ko ao cap xs) : ∃ k, Ow w k ao cap xs ∧ (ko = some k ∨ (ko = none ∧ k = w.heap.size)) := by
  cases ko with
  | none => obtain ⟨rfl, rfl, rfl⟩ := h; exact ⟨w.heap.size, Ow.nil _ _, .inr ⟨rfl, rfl⟩⟩
  | some k => exact ⟨k, h.1, .inl rfl⟩
theorem Ow2.lt {w : World} {k cap : Nat} {ao : Option Addr} {xs : List Nat} (h : Ow2 w (some k) ao cap xs) : k < w.heap.size := h.2
theorem Ow2.frm {S : Nat → Prop} {w w' : World} {ko : Option Nat} {cap : Nat} {ao : Option Addr} {xs : List Nat} (h : Ow2 w ko ao cap xs) (hf : Frm S w w') (hk : ∀ k, ko = some k → ¬ S k) : Ow2 w' ko ao cap xs := by
  cases ko with
  | none => exact h
  | some k => exact ⟨h.1.frm hf fun _ => hk k rfl, Nat.lt_of_lt_of_le h.2 hf.size⟩
theorem Ow2.bt {w : World} {ko : Option Nat} {cap : Nat} {ao : Option Addr} {xs : List Nat} (h : Ow2 w ko ao cap xs) : ∃ k, Bt w k ao cap xs := by
  obtain ⟨k, h1, _⟩ := h.one
  exact ⟨k, h1.bt⟩
/-- A writer at block g whose row is block k, or who has none. -/
def Wr2 (w : World) (g : Nat) (ko : Option Nat) (xs : List Nat) : Prop := ∃ ao cap, Blk w g 27 #[.slice ao xs.length cap] ∧ Ow2 w ko ao cap xs ∧ ko ≠ some g
theorem Wr2.frm {S : Nat → Prop} {w w' : World} {g : Nat} {ko : Option Nat} {xs : List Nat} (h : Wr2 w g ko xs) (hf : Frm S w w') (hg : ¬ S g) (hk : ∀ k, ko = some k → ¬ S k) : Wr2 w' g ko xs := by
  obtain ⟨ao, cap, h1, h2, h3⟩ := h
  exact ⟨ao, cap, (hf.block g h1.lt hg).trans h1, h2.frm hf hk, h3⟩
theorem Wr2.lt {w : World} {g k : Nat} {xs : List Nat} (h : Wr2 w g (some k) xs) : k < w.heap.size := by obtain ⟨_, _, _, h2, _⟩ := h; exact h2.lt
theorem Wr2.g {w : World} {g : Nat} {ko : Option Nat} {xs : List Nat} (h : Wr2 w g ko xs) : g < w.heap.size := by obtain ⟨_, _, h1, _⟩ := h; exact h1.lt
theorem Wr2.one {w : World} {g : Nat} {ko : Option Nat} {xs : List Nat} (h : Wr2 w g ko xs) : ∃ k, Wr w g k xs ∧ (ko = some k ∨ (ko = none ∧ k = w.heap.size)) := by
  obtain ⟨ao, cap, h1, h2, h3⟩ := h
  obtain ⟨k, h4, h5⟩ := h2.one
  refine ⟨k, ⟨ao, cap, h1, h4, ?_⟩, h5⟩
  rcases h5 with rfl | ⟨rfl, rfl⟩
  · exact fun e => h3 (by rw [e])
  · have := h1.lt; omega
/-- What a change of an owner does to its row's number. -/
def Moved (w : World) (ko ko' : Option Nat) : Prop := ko' = none ∨ ko' = ko ∨ ∃ k, ko' = some k ∧ w.heap.size ≤ k
theorem Wrote.two {W w : World} {g k : Nat} {ko : Option Nat} {zs : List Nat} (hk : ko = some k ∨ (ko = none ∧ k = W.heap.size)) (h : Wrote W g k w zs) : ∃ ko', Wr2 w g ko' zs ∧ Frm (fun b => b = g ∨ ko = some b) W w ∧ Moved W ko ko' := by
  obtain ⟨k', ⟨ao, cap, h1, h2, h3⟩, hf, hk'⟩ := h
  obtain ⟨ko', h4, h5⟩ := h2.two
  refine ⟨ko', ⟨ao, cap, h1, h4, ?_⟩, hf.mono fun b hb hs => ?_, ?_⟩
  · rcases h5 with rfl | rfl
    · simp
    · intro e; cases e; exact h3 rfl
  · rcases hs with rfl | rfl
    · exact .inl rfl
    · rcases hk with rfl | ⟨_, rfl⟩
      · exact .inr rfl
      · omega
  · rcases h5 with rfl | rfl
    · exact .inl rfl
    · rcases hk' with rfl | hk'
      · rcases hk with rfl | ⟨rfl, rfl⟩
        · exact .inr (.inl rfl)
        · exact .inr (.inr ⟨_, rfl, Nat.le_refl _⟩)
      · exact .inr (.inr ⟨_, rfl, hk'⟩)
theorem put2_any (p : Prt) (hp : p.Fit) (hr : p.raw.length ≤ 60) (k : Nat) (ro : Option Addr) (rc : Nat) (g : Nat) (ko : Option Nat) (xs : List Nat) (hx : xs.length ≤ 900000) (W : World) (hW : Wr2 W g ko xs) (hB : Bt W k ro rc p.raw) :
    Calls Try.prog 10 #[.pointer (some ⟨g, 0, none⟩), pv p ro rc] W fun e w' => e = .returned (.pointer (some ⟨g, 0, none⟩)) ∧ ∃ ko', Wr2 w' g ko' (xs ++ enc p) ∧ Frm (fun b => b = g ∨ ko = some b) W w' ∧ Moved W ko ko' := by
  obtain ⟨gk, h1, h2⟩ := hW.one
  exact (put_any p ⟨hp.n, hp.s0, hp.s1, hr⟩ k ro rc g gk xs hx W h1 hB).mono fun e w' h => ⟨h.1, h.2.two h2⟩
theorem bytes2_any (g : Nat) (ko : Option Nat) (xs : List Nat) (hx : xs.length ≤ 2000000) (W : World) (hW : Wr2 W g ko xs) :
    Calls Try.prog 12 #[.pointer (some ⟨g, 0, none⟩)] W fun e w' => ∃ v, e = .returned v ∧ Fresh W w' v xs := by
  obtain ⟨gk, h1, _⟩ := hW.one
  exact bytes_any g gk xs hx W h1
theorem wpList_app2 {w : World} {a : Act} {ops : Array Oper} {o : Oper} {Q : Exit → Act → World → Prop} {j cap bcap : Nat} {ko : Option Nat} {ao bo : Option Addr} {xs ys : List Nat} {rest : List Oper} (hgd : o.guard = none) (s x : Operand)
    (ho : o.op = .call { callee := .builtin .append, args := #[s, x], argTypes := #[25, 25] }) (how : Ow2 w ko ao cap xs) (hbt : Bt w j bo bcap ys)
    {n m : Nat} (hs : a.eval s = .slice ao n cap) (hx : a.eval x = .slice bo m bcap) (hn : n = xs.length) (hm : m = ys.length) (hsum : xs.length + ys.length ≤ 1099511627776)
    (h : ∀ ao' cap' ko' w', Ow2 w' ko' ao' cap' (xs ++ ys) → Frm (fun b => ko = some b) w w' → Moved w ko ko' → wpList Try.prog ops Q rest (a.put o.dst (.slice ao' (n + m) cap')) w') : wpList Try.prog ops Q (o :: rest) a w := by
  obtain ⟨k, h1, h2⟩ := how.one
  refine wpList_app hgd s x ho h1 hbt hs hx hn hm hsum fun ao' cap' k' w' ho' hf' hk' => ?_
  obtain ⟨ko', h4, h5⟩ := ho'.two
  refine h ao' cap' ko' w' h4 (hf'.mono fun b hb e => ?_) ?_
  · subst e
    rcases h2 with rfl | ⟨_, rfl⟩
    · rfl
    · omega
  · rcases h5 with rfl | rfl
    · exact .inl rfl
    · rcases hk' with rfl | hk'
      · rcases h2 with rfl | ⟨rfl, rfl⟩
        · exact .inr (.inl rfl)
        · exact .inr (.inr ⟨_, rfl, Nat.le_refl _⟩)
      · exact .inr (.inr ⟨_, rfl, hk'⟩)
end Go.Proofs.Ytniccdnjaaepcaa
