/-
  The document's levels: the least queue that is free.
-/
import Derived.Test.YthlpnlmjpdcbiaaRla
namespace Go.Proofs.Ythlpnlmjpdcbiaa
open Go.RowKit
/-- Whether one of the first k levels has queue q. -/
def usd (L : List Lvl) (q k : Nat) : Bool := (L.take k).any fun x => x.queue == q
theorem usd_step {L : List Lvl} {q k : Nat} {x : Lvl} (h : L[k]? = some x) : usd L q (k + 1) = (usd L q k || x.queue == q) := by
  unfold usd
  rw [List.take_add_one, h]
  simp
theorem usd_all (L : List Lvl) (q : Nat) : usd L q L.length = true ↔ ∃ x ∈ L, x.queue = q := by
  unfold usd
  rw [List.take_length]
  simp
section
variable {w w' W : World} {r : Nat} {S T : Nat → Prop} {s : Ld} {ko : Option Nat} {ao : Option Addr} {cap : Nat}
set_option maxRecDepth 8000 in
set_option maxHeartbeats 1000000 in
theorem lfree_any (h : RlB W r S ko ao cap s) :
    Calls Try.prog 37 #[.pointer (some ⟨r, 0, none⟩)] W fun e w' => e = .returned (.int .i64 (freeQ s.L : Nat)) ∧ Below W.heap.size W w' := by
  have hm := h.most
  have hl := h.len
  have hF := freeQ_free s.L
  have hFl := hF.le
  have hyes : ∀ q : Nat, q < freeQ s.L → usd s.L q s.L.length = true := fun q hq => (usd_all s.L q).2 (hF.2 q hq)
  have hno : usd s.L (freeQ s.L) s.L.length = false := by
    cases hu : usd s.L (freeQ s.L) s.L.length with
    | false => rfl
    | true =>
      obtain ⟨x, hx, e⟩ := (usd_all s.L _).1 hu
      exact absurd e (hF.1 x hx)
  have hz : ∀ q, usd s.L q 0 = false := fun _ => rfl
  have hst : ∀ (q k : Nat) x, s.L[k]? = some x → usd s.L q (k + 1) = (usd s.L q k || x.queue == q) := fun q k x hx => usd_step hx
  clear hF
  generalize usd s.L = u at *
  generalize freeQ s.L = F at *
  obtain ⟨m, hmm⟩ : ∃ m, m = s.L.length := ⟨_, rfl⟩
  rw [← hmm] at hl hFl hyes hno
  replace hmm := Lib.hid hmm
  replace hyes := Lib.hid hyes
  replace hno := Lib.hid hno
  replace hst := Lib.hid hst
  replace hz := Lib.hid hz
  go_enter Try.func37, Try.ntmps37
  go_wp2_with fail
  go_loopg [3] F (fun j p3 wr => ∃ q : Nat, q + j = F ∧ p3 = .int .i64 (q : Int) ∧ Below W.heap.size W wr)
  case atStart => exact ⟨0, by omega, rfl, Below.refl _ _⟩
  case round =>
    obtain ⟨q, hq, rfl, hB⟩ := hrel
    go_wp2_with fail
    go_loopg [4, 5] m (fun j p4 p5 wr' => ∃ k : Nat, k + j = m ∧ p4 = .bool (u q k) ∧ p5 = .int .i64 (k : Int) ∧ Below W.heap.size W wr')
    case atStart => exact ⟨0, by omega, by rw [hz.out], rfl, hB⟩
    case round =>
      obtain ⟨k, hk, rfl, rfl, hB⟩ := hrel
      have hK := h.below hB
      have c2 := hK.c2
      rw [← hmm.out] at c2
      by_cases hkm : k < m
      · obtain ⟨x, hx⟩ : ∃ x, s.L[k]? = some x := ⟨_, List.getElem?_eq_getElem (by rw [← hmm.out]; exact hkm)⟩
        obtain ⟨b, off, rfl, y0, y1, y2, y3⟩ := hK.lvls.get hx
        have hk2 : (k : Int) < (m : Int) := by omega
        have hs := hst.out q k x hx
        clear y0 y1 y2 hyes hno hst hz hx hmm h hK
        cases hu : u q k with
        | true =>
          rw [hu, Bool.true_or] at hs
          replace hs := Lib.hid hs
          go_wp2_with fail
          go_roundg (m - (k + 1))
          case measure => omega
          case rel => exact ⟨k + 1, by omega, by rw [hs.out], by go_num, hB⟩
        | false =>
          rw [hu, Bool.false_or] at hs
          replace hs := Lib.hid hs
          go_wp2_with fail
          go_roundg (m - (k + 1))
          case measure => omega
          case rel => exact ⟨k + 1, by omega, by rw [hs.out], by go_num, hB⟩
      · obtain rfl : k = m := by omega
        by_cases hqF : q < F
        · have hu := hyes.out q hqF
          clear hyes hno hst hz hmm h hK
          go_wp2_with fail
          go_roundg (F - (q + 1))
          case measure => omega
          case rel => exact ⟨q + 1, by omega, by go_num, hB⟩
        · obtain rfl : q = F := by omega
          have hu := hno.out
          clear hyes hno hst hz hmm h hK
          go_wp2_with fail
          go_ret
          exact ⟨rfl, hB⟩
end
end Go.Proofs.Ythlpnlmjpdcbiaa
