/-
  The document's arena in memory; Has.
-/
import Derived.Test.YtbkdakabpmpiiaaArt
import Derived.Test.YtbkdakabpmpiiaaIts
import Derived.Test.YtbkdakabpmpiiaaFlt
namespace Go.Proofs.Ytbkdakabpmpiiaa
open Go.RowKit
abbrev cB (b : Bool) : Array Value := #[.bool b]
def zs (l : List Nat) : List Int := l.map fun (x : Nat) => (x : Int)
theorem zs_length (l : List Nat) : (zs l).length = l.length := by simp [zs]
theorem zs_get (l : List Nat) (i : Nat) : (zs l)[i]? = l[i]?.map fun (x : Nat) => (x : Int) := by simp [zs]
/-- The document's arena: a struct in block r; its rows; S: the blocks on which it hangs. -/
structure RaB (w : World) (r : Nat) (S : Nat → Prop) (s : Ar) (bo bt : Nat) (cO cT : Array Value) (ad : Option Addr) (cd : Nat) : Prop where
  wf : s.Wf
  small : s.n ≤ 500
  hr : Blk w r 46 #[.slice (some ⟨bo, 0, none⟩) s.n s.n, .slice (some ⟨bt, 0, none⟩) s.n s.n, .slice ad s.D.length cd, .int .i64 (s.nx : Int)]
  ho : Blk w bo 33 cO
  fo : Flt cOrd 7 cO s.O
  ht : Blk w bt 4 cT
  ft : Flt cB 1 cT s.T
  hd : It .i64 w ad cd (zs s.D)
  sr : S r
  so : S bo
  st : S bt
  sd : ∀ b off, ad = some ⟨b, off, none⟩ → S b ∧ b ≠ r ∧ b ≠ bo ∧ b ≠ bt
  ne : r ≠ bo ∧ r ≠ bt ∧ bo ≠ bt
  lt : ∀ b, S b → b < w.heap.size
def RA (w : World) (r : Nat) (S : Nat → Prop) (s : Ar) : Prop := ∃ bo bt cO cT ad cd, RaB w r S s bo bt cO cT ad cd
section
variable {w w' : World} {r : Nat} {S T : Nat → Prop} {s : Ar} {bo bt : Nat} {cO cT : Array Value} {ad : Option Addr} {cd : Nat}
theorem RaB.frm (h : RaB w r S s bo bt cO cT ad cd) (hf : Frm T w w') (hT : ∀ b, T b → ¬ S b) : RaB w' r S s bo bt cO cT ad cd := by
  have k : ∀ b, S b → w'.heap[b]? = w.heap[b]? := fun b hb => hf.block b (h.lt b hb) (fun ht => hT b ht hb)
  exact ⟨h.wf, h.small, (k _ h.sr).trans h.hr, (k _ h.so).trans h.ho, h.fo, (k _ h.st).trans h.ht, h.ft, h.hd.keep fun b off e => k b (h.sd b off e).1, h.sr, h.so, h.st, h.sd, h.ne, fun b hb => Nat.lt_of_lt_of_le (h.lt b hb) hf.size⟩
theorem RaB.below (h : RaB w r S s bo bt cO cT ad cd) (hb : Below w.heap.size w w') : RaB w' r S s bo bt cO cT ad cd := h.frm (Frm.of_below (S := fun _ => False) hb) (fun _ f => f.elim)
theorem RA.frm (h : RA w r S s) (hf : Frm T w w') (hT : ∀ b, T b → ¬ S b) : RA w' r S s := by
  obtain ⟨bo, bt, cO, cT, ad, cd, h⟩ := h
  exact ⟨bo, bt, cO, cT, ad, cd, h.frm hf hT⟩
theorem RA.below (h : RA w r S s) (hb : Below w.heap.size w w') : RA w' r S s := h.frm (Frm.of_below (S := fun _ => False) hb) (fun _ f => f.elim)
theorem RA.lt (h : RA w r S s) : ∀ b, S b → b < w.heap.size := by
  obtain ⟨bo, bt, cO, cT, ad, cd, h⟩ := h
  exact h.lt
theorem RaB.tk (h : RaB w r S s bo bt cO cT ad cd) {i : Nat} (hi : i < s.n) : w.cell? ⟨bt, i, none⟩ = some (.bool (s.has i)) := by
  have hl : i < s.T.length := by rw [h.wf.lenT]; exact hi
  have := h.ft.at' i _ (List.getElem?_eq_getElem hl) 0 _ rfl
  have := h.ht.cell_eq _ _ this
  rw [Nat.mul_one, Nat.add_zero] at this
  rw [this]
  unfold Ar.has
  rw [List.getElem?_eq_getElem hl]
  rfl
end
set_option maxRecDepth 8000 in
set_option maxHeartbeats 1000000 in
theorem rhas_any (r : Nat) (S : Nat → Prop) (s : Ar) (x : Int) (W : World) (hA : RA W r S s) :
    Calls Try.prog 15 #[.pointer (some ⟨r, 0, none⟩), .int .i64 x] W fun e w' => e = .returned (.bool (s.hasI x)) ∧ w' = W := by
  obtain ⟨bo, bt, cO, cT, ad, cd, h⟩ := hA
  have c0 := h.hr.cell_eq 0 _ rfl
  have c1 := h.hr.cell_eq 1 _ rfl
  have hn := h.small
  by_cases h0 : x < 0
  · rw [s.hasI_neg h0]
    clear h
    generalize s.n = n at *
    go_enter Try.func15, Try.ntmps15
    go_wp2_with fail
    all_goals go_ret
    all_goals trivial
  · obtain ⟨i, rfl⟩ : ∃ i : Nat, x = (i : Int) := ⟨x.toNat, by omega⟩
    rw [s.hasI_nat]
    by_cases h1 : i < s.n
    · have k1 := h.tk h1
      generalize s.has i = b at *
      clear h
      generalize s.n = n at *
      go_enter Try.func15, Try.ntmps15
      go_wp2_with fail
      all_goals go_ret
      all_goals trivial
    · rw [Ar.has_ge h.wf (by omega)]
      clear h
      generalize s.n = n at *
      go_enter Try.func15, Try.ntmps15
      go_wp2_with fail
      all_goals go_ret
      all_goals trivial
end Go.Proofs.Ytbkdakabpmpiiaa
