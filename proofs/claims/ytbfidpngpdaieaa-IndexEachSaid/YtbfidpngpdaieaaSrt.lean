/-
  slices.Sort at []int64: the shelf's contract, laid over this program. (Written by gen/p_srt.py; the fields as the shelf's own laying has them.)
-/
import Derived.Test.YtbfidpngpdaieaaApp
import Derived.Shelf.SortM.Plain
import Derived.Shelf.SortM.SortNone
import Derived.Sort.OwnSortedInts
import Derived.Test.YtbfidpngpdaieaaChecked
namespace Go.Proofs.Ytbfidpngpdaieaa
open Go.RowKit Go.Shelf Go.Sort
def sortRen : Go.Shelf.Ren := ⟨fun | 5 => 22 | 8 => 25 | 7 => 24 | 19 => 35 | 20 => 36 | 10 => 26 | 11 => 27 | 12 => 28 | 13 => 29 | 14 => 30 | 15 => 31 | 16 => 32 | 17 => 33 | 18 => 34 | 30 => 37 | 31 => 38 | 32 => 39 | 33 => 40 | 34 => 41 | 35 => 42 | 40 => 43 | n => n, fun | 23 => 55 | 25 => 2 | 3 => 3 | 32 => 62 | 22 => 55 | 0 => 0 | 44 => 72 | 46 => 74 | 4 => 4 | 36 => 65 | 35 => 64 | 41 => 46 | 5 => 5 | 9 => 9 | 53 => 75 | 57 => 79 | 63 => 82 | 64 => 83 | n => n, fun n => n⟩
theorem sortLaid : SlLaysM.n5 Try.prog sortRen := {
  mixed := by kernel_rfl,
  f5 := ⟨Try.f22.name, by decide, Try.func22.trans (congrArg some (by kernel_rfl))⟩,
  f7 := ⟨Try.f24.name, by decide, Try.func24.trans (congrArg some (by kernel_rfl))⟩,
  f8 := Try.func25.trans (congrArg some (by kernel_rfl)),
  f10 := ⟨Try.f26.name, by decide, Try.func26.trans (congrArg some (by kernel_rfl))⟩,
  f11 := ⟨Try.f27.name, by decide, Try.func27.trans (congrArg some (by kernel_rfl))⟩,
  f12 := ⟨Try.f28.name, by decide, Try.func28.trans (congrArg some (by kernel_rfl))⟩,
  f13 := ⟨Try.f29.name, by decide, Try.func29.trans (congrArg some (by kernel_rfl))⟩,
  f14 := ⟨Try.f30.name, by decide, Try.func30.trans (congrArg some (by kernel_rfl))⟩,
  f15 := ⟨Try.f31.name, by decide, Try.func31.trans (congrArg some (by kernel_rfl))⟩,
  f16 := ⟨Try.f32.name, by decide, Try.func32.trans (congrArg some (by kernel_rfl))⟩,
  f17 := ⟨Try.f33.name, by decide, Try.func33.trans (congrArg some (by kernel_rfl))⟩,
  f18 := ⟨Try.f34.name, by decide, Try.func34.trans (congrArg some (by kernel_rfl))⟩,
  f19 := Try.func35.trans (congrArg some (by kernel_rfl)),
  f20 := Try.func36.trans (congrArg some (by kernel_rfl)),
  f30 := ⟨Try.f37.name, by decide, Try.func37.trans (congrArg some (by kernel_rfl))⟩,
  f31 := Try.func38.trans (congrArg some (by kernel_rfl)),
  f32 := Try.func39.trans (congrArg some (by kernel_rfl)),
  f33 := ⟨Try.f40.name, by decide, Try.func40.trans (congrArg some (by kernel_rfl))⟩,
  f34 := ⟨Try.f41.name, by decide, Try.func41.trans (congrArg some (by kernel_rfl))⟩,
  f35 := ⟨Try.f42.name, by decide, Try.func42.trans (congrArg some (by kernel_rfl))⟩,
  f40 := ⟨Try.f43.name, by decide, Try.func43.trans (congrArg some (by kernel_rfl))⟩,
  t0 := Try.underlying0,
  a0 := Try.isAgg0,
  z0 := Try.sizeOf0,
  v0 := Try.zeroValue0,
  t3 := Try.underlying3,
  a3 := Try.isAgg3,
  z3 := Try.sizeOf3,
  v3 := Try.zeroValue3,
  t4 := Try.underlying4,
  a4 := Try.isAgg4,
  z4 := Try.sizeOf4,
  v4 := Try.zeroValue4,
  t5 := Try.underlying5,
  a5 := Try.isAgg5,
  z5 := Try.sizeOf5,
  v5 := Try.zeroValue5,
  t9 := Try.underlying9,
  a9 := Try.isAgg9,
  z9 := Try.sizeOf9,
  v9 := Try.zeroValue9,
  t22 := Try.underlying55,
  a22 := Try.isAgg55,
  z22 := Try.sizeOf55,
  v22 := Try.zeroValue55,
  t23 := Try.underlying55,
  a23 := Try.isAgg55,
  z23 := Try.sizeOf55,
  v23 := Try.zeroValue55,
  t25 := Try.underlying2,
  a25 := Try.isAgg2,
  z25 := Try.sizeOf2,
  v25 := Try.zeroValue2,
  t32 := Try.underlying62,
  a32 := Try.isAgg62,
  z32 := Try.sizeOf62,
  v32 := Try.zeroValue62,
  t35 := Try.underlying64,
  a35 := Try.isAgg64,
  z35 := Try.sizeOf64,
  v35 := Try.zeroValue64,
  t36 := Try.underlying65,
  a36 := Try.isAgg65,
  z36 := Try.sizeOf65,
  v36 := Try.zeroValue65,
  t41 := Try.underlying46,
  a41 := Try.isAgg46,
  z41 := Try.sizeOf46,
  v41 := Try.zeroValue46,
  t44 := Try.underlying72,
  a44 := Try.isAgg72,
  z44 := Try.sizeOf72,
  v44 := Try.zeroValue72,
  t46 := Try.underlying74,
  a46 := Try.isAgg74,
  z46 := Try.sizeOf74,
  v46 := Try.zeroValue74,
  t53 := Try.underlying75,
  a53 := Try.isAgg75,
  z53 := Try.sizeOf75,
  v53 := Try.zeroValue75,
  t57 := Try.underlying79,
  a57 := Try.isAgg79,
  z57 := Try.sizeOf79,
  v57 := Try.zeroValue79,
  t63 := Try.underlying82,
  a63 := Try.isAgg82,
  z63 := Try.sizeOf82,
  v63 := Try.zeroValue82,
  t64 := Try.underlying83,
  a64 := Try.isAgg83,
  z64 := Try.sizeOf83,
  v64 := Try.zeroValue83 }

/-- Behind the sort the same slice owns the sorted list. -/
theorem ow_sorted {w : World} {ko : Option Nat} {ao : Option Addr} {cap : Nat} {ds : List Int} (h : OwG 2 1 w ko ao cap ds.length (ds.map (Value.int .i64))) (h0 : 0 < ds.length) :
    ∃ g, ko = some g ∧ ao = some ⟨g, 0, none⟩ ∧ g < w.heap.size ∧ Holds (Value.int .i64) w g 0 ds.toArray ∧ ∀ (ts : List Int) (n : Nat) (os : Array Obj), ts.length = ds.length → OwG 2 1 (grow (putRow (Value.int .i64) (Sort.ahead w n) g 0 ts.toArray) os) ko ao cap ts.length (ts.map (Value.int .i64)) ∧ Frm (fun c => ko = some c) w (grow (putRow (Value.int .i64) (Sort.ahead w n) g 0 ts.toArray) os) := by
  rcases h.at' with ⟨_, _, hc⟩ | ⟨g, cur, rfl, rfl, hb, h4, h5⟩
  · have := h.len; omega
  refine ⟨g, rfl, rfl, (Array.getElem?_eq_some_iff.1 hb).1, holds_of_blockI hb (by simpa using h5), fun ts n os hl => ⟨⟨by simp, by rw [hl]; exact h.len, h.top, .inr ⟨g, _, rfl, rfl, heap_sortedI _ hb, by simp [putCells, h4], ?_⟩⟩, ?_⟩⟩
  · rw [Nat.mul_one]
    refine take_putCellsI cur ts ?_
    have := h.len
    omega
  · have hg := grownBy_sortedI (w := w) (g := g) (n := n) (os := os) ts.toArray
    exact ⟨hg.os, hg.tape, hg.output, hg.size, fun c hc hn => hg.block c hc (fun e => hn (by cases e; rfl))⟩
theorem sort_any {w : World} {ko : Option Nat} {ao : Option Addr} {cap : Nat} {ds : List Int} (h : OwG 2 1 w ko ao cap ds.length (ds.map (Value.int .i64))) (hl : ds.length ≤ 100000) :
    Calls Try.prog 22 #[.slice ao ds.length cap] w fun e w' => e = .returned (.tuple #[]) ∧ OwG 2 1 w' ko ao cap ds.length ((ds.mergeSort fun x y => decide (x ≤ y)).map (Value.int .i64)) ∧ Frm (fun c => ko = some c) w w' := by
  by_cases h0 : 0 < ds.length
  · obtain ⟨g, rfl, rfl, hg, hH, hfin⟩ := ow_sorted h h0
    refine (AnyM.slices_Sort_int sortLaid g 0 cap ds w hH hg (by omega)).mono ?_
    rintro e w' ⟨he, n, os, rfl⟩
    have hml : (ds.mergeSort fun x y => decide (x ≤ y)).length = ds.length := List.length_mergeSort _
    have := hfin _ n os hml
    rw [hml] at this
    exact ⟨he, this⟩
  · have hn : ds = [] := List.eq_nil_of_length_eq_zero (by omega)
    subst hn
    exact (AnyM.slices_Sort_int_none sortLaid ao cap w).mono fun e w' ⟨he, hw⟩ => ⟨he, by rw [hw]; simpa using h, by rw [hw]; exact Frm.refl _ _⟩
end Go.Proofs.Ytbfidpngpdaieaa
