/-
  The contracts of package message's within, Right and Is.
-/
import Derived.Test.YtalgpbjonkcldaaMsgR
namespace Go.Proofs.Ytalgpbjonkcldaa
open Go.RowKit
theorem Below.al {W w : World} (h : Below W.heap.size W w) (o : Obj) : Below W.heap.size W (w.alloc o) := h.alloc h.size o
/-- Numbers that none is less than the least, or greater than the greatest. -/
def withinB (lo hi : Int) (zs : List Int) : Bool := zs.all fun z => inM z lo hi
theorem within_any (lo hi : Int) (b off : Nat) (cap : Nat) (zs : List Int) (hl : zs.length ≤ 100) (W : World)
    (hz : ∀ (i : Nat) (z : Int), zs[i]? = some z → W.cell? ⟨b, off + i, none⟩ = some (.int .i64 z)) :
    Calls Try.prog 26 #[.int .i64 lo, .int .i64 hi, .slice (some ⟨b, off, none⟩) zs.length cap] W fun e w' => e = .returned (.bool (withinB lo hi zs)) ∧ W = w' := by
  go_enter Try.func26, Try.ntmps26
  go_wp2
  go_loopg [11] zs.length (fun j p11 wr => wr = W ∧ ∃ q : Nat, q + j = zs.length ∧ p11 = .int .i64 (q : Int) ∧ Hid (withinB lo hi (zs.take q) = true))
  case atStart => exact ⟨rfl, 0, by omega, rfl, by simp [Hid, withinB]⟩
  case round =>
    obtain ⟨rfl, q, hq, rfl, hn⟩ := hrel
    by_cases hj : q < zs.length
    · obtain ⟨z, hx⟩ : ∃ z, zs[q]? = some z := ⟨zs[q], List.getElem?_eq_getElem hj⟩
      have hcz := hz q z hx
      have ht : zs.take (q + 1) = zs.take q ++ [z] := by rw [List.take_add_one, hx]; rfl
      have hin : withinB lo hi (zs.take (q + 1)) = inM z lo hi := by
        rw [ht]
        unfold withinB at hn ⊢
        rw [List.all_append, hn.out]
        simp
      have hbad : z < lo ∨ hi < z → withinB lo hi zs = false := by
        intro h
        have hm : z ∈ zs := List.mem_of_getElem? hx
        have h2 : inM z lo hi = false := by unfold inM; simp; omega
        unfold withinB
        rw [List.all_eq_false]
        exact ⟨z, hm, by rw [h2]; decide⟩
      have hgood : lo ≤ z → z ≤ hi → Hid (withinB lo hi (zs.take (q + 1)) = true) := by
        intro h1 h2
        show _ = _
        rw [hin]
        unfold inM
        simp [h1, h2]
      clear hx hn ht hin hz
      go_wp2
      all_goals first
        | (go_roundg (zs.length - (q + 1))
           case measure => omega
           case rel => exact ⟨rfl, q + 1, by omega, by go_num, hgood (by omega) (by omega)⟩)
        | (go_ret; exact ⟨rfl, rfl⟩)
        | (rw [hbad (by omega)]; go_ret; exact ⟨rfl, rfl⟩)
    · have hqe : q = zs.length := by omega
      subst hqe
      rw [List.take_length] at hn
      have hn2 := hn.out
      clear hn
      clear hz
      go_wp2
      go_ret
      exact ⟨congrArg (fun x => Ending.returned (Value.bool x)) hn2.symm, rfl⟩
theorem within_one (lo hi x : Int) (b cap : Nat) (W : World) {T : TypeId} (h : Blk W b T #[.int .i64 x]) :
    Calls Try.prog 26 #[.int .i64 lo, .int .i64 hi, .slice (some ⟨b, 0, none⟩) 1 cap] W fun e w' => e = .returned (.bool (withinB lo hi [x])) ∧ W = w' :=
  within_any lo hi b 0 cap [x] (by simp) W (fun i z h2 => by
    match i, h2 with
    | 0, h2 => simp at h2; subst h2; exact h.cell_eq 0 _ rfl)
theorem within_two (lo hi x y : Int) (b cap : Nat) (W : World) {T : TypeId} (h : Blk W b T #[.int .i64 x, .int .i64 y]) :
    Calls Try.prog 26 #[.int .i64 lo, .int .i64 hi, .slice (some ⟨b, 0, none⟩) 2 cap] W fun e w' => e = .returned (.bool (withinB lo hi [x, y])) ∧ W = w' :=
  within_any lo hi b 0 cap [x, y] (by simp) W (fun i z h2 => by
    match i, h2 with
    | 0, h2 => simp at h2; subst h2; exact h.cell_eq 0 _ rfl
    | 1, h2 => simp at h2; subst h2; exact h.cell_eq 1 _ rfl)
set_option maxHeartbeats 1000000 in
theorem mright_any (m : Msg) (W : World) : Calls Try.prog 10 #[vMsg m] W fun e w' => e = .returned (.bool (rightM m)) ∧ Below W.heap.size W w' := by
  have e : rightM m = (withinB 1 9 [m.kind] && (withinB 0 255 [m.sym, m.code] && (withinB 0 4611686018427387904 [m.seq, m.tick] && withinB (-1) 4611686018427387904 [m.id, m.other]))) := by
    unfold rightM withinB
    simp [Bool.and_assoc]
  rw [e]
  have c0 := fun b cap w (h : Blk w b 2 #[.int .i64 m.kind]) => within_one 1 9 m.kind b cap w h
  have c1 := fun b cap w (h : Blk w b 2 #[.int .i64 m.sym, .int .i64 m.code]) => within_two 0 255 m.sym m.code b cap w h
  have c2 := fun b cap w (h : Blk w b 2 #[.int .i64 m.seq, .int .i64 m.tick]) => within_two 0 4611686018427387904 m.seq m.tick b cap w h
  have c3 := fun b cap w (h : Blk w b 2 #[.int .i64 m.id, .int .i64 m.other]) => within_two (-1) 4611686018427387904 m.id m.other b cap w h
  generalize withinB 1 9 [m.kind] = b0 at c0 ⊢
  generalize withinB 0 255 [m.sym, m.code] = b1 at c1 ⊢
  generalize withinB 0 4611686018427387904 [m.seq, m.tick] = b2 at c2 ⊢
  generalize withinB (-1) 4611686018427387904 [m.id, m.other] = b3 at c3 ⊢
  clear e
  obtain ⟨kind, sym, seq, tick, id, other, price, qty, code⟩ := m
  simp only at c0 c1 c2 c3
  go_enter Try.func10, Try.ntmps10
  go_wp2_with (first
    | (go_at_call 26; (with_reducible refine (c0 _ _ _ ?_).mono ?_); exact Blk.new' (by simp); rintro e w1 ⟨rfl, rfl⟩)
    | (go_at_call 26; (with_reducible refine (c1 _ _ _ ?_).mono ?_); exact Blk.new' (by simp); rintro e w1 ⟨rfl, rfl⟩)
    | (go_at_call 26; (with_reducible refine (c2 _ _ _ ?_).mono ?_); exact Blk.new' (by simp); rintro e w1 ⟨rfl, rfl⟩)
    | (go_at_call 26; (with_reducible refine (c3 _ _ _ ?_).mono ?_); exact Blk.new' (by simp); rintro e w1 ⟨rfl, rfl⟩))
  all_goals go_ret
  all_goals refine ⟨by simp_all, ?_⟩
  all_goals (repeat (refine Below.al ?_ _))
  all_goals exact Below.refl _ _
theorem is_any (m : Msg) (k s : Int) (W : World) : Calls Try.prog 12 #[vMsg m, .int .i64 k, .int .i64 s] W fun e w' => e = .returned (.bool (m.kind == k && m.sym == s)) ∧ Below W.heap.size W w' := by
  have hb := fun o => (Below.refl W.heap.size W).alloc (Nat.le_refl _) o
  obtain ⟨kind, sym, seq, tick, id, other, price, qty, code⟩ := m
  go_enter Try.func12, Try.ntmps12
  go_wp2
  all_goals go_ret
  all_goals exact ⟨by simp_all, hb _⟩
end Go.Proofs.Ytalgpbjonkcldaa
