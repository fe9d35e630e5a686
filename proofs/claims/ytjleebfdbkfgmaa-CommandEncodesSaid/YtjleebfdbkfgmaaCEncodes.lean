/-
  CommandEncodes, for every command and every flag.
-/
import Derived.Test.YtjleebfdbkfgmaaCmdK
import Derived.Test.YtjleebfdbkfgmaaOpenC
import Derived.Test.YtjleebfdbkfgmaaPost
namespace Go.Proofs.Ytjleebfdbkfgmaa
open Go.RowKit
/-- Whether of the first k bits each that n has flags has too. -/
def hasV (n flags : Int) : Nat → Bool
  | 0 => true
  | k + 1 => if (bits .and .i64 (n / 2 ^ k) 1 == 1 && bits .and .i64 (flags / 2 ^ k) 1 == 0) = true then false else hasV n flags k
theorem hasV_no {n flags : Int} {k : Nat} (h1 : bits .and .i64 (n / 2 ^ k) 1 = 1) (h2 : (bits .and .i64 (flags / 2 ^ k) 1 == 0) = true) : hasV n flags (k + 1) = false := by
  rw [hasV, if_pos (by rw [h1, h2]; rfl)]
theorem hasV_one {n flags : Int} {k : Nat} (h2 : (bits .and .i64 (flags / 2 ^ k) 1 == 0) = false) : hasV n flags (k + 1) = hasV n flags k := by
  rw [hasV, if_neg (by rw [h2]; simp)]
theorem hasV_not {n flags : Int} {k : Nat} (h1 : ¬ bits .and .i64 (n / 2 ^ k) 1 = 1) : hasV n flags (k + 1) = hasV n flags k := by
  rw [hasV, if_neg (by simp [h1])]
theorem and_small (x : Int) (n : Nat) (hn : n < 8) : bits .and .i64 x (n : Int) = (((x % 8).toNat &&& n : Nat) : Int) := by
  show IntKind.i64.wrap ((BitVec.ofInt 64 x &&& BitVec.ofInt 64 (n : Int)).toNat : Int) = _
  have e1 : BitVec.ofInt 64 (n : Int) = BitVec.ofNat 64 n := BitVec.ofInt_natCast ..
  rw [e1, BitVec.toNat_and, BitVec.toNat_ofInt, BitVec.toNat_ofNat, Nat.mod_eq_of_lt (show n < 2 ^ 64 by omega)]
  have h1 : (x % ((2 ^ 64 : Nat) : Int)).toNat &&& n ≤ n := Nat.and_le_right
  have h2 := Nat.and_mod_two_pow (a := (x % ((2 ^ 64 : Nat) : Int)).toNat) (b := n) (n := 3)
  rw [Nat.mod_eq_of_lt (show _ < 2 ^ 3 by omega), Nat.mod_eq_of_lt (show n < 2 ^ 3 by omega)] at h2
  have h3 : (x % ((2 ^ 64 : Nat) : Int)).toNat % 2 ^ 3 = (x % 8).toNat := by
    have : ((2 ^ 64 : Nat) : Int) = 18446744073709551616 := by decide
    rw [this]; omega
  rw [h3] at h2
  rw [h2]
  have h4 : (x % 8).toNat &&& n ≤ n := Nat.and_le_right
  rw [IntKind.wrap_i64]
  omega
theorem and_bit (x : Int) : bits .and .i64 x 1 = x % 2 := by
  have h := and_small x 1 (by decide)
  rw [Nat.and_one_is_mod] at h
  have e : bits .and .i64 x ((1 : Nat) : Int) = bits .and .i64 x 1 := rfl
  rw [e] at h
  rw [h]
  omega
theorem bits_three : ∀ (r n : Fin 8), ((r.val &&& n.val) == n.val) = (if n.val % 2 = 1 ∧ r.val % 2 = 0 then false else if n.val / 2 % 2 = 1 ∧ r.val / 2 % 2 = 0 then false else if n.val / 4 % 2 = 1 ∧ r.val / 4 % 2 = 0 then false else true) := by decide
theorem has_all (flags : Int) (n : Nat) (hn : n < 8) : hasV (n : Int) flags 8 = (bits .and .i64 flags (n : Int) == (n : Int)) := by
  have hz : ∀ k : Nat, 3 ≤ k → ¬ bits .and .i64 ((n : Int) / 2 ^ k) 1 = 1 := fun k hk => by
    have h1 : (2 : Nat) ^ 3 ≤ 2 ^ k := Nat.pow_le_pow_right (by decide) hk
    have h2 : n / 2 ^ k = 0 := Nat.div_eq_of_lt (by omega)
    have h3 : (n : Int) / 2 ^ k = ((n / 2 ^ k : Nat) : Int) := by simp
    rw [h3, h2, and_bit]
    decide
  rw [hasV_not (hz 7 (by decide)), hasV_not (hz 6 (by decide)), hasV_not (hz 5 (by decide)), hasV_not (hz 4 (by decide)), hasV_not (hz 3 (by decide))]
  have hb := bits_three ⟨(flags % 8).toNat, by omega⟩ ⟨n, hn⟩
  simp only at hb
  rw [and_small flags n hn]
  have e : ((((flags % 8).toNat &&& n : Nat) : Int) == (n : Int)) = (((flags % 8).toNat &&& n) == n) := by
    rw [Bool.eq_iff_iff, beq_iff_eq, beq_iff_eq]; exact Int.natCast_inj
  rw [e, hb]
  simp only [hasV, and_bit, Bool.and_eq_true, beq_iff_eq, Int.pow_zero, Int.ediv_one]
  have p1 : (2 : Int) ^ 1 = 2 := by decide
  have p2 : (2 : Int) ^ 2 = 4 := by decide
  rw [p1, p2]
  have q0 : ((n : Int) % 2 = 1 ∧ flags % 2 = 0) ↔ (n % 2 = 1 ∧ (flags % 8).toNat % 2 = 0) := by omega
  have q1 : ((n : Int) / 2 % 2 = 1 ∧ flags / 2 % 2 = 0) ↔ (n / 2 % 2 = 1 ∧ (flags % 8).toNat / 2 % 2 = 0) := by omega
  have q2 : ((n : Int) / 4 % 2 = 1 ∧ flags / 4 % 2 = 0) ↔ (n / 4 % 2 = 1 ∧ (flags % 8).toNat / 4 % 2 = 0) := by omega
  simp only [q0, q1, q2]
  repeat' split
  all_goals first | rfl | simp_all
/-- A command, and two slices of the same bytes, side by side. -/
structure ES (W : World) (b : Nat) (T : TypeId) (cs : Array Value) (k1 : Nat) (ao1 : Option Addr) (cp1 : Nat) (k2 : Nat) (ao2 : Option Addr) (cp2 : Nat) (X : List Nat) (w : World) : Prop where
  blk : Blk w b T cs
  b1 : Bt w k1 ao1 cp1 X
  b2 : Bt w k2 ao2 cp2 X
  bel : Below W.heap.size W w
section
variable {W w w' : World} {b k1 k2 cp1 cp2 : Nat} {T : TypeId} {cs : Array Value} {ao1 ao2 : Option Addr} {X : List Nat}
theorem ES.keep (h : ES W b T cs k1 ao1 cp1 k2 ao2 cp2 X w) (hb : Below w.heap.size w w') : ES W b T cs k1 ao1 cp1 k2 ao2 cp2 X w' :=
  ⟨h.blk.below hb h.blk.lt, h.b1.below hb, h.b2.below hb, h.bel.trans (hb.mono h.bel.size)⟩
theorem ES.drew (h : ES W b T cs k1 ao1 cp1 k2 ao2 cp2 X w) : ES W b T cs k1 ao1 cp1 k2 ao2 cp2 X w.drew := h.keep (Below.refl _ _).drew
end
set_option maxRecDepth 4000 in
set_option maxHeartbeats 2000000 in
theorem cencodes_any (c : Cmd) (hc : c.Fit) (n : Int) (hn : In64 n) (W : World) :
    Calls Try.prog 3 #[cv c, .int .i64 n] W fun e w' => e = .returned (.bool true) ∧ Below W.heap.size W w' := by
  have cA := fun w => alive5_any w
  have cE := fun w => encode_any c hc w
  have cR := fun w => refEncode_any c hc w
  have cG := fun w => right_any c w
  have cH := fun w => refRight_any c w
  generalize encB c = X at cE cR
  generalize encF c = f at cE cR
  generalize rightB c = r at cG cH
  obtain ⟨n0, n1⟩ := hn
  obtain ⟨f0, f1⟩ := hc.flags
  clear hc
  have cF := fun w => has_any c n w
  obtain ⟨kind, sym, id, owner, side, typ, price, qty, flags⟩ := c
  simp only at f0 f1 cF
  have hAll : Hid (0 ≤ n → n < 8 → (bits .and .i64 flags n == n) = hasV n flags 8) := Lib.hid fun h0 h8 => by
    obtain ⟨m, rfl⟩ : ∃ m : Nat, n = (m : Int) := ⟨n.toNat, by omega⟩
    exact (has_all flags m (by omega)).symm
  have hB0 : ∀ w1, Below (W.alloc (.cells (cc ⟨kind, sym, id, owner, side, typ, price, qty, flags⟩) 23)).heap.size (W.alloc (.cells (cc ⟨kind, sym, id, owner, side, typ, price, qty, flags⟩) 23)) w1 → Blk w1 W.heap.size 23 (cc ⟨kind, sym, id, owner, side, typ, price, qty, flags⟩) ∧ Below W.heap.size W w1 := fun w1 h => ⟨(Blk.new W _ _).below h (by simp), ((Below.refl W.heap.size W).alloc (Nat.le_refl _) _).trans (h.mono (by simp))⟩
  go_enter Try.func3, Try.ntmps3
  go_wp2_with (first
    | (go_at_call 6; refine (cE _).mono ?_; rintro e w1 ⟨ao1, cp1, k1, rfl, hB1, hb1⟩; obtain ⟨hbx, hbel⟩ := hB0 _ hb1; obtain ⟨x0, x1, x2, x3, x4, x5, x6, x7, x8⟩ := cells9 hbx; clear hB0 hb1 cE)
    | (go_at_call 7; refine (cR _).mono ?_; rintro e w2 ⟨ao2, cp2, k2, rfl, hB2, hb2⟩; replace hB1 := hB1.below hb2; replace hbx := hbx.below hb2 hbx.lt; clear x0 x1 x2 x3 x4 x5 x6 x7 x8; obtain ⟨x0, x1, x2, x3, x4, x5, x6, x7, x8⟩ := cells9 hbx; replace hbel := hbel.trans (hb2.mono hbel.size); clear hb2 cR))
  have hES : ES W W.heap.size 23 (cc ⟨kind, sym, id, owner, side, typ, price, qty, flags⟩) k1 ao1 cp1 k2 ao2 cp2 X w2 := ⟨hbx, hB1, hB2, hbel⟩
  clear hbx hB1 hB2 hbel
  go_loopg [9, 10] 8 (fun j p9 p10 wr => wr = w2 ∧ ∃ k : Nat, k + j = 8 ∧ p10 = .int .i64 (k : Int) ∧ p9 = .bool (hasV n flags k))
  case atStart => exact ⟨rfl, 0, rfl, rfl, rfl⟩
  case round =>
    obtain ⟨rfl, k, hk, rfl, rfl⟩ := hrel
    by_cases hj : k < 8
    · clear cA cG cH cF hAll hES
      go_wp2
      all_goals
        go_roundg (7 - k)
        case measure => omega
        case rel => exact ⟨rfl, k + 1, by omega, by go_num, by first | (rw [hasV_no (by assumption) (by assumption)]; done) | (rw [hasV_one (by assumption)]; done) | (rw [hasV_not (by assumption)]; done)⟩
    · have hk8 : k = 8 := by omega
      subst hk8
      by_cases h8 : 0 ≤ n ∧ n < 8
      · obtain ⟨h80, h88⟩ := h8
        rw [hAll.out h80 h88] at cF
        clear hAll
        generalize hasV n flags 8 = hv at cF ⊢
        go_wp2_with (go_at_call 8; refine (cF _).mono ?_; rintro e w3 ⟨rfl, hb3⟩; replace hES := hES.keep hb3)
        refine wp_region_S (S := fun _ w' => ES W W.heap.size 23 (cc ⟨kind, sym, id, owner, side, typ, price, qty, flags⟩) k1 ao1 cp1 k2 ao2 cp2 X w') (by kernel_rfl) (hES).drew ?_
        refine AllS.next (v := ?_) rfl rfl rfl (by kernel_rfl) ?_ ?_
        rotate_left
        · refine yieldsS_run (fun _ _ h => h) (by rfl) ?_
          intro L wx hS
          go_simp
          try with_reducible rfl
        simp only [Act.put, List.setIfInBounds_toArray, List.set_cons_zero, List.set_cons_succ, List.getElem_toArray, List.getElem_cons_zero]
        refine AllS.next (v := ?_) rfl rfl rfl (by kernel_rfl) ?_ ?_
        rotate_left
        · refine yieldsS_run (fun _ _ h => h) (by rfl) ?_
          intro L wx hS
          go_simp
          try with_reducible rfl
        simp only [Act.put, List.setIfInBounds_toArray, List.set_cons_zero, List.set_cons_succ, List.getElem_toArray, List.getElem_cons_zero, List.getElem_cons_succ]
        refine AllS.next (v := .bool true) rfl rfl rfl (by kernel_rfl) ?_ ?_
        · refine yieldsS_call (f := 9) (args := #[.slice ao1 X.length cp1, .slice ao2 X.length cp2]) (by rfl) ?_ ?_
          · intro wx
            go_simp
            try with_reducible rfl
          · intro L wx hS
            exact (same_true wx hS.b1 hS.b2 rfl rfl).mono fun e w' h => ⟨h.1, h.2 ▸ hS⟩
        simp only [Act.put, List.setIfInBounds_toArray, List.set_cons_zero, List.set_cons_succ, List.getElem_toArray, List.getElem_cons_zero, List.getElem_cons_succ]
        refine AllS.next (v := ?_) rfl rfl rfl (by kernel_rfl) ?_ ?_
        rotate_left
        · refine yieldsS_run (fun _ _ h => h) (by rfl) ?_
          intro L wx hS
          go_simp
          try with_reducible rfl
        simp only [Act.put, List.setIfInBounds_toArray, List.set_cons_zero, List.set_cons_succ, List.getElem_toArray, List.getElem_cons_zero, List.getElem_cons_succ]
        refine AllS.next (v := ?_) rfl rfl rfl (by kernel_rfl) ?_ ?_
        rotate_left
        · refine yieldsS_run (fun _ _ h => h) (by rfl) ?_
          intro L wx hS
          go_simp
          try with_reducible rfl
        simp only [Act.put, List.setIfInBounds_toArray, List.set_cons_zero, List.set_cons_succ, List.getElem_toArray, List.getElem_cons_zero, List.getElem_cons_succ]
        refine AllS.next (v := ?_) rfl rfl rfl (by kernel_rfl) ?_ ?_
        rotate_left
        · refine yieldsS_run (fun _ _ h => h) (by rfl) ?_
          intro L wx hS
          go_simp
          try with_reducible rfl
        simp only [Act.put, List.setIfInBounds_toArray, List.set_cons_zero, List.set_cons_succ, List.getElem_toArray, List.getElem_cons_zero, List.getElem_cons_succ]
        refine AllS.next (v := ?_) rfl rfl rfl (by kernel_rfl) ?_ ?_
        rotate_left
        · refine yieldsS_run (fun _ _ h => h) (by rfl) ?_
          intro L wx hS
          go_simp
          try with_reducible rfl
        simp only [Act.put, List.setIfInBounds_toArray, List.set_cons_zero, List.set_cons_succ, List.getElem_toArray, List.getElem_cons_zero, List.getElem_cons_succ]
        refine AllS.next (v := ?_) rfl rfl rfl (by kernel_rfl) ?_ ?_
        rotate_left
        · refine yieldsS_run (fun _ _ h => h) (by rfl) ?_
          intro L wx hS
          go_simp
          try with_reducible rfl
        simp only [Act.put, List.setIfInBounds_toArray, List.set_cons_zero, List.set_cons_succ, List.getElem_toArray, List.getElem_cons_zero, List.getElem_cons_succ]
        refine AllS.next (v := ?_) rfl rfl rfl (by kernel_rfl) ?_ ?_
        rotate_left
        · refine yieldsS_run (fun _ _ h => h) (by rfl) ?_
          intro L wx hS
          go_simp
          try with_reducible rfl
        simp only [Act.put, List.setIfInBounds_toArray, List.set_cons_zero, List.set_cons_succ, List.getElem_toArray, List.getElem_cons_zero, List.getElem_cons_succ]
        refine AllS.next (v := ?_) rfl rfl rfl (by kernel_rfl) ?_ ?_
        rotate_left
        · refine yieldsS_run (fun _ _ h => h) (by rfl) ?_
          intro L wx hS
          obtain ⟨x0, x1, x2, x3, x4, x5, x6, x7, x8⟩ := cells9 hS.blk
          go_simp
          try with_reducible rfl
        simp only [Act.put, List.setIfInBounds_toArray, List.set_cons_zero, List.set_cons_succ, List.getElem_toArray, List.getElem_cons_zero, List.getElem_cons_succ]
        refine AllS.next (v := .bool r) rfl rfl rfl (by kernel_rfl) ?_ ?_
        · refine yieldsS_call (f := 10) (args := #[cv ⟨kind, sym, id, owner, side, typ, price, qty, flags⟩]) (by rfl) ?_ ?_
          · intro wx
            go_simp
            try with_reducible rfl
          · intro L wx hS
            exact (cG wx).mono fun e w' h => ⟨h.1, hS.keep h.2⟩
        simp only [Act.put, List.setIfInBounds_toArray, List.set_cons_zero, List.set_cons_succ, List.getElem_toArray, List.getElem_cons_zero, List.getElem_cons_succ]
        refine AllS.next (v := ?_) rfl rfl rfl (by kernel_rfl) ?_ ?_
        rotate_left
        · refine yieldsS_run (fun _ _ h => h) (by rfl) ?_
          intro L wx hS
          obtain ⟨x0, x1, x2, x3, x4, x5, x6, x7, x8⟩ := cells9 hS.blk
          go_simp
          try with_reducible rfl
        simp only [Act.put, List.setIfInBounds_toArray, List.set_cons_zero, List.set_cons_succ, List.getElem_toArray, List.getElem_cons_zero, List.getElem_cons_succ]
        refine AllS.next (v := .bool r) rfl rfl rfl (by kernel_rfl) ?_ ?_
        · refine yieldsS_call (f := 11) (args := #[cv ⟨kind, sym, id, owner, side, typ, price, qty, flags⟩]) (by rfl) ?_ ?_
          · intro wx
            go_simp
            try with_reducible rfl
          · intro L wx hS
            exact (cH wx).mono fun e w' h => ⟨h.1, hS.keep h.2⟩
        simp only [Act.put, List.setIfInBounds_toArray, List.set_cons_zero, List.set_cons_succ, List.getElem_toArray, List.getElem_cons_zero, List.getElem_cons_succ]
        refine AllS.next (v := ?_) rfl rfl rfl (by kernel_rfl) ?_ ?_
        rotate_left
        · refine yieldsS_run (fun _ _ h => h) (by rfl) ?_
          intro L wx hS
          go_simp
          try with_reducible rfl
        simp only [Act.put, List.setIfInBounds_toArray, List.set_cons_zero, List.set_cons_succ, List.getElem_toArray, List.getElem_cons_zero, List.getElem_cons_succ]
        refine AllS.next (v := ?_) rfl rfl rfl (by kernel_rfl) ?_ ?_
        rotate_left
        · refine yieldsS_run (fun _ _ h => h) (by rfl) ?_
          intro L wx hS
          go_simp
          try with_reducible rfl
        simp only [Act.put, List.setIfInBounds_toArray, List.set_cons_zero, List.set_cons_succ, List.getElem_toArray, List.getElem_cons_zero, List.getElem_cons_succ]
        refine AllS.next (v := ?_) rfl rfl rfl (by kernel_rfl) ?_ ?_
        rotate_left
        · refine yieldsS_run (fun _ _ h => h) (by rfl) ?_
          intro L wx hS
          go_simp
          try with_reducible rfl
        simp only [Act.put, List.setIfInBounds_toArray, List.set_cons_zero, List.set_cons_succ, List.getElem_toArray, List.getElem_cons_zero, List.getElem_cons_succ]
        refine AllS.next (v := .bool true) rfl rfl rfl (by kernel_rfl) ?_ ?_
        · refine yieldsS_call (f := 12) (args := #[]) (by rfl) ?_ ?_
          · intro wx
            go_simp
            try with_reducible rfl
          · intro L wx hS
            exact (cA wx).mono fun e w' h => ⟨h.1, hS.keep h.2⟩
        simp only [Act.put, List.setIfInBounds_toArray, List.set_cons_zero, List.set_cons_succ, List.getElem_toArray, List.getElem_cons_zero, List.getElem_cons_succ]
        refine AllS.next (v := ?_) rfl rfl rfl (by kernel_rfl) ?_ ?_
        rotate_left
        · refine yieldsS_run (fun _ _ h => h) (by rfl) ?_
          intro L wx hS
          go_simp
          try with_reducible rfl
        simp only [Act.put, List.setIfInBounds_toArray, List.set_cons_zero, List.set_cons_succ, List.getElem_toArray, List.getElem_cons_zero, List.getElem_cons_succ]
        refine AllS.next (v := ?_) rfl rfl rfl (by kernel_rfl) ?_ ?_
        rotate_left
        · refine yieldsS_run (fun _ _ h => h) (by rfl) ?_
          intro L wx hS
          go_simp
          try with_reducible rfl
        simp only [Act.put, List.setIfInBounds_toArray, List.set_cons_zero, List.set_cons_succ, List.getElem_toArray, List.getElem_cons_zero, List.getElem_cons_succ]
        refine AllS.done rfl ?_
        intro w9 hS
        go_wp2
        go_ret
        exact ⟨rfl, hS.bel⟩
      · generalize hasV n flags 8 = hv
        clear hAll cF
        go_wp2
        all_goals
          refine wp_region_S (S := fun _ w' => ES W W.heap.size 23 (cc ⟨kind, sym, id, owner, side, typ, price, qty, flags⟩) k1 ao1 cp1 k2 ao2 cp2 X w') (by kernel_rfl) (hES).drew ?_
          refine AllS.next (v := ?_) rfl rfl rfl (by kernel_rfl) ?_ ?_
          rotate_left
          · refine yieldsS_run (fun _ _ h => h) (by rfl) ?_
            intro L wx hS
            go_simp
            try with_reducible rfl
          simp only [Act.put, List.setIfInBounds_toArray, List.set_cons_zero, List.set_cons_succ, List.getElem_toArray, List.getElem_cons_zero]
          refine AllS.next (v := ?_) rfl rfl rfl (by kernel_rfl) ?_ ?_
          rotate_left
          · refine yieldsS_run (fun _ _ h => h) (by rfl) ?_
            intro L wx hS
            go_simp
            try with_reducible rfl
          simp only [Act.put, List.setIfInBounds_toArray, List.set_cons_zero, List.set_cons_succ, List.getElem_toArray, List.getElem_cons_zero, List.getElem_cons_succ]
          refine AllS.next (v := .bool true) rfl rfl rfl (by kernel_rfl) ?_ ?_
          · refine yieldsS_call (f := 9) (args := #[.slice ao1 X.length cp1, .slice ao2 X.length cp2]) (by rfl) ?_ ?_
            · intro wx
              go_simp
              try with_reducible rfl
            · intro L wx hS
              exact (same_true wx hS.b1 hS.b2 rfl rfl).mono fun e w' h => ⟨h.1, h.2 ▸ hS⟩
          simp only [Act.put, List.setIfInBounds_toArray, List.set_cons_zero, List.set_cons_succ, List.getElem_toArray, List.getElem_cons_zero, List.getElem_cons_succ]
          refine AllS.next (v := ?_) rfl rfl rfl (by kernel_rfl) ?_ ?_
          rotate_left
          · refine yieldsS_run (fun _ _ h => h) (by rfl) ?_
            intro L wx hS
            go_simp
            try with_reducible rfl
          simp only [Act.put, List.setIfInBounds_toArray, List.set_cons_zero, List.set_cons_succ, List.getElem_toArray, List.getElem_cons_zero, List.getElem_cons_succ]
          refine AllS.next (v := ?_) rfl rfl rfl (by kernel_rfl) ?_ ?_
          rotate_left
          · refine yieldsS_run (fun _ _ h => h) (by rfl) ?_
            intro L wx hS
            go_simp
            try with_reducible rfl
          simp only [Act.put, List.setIfInBounds_toArray, List.set_cons_zero, List.set_cons_succ, List.getElem_toArray, List.getElem_cons_zero, List.getElem_cons_succ]
          refine AllS.next (v := ?_) rfl rfl rfl (by kernel_rfl) ?_ ?_
          rotate_left
          · refine yieldsS_run (fun _ _ h => h) (by rfl) ?_
            intro L wx hS
            go_simp
            try with_reducible rfl
          simp only [Act.put, List.setIfInBounds_toArray, List.set_cons_zero, List.set_cons_succ, List.getElem_toArray, List.getElem_cons_zero, List.getElem_cons_succ]
          refine AllS.next (v := ?_) rfl rfl rfl (by kernel_rfl) ?_ ?_
          rotate_left
          · refine yieldsS_run (fun _ _ h => h) (by rfl) ?_
            intro L wx hS
            go_simp
            try with_reducible rfl
          simp only [Act.put, List.setIfInBounds_toArray, List.set_cons_zero, List.set_cons_succ, List.getElem_toArray, List.getElem_cons_zero, List.getElem_cons_succ]
          refine AllS.next (v := ?_) rfl rfl rfl (by kernel_rfl) ?_ ?_
          rotate_left
          · refine yieldsS_run (fun _ _ h => h) (by rfl) ?_
            intro L wx hS
            go_simp
            try with_reducible rfl
          simp only [Act.put, List.setIfInBounds_toArray, List.set_cons_zero, List.set_cons_succ, List.getElem_toArray, List.getElem_cons_zero, List.getElem_cons_succ]
          refine AllS.next (v := ?_) rfl rfl rfl (by kernel_rfl) ?_ ?_
          rotate_left
          · refine yieldsS_run (fun _ _ h => h) (by rfl) ?_
            intro L wx hS
            go_simp
            try with_reducible rfl
          simp only [Act.put, List.setIfInBounds_toArray, List.set_cons_zero, List.set_cons_succ, List.getElem_toArray, List.getElem_cons_zero, List.getElem_cons_succ]
          refine AllS.next (v := ?_) rfl rfl rfl (by kernel_rfl) ?_ ?_
          rotate_left
          · refine yieldsS_run (fun _ _ h => h) (by rfl) ?_
            intro L wx hS
            obtain ⟨x0, x1, x2, x3, x4, x5, x6, x7, x8⟩ := cells9 hS.blk
            go_simp
            try with_reducible rfl
          simp only [Act.put, List.setIfInBounds_toArray, List.set_cons_zero, List.set_cons_succ, List.getElem_toArray, List.getElem_cons_zero, List.getElem_cons_succ]
          refine AllS.next (v := .bool r) rfl rfl rfl (by kernel_rfl) ?_ ?_
          · refine yieldsS_call (f := 10) (args := #[cv ⟨kind, sym, id, owner, side, typ, price, qty, flags⟩]) (by rfl) ?_ ?_
            · intro wx
              go_simp
              try with_reducible rfl
            · intro L wx hS
              exact (cG wx).mono fun e w' h => ⟨h.1, hS.keep h.2⟩
          simp only [Act.put, List.setIfInBounds_toArray, List.set_cons_zero, List.set_cons_succ, List.getElem_toArray, List.getElem_cons_zero, List.getElem_cons_succ]
          refine AllS.next (v := ?_) rfl rfl rfl (by kernel_rfl) ?_ ?_
          rotate_left
          · refine yieldsS_run (fun _ _ h => h) (by rfl) ?_
            intro L wx hS
            obtain ⟨x0, x1, x2, x3, x4, x5, x6, x7, x8⟩ := cells9 hS.blk
            go_simp
            try with_reducible rfl
          simp only [Act.put, List.setIfInBounds_toArray, List.set_cons_zero, List.set_cons_succ, List.getElem_toArray, List.getElem_cons_zero, List.getElem_cons_succ]
          refine AllS.next (v := .bool r) rfl rfl rfl (by kernel_rfl) ?_ ?_
          · refine yieldsS_call (f := 11) (args := #[cv ⟨kind, sym, id, owner, side, typ, price, qty, flags⟩]) (by rfl) ?_ ?_
            · intro wx
              go_simp
              try with_reducible rfl
            · intro L wx hS
              exact (cH wx).mono fun e w' h => ⟨h.1, hS.keep h.2⟩
          simp only [Act.put, List.setIfInBounds_toArray, List.set_cons_zero, List.set_cons_succ, List.getElem_toArray, List.getElem_cons_zero, List.getElem_cons_succ]
          refine AllS.next (v := ?_) rfl rfl rfl (by kernel_rfl) ?_ ?_
          rotate_left
          · refine yieldsS_run (fun _ _ h => h) (by rfl) ?_
            intro L wx hS
            go_simp
            try with_reducible rfl
          simp only [Act.put, List.setIfInBounds_toArray, List.set_cons_zero, List.set_cons_succ, List.getElem_toArray, List.getElem_cons_zero, List.getElem_cons_succ]
          refine AllS.next (v := ?_) rfl rfl rfl (by kernel_rfl) ?_ ?_
          rotate_left
          · refine yieldsS_run (fun _ _ h => h) (by rfl) ?_
            intro L wx hS
            go_simp
            try with_reducible rfl
          simp only [Act.put, List.setIfInBounds_toArray, List.set_cons_zero, List.set_cons_succ, List.getElem_toArray, List.getElem_cons_zero, List.getElem_cons_succ]
          refine AllS.next (v := ?_) rfl rfl rfl (by kernel_rfl) ?_ ?_
          rotate_left
          · refine yieldsS_run (fun _ _ h => h) (by rfl) ?_
            intro L wx hS
            go_simp
            try with_reducible rfl
          simp only [Act.put, List.setIfInBounds_toArray, List.set_cons_zero, List.set_cons_succ, List.getElem_toArray, List.getElem_cons_zero, List.getElem_cons_succ]
          refine AllS.next (v := .bool true) rfl rfl rfl (by kernel_rfl) ?_ ?_
          · refine yieldsS_call (f := 12) (args := #[]) (by rfl) ?_ ?_
            · intro wx
              go_simp
              try with_reducible rfl
            · intro L wx hS
              exact (cA wx).mono fun e w' h => ⟨h.1, hS.keep h.2⟩
          simp only [Act.put, List.setIfInBounds_toArray, List.set_cons_zero, List.set_cons_succ, List.getElem_toArray, List.getElem_cons_zero, List.getElem_cons_succ]
          refine AllS.next (v := ?_) rfl rfl rfl (by kernel_rfl) ?_ ?_
          rotate_left
          · refine yieldsS_run (fun _ _ h => h) (by rfl) ?_
            intro L wx hS
            go_simp
            try with_reducible rfl
          simp only [Act.put, List.setIfInBounds_toArray, List.set_cons_zero, List.set_cons_succ, List.getElem_toArray, List.getElem_cons_zero, List.getElem_cons_succ]
          refine AllS.next (v := ?_) rfl rfl rfl (by kernel_rfl) ?_ ?_
          rotate_left
          · refine yieldsS_run (fun _ _ h => h) (by rfl) ?_
            intro L wx hS
            go_simp
            try with_reducible rfl
          simp only [Act.put, List.setIfInBounds_toArray, List.set_cons_zero, List.set_cons_succ, List.getElem_toArray, List.getElem_cons_zero, List.getElem_cons_succ]
          refine AllS.done rfl ?_
          intro w9 hS
          go_wp2
          go_ret
          exact ⟨rfl, hS.bel⟩
end Go.Proofs.Ytjleebfdbkfgmaa
