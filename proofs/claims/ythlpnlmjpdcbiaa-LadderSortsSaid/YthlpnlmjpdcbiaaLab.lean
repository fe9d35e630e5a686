/-
  Which queues are free, as bits of four words. (No Go text.)
-/
import Derived.Test.YthlpnlmjpdcbiaaLae
namespace Go.Proofs.Ythlpnlmjpdcbiaa
/-- The bit of a queue. -/
def bitq (F : List Nat) (q : Nat) : Bool := ((F[q / 64]?).getD 0).testBit (q % 64)
structure Bits (F : List Nat) (f : Nat → Bool) : Prop where
  len : F.length = 4
  lt : ∀ x ∈ F, x < 18446744073709551616
  at' : ∀ q, q < 256 → bitq F q = f q
theorem Bits.congr {F : List Nat} {f g : Nat → Bool} (h : Bits F f) (e : ∀ q, q < 256 → f q = g q) : Bits F g := ⟨h.len, h.lt, fun q hq => (h.at' q hq).trans (e q hq)⟩
theorem Bits.zero : Bits [0, 0, 0, 0] fun _ => false := by
  refine ⟨rfl, by simp, fun q hq => ?_⟩
  unfold bitq
  have : q / 64 < 4 := by omega
  match h : q / 64, this with
  | 0, _ => simp
  | 1, _ => simp
  | 2, _ => simp
  | 3, _ => simp
/-- One bit turned. -/
def flp (F : List Nat) (q : Nat) : List Nat := F.set (q / 64) ((F[q / 64]?).getD 0 ^^^ 2 ^ (q % 64))
theorem Bits.get {F : List Nat} {f : Nat → Bool} (h : Bits F f) {n : Nat} (hn : n < 4) : ∃ x, F[n]? = some x ∧ x < 18446744073709551616 ∧ ∀ k, k < 64 → x.testBit k = f (n * 64 + k) := by
  have hl := h.len
  refine ⟨F[n], List.getElem?_eq_getElem (by omega), h.lt _ (List.getElem_mem _), fun k hk => ?_⟩
  have := h.at' (n * 64 + k) (by omega)
  unfold bitq at this
  rw [show (n * 64 + k) / 64 = n by omega, show (n * 64 + k) % 64 = k by omega, List.getElem?_eq_getElem (by omega)] at this
  exact this
theorem Bits.flip {F : List Nat} {f : Nat → Bool} (h : Bits F f) {q : Nat} (hq : q < 256) : Bits (flp F q) fun p => if p = q then !f p else f p := by
  obtain ⟨x, hx, hx2, hx3⟩ := h.get (n := q / 64) (by omega)
  have hl := h.len
  have e : flp F q = F.set (q / 64) (x ^^^ 2 ^ (q % 64)) := by unfold flp; rw [hx]; rfl
  rw [e]
  have h64 : (2 : Nat) ^ (q % 64) < 2 ^ 64 := Nat.pow_lt_pow_right (by omega) (by omega)
  refine ⟨by rw [List.length_set]; exact hl, fun y hy => ?_, fun p hp => ?_⟩
  · rcases List.mem_or_eq_of_mem_set hy with g | rfl
    · exact h.lt y g
    · exact Nat.xor_lt_two_pow (n := 64) hx2 h64
  · have hp0 := h.at' p hp
    unfold bitq at hp0 ⊢
    rw [List.getElem?_set]
    by_cases g : q / 64 = p / 64
    · rw [if_pos g, if_pos (by omega)]
      rw [← g, hx] at hp0
      simp only [Option.getD_some] at hp0 ⊢
      rw [Nat.testBit_xor, hp0, Nat.testBit_two_pow]
      by_cases k : p = q
      · subst k; simp
      · rw [if_neg k, decide_eq_false (by omega)]; simp
    · rw [if_neg g, if_neg (by rintro rfl; exact g rfl)]
      exact hp0
theorem zero_of_bits {x : Nat} (h : x < 18446744073709551616) (hb : ∀ k, k < 64 → x.testBit k = false) : x = 0 := by
  refine Nat.eq_of_testBit_eq fun i => ?_
  rw [Nat.zero_testBit]
  rcases Nat.lt_or_ge i 64 with g | g
  · exact hb i g
  · exact Nat.testBit_lt_two_pow (Nat.lt_of_lt_of_le h (Nat.pow_le_pow_right (n := 2) (by omega) g))
theorem bit_and (x k : Nat) : (x >>> k) &&& 1 = if x.testBit k then 1 else 0 := by
  rw [Nat.and_one_is_mod, Nat.testBit_eq_decide_div_mod_eq, Nat.shiftRight_eq_div_pow]
  have := Nat.mod_two_eq_zero_or_one (x / 2 ^ k)
  by_cases g : x / 2 ^ k % 2 = 1
  · simp [g]
  · simp [g]; omega
/-- Which queues are free. -/
def frb (most : Nat) (L : List Lvl) (q : Nat) : Bool := decide (q < most) && !(L.any fun x => x.queue == (q : Int))
theorem frb_perm {most : Nat} {L P : List Lvl} (h : P.Perm L) (q : Nat) : frb most P q = frb most L q := by
  unfold frb
  rw [h.any_eq]
theorem frb_nil (most q : Nat) : frb most [] q = decide (q < most) := by simp [frb]
theorem any_q {L : List Lvl} {q : Nat} : (L.any fun x => x.queue == (q : Int)) = true ↔ ∃ x ∈ L, x.queue = (q : Int) := by simp
theorem frb_true {most : Nat} {L : List Lvl} {q : Nat} : frb most L q = true ↔ q < most ∧ ∀ x ∈ L, x.queue ≠ (q : Int) := by simp [frb]
theorem frb_false {most : Nat} {L : List Lvl} {q : Nat} : frb most L q = false ↔ (q < most → ∃ x ∈ L, x.queue = (q : Int)) := by
  constructor
  · intro h hq
    by_cases g : ∃ x ∈ L, x.queue = (q : Int)
    · exact g
    · have : frb most L q = true := frb_true.2 ⟨hq, fun x hx e => g ⟨x, hx, e⟩⟩
      rw [h] at this; cases this
  · intro h
    cases g : frb most L q with
    | false => rfl
    | true =>
      obtain ⟨h1, h2⟩ := frb_true.1 g
      obtain ⟨x, hx, e⟩ := h h1
      exact absurd e (h2 x hx)
/-- There is room: the least free queue. -/
theorem frb_room {most : Nat} {L : List Lvl} (h : L.length < most) : freeQ L < most ∧ frb most L (freeQ L) = true ∧ ∀ p, p < freeQ L → frb most L p = false := by
  have hf := freeQ_free L
  have hl := hf.le
  exact ⟨by omega, frb_true.2 ⟨by omega, hf.1⟩, fun p hp => frb_false.2 fun _ => hf.2 p hp⟩
/-- As many numbers below n as there can be. -/
theorem pigeon : ∀ (n : Nat) (l : List Int), (l.Pairwise fun a b => a ≠ b) → (∀ x ∈ l, 0 ≤ x ∧ x < n) → ∀ q : Nat, q < n → (q : Int) ∉ l → l.length < n
  | 0, _, _, _, q, hq, _ => absurd hq (Nat.not_lt_zero q)
  | n + 1, l, hp, hb, q, hq, hn => by
    by_cases hm : (n : Int) ∈ l
    · obtain ⟨k, hk⟩ := List.mem_iff_getElem?.1 hm
      have hkl := (List.getElem?_eq_some_iff.1 hk).1
      have pe := perm_erase hk
      have pp : ((n : Int) :: l.eraseIdx k).Pairwise fun a b => a ≠ b := (pe.pairwise_iff (fun h => Ne.symm h)).1 hp
      have pc := List.pairwise_cons.1 pp
      have hqn : q < n := by
        rcases Nat.lt_succ_iff_lt_or_eq.1 hq with g | rfl
        · exact g
        · exact absurd hm hn
      have := pigeon n (l.eraseIdx k) pc.2 (fun x hx => by
        have h1 := hb x (List.mem_of_mem_eraseIdx hx)
        have h2 := pc.1 x hx
        omega) q hqn (fun hx => hn (List.mem_of_mem_eraseIdx hx))
      rw [List.length_eraseIdx, if_pos hkl] at this
      omega
    · rcases Nat.lt_succ_iff_lt_or_eq.1 hq with g | rfl
      · have := pigeon n l hp (fun x hx => by
          have h1 := hb x hx
          have h2 : x ≠ n := fun e => hm (e ▸ hx)
          omega) q g hn
        omega
      · have : ∀ (m : Nat) (l : List Int), (l.Pairwise fun a b => a ≠ b) → (∀ x ∈ l, 0 ≤ x ∧ x < m) → l.length ≤ m := by
          intro m
          induction m with
          | zero =>
            intro l _ hb
            match l with
            | [] => exact Nat.le_refl _
            | x :: t => have := hb x (by simp); omega
          | succ m ih =>
            intro l hp hb
            by_cases hm : (m : Int) ∈ l
            · obtain ⟨k, hk⟩ := List.mem_iff_getElem?.1 hm
              have hkl := (List.getElem?_eq_some_iff.1 hk).1
              have pp : ((m : Int) :: l.eraseIdx k).Pairwise fun a b => a ≠ b := ((perm_erase hk).pairwise_iff (fun h => Ne.symm h)).1 hp
              have pc := List.pairwise_cons.1 pp
              have := ih (l.eraseIdx k) pc.2 (fun x hx => by
                have h1 := hb x (List.mem_of_mem_eraseIdx hx)
                have h2 := pc.1 x hx
                omega)
              rw [List.length_eraseIdx, if_pos hkl] at this
              omega
            · have := ih l hp (fun x hx => by
                have h1 := hb x hx
                have h2 : x ≠ m := fun e => hm (e ▸ hx)
                omega)
              omega
        have h1 := this q l hp (fun x hx => by
          have h1 := hb x hx
          have h2 : x ≠ q := fun e => hn (e ▸ hx)
          omega)
        omega
/-- There is no room: no queue is free. -/
theorem frb_full {k : Nat} {s : Ld} (h : s.Wf k) (hl : ¬ s.L.length < s.most) (q : Nat) : frb s.most s.L q = false := by
  refine frb_false.2 fun hq => ?_
  by_cases g : ∃ x ∈ s.L, x.queue = (q : Int)
  · exact g
  · exfalso
    have := pigeon s.most (s.L.map (·.queue)) ((pw_map (·.queue) s.L).1 h.uniQ) (fun x hx => by
      obtain ⟨y, hy, rfl⟩ := List.mem_map.1 hx
      exact h.queue y hy) q hq (fun hx => by
      obtain ⟨y, hy, e⟩ := List.mem_map.1 hx
      exact g ⟨y, hy, e⟩)
    rw [List.length_map] at this
    exact hl this
theorem frb_app {most : Nat} {L : List Lvl} {x : Lvl} {n : Nat} (hx : x.queue = (n : Int)) (h : frb most L n = true) (q : Nat) : frb most (L ++ [x]) q = if q = n then !frb most L q else frb most L q := by
  by_cases g : q = n
  · subst g
    rw [if_pos rfl, h]
    exact frb_false.2 fun _ => ⟨x, by simp, hx⟩
  · rw [if_neg g]
    unfold frb
    rw [List.any_append]
    have : (x.queue == (q : Int)) = false := by rw [hx]; simp; omega
    simp [this]
theorem frb_erase {k : Nat} {s : Ld} (h : s.Wf k) {i : Nat} {x : Lvl} (hi : s.L[i]? = some x) (n : Nat) (hn : x.queue = (n : Int)) (q : Nat) : frb s.most (s.L.eraseIdx i) q = if q = n then !frb s.most s.L q else frb s.most s.L q := by
  have hq := h.queue x (List.mem_of_getElem? hi)
  have pp : (x :: s.L.eraseIdx i).Pairwise fun a b => a.queue ≠ b.queue := ((perm_erase hi).pairwise_iff (fun h => Ne.symm h)).1 h.uniQ
  have pc := List.pairwise_cons.1 pp
  rw [← frb_perm (perm_erase hi).symm q]
  by_cases g : q = n
  · subst g
    rw [if_pos rfl]
    have h1 : frb s.most (x :: s.L.eraseIdx i) q = false := frb_false.2 fun _ => ⟨x, by simp, hn⟩
    rw [h1]
    refine frb_true.2 ⟨by omega, fun y hy e => ?_⟩
    exact pc.1 y hy (hn.trans e.symm)
  · rw [if_neg g]
    unfold frb
    have : (x.queue == (q : Int)) = false := by rw [hn]; simp; omega
    simp [List.any_cons, this]
theorem frb_set {most : Nat} {L : List Lvl} {i : Nat} {x y : Lvl} (hi : L[i]? = some x) (e : y.queue = x.queue) (q : Nat) : frb most (L.set i y) q = frb most L q := by
  unfold frb
  have h : ∀ l : List Lvl, (l.any fun x => x.queue == (q : Int)) = (l.map (·.queue)).any (fun z => z == (q : Int)) := fun l => by rw [List.any_map]; rfl
  rw [h, h, map_set_same (·.queue) hi e]
end Go.Proofs.Ythlpnlmjpdcbiaa
