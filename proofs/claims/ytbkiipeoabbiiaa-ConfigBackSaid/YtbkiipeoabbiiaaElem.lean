/-
  The contract of package config's walk: all numbers of a configuration go through a function value, in the order of the encoding.
-/
import Derived.Test.YtbkiipeoabbiiaaCount
import Derived.Test.YtbkiipeoabbiiaaOfs
namespace Go.Proofs.Ytbkiipeoabbiiaa
open Go.RowKit
def rep {α : Type} (n : Nat) (K : List α) : List α := (List.replicate n K).flatten
theorem rep_succ {α : Type} (n : Nat) (K : List α) : rep (n + 1) K = rep n K ++ K := by
  unfold rep
  rw [List.replicate_succ', List.flatten_append]
  simp
theorem rep_length {α : Type} (n : Nat) (K : List α) : (rep n K).length = n * K.length := by
  unfold rep
  rw [List.length_flatten, List.map_replicate, List.sum_replicate_nat]
theorem passL_app {σ : Type} (ans : σ → Int → Int) (nx : σ → Int → σ) (kb : List Bool) (vb : List Int) : ∀ (ka : List Bool) (va : List Int) (s : σ), ka.length = va.length →
    passL ans nx (ka ++ kb) (va ++ vb) s = ((passL ans nx ka va s).1 ++ (passL ans nx kb vb (passL ans nx ka va s).2).1, (passL ans nx kb vb (passL ans nx ka va s).2).2)
  | [], [], s, _ => rfl
  | a :: ka, b :: va, s, h => by
    have ih := passL_app ans nx kb vb ka va (nx s b) (by simpa using h)
    show (_ :: (passL ans nx (ka ++ kb) (va ++ vb) (nx s b)).1, (passL ans nx (ka ++ kb) (va ++ vb) (nx s b)).2) = _
    rw [ih]
    rfl
  | [], _ :: _, _, h => by simp at h
  | _ :: _, [], _, h => by simp at h
theorem Cv_split (a b c : List Int) : Cv [] (a ++ (b ++ c)) [] = Cv (a.map (Value.int .i64)) b (c.map (Value.int .i64)) := by
  unfold Cv
  simp
theorem Cv_join (a b c : List Int) : Cv (a.map (Value.int .i64)) b (c.map (Value.int .i64)) = Cv [] ((a ++ b) ++ c) [] := by
  unfold Cv
  simp
theorem fit_ok {ok : Int → Prop} {us : List Int} (n : Nat) (h0 : ok 0) (h : ∀ v ∈ us, ok v) : ∀ v ∈ fitL n us, ok v := by
  intro v hv
  unfold fitL at hv
  rcases List.mem_append.1 hv with hv | hv
  · exact h v (List.mem_of_mem_take hv)
  · rw [List.eq_of_mem_replicate hv]; exact h0
section
variable {σ : Type} {gn : Nat} {gc : Array Value} {I : σ → (Nat → Prop) → World → Prop} {ok : Int → Prop} {ans : σ → Int → Int} {nx : σ → Int → σ} {fu : σ → Nat}
/-- One element's numbers go through, by a block of pointers to them. -/
theorem elem_any (hN : Nm σ gn gc I ok ans nx fu) (K : List Bool) (hK : K.length ≤ 100) {us : List Int} {q : Nat} (hu : (q + 1) * K.length ≤ us.length) (hok : ∀ v ∈ us, ok v) {W : World} {S0 : Nat → Prop} {bs : Nat} {T FT : TypeId} {ob : List (Nat × TypeId × Array Value)} {s : σ} {cs : Array Value} {g : Nat} {t : TypeId} {fb cap n : Nat} {w : World}
    (hn : n = K.length) (hg : W.heap.size ≤ g) (hd : ∀ p ∈ ob, p.1 ≠ g) (hfb : fb ≠ g) (hfu : K.length ≤ fu (passL ans nx (rep q K) (us.take (q * K.length)) s).2)
    (hP : PJ I W S0 bs T ((g, t, Cv [] ((passL ans nx (rep q K) (us.take (q * K.length)) s).1 ++ us.drop (q * K.length)) []) :: (fb, FT, (fieldC g (q * K.length) K).toArray) :: ob) (passL ans nx (rep q K) (us.take (q * K.length)) s).2 cs w) :
    Calls Try.prog 66 #[.slice (some ⟨fb, 0, none⟩) n cap, .func (.func gn) #[] gc] w fun e w' => e = .returned (.tuple #[]) ∧ PJ I W S0 bs T ((g, t, Cv [] ((passL ans nx (rep (q + 1) K) (us.take ((q + 1) * K.length)) s).1 ++ us.drop ((q + 1) * K.length)) []) :: ob) (passL ans nx (rep (q + 1) K) (us.take ((q + 1) * K.length)) s).2 cs w' := by
  have hq : (q + 1) * K.length = q * K.length + K.length := Nat.succ_mul _ _
  have hl1 : (rep q K).length = (us.take (q * K.length)).length := by rw [rep_length, List.length_take]; omega
  have hlA := passL_length ans nx (rep q K) (us.take (q * K.length)) s hl1
  rw [List.length_take] at hlA
  have hdr : us.drop (q * K.length) = (us.drop (q * K.length)).take K.length ++ us.drop ((q + 1) * K.length) := by
    rw [hq, ← List.drop_drop, List.take_append_drop]
  have htk : us.take ((q + 1) * K.length) = us.take (q * K.length) ++ (us.drop (q * K.length)).take K.length := by
    rw [hq, List.take_add]
  have hap := passL_app ans nx K ((us.drop (q * K.length)).take K.length) (rep q K) (us.take (q * K.length)) s hl1
  rw [← rep_succ, ← htk] at hap
  obtain ⟨S, hA, hback⟩ := hP.turn hg (fun p hp => by
    rcases List.mem_cons.1 hp with rfl | hp
    · exact hfb
    · exact hd p hp)
  rw [hdr, Cv_split] at hA
  have hmid : K.length = ((us.drop (q * K.length)).take K.length).length := by rw [List.length_take, List.length_drop]; omega
  have hp := pass_any hN K ((us.drop (q * K.length)).take K.length) hmid hK (fun v hv => hok v (List.mem_of_mem_drop (List.mem_of_mem_take hv))) (fb := fb) (cap := cap) (FT := FT) (o := q * K.length) hn (by rw [List.length_map, hlA]; omega) (by simp) hfu hA
  refine hp.mono fun e w' h => ⟨h.1, ?_⟩
  have h2 := h.2
  rw [Cv_join] at h2
  rw [hap]
  exact (hback _ _ _ h2).sub fun p hp => by
    rcases List.mem_cons.1 hp with rfl | hp
    · simp
    · simp [hp]
end
end Go.Proofs.Ytbkiipeoabbiiaa
