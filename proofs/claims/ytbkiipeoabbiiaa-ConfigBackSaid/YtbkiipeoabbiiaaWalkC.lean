/-
  The contract of package config's walk.
-/
import Derived.Test.YtbkiipeoabbiiaaElem
namespace Go.Proofs.Ytbkiipeoabbiiaa
open Go.RowKit
section
variable {σ : Type} {gn : Nat} {gc : Array Value} {I : σ → (Nat → Prop) → World → Prop} {ok : Int → Prop} {ans : σ → Int → Int} {nx : σ → Int → σ} {fu : σ → Nat}
/-- What a walk comes to: whether both lists were short, the numbers, and the state. -/
structure Wk (σ : Type) where
  fine : Bool
  n : Nat
  us : List Int
  m : Nat
  vs : List Int
  ts : List Int
  s : σ
abbrev tailI (c : Cfg) : List Int := [c.index, c.f0, c.f1, c.f2, c.h0, c.h1]
def walkP (ans : σ → Int → Int) (nx : σ → Int → σ) (c : Cfg) (s : σ) : Wk σ :=
  if 8 < ans s c.syms.length then ⟨false, 0, [], 0, [], [], nx s c.syms.length⟩ else
  let n := (ans s c.syms.length).toNat
  let p := passL ans nx (rep n K16) (fitL (n * 16) (c.syms.flatMap fieldsL)) (nx s c.syms.length)
  if 20 < ans p.2 c.rows.length then ⟨false, n, p.1, 0, [], [], nx p.2 c.rows.length⟩ else
  let m := (ans p.2 c.rows.length).toNat
  let q := passL ans nx (rep m K2) (fitL (m * 2) (c.rows.flatMap rowL2)) (nx p.2 c.rows.length)
  let t := passL ans nx K6 (tailI c) q.2
  ⟨true, n, p.1, m, q.1, t.1, t.2⟩
abbrev cC (sa : Option Addr) (n sc : Nat) (ra : Option Addr) (m rc : Nat) (ts : List Int) : Array Value := Cv [.slice sa n sc, .slice ra m rc] ts []
theorem elemSymb_any (hN : Nm σ gn gc I ok ans nx fu) {us : List Int} {q : Nat} (hu : (q + 1) * 16 ≤ us.length) (hok : ∀ v ∈ us, ok v) {W : World} {S0 : Nat → Prop} {bs : Nat} {T FT : TypeId} {ob : List (Nat × TypeId × Array Value)} {s : σ} {cs : Array Value} {g : Nat} {t : TypeId} {fb cap : Nat} {w : World}
    (hg : W.heap.size ≤ g) (hd : ∀ p ∈ ob, p.1 ≠ g) (hfb : fb ≠ g) (hfu : 16 ≤ fu (passL ans nx (rep q K16) (us.take (q * 16)) s).2)
    (hP : PJ I W S0 bs T ((fb, FT, (fieldC g (q * 16) K16).toArray) :: (g, t, Cv [] ((passL ans nx (rep q K16) (us.take (q * 16)) s).1 ++ us.drop (q * 16)) []) :: ob) (passL ans nx (rep q K16) (us.take (q * 16)) s).2 cs w) :
    Calls Try.prog 66 #[.slice (some ⟨fb, 0, none⟩) 16 cap, .func (.func gn) #[] gc] w fun e w' => e = .returned (.tuple #[]) ∧ PJ I W S0 bs T ((g, t, Cv [] ((passL ans nx (rep (q + 1) K16) (us.take ((q + 1) * 16)) s).1 ++ us.drop ((q + 1) * 16)) []) :: ob) (passL ans nx (rep (q + 1) K16) (us.take ((q + 1) * 16)) s).2 cs w' :=
  elem_any (FT := FT) (t := t) (fb := fb) hN K16 (by decide) hu hok rfl hg hd hfb hfu (PJ.sub (ob' := (g, t, Cv [] ((passL ans nx (rep q K16) (us.take (q * 16)) s).1 ++ us.drop (q * 16)) []) :: (fb, FT, (fieldC g (q * 16) K16).toArray) :: ob) hP fun p hp => by
    rcases List.mem_cons.1 hp with rfl | hp
    · simp
    · rcases List.mem_cons.1 hp with rfl | hp
      · simp
      · simp [hp])
theorem elemRowp_any (hN : Nm σ gn gc I ok ans nx fu) {us : List Int} {q : Nat} (hu : (q + 1) * 2 ≤ us.length) (hok : ∀ v ∈ us, ok v) {W : World} {S0 : Nat → Prop} {bs : Nat} {T FT : TypeId} {ob : List (Nat × TypeId × Array Value)} {s : σ} {cs : Array Value} {g : Nat} {t : TypeId} {fb cap : Nat} {w : World}
    (hg : W.heap.size ≤ g) (hd : ∀ p ∈ ob, p.1 ≠ g) (hfb : fb ≠ g) (hfu : 2 ≤ fu (passL ans nx (rep q K2) (us.take (q * 2)) s).2)
    (hP : PJ I W S0 bs T ((fb, FT, (fieldC g (q * 2) K2).toArray) :: (g, t, Cv [] ((passL ans nx (rep q K2) (us.take (q * 2)) s).1 ++ us.drop (q * 2)) []) :: ob) (passL ans nx (rep q K2) (us.take (q * 2)) s).2 cs w) :
    Calls Try.prog 66 #[.slice (some ⟨fb, 0, none⟩) 2 cap, .func (.func gn) #[] gc] w fun e w' => e = .returned (.tuple #[]) ∧ PJ I W S0 bs T ((g, t, Cv [] ((passL ans nx (rep (q + 1) K2) (us.take ((q + 1) * 2)) s).1 ++ us.drop ((q + 1) * 2)) []) :: ob) (passL ans nx (rep (q + 1) K2) (us.take ((q + 1) * 2)) s).2 cs w' :=
  elem_any (FT := FT) (t := t) (fb := fb) hN K2 (by decide) hu hok rfl hg hd hfb hfu (PJ.sub (ob' := (g, t, Cv [] ((passL ans nx (rep q K2) (us.take (q * 2)) s).1 ++ us.drop (q * 2)) []) :: (fb, FT, (fieldC g (q * 2) K2).toArray) :: ob) hP fun p hp => by
    rcases List.mem_cons.1 hp with rfl | hp
    · simp
    · rcases List.mem_cons.1 hp with rfl | hp
      · simp
      · simp [hp])
theorem Cv_set0 (a b v : Value) (ts : List Int) : (Cv [a, b] ts []).setIfInBounds 0 v = Cv [v, b] ts [] := by
  unfold Cv; simp
theorem Cv_set1 (a b v : Value) (ts : List Int) : (Cv [a, b] ts []).setIfInBounds 1 v = Cv [a, v] ts [] := by
  unfold Cv; simp
set_option maxRecDepth 8000 in
set_option maxHeartbeats 8000000 in
theorem walk_any (hN : Nm σ gn gc I ok ans nx fu) (hans : ∀ s n, ok n → 0 ≤ ans s n) (hok0 : ok 0) {W : World} {S0 : Nat → Prop} {B b0 : Nat} (hB0 : B ≤ b0) (hBS : ∀ b, S0 b → B ≤ b) (hBW : B ≤ W.heap.size)
    {sa ra : Option Addr} {sc rc : Nat} {c : Cfg} (hls : c.syms.length ≤ 100) (hlr : c.rows.length ≤ 100) (hK : ∀ w', Below B W w' → Holds w' sa sc ra rc c)
    (hon : ok c.syms.length) (hom : ok c.rows.length) (hoS : ∀ v ∈ c.syms.flatMap fieldsL, ok v) (hoR : ∀ v ∈ c.rows.flatMap rowL2, ok v) (hoT : ∀ v ∈ tailI c, ok v)
    {s : σ} (hfu : 176 ≤ fu s) (hP : PJ I W S0 b0 27 [] s (cCfg sa sc ra rc c) W) :
    Calls Try.prog 41 #[.pointer (some ⟨b0, 0, none⟩), .func (.func gn) #[] gc] W fun e w' => e = .returned (.bool (walkP ans nx c s).fine) ∧ ((walkP ans nx c s).fine = false → ∃ cs, PJ I W S0 b0 27 [] (walkP ans nx c s).s cs w') ∧
      ((walkP ans nx c s).fine = true → ∃ g1 g2, PJ I W S0 b0 27 [(g2, 49, Cv [] (walkP ans nx c s).vs []), (g1, 35, Cv [] (walkP ans nx c s).us [])] (walkP ans nx c s).s (cC (some ⟨g1, 0, none⟩) (walkP ans nx c s).n (walkP ans nx c s).n (some ⟨g2, 0, none⟩) (walkP ans nx c s).m (walkP ans nx c s).m (walkP ans nx c s).ts) w') := by
  have hfr : ∀ {ob s' cs w'}, PJ I W S0 b0 27 ob s' cs w' → Below B W w' := fun h => h.frm.below hBW (fun b hb => hb.elim (hBS b) (fun e => by rw [e]; exact hB0))
  have hC0 : (cCfg sa sc ra rc c) = Cv [.slice sa c.syms.length sc, .slice ra c.rows.length rc] (tailI c) [] := rfl
  rw [hC0] at hP
  have hcs : ∀ (s1 : σ) (t1 : List Int) (w1 : World) (ob : List (Nat × TypeId × Array Value)) (sl rl : Value), PJ I W S0 b0 27 ob s1 (Cv [sl, rl] t1 []) w1 → w1.cell? ⟨b0, 0, none⟩ = some sl ∧ w1.cell? ⟨b0, 1, none⟩ = some rl ∧ w1.frozen? ⟨b0, 0, none⟩ = false ∧ w1.frozen? ⟨b0, 1, none⟩ = false := fun s1 t1 w1 ob sl rl h => ⟨h.blk.cell_eq 0 _ (by simp [Cv]), h.blk.cell_eq 1 _ (by simp [Cv]), h.blk.free 0, h.blk.free 1⟩
  have cN := countedSymb_any (ob := []) hN hls (fun s' w' h' => (hK w' (hfr h')).syms) hon (by omega) (hans s _ hon) hP
  unfold walkP
  by_cases h8 : 8 < ans s c.syms.length
  · simp only [h8, if_true]
    go_enter Try.func41, Try.ntmps41
    obtain ⟨x0, x1, x2, x3⟩ := hcs _ _ _ _ _ _ hP
    have cN8 := cN.mono (R' := fun e w1 => e = .returned (.tuple #[.slice none 0 0, .bool false]) ∧ PJ I W S0 b0 27 [] (nx s c.syms.length) (Cv [.slice sa c.syms.length sc, .slice ra c.rows.length rc] (tailI c) []) w1) (fun e w1 h => h.elim (fun g => g.2) (fun g => absurd g.1 (by omega)))
    clear cN
    go_wp2_with (go_at_call 64; refine cN8.mono ?_; rintro e w1 ⟨rfl, hP1⟩; obtain ⟨y0, y1, y2, y3⟩ := hcs _ _ _ _ _ _ hP1)
    go_ret
    exact ⟨rfl, fun _ => ⟨_, hP1.set hN 0 _⟩, fun h => by cases h⟩
  · simp only [h8, if_false]
    have h80 := hans s _ hon
    have hf1 : 175 ≤ fu (nx s (c.syms.length : Int)) := by have := hN.fuel s (c.syms.length : Int); omega
    generalize nx s (c.syms.length : Int) = s1 at *
    generalize ans s (c.syms.length : Int) = a at *
    obtain ⟨n, rfl⟩ : ∃ n : Nat, a = n := ⟨a.toNat, by omega⟩
    simp only [Int.toNat_natCast] at cN ⊢
    have hn8 : n ≤ 8 := by omega
    have husl : (fitL (n * 16) (c.syms.flatMap fieldsL)).length = n * 16 := fitL_length _ _
    have husok := fit_ok (n * 16) hok0 hoS
    have hRp : ∀ (s2 : σ) (_ : 0 < fu s2) (ob : List (Nat × TypeId × Array Value)) (sl : Value) (w1 : World), PJ I W S0 b0 27 ob s2 (Cv [sl, .slice ra c.rows.length rc] (tailI c) []) w1 → _ := fun s2 hf ob sl w1 h => countedRowp_any (ob := ob) hN hlr (fun s' w' h' => (hK w' (hfr h')).rows) hom hf (hans s2 _ hom) h
    generalize fitL (n * 16) (c.syms.flatMap fieldsL) = us at *
    obtain ⟨us', s2, hp⟩ : ∃ us' s2, Hid (passL ans nx (rep n K16) us s1 = (us', s2)) := ⟨_, _, Lib.hid rfl⟩
    have hf2 : 47 ≤ fu s2 := by
      have h1 := passL_fuel (fu := fu) ans nx hN.fuel (rep n K16) us s1
      rw [hp.out, rep_length] at h1
      simp only [List.length_cons, List.length_nil] at h1
      omega
    rw [hp.out]
    simp only
    by_cases h20 : 20 < ans s2 c.rows.length
    · simp only [h20, if_true]
      go_enter Try.func41, Try.ntmps41
      obtain ⟨x0, x1, x2, x3⟩ := hcs _ _ _ _ _ _ hP
      have hsetA := fun g w1 (h : PJ I W S0 b0 27 [(g, 35, Cv [] us [])] s1 (Cv [.slice sa c.syms.length sc, .slice ra c.rows.length rc] (tailI c) []) w1) => h.set hN 0 (.slice (some ⟨g, 0, none⟩) n n)
      simp only [Cv_set0] at hsetA
      have cN8 := cN.mono (R' := fun e w1 => ∃ g, W.heap.size ≤ g ∧ e = .returned (.tuple #[.slice (some ⟨g, 0, none⟩) n n, .bool true]) ∧ PJ I W S0 b0 27 [(g, 35, Cv [] us [])] s1 (Cv [.slice sa c.syms.length sc, .slice ra c.rows.length rc] (tailI c) []) w1) (fun e w1 h => h.elim (fun g => absurd g.1 (by omega)) (fun g => g.2))
      clear cN
      go_wp2_with (go_at_call 64; refine cN8.mono ?_; rintro e w1 ⟨g, hgw, rfl, hP1⟩; obtain ⟨y0, y1, y2, y3⟩ := hcs _ _ _ _ _ _ hP1; have hP2 := hsetA _ _ hP1)
      clear x0 x1 x2 x3 y0 y1 y2 y3 hP1 hP hsetA cN8
      go_loopg [30] n (fun j p30 wr => ∃ q : Nat, q + j = n ∧ p30 = .int .i64 (q : Int) ∧ PJ I W S0 b0 27 [(g, 35, Cv [] ((passL ans nx (rep q K16) (us.take (q * 16)) s1).1 ++ us.drop (q * 16)) [])] (passL ans nx (rep q K16) (us.take (q * 16)) s1).2 (Cv [.slice (some ⟨g, 0, none⟩) n n, .slice ra c.rows.length rc] (tailI c) []) wr)
      case atStart => exact ⟨0, by omega, rfl, by simpa [rep, passL] using hP2⟩
      case round =>
        clear hP2
        obtain ⟨q, hq, rfl, hP⟩ := hrel
        obtain ⟨x0, x1, x2, x3⟩ := hcs _ _ _ _ _ _ hP
        by_cases hj : q < n
        · have hu : (q + 1) * 16 ≤ us.length := by omega
          have hE := fun w fb cap hfb (h : PJ I W S0 b0 27 [(fb, 94, (fieldC g (q * 16) K16).toArray), (g, 35, Cv [] ((passL ans nx (rep q K16) (us.take (q * 16)) s1).1 ++ us.drop (q * 16)) [])] (passL ans nx (rep q K16) (us.take (q * 16)) s1).2 (Cv [.slice (some ⟨g, 0, none⟩) n n, .slice ra c.rows.length rc] (tailI c) []) w) => elemSymb_any (cap := cap) hN hu husok hgw (fun p hp => by simp at hp) hfb (by
            have h1 := passL_fuel (fu := fu) ans nx hN.fuel (rep q K16) (us.take (q * 16)) s1
            rw [rep_length] at h1
            simp only [List.length_cons, List.length_nil] at h1
            omega) h
          have hO := fun w => ofsymb_any g (q * 16) w
          have hNew := fun w (h : PJ I W S0 b0 27 [(g, 35, Cv [] ((passL ans nx (rep q K16) (us.take (q * 16)) s1).1 ++ us.drop (q * 16)) [])] (passL ans nx (rep q K16) (us.take (q * 16)) s1).2 (Cv [.slice (some ⟨g, 0, none⟩) n n, .slice ra c.rows.length rc] (tailI c) []) w) z => h.newRow hN 94 z (fieldC g (q * 16) K16).toArray
          have hgl : ∀ w, PJ I W S0 b0 27 [(g, 35, Cv [] ((passL ans nx (rep q K16) (us.take (q * 16)) s1).1 ++ us.drop (q * 16)) [])] (passL ans nx (rep q K16) (us.take (q * 16)) s1).2 (Cv [.slice (some ⟨g, 0, none⟩) n n, .slice ra c.rows.length rc] (tailI c) []) w → w.heap.size ≠ g := fun w h e => by
            have := (h.get g 35 (Cv [] ((passL ans nx (rep q K16) (us.take (q * 16)) s1).1 ++ us.drop (q * 16)) []) (by simp)).lt
            omega
          generalize hFC : (fieldC g (q * 16) K16).toArray = FC at hE hO hNew
          have h1F := one_field g K16 (q * 16)
          rw [hFC] at h1F
          have hszF : (Try.prog.info? 94).map (·.size) = some FC.size := by rw [← hFC]; exact sizeF_symb
          have hsz0 : FC.size = 32 := by rw [← hFC]; rfl
          clear hFC hu hRp
          go_wp2_with (first
            | (go_at_call 65; refine (hO _).mono ?_; rintro e w1 ⟨rfl, hb1⟩; have hP1 := hP.below hN hb1; have hgl1 := hgl _ hP1)
            | (refine wpList_store_row rfl 94 (.tmp 7) (.tmp 39) rfl w1.heap.size FC rfl rfl 94 _ (Blk.new w1 _ _) hszF (by rw [hsz0]; rfl) h1F ?_; have hP2 := hNew _ hP1)
            | (go_at_call 66; refine (hE _ _ _ hgl1 (hP2 _)).mono ?_; rintro e w2 ⟨rfl, hP3⟩))
          go_roundg (n - (q + 1))
          case measure => omega
          case rel => exact ⟨q + 1, by omega, by go_num, hP3⟩
        · obtain rfl : q = n := by omega
          have et : us.take (q * 16) = us := List.take_of_length_le (by omega)
          have ed : us.drop (q * 16) = [] := List.drop_of_length_le (by omega)
          rw [et, ed, List.append_nil, hp.out] at hP
          simp only at hP
          clear et ed husok husl
          have cR := hRp s2 (by omega) _ _ _ hP
          have cR8 := cR.mono (R' := fun e w1 => e = .returned (.tuple #[.slice none 0 0, .bool false]) ∧ PJ I W S0 b0 27 [(g, 35, Cv [] us' [])] (nx s2 c.rows.length) (Cv [.slice (some ⟨g, 0, none⟩) q q, .slice ra c.rows.length rc] (tailI c) []) w1) (fun e w1 h => h.elim (fun g => g.2) (fun g => absurd g.1 (by omega)))
          clear cR hRp
          go_wp2_with (go_at_call 67; refine cR8.mono ?_; rintro e w3 ⟨rfl, hP1⟩; obtain ⟨y0, y1, y2, y3⟩ := hcs _ _ _ _ _ _ hP1)
          go_ret
          exact ⟨rfl, fun _ => ⟨_, (hP1.set hN 1 _).sub fun p hp => by simp at hp⟩, fun h => by cases h⟩
    · simp only [h20, if_false]
      have hRq : ∀ (ob : List (Nat × TypeId × Array Value)) (sl : Value) (w1 : World), PJ I W S0 b0 27 ob s2 (Cv [sl, .slice ra c.rows.length rc] (tailI c) []) w1 → _ := fun ob sl w1 h => hRp s2 (by omega) ob sl w1 h
      clear hRp
      have h200 := hans s2 _ hom
      have hf3 : 46 ≤ fu (nx s2 (c.rows.length : Int)) := by have := hN.fuel s2 (c.rows.length : Int); omega
      generalize nx s2 (c.rows.length : Int) = s3 at *
      generalize ans s2 (c.rows.length : Int) = a at *
      obtain ⟨m, rfl⟩ : ∃ m : Nat, a = m := ⟨a.toNat, by omega⟩
      simp only [Int.toNat_natCast] at hRq ⊢
      have hm20 : m ≤ 20 := by omega
      have hvsl : (fitL (m * 2) (c.rows.flatMap rowL2)).length = m * 2 := fitL_length _ _
      have hvsok := fit_ok (m * 2) hok0 hoR
      generalize fitL (m * 2) (c.rows.flatMap rowL2) = vs at *
      obtain ⟨vs', s4, hp2⟩ : ∃ vs' s4, Hid (passL ans nx (rep m K2) vs s3 = (vs', s4)) := ⟨_, _, Lib.hid rfl⟩
      have hf4 : 6 ≤ fu s4 := by
        have h1 := passL_fuel (fu := fu) ans nx hN.fuel (rep m K2) vs s3
        rw [hp2.out, rep_length] at h1
        simp only [List.length_cons, List.length_nil] at h1
        omega
      rw [hp2.out]
      simp only
      obtain ⟨ts', s5, hp3⟩ : ∃ ts' s5, Hid (passL ans nx K6 (tailI c) s4 = (ts', s5)) := ⟨_, _, Lib.hid rfl⟩
      rw [hp3.out]
      simp only
      go_enter Try.func41, Try.ntmps41
      obtain ⟨x0, x1, x2, x3⟩ := hcs _ _ _ _ _ _ hP
      have hsetA := fun g w1 (h : PJ I W S0 b0 27 [(g, 35, Cv [] us [])] s1 (Cv [.slice sa c.syms.length sc, .slice ra c.rows.length rc] (tailI c) []) w1) => h.set hN 0 (.slice (some ⟨g, 0, none⟩) n n)
      simp only [Cv_set0] at hsetA
      have cN8 := cN.mono (R' := fun e w1 => ∃ g, W.heap.size ≤ g ∧ e = .returned (.tuple #[.slice (some ⟨g, 0, none⟩) n n, .bool true]) ∧ PJ I W S0 b0 27 [(g, 35, Cv [] us [])] s1 (Cv [.slice sa c.syms.length sc, .slice ra c.rows.length rc] (tailI c) []) w1) (fun e w1 h => h.elim (fun g => absurd g.1 (by omega)) (fun g => g.2))
      clear cN
      go_wp2_with (go_at_call 64; refine cN8.mono ?_; rintro e w1 ⟨g, hgw, rfl, hP1⟩; obtain ⟨y0, y1, y2, y3⟩ := hcs _ _ _ _ _ _ hP1; have hP2 := hsetA _ _ hP1)
      clear x0 x1 x2 x3 y0 y1 y2 y3 hP1 hP hsetA cN8
      go_loopg [30] n (fun j p30 wr => ∃ q : Nat, q + j = n ∧ p30 = .int .i64 (q : Int) ∧ PJ I W S0 b0 27 [(g, 35, Cv [] ((passL ans nx (rep q K16) (us.take (q * 16)) s1).1 ++ us.drop (q * 16)) [])] (passL ans nx (rep q K16) (us.take (q * 16)) s1).2 (Cv [.slice (some ⟨g, 0, none⟩) n n, .slice ra c.rows.length rc] (tailI c) []) wr)
      case atStart => exact ⟨0, by omega, rfl, by simpa [rep, passL] using hP2⟩
      case round =>
        clear hP2
        obtain ⟨q, hq, rfl, hP⟩ := hrel
        obtain ⟨x0, x1, x2, x3⟩ := hcs _ _ _ _ _ _ hP
        by_cases hj : q < n
        · have hu : (q + 1) * 16 ≤ us.length := by omega
          have hE := fun w fb cap hfb (h : PJ I W S0 b0 27 [(fb, 94, (fieldC g (q * 16) K16).toArray), (g, 35, Cv [] ((passL ans nx (rep q K16) (us.take (q * 16)) s1).1 ++ us.drop (q * 16)) [])] (passL ans nx (rep q K16) (us.take (q * 16)) s1).2 (Cv [.slice (some ⟨g, 0, none⟩) n n, .slice ra c.rows.length rc] (tailI c) []) w) => elemSymb_any (cap := cap) hN hu husok hgw (fun p hp => by simp at hp) hfb (by
            have h1 := passL_fuel (fu := fu) ans nx hN.fuel (rep q K16) (us.take (q * 16)) s1
            rw [rep_length] at h1
            simp only [List.length_cons, List.length_nil] at h1
            omega) h
          have hO := fun w => ofsymb_any g (q * 16) w
          have hNew := fun w (h : PJ I W S0 b0 27 [(g, 35, Cv [] ((passL ans nx (rep q K16) (us.take (q * 16)) s1).1 ++ us.drop (q * 16)) [])] (passL ans nx (rep q K16) (us.take (q * 16)) s1).2 (Cv [.slice (some ⟨g, 0, none⟩) n n, .slice ra c.rows.length rc] (tailI c) []) w) z => h.newRow hN 94 z (fieldC g (q * 16) K16).toArray
          have hgl : ∀ w, PJ I W S0 b0 27 [(g, 35, Cv [] ((passL ans nx (rep q K16) (us.take (q * 16)) s1).1 ++ us.drop (q * 16)) [])] (passL ans nx (rep q K16) (us.take (q * 16)) s1).2 (Cv [.slice (some ⟨g, 0, none⟩) n n, .slice ra c.rows.length rc] (tailI c) []) w → w.heap.size ≠ g := fun w h e => by
            have := (h.get g 35 (Cv [] ((passL ans nx (rep q K16) (us.take (q * 16)) s1).1 ++ us.drop (q * 16)) []) (by simp)).lt
            omega
          generalize hFC : (fieldC g (q * 16) K16).toArray = FC at hE hO hNew
          have h1F := one_field g K16 (q * 16)
          rw [hFC] at h1F
          have hszF : (Try.prog.info? 94).map (·.size) = some FC.size := by rw [← hFC]; exact sizeF_symb
          have hsz0 : FC.size = 32 := by rw [← hFC]; rfl
          clear hFC hu hRq
          go_wp2_with (first
            | (go_at_call 65; refine (hO _).mono ?_; rintro e w1 ⟨rfl, hb1⟩; have hP1 := hP.below hN hb1; have hgl1 := hgl _ hP1)
            | (refine wpList_store_row rfl 94 (.tmp 7) (.tmp 39) rfl w1.heap.size FC rfl rfl 94 _ (Blk.new w1 _ _) hszF (by rw [hsz0]; rfl) h1F ?_; have hP2 := hNew _ hP1)
            | (go_at_call 66; refine (hE _ _ _ hgl1 (hP2 _)).mono ?_; rintro e w2 ⟨rfl, hP3⟩))
          go_roundg (n - (q + 1))
          case measure => omega
          case rel => exact ⟨q + 1, by omega, by go_num, hP3⟩
        · obtain rfl : q = n := by omega
          have et : us.take (q * 16) = us := List.take_of_length_le (by omega)
          have ed : us.drop (q * 16) = [] := List.drop_of_length_le (by omega)
          rw [et, ed, List.append_nil, hp.out] at hP
          simp only at hP
          clear et ed husok husl
          have cR := hRq _ _ _ hP
          have cR8 := cR.mono (R' := fun e w1 => ∃ g2, wr.heap.size ≤ g2 ∧ e = .returned (.tuple #[.slice (some ⟨g2, 0, none⟩) m m, .bool true]) ∧ PJ I W S0 b0 27 [(g2, 49, Cv [] vs []), (g, 35, Cv [] us' [])] s3 (Cv [.slice (some ⟨g, 0, none⟩) q q, .slice ra c.rows.length rc] (tailI c) []) w1) (fun e w1 h => h.elim (fun g => absurd g.1 (by omega)) (fun g => g.2))
          have hgr : g < wr.heap.size := (hP.get g 35 (Cv [] us' []) (by simp)).lt
          have hWr := hP.frm.size
          have hsetB := fun g2 w1 (h : PJ I W S0 b0 27 [(g2, 49, Cv [] vs []), (g, 35, Cv [] us' [])] s3 (Cv [.slice (some ⟨g, 0, none⟩) q q, .slice ra c.rows.length rc] (tailI c) []) w1) => h.set hN 1 (.slice (some ⟨g2, 0, none⟩) m m)
          simp only [Cv_set1] at hsetB
          clear cR hRq
          go_wp2_with (go_at_call 67; refine cR8.mono ?_; rintro e w3 ⟨g2, hgw2, rfl, hP1⟩; obtain ⟨y0, y1, y2, y3⟩ := hcs _ _ _ _ _ _ hP1; have hP2 := hsetB _ _ hP1)
          have hg12 : g ≠ g2 := by omega
          have hgW2 : W.heap.size ≤ g2 := by omega
          clear x0 x1 x2 x3 y0 y1 y2 y3 hP1 hP hsetB cR8 hgr hgw2 hWr
          go_loopg [63] m (fun j p63 wr => ∃ k : Nat, k + j = m ∧ p63 = .int .i64 (k : Int) ∧ PJ I W S0 b0 27 [(g2, 49, Cv [] ((passL ans nx (rep k K2) (vs.take (k * 2)) s3).1 ++ vs.drop (k * 2)) []), (g, 35, Cv [] us' [])] (passL ans nx (rep k K2) (vs.take (k * 2)) s3).2 (Cv [.slice (some ⟨g, 0, none⟩) q q, .slice (some ⟨g2, 0, none⟩) m m] (tailI c) []) wr)
          case atStart => exact ⟨0, by omega, rfl, by simpa [rep, passL] using hP2⟩
          case round =>
            clear hP2
            obtain ⟨k, hk, rfl, hP⟩ := hrel
            obtain ⟨x0, x1, x2, x3⟩ := hcs _ _ _ _ _ _ hP
            by_cases hj : k < m
            · have hu : (k + 1) * 2 ≤ vs.length := by omega
              have hE := fun w fb cap hfb (h : PJ I W S0 b0 27 [(fb, 101, (fieldC g2 (k * 2) K2).toArray), (g2, 49, Cv [] ((passL ans nx (rep k K2) (vs.take (k * 2)) s3).1 ++ vs.drop (k * 2)) []), (g, 35, Cv [] us' [])] (passL ans nx (rep k K2) (vs.take (k * 2)) s3).2 (Cv [.slice (some ⟨g, 0, none⟩) q q, .slice (some ⟨g2, 0, none⟩) m m] (tailI c) []) w) => elemRowp_any (cap := cap) hN hu hvsok hgW2 (fun p hp => by simp at hp; rw [hp]; exact hg12) hfb (by
                have h1 := passL_fuel (fu := fu) ans nx hN.fuel (rep k K2) (vs.take (k * 2)) s3
                rw [rep_length] at h1
                simp only [List.length_cons, List.length_nil] at h1
                omega) h
              have hO := fun w => ofrow_any g2 (k * 2) w
              have hNew := fun w (h : PJ I W S0 b0 27 [(g2, 49, Cv [] ((passL ans nx (rep k K2) (vs.take (k * 2)) s3).1 ++ vs.drop (k * 2)) []), (g, 35, Cv [] us' [])] (passL ans nx (rep k K2) (vs.take (k * 2)) s3).2 (Cv [.slice (some ⟨g, 0, none⟩) q q, .slice (some ⟨g2, 0, none⟩) m m] (tailI c) []) w) z => h.newRow hN 101 z (fieldC g2 (k * 2) K2).toArray
              have hgl : ∀ w, PJ I W S0 b0 27 [(g2, 49, Cv [] ((passL ans nx (rep k K2) (vs.take (k * 2)) s3).1 ++ vs.drop (k * 2)) []), (g, 35, Cv [] us' [])] (passL ans nx (rep k K2) (vs.take (k * 2)) s3).2 (Cv [.slice (some ⟨g, 0, none⟩) q q, .slice (some ⟨g2, 0, none⟩) m m] (tailI c) []) w → w.heap.size ≠ g2 := fun w h e => by
                have := (h.get g2 49 (Cv [] ((passL ans nx (rep k K2) (vs.take (k * 2)) s3).1 ++ vs.drop (k * 2)) []) (by simp)).lt
                omega
              generalize hFC : (fieldC g2 (k * 2) K2).toArray = FC at hE hO hNew
              have h1F := one_field g2 K2 (k * 2)
              rw [hFC] at h1F
              have hszF : (Try.prog.info? 101).map (·.size) = some FC.size := by rw [← hFC]; exact sizeF_row
              have hsz0 : FC.size = 4 := by rw [← hFC]; rfl
              clear hFC hu
              go_wp2_with (first
                | (go_at_call 68; refine (hO _).mono ?_; rintro e w1 ⟨rfl, hb1⟩; have hP1 := hP.below hN hb1; have hgl1 := hgl _ hP1)
                | (refine wpList_store_row rfl 101 (.tmp 9) (.tmp 72) rfl w1.heap.size FC rfl rfl 101 _ (Blk.new w1 _ _) hszF (by rw [hsz0]; rfl) h1F ?_; have hP2 := hNew _ hP1)
                | (go_at_call 66; refine (hE _ _ _ hgl1 (hP2 _)).mono ?_; rintro e w2 ⟨rfl, hP3⟩))
              go_roundg (m - (k + 1))
              case measure => omega
              case rel => exact ⟨k + 1, by omega, by go_num, hP3⟩
            · obtain rfl : k = m := by omega
              have et : vs.take (k * 2) = vs := List.take_of_length_le (by omega)
              have ed : vs.drop (k * 2) = [] := List.drop_of_length_le (by omega)
              rw [et, ed, List.append_nil, hp2.out] at hP
              simp only at hP
              clear et ed hvsok hvsl
              have hO := fun w => ofmkt_any b0 w
              have hNew := fun w (h : PJ I W S0 b0 27 [(g2, 49, Cv [] vs' []), (g, 35, Cv [] us' [])] s4 (Cv [.slice (some ⟨g, 0, none⟩) q q, .slice (some ⟨g2, 0, none⟩) k k] (tailI c) []) w) z => h.newRow hN 104 z (fieldC b0 2 K6).toArray
              have hE := fun w fb cap (h : PJ I W S0 b0 27 [(fb, 104, (fieldC b0 2 K6).toArray), (g2, 49, Cv [] vs' []), (g, 35, Cv [] us' [])] s4 (Cv [.slice (some ⟨g, 0, none⟩) q q, .slice (some ⟨g2, 0, none⟩) k k] (tailI c) []) w) => pass_any (n := 6) (cap := cap) (o := 2) (fb := fb) (FT := 104) hN K6 (tailI c) rfl (by decide) hoT rfl rfl (by simp) hf4 h
              generalize hFC : (fieldC b0 2 K6).toArray = FC at hE hO hNew
              have h1F := one_field b0 K6 2
              rw [hFC] at h1F
              have hszF : (Try.prog.info? 104).map (·.size) = some FC.size := by rw [← hFC]; exact sizeF_mkt
              have hsz0 : FC.size = 12 := by rw [← hFC]; rfl
              clear hFC
              rw [hp3.out] at hE
              simp only at hE
              go_wp2_with (first
                | (go_at_call 69; refine (hO _).mono ?_; rintro e w1 ⟨rfl, hb1⟩; have hP1 := hP.below hN hb1)
                | (refine wpList_store_row rfl 104 (.tmp 10) (.tmp 78) rfl w1.heap.size FC rfl rfl 104 _ (Blk.new w1 _ _) hszF (by rw [hsz0]; rfl) h1F ?_; have hP2 := hNew _ hP1)
                | (go_at_call 66; refine (hE _ _ _ (hP2 _)).mono ?_; rintro e w2 ⟨rfl, hP3⟩))
              go_ret
              exact ⟨rfl, fun h => (by cases h), fun _ => ⟨g, g2, hP3.drop⟩⟩
end
end Go.Proofs.Ytbkiipeoabbiiaa
