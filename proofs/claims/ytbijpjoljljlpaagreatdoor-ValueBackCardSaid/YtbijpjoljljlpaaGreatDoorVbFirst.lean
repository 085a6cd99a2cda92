/- Contract of value.first: the value that bytes begin with. Conditions: at most 2^40 bytes. -/
import Derived.Test.YtbijpjoljljlpaaGreatDoorVbBytes
set_option maxRecDepth 100000
namespace Go.Proofs.YtbijpjoljljlpaaGreatDoor
open Go.RowKit Go.Maps Go.Sort Go.Lib

theorem u8s_drop' (l : List UInt8) (n : Nat) : (u8s l).drop n = u8s (l.drop n) := by simp [u8s]
theorem u8s_take' (l : List UInt8) (n : Nat) : (u8s l).take n = u8s (l.take n) := by simp [u8s]
/-- a slice cut ahead, as the walk spells it -/
theorem cut_ahead {w : World} {ad : Addr} {bn bc U : Nat} {xs : List UInt8} (hH : Holds w (.slice (some ad) bn bc) (u8s xs)) (hU : U ≤ bn) :
    ∃ A, (if bc = U then ad else ad.add U) = A ∧ (if bc = U then some ad else some (ad.add U)) = some A ∧ Holds w (.slice (some A) (bn - U) (bc - U)) (u8s (xs.drop U)) := by
  have hl := hH.len
  rw [u8s_len] at hl
  have HH := hH.drop U hU
  rw [u8s_drop'] at HH
  by_cases e : bc = U
  · rw [if_pos e, if_pos e]
    refine ⟨ad, rfl, rfl, ?_⟩
    have : xs.drop U = [] := List.eq_nil_of_length_eq_zero (by rw [List.length_drop]; omega)
    rw [this]
    exact ⟨some ad, bc - U, by rw [show bn - U = 0 by omega]; rfl, by simp [u8s], .inr ⟨ad, rfl, fun j u hj => by simp [u8s] at hj⟩⟩
  · rw [if_neg e, if_neg e]
    exact ⟨_, rfl, rfl, HH⟩
theorem two_frz {w w1 : World} {x y z x' y' z' : Value} {t t' : Nat} (hb : Below ((w.alloc (.cells #[x, y, z] t)).alloc (.cells #[x', y', z'] t')).heap.size ((w.alloc (.cells #[x, y, z] t)).alloc (.cells #[x', y', z'] t')) w1) :
    (w1.frozen? ⟨w.heap.size, 0, none⟩ = false ∧ w1.frozen? ⟨w.heap.size, 1, none⟩ = false ∧ w1.frozen? ⟨w.heap.size, 2, none⟩ = false) ∧ (w1.frozen? ⟨w.heap.size + 1, 0, none⟩ = false ∧ w1.frozen? ⟨w.heap.size + 1, 1, none⟩ = false ∧ w1.frozen? ⟨w.heap.size + 1, 2, none⟩ = false) := by
  have h0 : w.heap.size < ((w.alloc (.cells #[x, y, z] t)).alloc (.cells #[x', y', z'] t')).heap.size := by simp; omega
  have h1 : w.heap.size + 1 < ((w.alloc (.cells #[x, y, z] t)).alloc (.cells #[x', y', z'] t')).heap.size := by simp
  refine ⟨⟨?_, ?_, ?_⟩, ⟨?_, ?_, ?_⟩⟩
  · rw [hb.frozen (p := ⟨w.heap.size, 0, none⟩) h0]; go_simp
  · rw [hb.frozen (p := ⟨w.heap.size, 1, none⟩) h0]; go_simp
  · rw [hb.frozen (p := ⟨w.heap.size, 2, none⟩) h0]; go_simp
  · rw [hb.frozen (p := ⟨w.heap.size + 1, 0, none⟩) h1]; go_simp
  · rw [hb.frozen (p := ⟨w.heap.size + 1, 1, none⟩) h1]; go_simp
  · rw [hb.frozen (p := ⟨w.heap.size + 1, 2, none⟩) h1]; go_simp
/-- what first answers -/
def FirstP (w : World) (l : List UInt8) (e : Ending) (w' : World) : Prop :=
  e = .returned (.tuple #[vv (firstV l).1.k (firstV l).1.n (firstV l).1.s, .int .i64 ((firstV l).2 : Int)]) ∧ Below w.heap.size w w'
theorem get_below {w : World} {v : Value} {l : List UInt8} (H : Holds w v (u8s l)) (hl : l.length ≤ 1099511627776) : ∀ w', Below w.heap.size w w' → Calls Tryz.prog 29 #[v] w' fun e w'' => e = .returned (.tuple #[.int .u64 ((getN l).1 : Int), .int .i64 ((getN l).2 : Int)]) ∧ w' = w'' :=
  fun w' hb => Get_any (H.below hb) (by omega)
/-- the result's three cells and the value's, behind the look at what it says -/
structure FirstSt (w w3 : World) (k : Int) : Prop where
  r0 : w3.cell? ⟨w.heap.size, 0, none⟩ = some (.int .i64 0)
  r1 : w3.cell? ⟨w.heap.size, 1, none⟩ = some (.int .i64 0)
  r2 : w3.cell? ⟨w.heap.size, 2, none⟩ = some (.string ⟨#[]⟩)
  v0 : w3.cell? ⟨w.heap.size + 1, 0, none⟩ = some (.int .i64 k)
  v1 : w3.cell? ⟨w.heap.size + 1, 1, none⟩ = some (.int .i64 0)
  v2 : w3.cell? ⟨w.heap.size + 1, 2, none⟩ = some (.string ⟨#[]⟩)
  f0 : w3.frozen? ⟨w.heap.size, 0, none⟩ = false
  f1 : w3.frozen? ⟨w.heap.size, 1, none⟩ = false
  f2 : w3.frozen? ⟨w.heap.size, 2, none⟩ = false
  g0 : w3.frozen? ⟨w.heap.size + 1, 0, none⟩ = false
  g1 : w3.frozen? ⟨w.heap.size + 1, 1, none⟩ = false
  g2 : w3.frozen? ⟨w.heap.size + 1, 2, none⟩ = false
  bel : Below w.heap.size w w3
theorem FirstSt.mk' {w w3 : World} {k : Int} (hb : Below ((w.alloc (.cells #[.int .i64 0, .int .i64 0, .string ⟨#[]⟩] 25)).alloc (.cells #[.int .i64 k, .int .i64 0, .string ⟨#[]⟩] 25)).heap.size ((w.alloc (.cells #[.int .i64 0, .int .i64 0, .string ⟨#[]⟩] 25)).alloc (.cells #[.int .i64 k, .int .i64 0, .string ⟨#[]⟩] 25)) w3) : FirstSt w w3 k := by
  obtain ⟨⟨a0, a1, a2⟩, ⟨b0, b1, b2⟩, hB⟩ := two_boxes _ _ _ _ _ _ _ _ _ hb
  obtain ⟨⟨f0, f1, f2⟩, ⟨g0, g1, g2⟩⟩ := two_frz hb
  exact ⟨a0, a1, a2, b0, b1, b2, f0, f1, f2, g0, g1, g2, hB⟩
theorem FirstSt.set {w w3 : World} {k : Int} (S : FirstSt w w3 k) (u v t : Value) : (w3.setCell ⟨w.heap.size, 0, none⟩ u).cell? ⟨w.heap.size, 0, none⟩ = some u ∧ ((w3.setCell ⟨w.heap.size, 0, none⟩ u).setCell ⟨w.heap.size, 1, none⟩ v).cell? ⟨w.heap.size, 1, none⟩ = some v ∧ (((w3.setCell ⟨w.heap.size, 0, none⟩ u).setCell ⟨w.heap.size, 1, none⟩ v).setCell ⟨w.heap.size, 2, none⟩ t).cell? ⟨w.heap.size, 2, none⟩ = some t :=
  C3.set ⟨S.r0, S.r1, S.r2⟩ u v t
/-- the value's cells behind a store into one of them -/
theorem FirstSt.vset {w w3 : World} {k : Int} (S : FirstSt w w3 k) (j : Nat) (u : Value) (hj : j = 1 ∨ j = 2) : C3 (w3.setCell ⟨w.heap.size + 1, j, none⟩ u) w.heap.size (.int .i64 0) (.int .i64 0) (.string ⟨#[]⟩) ∧ Below w.heap.size w (w3.setCell ⟨w.heap.size + 1, j, none⟩ u) :=
  ⟨⟨by rw [World.cell?_setCell_other _ _ _ _ (by simp)]; exact S.r0, by rw [World.cell?_setCell_other _ _ _ _ (by simp)]; exact S.r1, by rw [World.cell?_setCell_other _ _ _ _ (by simp)]; exact S.r2⟩, S.bel.setCell (by simp) _⟩
set_option maxHeartbeats 1600000 in
theorem first_other {w : World} {v : Value} {l : List UInt8} (H : Holds w v (u8s l)) (hl : l.length ≤ 1099511627776) (hk : (getN l).1 = 0 ∨ 4 < (getN l).1) : Calls Tryz.prog 30 #[v] w (FirstP w l) := by
  have hG := getN_bound l
  have KG := get_below H hl
  have hf : firstV l = (⟨IntKind.i64.wrap ((getN l).1 : Int), 0, ⟨#[]⟩⟩, (getN l).2) := by
    unfold firstV
    rw [if_neg (by omega), if_neg (by omega)]
  unfold FirstP
  rw [hf]
  obtain ⟨K, hK⟩ : ∃ K, (getN l).1 = K := ⟨_, rfl⟩
  obtain ⟨P, hP⟩ : ∃ P, (getN l).2 = P := ⟨_, rfl⟩
  rw [hK] at hk hG KG ⊢
  rw [hP] at KG ⊢
  obtain ⟨I, hI⟩ : ∃ I, IntKind.i64.wrap (K : Int) = I := ⟨_, rfl⟩
  have hc : (I = 0) ∨ (I < 0 ∨ 4 < I) := by
    rw [← hI, IntKind.wrap_i64]
    omega
  rw [hI]
  obtain ⟨a, c, rfl, _⟩ := H.form
  clear hK hP hk hG hf hl H
  rcases hc with rfl | hc
  · have KC := content_null 0 ⟨#[]⟩
    have q1 := as_nothing_whole
    have q2 := as_nothing_float
    have q3 := as_nothing_truth
    have q4 := as_nothing_str
    have hb1 := (Below.refl w.heap.size w).alloc (Nat.le_refl _) (.cells #[.int .i64 0, .int .i64 0, .string ⟨#[]⟩] 25)
    go_enter Tryz.func30, Tryz.ntmps30
    go_wp2_with fail
    refine (KG _ hb1).mono ?_
    rintro e w1 ⟨rfl, rfl⟩
    clear hb1 KG
    go_wp2_with fail
    refine (KC _).mono ?_
    rintro e w3 ⟨rfl, hb⟩
    have S := FirstSt.mk' hb
    clear hb KC
    have r0 := S.r0
    have r1 := S.r1
    have r2 := S.r2
    have v0 := S.v0
    have v1 := S.v1
    have v2 := S.v2
    have f0 := S.f0
    have f1 := S.f1
    have f2 := S.f2
    have g0 := S.g0
    have g1 := S.g1
    have g2 := S.g2
    have HB := Lib.hid S.bel
    have hr1 := fun u => (S.set u u u).1
    have hr2 := fun u v => (S.set u v v).2.1
    have hr3 := fun u v t => (S.set u v t).2.2
    clear S
    go_wp2_with fail
    refine bodyPost_ret (v := .tuple #[vv 0 0 ⟨#[]⟩, .int .i64 P]) ?_ rfl ⟨rfl, below_set3 HB.out (Nat.le_refl _) _ _ _⟩
    simp [results, Tryz.results30, go_sem, hr1, hr2, hr3]
  · have KC := fun w => content_other I 0 ⟨#[]⟩ w hc
    clear hc
    have q1 := as_other_whole
    have q2 := as_other_float
    have q3 := as_other_truth
    have q4 := as_other_str
    have hb1 := (Below.refl w.heap.size w).alloc (Nat.le_refl _) (.cells #[.int .i64 0, .int .i64 0, .string ⟨#[]⟩] 25)
    go_enter Tryz.func30, Tryz.ntmps30
    go_wp2_with fail
    refine (KG _ hb1).mono ?_
    rintro e w1 ⟨rfl, rfl⟩
    clear hb1 KG
    go_wp2_with fail
    refine (KC _).mono ?_
    rintro e w3 ⟨rfl, hb⟩
    have S := FirstSt.mk' hb
    clear hb KC
    have r0 := S.r0
    have r1 := S.r1
    have r2 := S.r2
    have v0 := S.v0
    have v1 := S.v1
    have v2 := S.v2
    have f0 := S.f0
    have f1 := S.f1
    have f2 := S.f2
    have g0 := S.g0
    have g1 := S.g1
    have g2 := S.g2
    have HB := Lib.hid S.bel
    have hr1 := fun u => (S.set u u u).1
    have hr2 := fun u v => (S.set u v v).2.1
    have hr3 := fun u v t => (S.set u v t).2.2
    clear S
    go_wp2_with fail
    refine bodyPost_ret (v := .tuple #[vv I 0 ⟨#[]⟩, .int .i64 P]) ?_ rfl ⟨rfl, below_set3 HB.out (Nat.le_refl _) _ _ _⟩
    simp [results, Tryz.results30, go_sem, hr1, hr2, hr3]
theorem first_num_eq {l : List UInt8} {k : Nat} (hk : (getN l).1 = k) (h : k = 1 ∨ k = 2 ∨ k = 4) : firstV l = (⟨(k : Int), zagN (getN (l.drop (getN l).2)).1, ⟨#[]⟩⟩, (getN l).2 + (getN (l.drop (getN l).2)).2) := by
  unfold firstV
  dsimp only
  rw [hk, if_pos h]
theorem getN_nil : getN [] = (0, 0) := rfl
theorem sum_wrap {a b n : Nat} (h : a + b ≤ n) (hn : n ≤ 1099511627776) : IntKind.i64.wrap ((a : Int) + (b : Int)) = (a : Int) + (b : Int) := by rw [IntKind.wrap_i64]; omega
set_option maxHeartbeats 1600000 in
theorem first_1 {w : World} {v : Value} {l : List UInt8} (H : Holds w v (u8s l)) (hl : l.length ≤ 1099511627776) (hk : (getN l).1 = 1) : Calls Tryz.prog 30 #[v] w (FirstP w l) := by
  have hG := (getN_bound l).1
  have hG2 := getN_bound (l.drop (getN l).2)
  have KG : ∀ w', Below w.heap.size w w' → Calls Tryz.prog 29 #[v] w' fun e w'' => e = .returned (.tuple #[.int .u64 1, .int .i64 ((getN l).2 : Int)]) ∧ w' = w'' := by
    have := get_below H hl
    rw [hk] at this
    exact this
  have hf := first_num_eq (k := 1) hk (by omega)
  unfold FirstP
  rw [hf]
  have hf' : (((1 : Nat) : Int)) = 1 := rfl
  rw [hf']
  obtain ⟨a, c, rfl, hc⟩ := H.form
  have hne : l ≠ [] := fun e => by subst e; rw [getN_nil] at hk; simp at hk
  have hpos : 0 < (u8s l).length := by rw [u8s_len]; exact List.length_pos_iff.2 hne
  obtain ⟨ad, rfl⟩ := H.ptr hpos
  rw [u8s_len] at *
  obtain ⟨A, if1, if1', hH1⟩ := cut_ahead H hG
  have KG2 := get_below hH1 (by rw [List.length_drop]; omega)
  generalize getN (l.drop (getN l).2) = Q at *
  generalize (getN l).2 = P at *
  obtain ⟨U, M⟩ := Q
  simp only at hG2 KG2 ⊢
  have hM : P + M ≤ l.length := by rw [List.length_drop] at hG2; omega
  have hws := sum_wrap hM hl
  have KZ := fun w => Zag_any U w hG2.2
  generalize zagN U = Z at *
  have p1 : (P : Int) ≤ (l.length : Int) := Int.ofNat_le.2 hG
  have p2 : (l.length : Int) ≤ (c : Int) := Int.ofNat_le.2 hc
  have p0 : (0 : Int) ≤ (P : Int) := Int.natCast_nonneg P
  generalize l.length = n at *
  have KC := content_int 0 ⟨#[]⟩
  have q0 := as_whole_whole
  have q1 := as_whole_float
  have q2 := as_whole_truth
  have hb1 := (Below.refl w.heap.size w).alloc (Nat.le_refl _) (.cells #[.int .i64 0, .int .i64 0, .string ⟨#[]⟩] 25)
  clear hf hf' hne hpos hk hG hG2 hM hl H hH1 hc
  go_enter Tryz.func30, Tryz.ntmps30
  go_wp2_with fail
  refine (KG _ hb1).mono ?_
  rintro e w1 ⟨rfl, rfl⟩
  clear hb1 KG
  go_wp2_with fail
  refine (KC _).mono ?_
  rintro e w3 ⟨rfl, hb⟩
  have S := FirstSt.mk' hb
  clear hb KC
  have r0 := S.r0
  have r1 := S.r1
  have r2 := S.r2
  have v0 := S.v0
  have v1 := S.v1
  have v2 := S.v2
  have f0 := S.f0
  have f1 := S.f1
  have f2 := S.f2
  have g0 := S.g0
  have g1 := S.g1
  have g2 := S.g2
  have HB := Lib.hid S.bel
  have hsv := Lib.hid (S.vset 1 (.int .i64 Z) (.inl rfl))
  have hr1 := fun u => (C3.set hsv.out.1 u u u).1
  have hr2 := fun u v => (C3.set hsv.out.1 u v v).2.1
  have hr3 := fun u v t => (C3.set hsv.out.1 u v t).2.2
  clear S
  go_wp2_with fail
  refine (KG2 _ HB.out).mono ?_
  rintro e w1 ⟨rfl, rfl⟩
  clear KG2
  go_wp2_with fail
  refine (KZ _).mono ?_
  rintro e w1 ⟨rfl, rfl⟩
  clear KZ
  go_wp2_with fail
  refine bodyPost_ret (v := .tuple #[vv 1 Z ⟨#[]⟩, .int .i64 ((P : Int) + (M : Int))]) ?_ rfl ⟨rfl, below_set3 hsv.out.2 (Nat.le_refl _) _ _ _⟩
  simp [results, Tryz.results30, go_sem, hr1, hr2, hr3]
set_option maxHeartbeats 1600000 in
theorem first_2 {w : World} {v : Value} {l : List UInt8} (H : Holds w v (u8s l)) (hl : l.length ≤ 1099511627776) (hk : (getN l).1 = 2) : Calls Tryz.prog 30 #[v] w (FirstP w l) := by
  have hG := (getN_bound l).1
  have hG2 := getN_bound (l.drop (getN l).2)
  have KG : ∀ w', Below w.heap.size w w' → Calls Tryz.prog 29 #[v] w' fun e w'' => e = .returned (.tuple #[.int .u64 2, .int .i64 ((getN l).2 : Int)]) ∧ w' = w'' := by
    have := get_below H hl
    rw [hk] at this
    exact this
  have hf := first_num_eq (k := 2) hk (by omega)
  unfold FirstP
  rw [hf]
  have hf' : (((2 : Nat) : Int)) = 2 := rfl
  rw [hf']
  obtain ⟨a, c, rfl, hc⟩ := H.form
  have hne : l ≠ [] := fun e => by subst e; rw [getN_nil] at hk; simp at hk
  have hpos : 0 < (u8s l).length := by rw [u8s_len]; exact List.length_pos_iff.2 hne
  obtain ⟨ad, rfl⟩ := H.ptr hpos
  rw [u8s_len] at *
  obtain ⟨A, if1, if1', hH1⟩ := cut_ahead H hG
  have KG2 := get_below hH1 (by rw [List.length_drop]; omega)
  generalize getN (l.drop (getN l).2) = Q at *
  generalize (getN l).2 = P at *
  obtain ⟨U, M⟩ := Q
  simp only at hG2 KG2 ⊢
  have hM : P + M ≤ l.length := by rw [List.length_drop] at hG2; omega
  have hws := sum_wrap hM hl
  have KZ := fun w => Zag_any U w hG2.2
  generalize zagN U = Z at *
  have p1 : (P : Int) ≤ (l.length : Int) := Int.ofNat_le.2 hG
  have p2 : (l.length : Int) ≤ (c : Int) := Int.ofNat_le.2 hc
  have p0 : (0 : Int) ≤ (P : Int) := Int.natCast_nonneg P
  generalize l.length = n at *
  have KC := content_float 0 ⟨#[]⟩
  have q0 := as_float_whole
  have q1 := as_float_float
  have q2 := as_float_truth
  have hb1 := (Below.refl w.heap.size w).alloc (Nat.le_refl _) (.cells #[.int .i64 0, .int .i64 0, .string ⟨#[]⟩] 25)
  clear hf hf' hne hpos hk hG hG2 hM hl H hH1 hc
  go_enter Tryz.func30, Tryz.ntmps30
  go_wp2_with fail
  refine (KG _ hb1).mono ?_
  rintro e w1 ⟨rfl, rfl⟩
  clear hb1 KG
  go_wp2_with fail
  refine (KC _).mono ?_
  rintro e w3 ⟨rfl, hb⟩
  have S := FirstSt.mk' hb
  clear hb KC
  have r0 := S.r0
  have r1 := S.r1
  have r2 := S.r2
  have v0 := S.v0
  have v1 := S.v1
  have v2 := S.v2
  have f0 := S.f0
  have f1 := S.f1
  have f2 := S.f2
  have g0 := S.g0
  have g1 := S.g1
  have g2 := S.g2
  have HB := Lib.hid S.bel
  have hsv := Lib.hid (S.vset 1 (.int .i64 Z) (.inl rfl))
  have hr1 := fun u => (C3.set hsv.out.1 u u u).1
  have hr2 := fun u v => (C3.set hsv.out.1 u v v).2.1
  have hr3 := fun u v t => (C3.set hsv.out.1 u v t).2.2
  clear S
  go_wp2_with fail
  refine (KG2 _ HB.out).mono ?_
  rintro e w1 ⟨rfl, rfl⟩
  clear KG2
  go_wp2_with fail
  refine (KZ _).mono ?_
  rintro e w1 ⟨rfl, rfl⟩
  clear KZ
  go_wp2_with fail
  refine bodyPost_ret (v := .tuple #[vv 2 Z ⟨#[]⟩, .int .i64 ((P : Int) + (M : Int))]) ?_ rfl ⟨rfl, below_set3 hsv.out.2 (Nat.le_refl _) _ _ _⟩
  simp [results, Tryz.results30, go_sem, hr1, hr2, hr3]
set_option maxHeartbeats 1600000 in
theorem first_4 {w : World} {v : Value} {l : List UInt8} (H : Holds w v (u8s l)) (hl : l.length ≤ 1099511627776) (hk : (getN l).1 = 4) : Calls Tryz.prog 30 #[v] w (FirstP w l) := by
  have hG := (getN_bound l).1
  have hG2 := getN_bound (l.drop (getN l).2)
  have KG : ∀ w', Below w.heap.size w w' → Calls Tryz.prog 29 #[v] w' fun e w'' => e = .returned (.tuple #[.int .u64 4, .int .i64 ((getN l).2 : Int)]) ∧ w' = w'' := by
    have := get_below H hl
    rw [hk] at this
    exact this
  have hf := first_num_eq (k := 4) hk (by omega)
  unfold FirstP
  rw [hf]
  have hf' : (((4 : Nat) : Int)) = 4 := rfl
  rw [hf']
  obtain ⟨a, c, rfl, hc⟩ := H.form
  have hne : l ≠ [] := fun e => by subst e; rw [getN_nil] at hk; simp at hk
  have hpos : 0 < (u8s l).length := by rw [u8s_len]; exact List.length_pos_iff.2 hne
  obtain ⟨ad, rfl⟩ := H.ptr hpos
  rw [u8s_len] at *
  obtain ⟨A, if1, if1', hH1⟩ := cut_ahead H hG
  have KG2 := get_below hH1 (by rw [List.length_drop]; omega)
  generalize getN (l.drop (getN l).2) = Q at *
  generalize (getN l).2 = P at *
  obtain ⟨U, M⟩ := Q
  simp only at hG2 KG2 ⊢
  have hM : P + M ≤ l.length := by rw [List.length_drop] at hG2; omega
  have hws := sum_wrap hM hl
  have KZ := fun w => Zag_any U w hG2.2
  generalize zagN U = Z at *
  have p1 : (P : Int) ≤ (l.length : Int) := Int.ofNat_le.2 hG
  have p2 : (l.length : Int) ≤ (c : Int) := Int.ofNat_le.2 hc
  have p0 : (0 : Int) ≤ (P : Int) := Int.natCast_nonneg P
  generalize l.length = n at *
  have KC := content_bool 0 ⟨#[]⟩
  have q0 := as_truth_whole
  have q1 := as_truth_float
  have q2 := as_truth_truth
  have hb1 := (Below.refl w.heap.size w).alloc (Nat.le_refl _) (.cells #[.int .i64 0, .int .i64 0, .string ⟨#[]⟩] 25)
  clear hf hf' hne hpos hk hG hG2 hM hl H hH1 hc
  go_enter Tryz.func30, Tryz.ntmps30
  go_wp2_with fail
  refine (KG _ hb1).mono ?_
  rintro e w1 ⟨rfl, rfl⟩
  clear hb1 KG
  go_wp2_with fail
  refine (KC _).mono ?_
  rintro e w3 ⟨rfl, hb⟩
  have S := FirstSt.mk' hb
  clear hb KC
  have r0 := S.r0
  have r1 := S.r1
  have r2 := S.r2
  have v0 := S.v0
  have v1 := S.v1
  have v2 := S.v2
  have f0 := S.f0
  have f1 := S.f1
  have f2 := S.f2
  have g0 := S.g0
  have g1 := S.g1
  have g2 := S.g2
  have HB := Lib.hid S.bel
  have hsv := Lib.hid (S.vset 1 (.int .i64 Z) (.inl rfl))
  have hr1 := fun u => (C3.set hsv.out.1 u u u).1
  have hr2 := fun u v => (C3.set hsv.out.1 u v v).2.1
  have hr3 := fun u v t => (C3.set hsv.out.1 u v t).2.2
  clear S
  go_wp2_with fail
  refine (KG2 _ HB.out).mono ?_
  rintro e w1 ⟨rfl, rfl⟩
  clear KG2
  go_wp2_with fail
  refine (KZ _).mono ?_
  rintro e w1 ⟨rfl, rfl⟩
  clear KZ
  go_wp2_with fail
  refine bodyPost_ret (v := .tuple #[vv 4 Z ⟨#[]⟩, .int .i64 ((P : Int) + (M : Int))]) ?_ rfl ⟨rfl, below_set3 hsv.out.2 (Nat.le_refl _) _ _ _⟩
  simp [results, Tryz.results30, go_sem, hr1, hr2, hr3]
theorem first_str_eq {l : List UInt8} (hk : (getN l).1 = 3) : firstV l = if l.length - ((getN l).2 + (getN (l.drop (getN l).2)).2) < (getN (l.drop (getN l).2)).1 then (VV.none_, 0) else (⟨3, 0, ⟨(((l.drop (getN l).2).drop (getN (l.drop (getN l).2)).2).take (getN (l.drop (getN l).2)).1).toArray⟩⟩, (getN l).2 + (getN (l.drop (getN l).2)).2 + (getN (l.drop (getN l).2)).1) := by
  unfold firstV
  dsimp only
  rw [hk, if_neg (by decide), if_pos rfl]
theorem wrap_len {n P M : Nat} (h : P + M ≤ n) (hn : n ≤ 1099511627776) : IntKind.i64.wrap ((n : Int) - ((P : Int) + (M : Int))) = (n : Int) - ((P : Int) + (M : Int)) ∧ IntKind.u64.wrap ((n : Int) - ((P : Int) + (M : Int))) = (n : Int) - ((P : Int) + (M : Int)) := by
  rw [IntKind.wrap_i64, IntKind.wrap_u64]; omega
theorem wrap_u {U n : Nat} (h : U ≤ n) (hn : n ≤ 1099511627776) : IntKind.i64.wrap (U : Int) = (U : Int) := by rw [IntKind.wrap_i64]; omega
set_option maxHeartbeats 1600000 in
theorem first_3 {w : World} {v : Value} {l : List UInt8} (H : Holds w v (u8s l)) (hl : l.length ≤ 1099511627776) (hk : (getN l).1 = 3) : Calls Tryz.prog 30 #[v] w (FirstP w l) := by
  have hG := (getN_bound l).1
  have hG2 := getN_bound (l.drop (getN l).2)
  have KG : ∀ w', Below w.heap.size w w' → Calls Tryz.prog 29 #[v] w' fun e w'' => e = .returned (.tuple #[.int .u64 3, .int .i64 ((getN l).2 : Int)]) ∧ w' = w'' := by
    have := get_below H hl
    rw [hk] at this
    exact this
  have hf := first_str_eq hk
  unfold FirstP
  rw [hf]
  obtain ⟨a, c, rfl, hc⟩ := H.form
  have hne : l ≠ [] := fun e => by subst e; rw [getN_nil] at hk; simp at hk
  have hpos : 0 < (u8s l).length := by rw [u8s_len]; exact List.length_pos_iff.2 hne
  obtain ⟨ad, rfl⟩ := H.ptr hpos
  rw [u8s_len] at *
  obtain ⟨A, if1, if1', hH1⟩ := cut_ahead H hG
  have KG2 := get_below hH1 (by rw [List.length_drop]; omega)
  generalize getN (l.drop (getN l).2) = Q at *
  generalize (getN l).2 = P at *
  obtain ⟨U, M⟩ := Q
  simp only at hG2 KG2 ⊢
  have hM : P + M ≤ l.length := by rw [List.length_drop] at hG2; omega
  have hws := sum_wrap hM hl
  obtain ⟨hwl, hwu⟩ := wrap_len hM hl
  have p1 : (P : Int) ≤ (l.length : Int) := Int.ofNat_le.2 hG
  have p2 : (l.length : Int) ≤ (c : Int) := Int.ofNat_le.2 hc
  have p0 : (0 : Int) ≤ (P : Int) := Int.natCast_nonneg P
  have KC := content_str 0 ⟨#[]⟩
  have q0 := as_str_whole
  have q1 := as_str_float
  have q2 := as_str_truth
  have q3 := as_str_str
  have hb1 := (Below.refl w.heap.size w).alloc (Nat.le_refl _) (.cells #[.int .i64 0, .int .i64 0, .string ⟨#[]⟩] 25)
  by_cases ht : l.length - (P + M) < U
  · rw [if_pos ht]
    have t1 : decide ((l.length : Int) - ((P : Int) + (M : Int)) < (U : Int)) = true := decide_eq_true (by omega)
    generalize l.length = n at *
    clear hf hne hpos hk hG hG2 hM hl H hH1 hc ht
    go_enter Tryz.func30, Tryz.ntmps30
    go_wp2_with fail
    refine (KG _ hb1).mono ?_
    rintro e w1 ⟨rfl, rfl⟩
    clear hb1 KG
    go_wp2_with fail
    refine (KC _).mono ?_
    rintro e w3 ⟨rfl, hb⟩
    have S := FirstSt.mk' hb
    clear hb KC
    have r0 := S.r0
    have r1 := S.r1
    have r2 := S.r2
    have v0 := S.v0
    have v1 := S.v1
    have v2 := S.v2
    have f0 := S.f0
    have f1 := S.f1
    have f2 := S.f2
    have g0 := S.g0
    have g1 := S.g1
    have g2 := S.g2
    have HB := Lib.hid S.bel
    have hr1 := fun u => (S.set u u u).1
    have hr2 := fun u v => (S.set u v v).2.1
    have hr3 := fun u v t => (S.set u v t).2.2
    clear S
    go_wp2_with fail
    refine (KG2 _ HB.out).mono ?_
    rintro e w1 ⟨rfl, rfl⟩
    clear KG2
    go_wp2_with fail
    refine bodyPost_ret (v := .tuple #[vv 0 0 ⟨#[]⟩, .int .i64 0]) ?_ rfl ⟨rfl, below_set3 HB.out (Nat.le_refl _) _ _ _⟩
    simp [results, Tryz.results30, go_sem, hr1, hr2, hr3]
  · rw [if_neg ht]
    have t1 : decide ((l.length : Int) - ((P : Int) + (M : Int)) < (U : Int)) = false := decide_eq_false (by omega)
    have hwU := wrap_u (U := U) (n := l.length) (by omega) hl
    have hwE := sum_wrap (a := P + M) (b := U) (n := l.length) (by omega) hl
    rw [Int.natCast_add] at hwE
    obtain ⟨A3, if3, if3', hH3⟩ := cut_ahead H hM
    have hT := hH3.take U (by omega)
    rw [u8s_take'] at hT
    have e1 : (l.drop P).drop M = l.drop (P + M) := by rw [List.drop_drop]
    rw [e1]
    generalize (l.drop (P + M)).take U = X at *
    have KS := fun w' hb => toStr (hT.below (w' := w') hb)
    have p3 : (P : Int) + (M : Int) ≤ (P : Int) + (M : Int) + (U : Int) := by omega
    have p4 : (P : Int) + (M : Int) + (U : Int) ≤ (c : Int) := by omega
    have p5 : (0 : Int) ≤ (P : Int) + (M : Int) := by omega
    generalize l.length = n at *
    clear hf hne hpos hk hG hG2 hM hl H hH1 hc ht hT hH3 e1
    go_enter Tryz.func30, Tryz.ntmps30
    go_wp2_with fail
    refine (KG _ hb1).mono ?_
    rintro e w1 ⟨rfl, rfl⟩
    clear hb1 KG
    go_wp2_with fail
    refine (KC _).mono ?_
    rintro e w3 ⟨rfl, hb⟩
    have S := FirstSt.mk' hb
    clear hb KC
    have r0 := S.r0
    have r1 := S.r1
    have r2 := S.r2
    have v0 := S.v0
    have v1 := S.v1
    have v2 := S.v2
    have f0 := S.f0
    have f1 := S.f1
    have f2 := S.f2
    have g0 := S.g0
    have g1 := S.g1
    have g2 := S.g2
    have HB := Lib.hid S.bel
    have hsv := Lib.hid (S.vset 2 (.string ⟨X.toArray⟩) (.inr rfl))
    have hr1 := fun u => (C3.set hsv.out.1 u u u).1
    have hr2 := fun u v => (C3.set hsv.out.1 u v v).2.1
    have hr3 := fun u v t => (C3.set hsv.out.1 u v t).2.2
    have KS3 := KS w3 S.bel
    clear S
    go_wp2_with fail
    refine (KG2 _ HB.out).mono ?_
    rintro e w1 ⟨rfl, rfl⟩
    clear KG2 KS
    go_wp2_with fail
    all_goals (
      refine bodyPost_ret (v := .tuple #[vv 3 0 ⟨X.toArray⟩, .int .i64 ((P : Int) + (M : Int) + (U : Int))]) ?_ rfl ⟨rfl, below_set3 hsv.out.2 (Nat.le_refl _) _ _ _⟩
      simp [results, Tryz.results30, go_sem, hr1, hr2, hr3])
theorem first_any {w : World} {v : Value} {l : List UInt8} (H : Holds w v (u8s l)) (hl : l.length ≤ 1099511627776) : Calls Tryz.prog 30 #[v] w (FirstP w l) := by
  by_cases h1 : (getN l).1 = 1
  · exact first_1 H hl h1
  by_cases h2 : (getN l).1 = 2
  · exact first_2 H hl h2
  by_cases h3 : (getN l).1 = 3
  · exact first_3 H hl h3
  by_cases h4 : (getN l).1 = 4
  · exact first_4 H hl h4
  exact first_other H hl (by omega)
end Go.Proofs.YtbijpjoljljlpaaGreatDoor
