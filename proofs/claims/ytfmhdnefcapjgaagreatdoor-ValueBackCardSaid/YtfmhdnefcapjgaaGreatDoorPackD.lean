/- The texts VbFirst VbRead VbRefGood VbRefBytes CodecRefGet VbRefLoad ValE VbMain Hex HexRead, one behind the other; each one's own comment says what it holds. -/
import Derived.Test.YtfmhdnefcapjgaaGreatDoorPackC
import Derived.Test.YtfmhdnefcapjgaaGreatDoorPackB
import Derived.ProofKit
import Derived.OpenShut
import Derived.ChangeOld
import Derived.Shelf.Vars
import Ieee.Arith
/- Contract of value.first: the value that bytes begin with. Conditions: at most 2^40 bytes. -/
set_option maxRecDepth 100000
namespace Go.Proofs.YtfmhdnefcapjgaaGreatDoor
open Go.RowKit Go.Maps Go.Sort Go.Lib

theorem u8s_drop' (l : List UInt8) (n : Nat) : (u8s l).drop n = u8s (l.drop n) := by simp [u8s]
theorem u8s_take' (l : List UInt8) (n : Nat) : (u8s l).take n = u8s (l.take n) := by simp [u8s]
/-- a slice cut ahead, as the walk spells it -/
theorem cut_ahead {w : World} {ad : Addr} {bn bc U : Nat} {xs : List UInt8} (hH : Holds w (.slice (some ad) bn bc) (u8s xs)) (hU : U ≤ bn) :
    ∃ A, (if bc = U then ad else ad.add U) = A ∧ (if bc = U then some ad else some (ad.add U)) = some A ∧ Holds w (.slice (some A) (bn - U) (bc - U)) (u8s (xs.drop U)) := by
  have hl := hH.len
  rw [u8s_len] at hl
  have HH := hH.drop U hU
  rw [u8s_drop'] at HH
  by_cases e : bc = U
  · rw [if_pos e, if_pos e]
    refine ⟨ad, rfl, rfl, ?_⟩
    have : xs.drop U = [] := List.eq_nil_of_length_eq_zero (by rw [List.length_drop]; omega)
    rw [this]
    exact ⟨some ad, bc - U, by rw [show bn - U = 0 by omega]; rfl, by simp [u8s], .inr ⟨ad, rfl, fun j u hj => by simp [u8s] at hj⟩⟩
  · rw [if_neg e, if_neg e]
    exact ⟨_, rfl, rfl, HH⟩
theorem two_frz {w w1 : World} {x y z x' y' z' : Value} {t t' : Nat} (hb : Below ((w.alloc (.cells #[x, y, z] t)).alloc (.cells #[x', y', z'] t')).heap.size ((w.alloc (.cells #[x, y, z] t)).alloc (.cells #[x', y', z'] t')) w1) :
    (w1.frozen? ⟨w.heap.size, 0, none⟩ = false ∧ w1.frozen? ⟨w.heap.size, 1, none⟩ = false ∧ w1.frozen? ⟨w.heap.size, 2, none⟩ = false) ∧ (w1.frozen? ⟨w.heap.size + 1, 0, none⟩ = false ∧ w1.frozen? ⟨w.heap.size + 1, 1, none⟩ = false ∧ w1.frozen? ⟨w.heap.size + 1, 2, none⟩ = false) := by
  have h0 : w.heap.size < ((w.alloc (.cells #[x, y, z] t)).alloc (.cells #[x', y', z'] t')).heap.size := by simp; omega
  have h1 : w.heap.size + 1 < ((w.alloc (.cells #[x, y, z] t)).alloc (.cells #[x', y', z'] t')).heap.size := by simp
  refine ⟨⟨?_, ?_, ?_⟩, ⟨?_, ?_, ?_⟩⟩
  · rw [hb.frozen (p := ⟨w.heap.size, 0, none⟩) h0]; go_simp
  · rw [hb.frozen (p := ⟨w.heap.size, 1, none⟩) h0]; go_simp
  · rw [hb.frozen (p := ⟨w.heap.size, 2, none⟩) h0]; go_simp
  · rw [hb.frozen (p := ⟨w.heap.size + 1, 0, none⟩) h1]; go_simp
  · rw [hb.frozen (p := ⟨w.heap.size + 1, 1, none⟩) h1]; go_simp
  · rw [hb.frozen (p := ⟨w.heap.size + 1, 2, none⟩) h1]; go_simp
/-- what first answers -/
def FirstP (w : World) (l : List UInt8) (e : Ending) (w' : World) : Prop :=
  e = .returned (.tuple #[vv (firstV l).1.k (firstV l).1.n (firstV l).1.s, .int .i64 ((firstV l).2 : Int)]) ∧ Below w.heap.size w w'
theorem get_below {w : World} {v : Value} {l : List UInt8} (H : Holds w v (u8s l)) (hl : l.length ≤ 1099511627776) : ∀ w', Below w.heap.size w w' → Calls Tryz.prog 29 #[v] w' fun e w'' => e = .returned (.tuple #[.int .u64 ((getN l).1 : Int), .int .i64 ((getN l).2 : Int)]) ∧ w' = w'' :=
  fun w' hb => Get_any (H.below hb) (by omega)
/-- the result's three cells and the value's, behind the look at what it says -/
structure FirstSt (w w3 : World) (k : Int) : Prop where
  r0 : w3.cell? ⟨w.heap.size, 0, none⟩ = some (.int .i64 0)
  r1 : w3.cell? ⟨w.heap.size, 1, none⟩ = some (.int .i64 0)
  r2 : w3.cell? ⟨w.heap.size, 2, none⟩ = some (.string ⟨#[]⟩)
  v0 : w3.cell? ⟨w.heap.size + 1, 0, none⟩ = some (.int .i64 k)
  v1 : w3.cell? ⟨w.heap.size + 1, 1, none⟩ = some (.int .i64 0)
  v2 : w3.cell? ⟨w.heap.size + 1, 2, none⟩ = some (.string ⟨#[]⟩)
  f0 : w3.frozen? ⟨w.heap.size, 0, none⟩ = false
  f1 : w3.frozen? ⟨w.heap.size, 1, none⟩ = false
  f2 : w3.frozen? ⟨w.heap.size, 2, none⟩ = false
  g0 : w3.frozen? ⟨w.heap.size + 1, 0, none⟩ = false
  g1 : w3.frozen? ⟨w.heap.size + 1, 1, none⟩ = false
  g2 : w3.frozen? ⟨w.heap.size + 1, 2, none⟩ = false
  bel : Below w.heap.size w w3
theorem FirstSt.mk' {w w3 : World} {k : Int} (hb : Below ((w.alloc (.cells #[.int .i64 0, .int .i64 0, .string ⟨#[]⟩] 25)).alloc (.cells #[.int .i64 k, .int .i64 0, .string ⟨#[]⟩] 25)).heap.size ((w.alloc (.cells #[.int .i64 0, .int .i64 0, .string ⟨#[]⟩] 25)).alloc (.cells #[.int .i64 k, .int .i64 0, .string ⟨#[]⟩] 25)) w3) : FirstSt w w3 k := by
  obtain ⟨⟨a0, a1, a2⟩, ⟨b0, b1, b2⟩, hB⟩ := two_boxes _ _ _ _ _ _ _ _ _ hb
  obtain ⟨⟨f0, f1, f2⟩, ⟨g0, g1, g2⟩⟩ := two_frz hb
  exact ⟨a0, a1, a2, b0, b1, b2, f0, f1, f2, g0, g1, g2, hB⟩
theorem FirstSt.set {w w3 : World} {k : Int} (S : FirstSt w w3 k) (u v t : Value) : (w3.setCell ⟨w.heap.size, 0, none⟩ u).cell? ⟨w.heap.size, 0, none⟩ = some u ∧ ((w3.setCell ⟨w.heap.size, 0, none⟩ u).setCell ⟨w.heap.size, 1, none⟩ v).cell? ⟨w.heap.size, 1, none⟩ = some v ∧ (((w3.setCell ⟨w.heap.size, 0, none⟩ u).setCell ⟨w.heap.size, 1, none⟩ v).setCell ⟨w.heap.size, 2, none⟩ t).cell? ⟨w.heap.size, 2, none⟩ = some t :=
  C3.set ⟨S.r0, S.r1, S.r2⟩ u v t
/-- the value's cells behind a store into one of them -/
theorem FirstSt.vset {w w3 : World} {k : Int} (S : FirstSt w w3 k) (j : Nat) (u : Value) (hj : j = 1 ∨ j = 2) : C3 (w3.setCell ⟨w.heap.size + 1, j, none⟩ u) w.heap.size (.int .i64 0) (.int .i64 0) (.string ⟨#[]⟩) ∧ Below w.heap.size w (w3.setCell ⟨w.heap.size + 1, j, none⟩ u) :=
  ⟨⟨by rw [World.cell?_setCell_other _ _ _ _ (by simp)]; exact S.r0, by rw [World.cell?_setCell_other _ _ _ _ (by simp)]; exact S.r1, by rw [World.cell?_setCell_other _ _ _ _ (by simp)]; exact S.r2⟩, S.bel.setCell (by simp) _⟩
set_option maxHeartbeats 1600000 in
theorem first_other {w : World} {v : Value} {l : List UInt8} (H : Holds w v (u8s l)) (hl : l.length ≤ 1099511627776) (hk : (getN l).1 = 0 ∨ 4 < (getN l).1) : Calls Tryz.prog 30 #[v] w (FirstP w l) := by
  have hG := getN_bound l
  have KG := get_below H hl
  have hf : firstV l = (⟨IntKind.i64.wrap ((getN l).1 : Int), 0, ⟨#[]⟩⟩, (getN l).2) := by
    unfold firstV
    rw [if_neg (by omega), if_neg (by omega)]
  unfold FirstP
  rw [hf]
  obtain ⟨K, hK⟩ : ∃ K, (getN l).1 = K := ⟨_, rfl⟩
  obtain ⟨P, hP⟩ : ∃ P, (getN l).2 = P := ⟨_, rfl⟩
  rw [hK] at hk hG KG ⊢
  rw [hP] at KG ⊢
  obtain ⟨I, hI⟩ : ∃ I, IntKind.i64.wrap (K : Int) = I := ⟨_, rfl⟩
  have hc : (I = 0) ∨ (I < 0 ∨ 4 < I) := by
    rw [← hI, IntKind.wrap_i64]
    omega
  rw [hI]
  obtain ⟨a, c, rfl, _⟩ := H.form
  clear hK hP hk hG hf hl H
  rcases hc with rfl | hc
  · have KC := content_null 0 ⟨#[]⟩
    have q1 := as_nothing_whole
    have q2 := as_nothing_float
    have q3 := as_nothing_truth
    have q4 := as_nothing_str
    have hb1 := (Below.refl w.heap.size w).alloc (Nat.le_refl _) (.cells #[.int .i64 0, .int .i64 0, .string ⟨#[]⟩] 25)
    go_enter Tryz.func30, Tryz.ntmps30
    go_wp2_with fail
    refine (KG _ hb1).mono ?_
    rintro e w1 ⟨rfl, rfl⟩
    clear hb1 KG
    go_wp2_with fail
    refine (KC _).mono ?_
    rintro e w3 ⟨rfl, hb⟩
    have S := FirstSt.mk' hb
    clear hb KC
    have r0 := S.r0
    have r1 := S.r1
    have r2 := S.r2
    have v0 := S.v0
    have v1 := S.v1
    have v2 := S.v2
    have f0 := S.f0
    have f1 := S.f1
    have f2 := S.f2
    have g0 := S.g0
    have g1 := S.g1
    have g2 := S.g2
    have HB := Lib.hid S.bel
    have hr1 := fun u => (S.set u u u).1
    have hr2 := fun u v => (S.set u v v).2.1
    have hr3 := fun u v t => (S.set u v t).2.2
    clear S
    go_wp2_with fail
    refine bodyPost_ret (v := .tuple #[vv 0 0 ⟨#[]⟩, .int .i64 P]) ?_ rfl ⟨rfl, below_set3 HB.out (Nat.le_refl _) _ _ _⟩
    simp [results, Tryz.results30, go_sem, hr1, hr2, hr3]
  · have KC := fun w => content_other I 0 ⟨#[]⟩ w hc
    clear hc
    have q1 := as_other_whole
    have q2 := as_other_float
    have q3 := as_other_truth
    have q4 := as_other_str
    have hb1 := (Below.refl w.heap.size w).alloc (Nat.le_refl _) (.cells #[.int .i64 0, .int .i64 0, .string ⟨#[]⟩] 25)
    go_enter Tryz.func30, Tryz.ntmps30
    go_wp2_with fail
    refine (KG _ hb1).mono ?_
    rintro e w1 ⟨rfl, rfl⟩
    clear hb1 KG
    go_wp2_with fail
    refine (KC _).mono ?_
    rintro e w3 ⟨rfl, hb⟩
    have S := FirstSt.mk' hb
    clear hb KC
    have r0 := S.r0
    have r1 := S.r1
    have r2 := S.r2
    have v0 := S.v0
    have v1 := S.v1
    have v2 := S.v2
    have f0 := S.f0
    have f1 := S.f1
    have f2 := S.f2
    have g0 := S.g0
    have g1 := S.g1
    have g2 := S.g2
    have HB := Lib.hid S.bel
    have hr1 := fun u => (S.set u u u).1
    have hr2 := fun u v => (S.set u v v).2.1
    have hr3 := fun u v t => (S.set u v t).2.2
    clear S
    go_wp2_with fail
    refine bodyPost_ret (v := .tuple #[vv I 0 ⟨#[]⟩, .int .i64 P]) ?_ rfl ⟨rfl, below_set3 HB.out (Nat.le_refl _) _ _ _⟩
    simp [results, Tryz.results30, go_sem, hr1, hr2, hr3]
theorem first_num_eq {l : List UInt8} {k : Nat} (hk : (getN l).1 = k) (h : k = 1 ∨ k = 2 ∨ k = 4) : firstV l = (⟨(k : Int), zagN (getN (l.drop (getN l).2)).1, ⟨#[]⟩⟩, (getN l).2 + (getN (l.drop (getN l).2)).2) := by
  unfold firstV
  dsimp only
  rw [hk, if_pos h]
theorem getN_nil : getN [] = (0, 0) := rfl
theorem sum_wrap {a b n : Nat} (h : a + b ≤ n) (hn : n ≤ 1099511627776) : IntKind.i64.wrap ((a : Int) + (b : Int)) = (a : Int) + (b : Int) := by rw [IntKind.wrap_i64]; omega
set_option maxHeartbeats 1600000 in
theorem first_1 {w : World} {v : Value} {l : List UInt8} (H : Holds w v (u8s l)) (hl : l.length ≤ 1099511627776) (hk : (getN l).1 = 1) : Calls Tryz.prog 30 #[v] w (FirstP w l) := by
  have hG := (getN_bound l).1
  have hG2 := getN_bound (l.drop (getN l).2)
  have KG : ∀ w', Below w.heap.size w w' → Calls Tryz.prog 29 #[v] w' fun e w'' => e = .returned (.tuple #[.int .u64 1, .int .i64 ((getN l).2 : Int)]) ∧ w' = w'' := by
    have := get_below H hl
    rw [hk] at this
    exact this
  have hf := first_num_eq (k := 1) hk (by omega)
  unfold FirstP
  rw [hf]
  have hf' : (((1 : Nat) : Int)) = 1 := rfl
  rw [hf']
  obtain ⟨a, c, rfl, hc⟩ := H.form
  have hne : l ≠ [] := fun e => by subst e; rw [getN_nil] at hk; simp at hk
  have hpos : 0 < (u8s l).length := by rw [u8s_len]; exact List.length_pos_iff.2 hne
  obtain ⟨ad, rfl⟩ := H.ptr hpos
  rw [u8s_len] at *
  obtain ⟨A, if1, if1', hH1⟩ := cut_ahead H hG
  have KG2 := get_below hH1 (by rw [List.length_drop]; omega)
  generalize getN (l.drop (getN l).2) = Q at *
  generalize (getN l).2 = P at *
  obtain ⟨U, M⟩ := Q
  simp only at hG2 KG2 ⊢
  have hM : P + M ≤ l.length := by rw [List.length_drop] at hG2; omega
  have hws := sum_wrap hM hl
  have KZ := fun w => Zag_any U w hG2.2
  generalize zagN U = Z at *
  have p1 : (P : Int) ≤ (l.length : Int) := Int.ofNat_le.2 hG
  have p2 : (l.length : Int) ≤ (c : Int) := Int.ofNat_le.2 hc
  have p0 : (0 : Int) ≤ (P : Int) := Int.natCast_nonneg P
  generalize l.length = n at *
  have KC := content_int 0 ⟨#[]⟩
  have q0 := as_whole_whole
  have q1 := as_whole_float
  have q2 := as_whole_truth
  have hb1 := (Below.refl w.heap.size w).alloc (Nat.le_refl _) (.cells #[.int .i64 0, .int .i64 0, .string ⟨#[]⟩] 25)
  clear hf hf' hne hpos hk hG hG2 hM hl H hH1 hc
  go_enter Tryz.func30, Tryz.ntmps30
  go_wp2_with fail
  refine (KG _ hb1).mono ?_
  rintro e w1 ⟨rfl, rfl⟩
  clear hb1 KG
  go_wp2_with fail
  refine (KC _).mono ?_
  rintro e w3 ⟨rfl, hb⟩
  have S := FirstSt.mk' hb
  clear hb KC
  have r0 := S.r0
  have r1 := S.r1
  have r2 := S.r2
  have v0 := S.v0
  have v1 := S.v1
  have v2 := S.v2
  have f0 := S.f0
  have f1 := S.f1
  have f2 := S.f2
  have g0 := S.g0
  have g1 := S.g1
  have g2 := S.g2
  have HB := Lib.hid S.bel
  have hsv := Lib.hid (S.vset 1 (.int .i64 Z) (.inl rfl))
  have hr1 := fun u => (C3.set hsv.out.1 u u u).1
  have hr2 := fun u v => (C3.set hsv.out.1 u v v).2.1
  have hr3 := fun u v t => (C3.set hsv.out.1 u v t).2.2
  clear S
  go_wp2_with fail
  refine (KG2 _ HB.out).mono ?_
  rintro e w1 ⟨rfl, rfl⟩
  clear KG2
  go_wp2_with fail
  refine (KZ _).mono ?_
  rintro e w1 ⟨rfl, rfl⟩
  clear KZ
  go_wp2_with fail
  refine bodyPost_ret (v := .tuple #[vv 1 Z ⟨#[]⟩, .int .i64 ((P : Int) + (M : Int))]) ?_ rfl ⟨rfl, below_set3 hsv.out.2 (Nat.le_refl _) _ _ _⟩
  simp [results, Tryz.results30, go_sem, hr1, hr2, hr3]
set_option maxHeartbeats 1600000 in
theorem first_2 {w : World} {v : Value} {l : List UInt8} (H : Holds w v (u8s l)) (hl : l.length ≤ 1099511627776) (hk : (getN l).1 = 2) : Calls Tryz.prog 30 #[v] w (FirstP w l) := by
  have hG := (getN_bound l).1
  have hG2 := getN_bound (l.drop (getN l).2)
  have KG : ∀ w', Below w.heap.size w w' → Calls Tryz.prog 29 #[v] w' fun e w'' => e = .returned (.tuple #[.int .u64 2, .int .i64 ((getN l).2 : Int)]) ∧ w' = w'' := by
    have := get_below H hl
    rw [hk] at this
    exact this
  have hf := first_num_eq (k := 2) hk (by omega)
  unfold FirstP
  rw [hf]
  have hf' : (((2 : Nat) : Int)) = 2 := rfl
  rw [hf']
  obtain ⟨a, c, rfl, hc⟩ := H.form
  have hne : l ≠ [] := fun e => by subst e; rw [getN_nil] at hk; simp at hk
  have hpos : 0 < (u8s l).length := by rw [u8s_len]; exact List.length_pos_iff.2 hne
  obtain ⟨ad, rfl⟩ := H.ptr hpos
  rw [u8s_len] at *
  obtain ⟨A, if1, if1', hH1⟩ := cut_ahead H hG
  have KG2 := get_below hH1 (by rw [List.length_drop]; omega)
  generalize getN (l.drop (getN l).2) = Q at *
  generalize (getN l).2 = P at *
  obtain ⟨U, M⟩ := Q
  simp only at hG2 KG2 ⊢
  have hM : P + M ≤ l.length := by rw [List.length_drop] at hG2; omega
  have hws := sum_wrap hM hl
  have KZ := fun w => Zag_any U w hG2.2
  generalize zagN U = Z at *
  have p1 : (P : Int) ≤ (l.length : Int) := Int.ofNat_le.2 hG
  have p2 : (l.length : Int) ≤ (c : Int) := Int.ofNat_le.2 hc
  have p0 : (0 : Int) ≤ (P : Int) := Int.natCast_nonneg P
  generalize l.length = n at *
  have KC := content_float 0 ⟨#[]⟩
  have q0 := as_float_whole
  have q1 := as_float_float
  have q2 := as_float_truth
  have hb1 := (Below.refl w.heap.size w).alloc (Nat.le_refl _) (.cells #[.int .i64 0, .int .i64 0, .string ⟨#[]⟩] 25)
  clear hf hf' hne hpos hk hG hG2 hM hl H hH1 hc
  go_enter Tryz.func30, Tryz.ntmps30
  go_wp2_with fail
  refine (KG _ hb1).mono ?_
  rintro e w1 ⟨rfl, rfl⟩
  clear hb1 KG
  go_wp2_with fail
  refine (KC _).mono ?_
  rintro e w3 ⟨rfl, hb⟩
  have S := FirstSt.mk' hb
  clear hb KC
  have r0 := S.r0
  have r1 := S.r1
  have r2 := S.r2
  have v0 := S.v0
  have v1 := S.v1
  have v2 := S.v2
  have f0 := S.f0
  have f1 := S.f1
  have f2 := S.f2
  have g0 := S.g0
  have g1 := S.g1
  have g2 := S.g2
  have HB := Lib.hid S.bel
  have hsv := Lib.hid (S.vset 1 (.int .i64 Z) (.inl rfl))
  have hr1 := fun u => (C3.set hsv.out.1 u u u).1
  have hr2 := fun u v => (C3.set hsv.out.1 u v v).2.1
  have hr3 := fun u v t => (C3.set hsv.out.1 u v t).2.2
  clear S
  go_wp2_with fail
  refine (KG2 _ HB.out).mono ?_
  rintro e w1 ⟨rfl, rfl⟩
  clear KG2
  go_wp2_with fail
  refine (KZ _).mono ?_
  rintro e w1 ⟨rfl, rfl⟩
  clear KZ
  go_wp2_with fail
  refine bodyPost_ret (v := .tuple #[vv 2 Z ⟨#[]⟩, .int .i64 ((P : Int) + (M : Int))]) ?_ rfl ⟨rfl, below_set3 hsv.out.2 (Nat.le_refl _) _ _ _⟩
  simp [results, Tryz.results30, go_sem, hr1, hr2, hr3]
set_option maxHeartbeats 1600000 in
theorem first_4 {w : World} {v : Value} {l : List UInt8} (H : Holds w v (u8s l)) (hl : l.length ≤ 1099511627776) (hk : (getN l).1 = 4) : Calls Tryz.prog 30 #[v] w (FirstP w l) := by
  have hG := (getN_bound l).1
  have hG2 := getN_bound (l.drop (getN l).2)
  have KG : ∀ w', Below w.heap.size w w' → Calls Tryz.prog 29 #[v] w' fun e w'' => e = .returned (.tuple #[.int .u64 4, .int .i64 ((getN l).2 : Int)]) ∧ w' = w'' := by
    have := get_below H hl
    rw [hk] at this
    exact this
  have hf := first_num_eq (k := 4) hk (by omega)
  unfold FirstP
  rw [hf]
  have hf' : (((4 : Nat) : Int)) = 4 := rfl
  rw [hf']
  obtain ⟨a, c, rfl, hc⟩ := H.form
  have hne : l ≠ [] := fun e => by subst e; rw [getN_nil] at hk; simp at hk
  have hpos : 0 < (u8s l).length := by rw [u8s_len]; exact List.length_pos_iff.2 hne
  obtain ⟨ad, rfl⟩ := H.ptr hpos
  rw [u8s_len] at *
  obtain ⟨A, if1, if1', hH1⟩ := cut_ahead H hG
  have KG2 := get_below hH1 (by rw [List.length_drop]; omega)
  generalize getN (l.drop (getN l).2) = Q at *
  generalize (getN l).2 = P at *
  obtain ⟨U, M⟩ := Q
  simp only at hG2 KG2 ⊢
  have hM : P + M ≤ l.length := by rw [List.length_drop] at hG2; omega
  have hws := sum_wrap hM hl
  have KZ := fun w => Zag_any U w hG2.2
  generalize zagN U = Z at *
  have p1 : (P : Int) ≤ (l.length : Int) := Int.ofNat_le.2 hG
  have p2 : (l.length : Int) ≤ (c : Int) := Int.ofNat_le.2 hc
  have p0 : (0 : Int) ≤ (P : Int) := Int.natCast_nonneg P
  generalize l.length = n at *
  have KC := content_bool 0 ⟨#[]⟩
  have q0 := as_truth_whole
  have q1 := as_truth_float
  have q2 := as_truth_truth
  have hb1 := (Below.refl w.heap.size w).alloc (Nat.le_refl _) (.cells #[.int .i64 0, .int .i64 0, .string ⟨#[]⟩] 25)
  clear hf hf' hne hpos hk hG hG2 hM hl H hH1 hc
  go_enter Tryz.func30, Tryz.ntmps30
  go_wp2_with fail
  refine (KG _ hb1).mono ?_
  rintro e w1 ⟨rfl, rfl⟩
  clear hb1 KG
  go_wp2_with fail
  refine (KC _).mono ?_
  rintro e w3 ⟨rfl, hb⟩
  have S := FirstSt.mk' hb
  clear hb KC
  have r0 := S.r0
  have r1 := S.r1
  have r2 := S.r2
  have v0 := S.v0
  have v1 := S.v1
  have v2 := S.v2
  have f0 := S.f0
  have f1 := S.f1
  have f2 := S.f2
  have g0 := S.g0
  have g1 := S.g1
  have g2 := S.g2
  have HB := Lib.hid S.bel
  have hsv := Lib.hid (S.vset 1 (.int .i64 Z) (.inl rfl))
  have hr1 := fun u => (C3.set hsv.out.1 u u u).1
  have hr2 := fun u v => (C3.set hsv.out.1 u v v).2.1
  have hr3 := fun u v t => (C3.set hsv.out.1 u v t).2.2
  clear S
  go_wp2_with fail
  refine (KG2 _ HB.out).mono ?_
  rintro e w1 ⟨rfl, rfl⟩
  clear KG2
  go_wp2_with fail
  refine (KZ _).mono ?_
  rintro e w1 ⟨rfl, rfl⟩
  clear KZ
  go_wp2_with fail
  refine bodyPost_ret (v := .tuple #[vv 4 Z ⟨#[]⟩, .int .i64 ((P : Int) + (M : Int))]) ?_ rfl ⟨rfl, below_set3 hsv.out.2 (Nat.le_refl _) _ _ _⟩
  simp [results, Tryz.results30, go_sem, hr1, hr2, hr3]
theorem first_str_eq {l : List UInt8} (hk : (getN l).1 = 3) : firstV l = if l.length - ((getN l).2 + (getN (l.drop (getN l).2)).2) < (getN (l.drop (getN l).2)).1 then (VV.none_, 0) else (⟨3, 0, ⟨(((l.drop (getN l).2).drop (getN (l.drop (getN l).2)).2).take (getN (l.drop (getN l).2)).1).toArray⟩⟩, (getN l).2 + (getN (l.drop (getN l).2)).2 + (getN (l.drop (getN l).2)).1) := by
  unfold firstV
  dsimp only
  rw [hk, if_neg (by decide), if_pos rfl]
theorem wrap_len {n P M : Nat} (h : P + M ≤ n) (hn : n ≤ 1099511627776) : IntKind.i64.wrap ((n : Int) - ((P : Int) + (M : Int))) = (n : Int) - ((P : Int) + (M : Int)) ∧ IntKind.u64.wrap ((n : Int) - ((P : Int) + (M : Int))) = (n : Int) - ((P : Int) + (M : Int)) := by
  rw [IntKind.wrap_i64, IntKind.wrap_u64]; omega
theorem wrap_u {U n : Nat} (h : U ≤ n) (hn : n ≤ 1099511627776) : IntKind.i64.wrap (U : Int) = (U : Int) := by rw [IntKind.wrap_i64]; omega
set_option maxHeartbeats 1600000 in
theorem first_3 {w : World} {v : Value} {l : List UInt8} (H : Holds w v (u8s l)) (hl : l.length ≤ 1099511627776) (hk : (getN l).1 = 3) : Calls Tryz.prog 30 #[v] w (FirstP w l) := by
  have hG := (getN_bound l).1
  have hG2 := getN_bound (l.drop (getN l).2)
  have KG : ∀ w', Below w.heap.size w w' → Calls Tryz.prog 29 #[v] w' fun e w'' => e = .returned (.tuple #[.int .u64 3, .int .i64 ((getN l).2 : Int)]) ∧ w' = w'' := by
    have := get_below H hl
    rw [hk] at this
    exact this
  have hf := first_str_eq hk
  unfold FirstP
  rw [hf]
  obtain ⟨a, c, rfl, hc⟩ := H.form
  have hne : l ≠ [] := fun e => by subst e; rw [getN_nil] at hk; simp at hk
  have hpos : 0 < (u8s l).length := by rw [u8s_len]; exact List.length_pos_iff.2 hne
  obtain ⟨ad, rfl⟩ := H.ptr hpos
  rw [u8s_len] at *
  obtain ⟨A, if1, if1', hH1⟩ := cut_ahead H hG
  have KG2 := get_below hH1 (by rw [List.length_drop]; omega)
  generalize getN (l.drop (getN l).2) = Q at *
  generalize (getN l).2 = P at *
  obtain ⟨U, M⟩ := Q
  simp only at hG2 KG2 ⊢
  have hM : P + M ≤ l.length := by rw [List.length_drop] at hG2; omega
  have hws := sum_wrap hM hl
  obtain ⟨hwl, hwu⟩ := wrap_len hM hl
  have p1 : (P : Int) ≤ (l.length : Int) := Int.ofNat_le.2 hG
  have p2 : (l.length : Int) ≤ (c : Int) := Int.ofNat_le.2 hc
  have p0 : (0 : Int) ≤ (P : Int) := Int.natCast_nonneg P
  have KC := content_str 0 ⟨#[]⟩
  have q0 := as_str_whole
  have q1 := as_str_float
  have q2 := as_str_truth
  have q3 := as_str_str
  have hb1 := (Below.refl w.heap.size w).alloc (Nat.le_refl _) (.cells #[.int .i64 0, .int .i64 0, .string ⟨#[]⟩] 25)
  by_cases ht : l.length - (P + M) < U
  · rw [if_pos ht]
    have t1 : decide ((l.length : Int) - ((P : Int) + (M : Int)) < (U : Int)) = true := decide_eq_true (by omega)
    generalize l.length = n at *
    clear hf hne hpos hk hG hG2 hM hl H hH1 hc ht
    go_enter Tryz.func30, Tryz.ntmps30
    go_wp2_with fail
    refine (KG _ hb1).mono ?_
    rintro e w1 ⟨rfl, rfl⟩
    clear hb1 KG
    go_wp2_with fail
    refine (KC _).mono ?_
    rintro e w3 ⟨rfl, hb⟩
    have S := FirstSt.mk' hb
    clear hb KC
    have r0 := S.r0
    have r1 := S.r1
    have r2 := S.r2
    have v0 := S.v0
    have v1 := S.v1
    have v2 := S.v2
    have f0 := S.f0
    have f1 := S.f1
    have f2 := S.f2
    have g0 := S.g0
    have g1 := S.g1
    have g2 := S.g2
    have HB := Lib.hid S.bel
    have hr1 := fun u => (S.set u u u).1
    have hr2 := fun u v => (S.set u v v).2.1
    have hr3 := fun u v t => (S.set u v t).2.2
    clear S
    go_wp2_with fail
    refine (KG2 _ HB.out).mono ?_
    rintro e w1 ⟨rfl, rfl⟩
    clear KG2
    go_wp2_with fail
    refine bodyPost_ret (v := .tuple #[vv 0 0 ⟨#[]⟩, .int .i64 0]) ?_ rfl ⟨rfl, below_set3 HB.out (Nat.le_refl _) _ _ _⟩
    simp [results, Tryz.results30, go_sem, hr1, hr2, hr3]
  · rw [if_neg ht]
    have t1 : decide ((l.length : Int) - ((P : Int) + (M : Int)) < (U : Int)) = false := decide_eq_false (by omega)
    have hwU := wrap_u (U := U) (n := l.length) (by omega) hl
    have hwE := sum_wrap (a := P + M) (b := U) (n := l.length) (by omega) hl
    rw [Int.natCast_add] at hwE
    obtain ⟨A3, if3, if3', hH3⟩ := cut_ahead H hM
    have hT := hH3.take U (by omega)
    rw [u8s_take'] at hT
    have e1 : (l.drop P).drop M = l.drop (P + M) := by rw [List.drop_drop]
    rw [e1]
    generalize (l.drop (P + M)).take U = X at *
    have KS := fun w' hb => toStr (hT.below (w' := w') hb)
    have p3 : (P : Int) + (M : Int) ≤ (P : Int) + (M : Int) + (U : Int) := by omega
    have p4 : (P : Int) + (M : Int) + (U : Int) ≤ (c : Int) := by omega
    have p5 : (0 : Int) ≤ (P : Int) + (M : Int) := by omega
    generalize l.length = n at *
    clear hf hne hpos hk hG hG2 hM hl H hH1 hc ht hT hH3 e1
    go_enter Tryz.func30, Tryz.ntmps30
    go_wp2_with fail
    refine (KG _ hb1).mono ?_
    rintro e w1 ⟨rfl, rfl⟩
    clear hb1 KG
    go_wp2_with fail
    refine (KC _).mono ?_
    rintro e w3 ⟨rfl, hb⟩
    have S := FirstSt.mk' hb
    clear hb KC
    have r0 := S.r0
    have r1 := S.r1
    have r2 := S.r2
    have v0 := S.v0
    have v1 := S.v1
    have v2 := S.v2
    have f0 := S.f0
    have f1 := S.f1
    have f2 := S.f2
    have g0 := S.g0
    have g1 := S.g1
    have g2 := S.g2
    have HB := Lib.hid S.bel
    have hsv := Lib.hid (S.vset 2 (.string ⟨X.toArray⟩) (.inr rfl))
    have hr1 := fun u => (C3.set hsv.out.1 u u u).1
    have hr2 := fun u v => (C3.set hsv.out.1 u v v).2.1
    have hr3 := fun u v t => (C3.set hsv.out.1 u v t).2.2
    have KS3 := KS w3 S.bel
    clear S
    go_wp2_with fail
    refine (KG2 _ HB.out).mono ?_
    rintro e w1 ⟨rfl, rfl⟩
    clear KG2 KS
    go_wp2_with fail
    all_goals (
      refine bodyPost_ret (v := .tuple #[vv 3 0 ⟨X.toArray⟩, .int .i64 ((P : Int) + (M : Int) + (U : Int))]) ?_ rfl ⟨rfl, below_set3 hsv.out.2 (Nat.le_refl _) _ _ _⟩
      simp [results, Tryz.results30, go_sem, hr1, hr2, hr3])
theorem first_any {w : World} {v : Value} {l : List UInt8} (H : Holds w v (u8s l)) (hl : l.length ≤ 1099511627776) : Calls Tryz.prog 30 #[v] w (FirstP w l) := by
  by_cases h1 : (getN l).1 = 1
  · exact first_1 H hl h1
  by_cases h2 : (getN l).1 = 2
  · exact first_2 H hl h2
  by_cases h3 : (getN l).1 = 3
  · exact first_3 H hl h3
  by_cases h4 : (getN l).1 = 4
  · exact first_4 H hl h4
  exact first_other H hl (by omega)
end Go.Proofs.YtfmhdnefcapjgaaGreatDoor
/- Contracts of value.read and value.Load at any bytes. Conditions: at most 10^6 bytes. -/
set_option maxRecDepth 100000
namespace Go.Proofs.YtfmhdnefcapjgaaGreatDoor
open Go.RowKit Go.Maps Go.Sort Go.Lib

/-- what read answers -/
def ReadVP (w : World) (l : List VV) (e : Ending) (w' : World) : Prop := ∃ v', e = .returned v' ∧ HoldsV w' v' l ∧ Below w.heap.size w w'
/-- values of the call's own -/
def OutV (w wr : World) (v : Value) (acc : List VV) : Prop := wr.ownsRow w.heap.size 25 3 v acc.length (flatC acc) ∧ Below w.heap.size w wr
theorem OutV.next {w wr w' : World} {v : Value} {acc : List VV} (h : OutV w wr v acc) (hb : Below wr.heap.size wr w') : OutV w w' v acc :=
  ⟨ownsRow_below h.1 hb, h.2.trans (hb.mono h.2.size)⟩
theorem OutV.app {w wr : World} {v : Value} {acc : List VV} (h : OutV w wr v acc) (x : VV) (hl : acc.length ≤ 1000000000000) :
    ∃ v' w', (∀ ty, (Builtin.append_ #[22, 22] ty #[v, .slice (some ⟨wr.heap.size, 0, none⟩) 1 1]).run Tryz.prog (wr.alloc (.cells #[.int .i64 x.k, .int .i64 x.n, .string x.s] 25)) = .ok v' w') ∧ OutV w w' v' (acc ++ [x]) := by
  obtain ⟨v', w', r, o, g⟩ := app_value h.1 h.2.size x hl
  exact ⟨v', w', r, o, h.2.trans (below_grown g h.2.size (ownsRow_ge h.1))⟩
theorem OutV.nil (w : World) : OutV w w (.slice none 0 0) [] := ⟨World.ownsRow_nil w _ _ _, Below.refl _ _⟩
theorem first_below {w : World} {v : Value} {l : List UInt8} (H : Holds w v (u8s l)) (hl : l.length ≤ 1099511627776) : ∀ w', Below w.heap.size w w' → Calls Tryz.prog 30 #[v] w' (FirstP w' l) :=
  fun _ hb => first_any (H.below hb) hl
theorem u64_next {i C : Nat} (h : i < C) (hC : C < 18446744073709551616) : IntKind.u64.wrap ((i : Int) + 1) = (i : Int) + 1 := by rw [IntKind.wrap_u64]; omega
theorem readL_step {c : Nat} {l : List UInt8} (h : (firstV l).2 ≠ 0) : readL (c + 1) l = (firstV l).1 :: readL c (l.drop (firstV l).2) := by
  conv => lhs; unfold readL
  rw [if_neg h]
theorem readL_stop {c : Nat} {l : List UInt8} (h : (firstV l).2 = 0) : readL (c + 1) l = [] := by
  unfold readL
  rw [if_pos h]
theorem sub_next {i C : Nat} (h : i < C) : C - i = (C - (i + 1)) + 1 := by omega
theorem small_le {a b n : Nat} (h : a ≤ b) (h2 : b ≤ n) (h3 : n ≤ 1000000) : a ≤ 1000000000000 := by omega
theorem next_le {a p m : Nat} (h : a ≤ p) (hm : m ≠ 0) : a + 1 ≤ p + m := by omega
theorem pm_le {p m n : Nat} (hp : p ≤ n) (hm : m ≤ n - p) : p + m ≤ n := by omega
theorem bne_cast {m : Nat} (h : m ≠ 0) : ((m : Int) == 0) = false := by rw [beq_eq_false_iff_ne]; omega
theorem beq_cast {m : Nat} (h : m = 0) : ((m : Int) == 0) = true := by subst h; rfl
theorem meas_lt {i C : Nat} (h : i < C) : C - (i + 1) < C - i := by omega
set_option maxHeartbeats 800000 in
theorem read_vals {w : World} {v : Value} {l : List UInt8} (H : Holds w v (u8s l)) (hl : l.length ≤ 1000000) : Calls Tryz.prog 17 #[v] w (ReadVP w (readV l)) := by
  have KG := Get_any H (by omega)
  have hG := getN_bound l
  obtain ⟨R, hR⟩ : ∃ R, readV l = R := ⟨_, rfl⟩
  have hR0 : readL (getN l).1 (l.drop (getN l).2) = R := hR
  rw [hR]
  obtain ⟨a, c, rfl, hc⟩ := H.form
  have hne : (getN l).1 ≠ 0 → ∃ ad, a = some ad := fun h => by
    have : l ≠ [] := fun e => h (by rw [e]; rfl)
    exact H.ptr (by rw [u8s_len]; exact List.length_pos_iff.2 this)
  rw [u8s_len] at *
  generalize (getN l).1 = C at *
  generalize (getN l).2 = P at *
  have HH := Lib.hid H
  have HL := Lib.hid hl
  have HC := Lib.hid hG.2
  have HP := Lib.hid hG.1
  have HR := Lib.hid hR0
  obtain ⟨n, hn⟩ : ∃ n, n = l.length := ⟨_, rfl⟩
  rw [← hn] at hc KG HH HL HP ⊢
  have HN := Lib.hid hn
  have p2 : (n : Int) ≤ (c : Int) := Int.ofNat_le.2 hc
  clear hR hR0 hG hl H hn hc
  go_enter Tryz.func17, Tryz.ntmps17
  go_wp2_with fail
  refine KG.mono ?_
  rintro e w1 ⟨rfl, rfl⟩
  clear KG
  go_wp2_with fail
  go_loopw [4, 5, 6, 7, 14] (fun s4 s5 _ _ s14 wr => ∃ (i p : Nat) (v : Value) (acc : List VV), s14 = .int .u64 i ∧ s4 = .int .i64 p ∧ v = s5 ∧ i ≤ C ∧ p ≤ n ∧ acc.length ≤ p ∧ Hid (OutV w wr v acc) ∧ Hid (acc ++ readL (C - i) (l.drop p) = R)) (fun _ _ _ _ k _ => C - (RowKit.intOf k).toNat)
  case atStart => exact ⟨0, P, _, [], rfl, rfl, rfl, Nat.zero_le _, HP.out, Nat.zero_le _, Lib.hid (OutV.nil w), Lib.hid (by simpa using HR.out)⟩
  case round =>
    clear HR
    obtain ⟨i, p, v, acc, rfl, rfl, rfl, hiC, hpn, hap, HO, HA⟩ := hrel
    by_cases hlt : i < C
    · obtain ⟨ad, rfl⟩ := hne (by omega)
      have b1 : (i : Int) < (C : Int) := Int.ofNat_lt.2 hlt
      have hw64 := u64_next hlt HC.out
      have p0 : (0 : Int) ≤ (p : Int) := Int.natCast_nonneg p
      have p1 : (p : Int) ≤ (n : Int) := Int.ofNat_le.2 hpn
      obtain ⟨A, if1, if1', hH1⟩ := cut_ahead HH.out hpn
      have hfl : (l.drop p).length ≤ 1099511627776 := by rw [List.length_drop, ← HN.out]; have := HL.out; omega
      have KF := first_below hH1 hfl wr HO.out.2
      have hfle := first_le (l.drop p)
      rw [List.length_drop, ← HN.out] at hfle
      have hpm := pm_le hpn hfle
      have hwp := sum_wrap hpm (Nat.le_trans HL.out (by decide))
      have HA1 := HA.out
      rw [sub_next hlt] at HA1
      unfold FirstP at KF
      by_cases hm : (firstV (l.drop p)).2 = 0
      · rw [readL_stop hm, List.append_nil] at HA1
        have t0 := beq_cast hm
        generalize (firstV (l.drop p)).2 = m at *
        generalize (firstV (l.drop p)).1 = y at *
        obtain ⟨yk, yn, ys⟩ := y
        simp only at KF
        clear HA hH1 hfl hfle hpm hm hpn hap hiC hlt
        go_wp2_with fail
        refine KF.mono ?_
        rintro e w2 ⟨rfl, hb2⟩
        have HO2 := HO.out.next hb2
        have HO3 := Lib.hid (HO2.next ((Below.refl _ _).alloc (Nat.le_refl _) (.cells #[.int .i64 yk, .int .i64 yn, .string ys] 25)))
        clear KF hb2 HO2 HO
        go_wp2_with fail
        go_ret
        subst HA1
        exact ⟨_, rfl, holdsV_of_owns HO3.out.1, HO3.out.2⟩
      · rw [readL_step hm, List.drop_drop] at HA1
        have t0 := bne_cast hm
        have hnx := next_le hap hm
        have hal := small_le hap hpn HL.out
        generalize (firstV (l.drop p)).2 = m at *
        generalize (firstV (l.drop p)).1 = y at *
        have HAP := Lib.hid (fun w0 v (ho : OutV w w0 v acc) => ho.app y hal)
        obtain ⟨yk, yn, ys⟩ := y
        simp only at KF HAP
        have HA2 : Hid ((acc ++ [⟨yk, yn, ys⟩]) ++ readL (C - (i + 1)) (l.drop (p + m)) = R) := Lib.hid (by rw [List.append_assoc]; exact HA1)
        have HNX : Hid ((acc ++ [⟨yk, yn, ys⟩] : List VV).length ≤ p + m) := Lib.hid (by rw [List.length_append]; exact hnx)
        clear HA HA1 hH1 hfl hfle hm hpn hap hiC hnx hal
        go_wp2_with fail
        refine KF.mono ?_
        rintro e w2 ⟨rfl, hb2⟩
        have HO2 := HO.out.next hb2
        have HO3 := HO2.next ((Below.refl _ _).alloc (Nat.le_refl _) (.cells #[.int .i64 yk, .int .i64 yn, .string ys] 25))
        obtain ⟨v', w', r, HO4⟩ := HAP.out _ _ HO3
        have hz : (w2.alloc (.cells #[.int .i64 yk, .int .i64 yn, .string ys] 25)).heap.size = w2.heap.size + 1 := by simp
        rw [hz] at r
        have R1 := Lib.hid r
        have HO5 := Lib.hid HO4
        clear KF hb2 HO2 HO HO3 r HO4 HAP hz
        go_wp2_with (at_builtin; refine wpList_append_run rfl _ _ 22 rfl rfl rfl (R1.out _) ?_)
        go_roundw
        case rel => exact ⟨i + 1, p + m, _, _, by go_num, by go_num, rfl, hlt, hpm, HNX.out, HO5, HA2⟩
        case measure => simp [RowKit.intOf]; omega
    · have hei : i = C := end_eq hiC hlt
      have hR := HA.out
      rw [hei, Nat.sub_self] at hR
      have hR2 : acc = R := by simpa [readL] using hR
      subst hR2
      clear HA hR
      go_wp2_with fail
      go_ret
      exact ⟨_, rfl, holdsV_of_owns HO.out.1, HO.out.2⟩
/-- what Load answers -/
def LoadP (w : World) (l : List UInt8) (e : Ending) (w' : World) : Prop :=
  (∃ v', (∃ vs, loadV l = some vs ∧ HoldsV w' v' vs ∧ e = .returned (.tuple #[v', .int .i64 0])) ∨ (loadV l = none ∧ v' = .slice none 0 0 ∧ e = .returned (.tuple #[v', .int .i64 8]))) ∧ Below w.heap.size w w'
theorem str_eq (l m : List UInt8) : ((⟨l.toArray⟩ : ByteArray).toList == (⟨m.toArray⟩ : ByteArray).toList) = decide (l = m) := by
  rw [Lib.toList_data, Lib.toList_data, Bool.eq_iff_iff, beq_iff_eq, decide_eq_true_iff]
set_option maxHeartbeats 800000 in
theorem vload_any {w : World} {v : Value} {l : List UInt8} (H : Holds w v (u8s l)) (hl : l.length ≤ 1000000) : Calls Tryz.prog 8 #[v] w (LoadP w l) := by
  have KR := read_vals H hl
  have hlen := readV_len l
  have hin := readV_inI l
  have hlo : loadV l = if bytesV (readV l) = l then some (readV l) else none := rfl
  generalize readV l = R at *
  have HB := Lib.hid (fun (w0 : World) (v0 : Value) (h0 : HoldsV w0 v0 R) => vbytes_any h0 (by omega) hin)
  have HS := Lib.hid (fun (w0 : World) (hb : Below w.heap.size w w0) => toStr (H.below hb))
  obtain ⟨a, c, rfl, hc⟩ := H.form
  generalize (u8s l).length = n at *
  clear hlen hin hl H hc
  go_enter Tryz.func8, Tryz.ntmps8
  go_wp2_with fail
  refine KR.mono ?_
  rintro e w1 ⟨v1, rfl, h1, hb1⟩
  have KB := HB.out w1 v1 h1
  have H1 := Lib.hid h1
  have HB1 := Lib.hid hb1
  clear KR HB h1 hb1
  go_wp2_with fail
  refine KB.mono ?_
  rintro e w2 ⟨v2, rfl, ho, hb2⟩
  have hO : Holds w2 v2 (u8s (bytesV R)) := Holds.of_row (by rw [u8s_len]; exact ho)
  have hbb := HB1.out.trans (hb2.mono HB1.out.size)
  have KE := Tryz.bytes_Equal_strs v2 (.slice a n c) _ _ w2 (toStr hO) (HS.out w2 hbb)
  rw [str_eq] at KE
  have HBB := Lib.hid hbb
  have H2 := Lib.hid (H1.out.below hb2)
  clear ho hb2 hO hbb KB HS H1 HB1
  by_cases he : bytesV R = l
  · rw [if_pos he] at hlo
    rw [decide_eq_true he] at KE
    clear he
    go_wp2_with fail
    refine KE.mono ?_
    rintro e w3 ⟨rfl, rfl⟩
    go_wp2_with fail
    go_ret2
    exact ⟨⟨v1, .inl ⟨R, hlo, H2.out, rfl⟩⟩, HBB.out⟩
  · rw [if_neg he] at hlo
    rw [decide_eq_false he] at KE
    clear he
    go_wp2_with fail
    refine KE.mono ?_
    rintro e w3 ⟨rfl, rfl⟩
    go_wp2_with fail
    go_ret2
    exact ⟨⟨_, .inr ⟨hlo, rfl, rfl⟩⟩, HBB.out⟩
end Go.Proofs.YtfmhdnefcapjgaaGreatDoor
/- Contract of the document's own Good of values. Conditions: none. -/
set_option maxRecDepth 100000
namespace Go.Proofs.YtfmhdnefcapjgaaGreatDoor
open Go.RowKit Go.Maps Go.Sort Go.Lib

theorem nil_list : (⟨#[]⟩ : ByteArray).toList = [] := by simp [Lib.toList_data]
end Go.Proofs.YtfmhdnefcapjgaaGreatDoor
/- Contract of the document's own Bytes of values. Conditions: at most 10^9 values. -/
set_option maxRecDepth 100000
namespace Go.Proofs.YtfmhdnefcapjgaaGreatDoor
open Go.RowKit Go.Maps Go.Sort Go.Lib

theorem below_drew_v (w : World) : Below w.heap.size w w.drew := ⟨rfl, rfl, rfl, Nat.le_refl _, fun _ _ => rfl⟩
theorem Out.str {w wr : World} {v : Value} {acc : List UInt8} (h : Out w wr v acc) (s : ByteArray) (hl : acc.length + s.size ≤ 17592186044416) :
    ∃ v' w2, (∀ ty, (Builtin.append_ #[33, 9] ty #[v, .string s]).run Tryz.prog wr = .ok v' w2) ∧ Out w w2 v' (acc ++ s.data.toList) ∧ (∀ k, k < wr.heap.size → (∀ g, v.ownBlock = some g → g ≠ k) → w2.heap[k]? = wr.heap[k]?) := by
  obtain ⟨v', w2, r, o, g⟩ := app_str (u := 9) Tryz.underlying9 h.1 h.2.size s hl
  exact ⟨v', w2, r, ⟨o, h.2.trans (below_grown g h.2.size (ownsRow_ge h.1))⟩, fun k hk hne => g.block k hk (fun e => hne k e.symm rfl)⟩
theorem room4 {a b : Nat} (h : a ≤ 200000000000) (h2 : b ≤ 10) : a + b ≤ 17592186044000 := by omega
theorem room5 {a : List UInt8} {b : List UInt8} (h : a.length ≤ 200000000000) (h2 : b.length ≤ 10) : (a ++ b).length ≤ 17592186044000 := by rw [List.length_append]; omega
theorem room0 {a : Nat} (h : a ≤ 200000000000) : a ≤ 17592186044000 := by omega
theorem room6 {a b c : List UInt8} {s : Nat} (h : a.length ≤ 200000000000) (h2 : b.length ≤ 10) (h3 : c.length ≤ 10) (h4 : s ≤ 64) : (a ++ b ++ c).length + s ≤ 17592186044416 := by rw [List.length_append, List.length_append]; omega
end Go.Proofs.YtfmhdnefcapjgaaGreatDoor
/- Contract of talusref02.Get: the number that bytes begin with. Conditions: none. -/
set_option maxRecDepth 100000
namespace Go.Proofs.YtfmhdnefcapjgaaGreatDoor
open Go.RowKit Go.Maps Go.Sort

end Go.Proofs.YtfmhdnefcapjgaaGreatDoor
/- Contract of the document's own Load of values at any bytes. Conditions: at most 10^6 bytes. -/
set_option maxRecDepth 100000
namespace Go.Proofs.YtfmhdnefcapjgaaGreatDoor
open Go.RowKit Go.Maps Go.Sort Go.Lib

/-- whichever good values the bytes are of: they begin with those that were read, and the rest is what is left -/
def KeyR (whole : List UInt8) (acc : List VV) (rest : List UInt8) : Prop :=
  ∀ ws : List VV, (∀ x ∈ ws, x.good = true ∧ x.inI) → ws.length < 18446744073709551616 → whole = bytesV ws → ∃ ws', ws = acc ++ ws' ∧ rest = flatV ws'
theorem key_n {whole : List UInt8} {ws : List VV} (h2 : ws.length < 18446744073709551616) (h3 : whole = bytesV ws) : (getN whole).1 = ws.length ∧ (getN whole).2 ≠ 0 ∧ whole.drop (getN whole).2 = flatV ws := by
  subst h3
  unfold bytesV
  rw [get_app _ h2]
  refine ⟨rfl, ?_, List.drop_left⟩
  have := dig_pos ws.length
  simp only
  omega
theorem key_start (whole : List UInt8) : KeyR whole [] (whole.drop (getN whole).2) := fun ws _ h2 h3 => ⟨ws, rfl, (key_n h2 h3).2.2⟩
/-- what a good value's bytes tell of it -/
theorem okR_of {x : VV} (h : x.good = true) (hi : x.inI) (r : List UInt8) :
    (getN (x.bytes ++ r)).2 ≠ 0 ∧ (getN (x.bytes ++ r)).1 ≤ 4 ∧ ((getN (x.bytes ++ r)).1 ≠ 0 → (getN ((x.bytes ++ r).drop (getN (x.bytes ++ r)).2)).2 ≠ 0) ∧
    ((getN (x.bytes ++ r)).1 = 3 → (getN ((x.bytes ++ r).drop (getN (x.bytes ++ r)).2)).1 ≤ (x.bytes ++ r).length - ((getN (x.bytes ++ r)).2 + (getN ((x.bytes ++ r).drop (getN (x.bytes ++ r)).2)).2)) := by
  have hk := goodV_kind h
  have e : x.bytes ++ r = dig x.k.toNat ++ (x.body ++ r) := by unfold VV.bytes; rw [List.append_assoc]
  have g1 := get_app x.k.toNat (by omega) (x.body ++ r)
  have p1 := dig_pos x.k.toNat
  rw [← e] at g1
  have d1 : (x.bytes ++ r).drop (dig x.k.toNat).length = x.body ++ r := by rw [e]; exact List.drop_left
  rw [g1]
  simp only
  rw [d1]
  refine ⟨by omega, by omega, fun h0 => ?_, fun h3 => ?_⟩
  · have hb : ∃ u t, u < 18446744073709551616 ∧ x.body = dig u ++ t := by
      unfold VV.body
      rcases good_cases h with rfl | ⟨e, _⟩ | ⟨e, _⟩ | ⟨e, _, es⟩ | ⟨e, _⟩
      · simp [VV.none_] at h0
      · rw [if_pos (.inl e)]; exact ⟨_, [], (zig_zag _ hi.1 hi.2).2, (List.append_nil _).symm⟩
      · rw [if_pos (.inr (.inl e))]; exact ⟨_, [], (zig_zag _ hi.1 hi.2).2, (List.append_nil _).symm⟩
      · rw [if_neg (by omega), if_pos e]; exact ⟨_, _, by omega, rfl⟩
      · rw [if_pos (.inr (.inr e))]; exact ⟨_, [], (zig_zag _ hi.1 hi.2).2, (List.append_nil _).symm⟩
    obtain ⟨u, t, hu, hb⟩ := hb
    rw [hb, List.append_assoc, get_app u hu]
    have := dig_pos u
    simp only
    omega
  · have e3 : x.k = 3 := by omega
    rcases good_cases h with rfl | ⟨e, _⟩ | ⟨e, _⟩ | ⟨_, _, es⟩ | ⟨e, _⟩
    · simp [VV.none_] at e3
    · omega
    · omega
    · have hb : x.body = dig x.s.size ++ x.s.data.toList := by unfold VV.body; rw [if_neg (by omega), if_pos e3]
      rw [hb, List.append_assoc, get_app _ (by omega)]
      have hl := congrArg List.length e
      rw [hb] at hl
      simp only [List.length_append] at hl ⊢
      have := Lib.size_eq x.s
      omega
    · omega
/-- there is a value more, and it stands ahead -/
theorem key_more {whole rest : List UInt8} {acc ws : List VV} (h : KeyR whole acc rest) (h1 : ∀ x ∈ ws, x.good = true ∧ x.inI) (h2 : ws.length < 18446744073709551616) (h3 : whole = bytesV ws) (hlt : acc.length < (getN whole).1) :
    ∃ x r, ws = acc ++ x :: r ∧ rest = x.bytes ++ flatV r ∧ x.good = true ∧ x.inI := by
  obtain ⟨ws', e1, e2⟩ := h ws h1 h2 h3
  have hn := (key_n h2 h3).1
  cases ws' with
  | nil => rw [e1] at hn; simp at hn; omega
  | cons x r =>
    have hx := h1 x (by rw [e1]; simp)
    exact ⟨x, r, e1, by rw [e2, flatV_cons, norm_of hx.1], hx.1, hx.2⟩
theorem key_stop {whole rest : List UInt8} {acc : List VV} (h : KeyR whole acc rest) (hb : whole.length < 18446744073709551616) (hlt : acc.length < (getN whole).1)
    (hno : ∀ (x : VV) (r : List UInt8), x.good = true → x.inI → rest = x.bytes ++ r → False) : loadV whole = none :=
  (load_none hb).2 fun ws h1 h2 h3 => by
    obtain ⟨x, r, _, e, hg, hi⟩ := key_more h h1 h2 h3 hlt
    exact hno x _ hg hi e
theorem key_next {whole rest : List UInt8} {acc : List VV} (h : KeyR whole acc rest) (hlt : acc.length < (getN whole).1) : KeyR whole (acc ++ [(firstV rest).1]) (rest.drop (firstV rest).2) := fun ws h1 h2 h3 => by
  obtain ⟨x, r, e1, e2, hg, hi⟩ := key_more h h1 h2 h3 hlt
  have hf := first_good hg hi (flatV r)
  rw [← e2] at hf
  refine ⟨r, ?_, ?_⟩
  · rw [hf, e1]; simp
  · rw [hf, e2]; exact List.drop_left
/-- all of them were read: the bytes tell whether they are those -/
theorem key_end {whole rest : List UInt8} {acc : List VV} (h : KeyR whole acc rest) (hb : whole.length < 18446744073709551616) (hn : acc.length = (getN whole).1) (hg : ∀ x ∈ acc, x.good = true ∧ x.inI) : loadV whole = if bytesV acc = whole then some acc else none := by
  by_cases he : bytesV acc = whole
  · rw [if_pos he]
    exact (load_iff hb).2 ⟨hg, by rw [hn]; exact (getN_bound whole).2, he.symm⟩
  · rw [if_neg he]
    refine (load_none hb).2 fun ws h1 h2 h3 => ?_
    obtain ⟨ws', e1, _⟩ := h ws h1 h2 h3
    have := (key_n h2 h3).1
    rw [e1, List.length_append] at this
    have : ws' = [] := List.eq_nil_of_length_eq_zero (by omega)
    rw [this, List.append_nil] at e1
    exact he (by rw [← e1]; exact h3.symm)
theorem good_snoc {acc : List VV} {k n : Int} {s : ByteArray} (h : ∀ x ∈ acc, x.good = true ∧ x.inI) (hg : goodV k n s = true) (hi : VV.inI ⟨k, n, s⟩) : ∀ x ∈ acc ++ [⟨k, n, s⟩], VV.good x = true ∧ VV.inI x := fun x hx => by
  rcases List.mem_append.1 hx with hx | hx
  · exact h x hx
  · simp at hx; subst hx; exact ⟨hg, hi⟩
theorem len_lt {i m N : Nat} (h : i < N) (e : m = i) : m < N := by omega
theorem le_u64 {n : Nat} (h : n ≤ 1000000) : n < 18446744073709551616 := by omega
theorem wrap_m {m n : Nat} (h : m ≤ n) (h2 : n ≤ 1000000) : IntKind.u64.wrap (m : Int) = (m : Int) := by rw [IntKind.wrap_u64]; omega
theorem le_acc {i m N n : Nat} (e : m = i) (h : i < N) (h2 : N ≤ n) (h3 : n ≤ 1000000) : m ≤ 1000000000000 := by omega
theorem le_five {m n : Nat} (h : m ≤ n) (h2 : n ≤ 1000000) : m ≤ 1099511627776 := by omega
theorem first_null_eq {l : List UInt8} (hk : (getN l).1 = 0) : firstV l = (⟨0, 0, ⟨#[]⟩⟩, (getN l).2) := by
  unfold firstV
  dsimp only
  rw [hk, if_neg (by decide), if_neg (by decide)]
  rfl
theorem kind_cases {k : Nat} (h : k ≤ 4) : k = 0 ∨ k = 1 ∨ k = 2 ∨ k = 3 ∨ k = 4 := by omega
theorem stop_P {x : VV} {r rest : List UInt8} (h : x.good = true) (hi : x.inI) (e : rest = x.bytes ++ r) (hP : (getN rest).2 = 0) : False := by
  subst e; exact (okR_of h hi r).1 hP
theorem stop_K {x : VV} {r rest : List UInt8} (h : x.good = true) (hi : x.inI) (e : rest = x.bytes ++ r) (hK : 4 < (getN rest).1) : False := by
  subst e; have := (okR_of h hi r).2.1; omega
theorem stop_M {x : VV} {r rest : List UInt8} (h : x.good = true) (hi : x.inI) (e : rest = x.bytes ++ r) (hK : (getN rest).1 ≠ 0) (hM : (getN (rest.drop (getN rest).2)).2 = 0) : False := by
  subst e; exact (okR_of h hi r).2.2.1 hK hM
theorem stop_U {x : VV} {r rest : List UInt8} (h : x.good = true) (hi : x.inI) (e : rest = x.bytes ++ r) (hK : (getN rest).1 = 3) (hU : rest.length - ((getN rest).2 + (getN (rest.drop (getN rest).2)).2) < (getN (rest.drop (getN rest).2)).1) : False := by
  subst e; have := (okR_of h hi r).2.2.2 hK; omega
theorem stop_G {x : VV} {r rest : List UInt8} (h : x.good = true) (hi : x.inI) (e : rest = x.bytes ++ r) (hb : (firstV rest).1.good = false) : False := by
  subst e; rw [first_good h hi r] at hb; simp only at hb; rw [h] at hb; cases hb
theorem head_stop {whole : List UInt8} (hb : whole.length < 18446744073709551616) (h : (getN whole).2 = 0 ∨ whole.length < (getN whole).1) : loadV whole = none :=
  (load_none hb).2 fun ws h1 h2 h3 => by
    obtain ⟨a, b, c⟩ := key_n h2 h3
    rcases h with h | h
    · exact b h
    · have hl : ∀ l : List VV, l.length ≤ (flatV l).length := fun l => by
        induction l with
        | nil => simp
        | cons x r ih =>
          have := bytes_pos x.norm
          rw [flatV_cons, List.length_append, List.length_cons]; omega
      have := hl ws
      have hd := congrArg List.length c
      rw [List.length_drop] at hd
      omega
end Go.Proofs.YtfmhdnefcapjgaaGreatDoor
/- The document's examples of values hold in any world whose search bound is some number; logic of three truths. Conditions: as stated. -/
set_option maxRecDepth 100000
namespace Go.Proofs.YtfmhdnefcapjgaaGreatDoor
open Go.RowKit Go.Lib

theorem own : ownKnob Tryz.prog.godebug = none := by kernel_rfl
theorem laidOut : laidOutB Tryz.prog = true := by kernel_rfl
theorem valueCells : Tryz.prog.cellsOf 25 = 3 := by kernel_rfl
theorem maxOk {w : World} (h : w.ShapedOpen Tryz.prog) : MaxOk w :=
  Go.Proofs.cell_of_shapedOpen_int (zero := #[.int .i64 0]) (t := 3) h (of_decide_eq_true (by kernel_rfl)) (by kernel_rfl) rfl (by kernel_rfl) (by kernel_rfl) Tryz.underlying3

theorem quote_its : quoteB ⟨#[105, 116, 39, 115]⟩ = ⟨#[39, 105, 116, 39, 39, 115, 39]⟩ := by kernel_rfl
set_option maxHeartbeats 1000000 in
theorem lives_any (w : World) (h : MaxOk w) : Calls Tryz.prog 4 #[] w fun e w' => e = .returned (.bool true) ∧ Below w.heap.size w w' := by
  have KT := text_str 0 ⟨#[105, 116, 39, 115]⟩ (by decide)
  rw [quote_its] at KT
  have KA : ∀ w, Calls Tryz.prog 11 #[.int .i64 (-1), .int .i64 0] w fun e w' => e = .returned (.int .i64 0) ∧ w' = w := and_any (-1) 0
  have KO : ∀ w, Calls Tryz.prog 12 #[.int .i64 (-1), .int .i64 0] w fun e w' => e = .returned (.int .i64 (-1)) ∧ w' = w := or_any (-1) 0
  have KC : ∀ w, Calls Tryz.prog 13 #[vv 0 0 ⟨#[]⟩, vv 1 0 ⟨#[]⟩] w fun e w' => e = .returned (.int .i64 (-1)) ∧ Below w.heap.size w w' := vcmp_any 0 0 ⟨#[]⟩ 1 0 ⟨#[]⟩ (by decide) (by decide) (by decide) (by decide)
  have KG : ∀ w, Calls Tryz.prog 5 #[vv 0 0 ⟨#[]⟩] w fun e w' => e = .returned (.bool true) ∧ Below w.heap.size w w' := fun w => by
    have := vgood_any 0 0 ⟨#[]⟩ (by decide) (by decide) w
    have e : goodV 0 0 ⟨#[]⟩ = true := by unfold goodV; simp [Lib.toList_data]
    rwa [e] at this
  go_enter Tryz.func4, Tryz.ntmps4
  go_wp2_with fail
  refine (KT _ h).mono ?_
  rintro e w2 ⟨rfl, hb0⟩
  clear h KT
  go_wp2_with fail
  refine (KA _).mono ?_
  rintro e w3 ⟨rfl, rfl⟩
  go_wp2_with fail
  refine (KO _).mono ?_
  rintro e w4 ⟨rfl, rfl⟩
  go_wp2_with fail
  refine (KC _).mono ?_
  rintro e w5 ⟨rfl, hb⟩
  replace hb0 := hb0.trans (hb.mono hb0.size)
  clear hb
  go_wp2_with fail
  refine (KG _).mono ?_
  rintro e w6 ⟨rfl, hb⟩
  replace hb0 := hb0.trans (hb.mono hb0.size)
  clear hb
  go_wp2_with fail
  go_ret
  exact ⟨rfl, hb0⟩
theorem three_state {w w' : World} {k n : Int} {s : ByteArray} {k' n' : Int} {s' : ByteArray} {q m : Int} {r : ByteArray}
    (hb : Below (w.heap.size + 3) (((w.alloc (.cells #[.int .i64 k, .int .i64 n, .string s] 25)).alloc (.cells #[.int .i64 k', .int .i64 n', .string s'] 25)).alloc (.cells #[.int .i64 q, .int .i64 m, .string r] 25)) w') :
    (w'.cell? ⟨w.heap.size, 0, none⟩ = some (.int .i64 k) ∧ w'.cell? ⟨w.heap.size, 1, none⟩ = some (.int .i64 n) ∧ w'.cell? ⟨w.heap.size, 2, none⟩ = some (.string s) ∧
      w'.cell? ⟨w.heap.size + 1, 0, none⟩ = some (.int .i64 k') ∧ w'.cell? ⟨w.heap.size + 1, 1, none⟩ = some (.int .i64 n') ∧ w'.cell? ⟨w.heap.size + 1, 2, none⟩ = some (.string s') ∧
      w'.cell? ⟨w.heap.size + 1 + 1, 0, none⟩ = some (.int .i64 q) ∧ w'.cell? ⟨w.heap.size + 1 + 1, 1, none⟩ = some (.int .i64 m) ∧ w'.cell? ⟨w.heap.size + 1 + 1, 2, none⟩ = some (.string r)) ∧ Below w.heap.size w w' := by
  have b1 := (Below.refl w.heap.size w).alloc (Nat.le_refl _) (.cells #[.int .i64 k, .int .i64 n, .string s] 25)
  have c1 := C3.new w (.int .i64 k) (.int .i64 n) (.string s) 25
  have z1 : (w.alloc (.cells #[.int .i64 k, .int .i64 n, .string s] 25)).heap.size = w.heap.size + 1 := by simp
  generalize (w.alloc (.cells #[.int .i64 k, .int .i64 n, .string s] 25)) = w1 at *
  have b2 := (Below.refl w1.heap.size w1).alloc (Nat.le_refl _) (.cells #[.int .i64 k', .int .i64 n', .string s'] 25)
  have c2 := C3.new w1 (.int .i64 k') (.int .i64 n') (.string s') 25
  have z2 : (w1.alloc (.cells #[.int .i64 k', .int .i64 n', .string s'] 25)).heap.size = w1.heap.size + 1 := by simp
  generalize (w1.alloc (.cells #[.int .i64 k', .int .i64 n', .string s'] 25)) = w2 at *
  have b3 := (Below.refl w2.heap.size w2).alloc (Nat.le_refl _) (.cells #[.int .i64 q, .int .i64 m, .string r] 25)
  have c3 := C3.new w2 (.int .i64 q) (.int .i64 m) (.string r) 25
  have z3 : (w2.alloc (.cells #[.int .i64 q, .int .i64 m, .string r] 25)).heap.size = w2.heap.size + 1 := by simp
  generalize (w2.alloc (.cells #[.int .i64 q, .int .i64 m, .string r] 25)) = w3 at *
  have d1 := ((c1.keep b2 (by omega)).keep b3 (by omega)).keep hb (by omega)
  have d2 := (c2.keep b3 (by omega)).keep hb (by omega)
  have d3 := c3.keep hb (by omega)
  rw [z1] at d2
  rw [z2, z1] at d3
  exact ⟨⟨d1.1, d1.2.1, d1.2.2, d2.1, d2.2.1, d2.2.2, d3.1, d3.2.1, d3.2.2⟩, ((b1.trans (b2.mono (by omega))).trans (b3.mono (by omega))).trans (hb.mono (by omega))⟩
theorem three_next {w w1 w2 : World} {o o1 o2 : Obj} (hb : Below (w.heap.size + 3) (((w.alloc o).alloc o1).alloc o2) w1) (hk : Below w1.heap.size w1 w2) : Below (w.heap.size + 3) (((w.alloc o).alloc o1).alloc o2) w2 := by
  have hz : (((w.alloc o).alloc o1).alloc o2).heap.size = w.heap.size + 3 := by simp
  have := hb.size
  exact hb.trans (hk.mono (by omega))
end Go.Proofs.YtfmhdnefcapjgaaGreatDoor
/- The walk of ValueBytes. Conditions: none. -/
set_option maxRecDepth 100000
namespace Go.Proofs.YtfmhdnefcapjgaaGreatDoor
open Go.RowKit Go.Maps Go.Sort Go.Lib Go.ChangeShapes Go.WideShapes Go.ChangeAt Go.Deep Go.Joins

/-- a slice of values that came in -/
theorem vals_of {H : Type} {enc : TypeId × Value → H} {w : World} {v : Value} {d : DataW H} {p : List MemPlace} {r : Reach} {b0 : Nat} (hv : Value.okWide Tryz.prog w r b0 22 v)
    (h : DataW.Trod enc Tryz.prog w 0 (fun _ => true) true 22 v d p) : ∃ a n c, v = .slice a n c ∧ ∃ vs : List VV, vs.length = n ∧ HoldsV w (.slice a n c) vs ∧ ∀ x ∈ vs, x.inI := by
  obtain ⟨a, n, c, rfl⟩ := okWide_slice Tryz.underlying22 hv
  obtain ⟨fuel, hf⟩ := h
  refine ⟨a, n, c, rfl, ?_⟩
  rcases open_structs (Tryz.underlying22) (Tryz.underlying25) (by kernel_rfl) (by kernel_rfl) hf with hcs | ⟨a', len, cap, hcs, hlc, _, hi⟩
  · simp [Value.cells] at hcs
    obtain ⟨rfl, rfl, rfl⟩ := hcs
    exact ⟨[], rfl, holdsV_nil w, fun x hx => absurd hx (by simp)⟩
  · simp [Value.cells] at hcs
    obtain ⟨rfl, rfl, rfl⟩ := hcs
    have key : ∀ i, ∃ x : VV, i < n → (w.cell? (a'.add (i * 3)) = some (.int .i64 x.k) ∧ w.cell? ⟨(a'.add (i * 3)).block, (a'.add (i * 3)).off + 1, none⟩ = some (.int .i64 x.n) ∧ w.cell? ⟨(a'.add (i * 3)).block, (a'.add (i * 3)).off + 2, none⟩ = some (.string x.s)) ∧ x.inI := fun i => by
      by_cases hil : i < n
      · obtain ⟨n', hf'⟩ := hi i hil
        obtain ⟨v0, y0, c0, t0⟩ := hf' 0 _ rfl
        obtain ⟨v1, y1, c1, t1⟩ := hf' 1 _ rfl
        obtain ⟨v2, y2, c2, t2⟩ := hf' 2 _ rfl
        obtain ⟨b0, e0, _, z0⟩ := DataW.trod_int Tryz.underlying3 t0
        obtain ⟨b1, e1, _, z1⟩ := DataW.trod_int Tryz.underlying3 t1
        obtain ⟨b2, e2, _, z2⟩ := DataW.trod_string Tryz.underlying9 t2
        simp only [List.cons.injEq, and_true] at e0 e1 e2
        subst e0 e1 e2
        have x1 := bounds_of_i64 z1
        refine ⟨⟨b0, b1, b2⟩, fun _ => ⟨⟨c0, ?_, ?_⟩, ⟨by show _ ≤ b1; omega, by show b1 < _; omega⟩⟩⟩
        · rw [← add_offn a' (i * 3) 1 (by decide)]; exact c1
        · rw [← add_offn a' (i * 3) 2 (by decide)]; exact c2
      · exact ⟨VV.none_, fun h => absurd h hil⟩
    obtain ⟨f, hf'⟩ := Classical.skolem.1 key
    refine ⟨(List.range n).map f, by simp, ⟨some a', c, by simp, by simpa using hlc, .inr ⟨a', rfl, fun i x hx => ?_⟩⟩, fun x hx => ?_⟩
    · rw [List.getElem?_map] at hx
      obtain ⟨j, hj, rfl⟩ := Option.map_eq_some_iff.1 hx
      obtain ⟨hlt, e⟩ := List.getElem?_eq_some_iff.1 hj
      simp at hlt e
      subst e
      exact (hf' i hlt).1
    · obtain ⟨i, hir, rfl⟩ := List.mem_map.1 hx
      exact (hf' i (List.mem_range.1 hir)).2
theorem neq_val (w : World) (k n : Int) (s : ByteArray) : (binOp .neq 25 (vv k n s) (vv k n s)).run Tryz.prog w = .ok (.bool false) w := by
  have h := eql_val w k n s k n s
  have e : sameV k n s k n s = true := by simp [sameV]
  rw [e, run_eql_struct] at h
  rw [run_neq_struct]
  generalize (Op.equalIn 10000 25 (vv k n s) (vv k n s)).run Tryz.prog w = r at *
  cases r with
  | ok b w' => simp [Result.andThen] at h ⊢; exact h
  | halt x w' => simp [Result.andThen] at h
set_option maxHeartbeats 1600000 in
theorem same_vals {w : World} {v1 v2 : Value} {l : List VV} (h : HoldsV w v1 l) (g : HoldsV w v2 l) (hl : l.length ≤ 1000000) : Calls Tryz.prog 10 #[v1, v2] w fun e w' => e = .returned (.bool true) ∧ Below w.heap.size w w' := by
  obtain ⟨a1, c1, rfl, hc1⟩ := h.form
  obtain ⟨a2, c2, rfl, hc2⟩ := g.form
  have KN := neq_val
  have KU := guard_val
  have H := Lib.hid h
  have G := Lib.hid g
  obtain ⟨n, hn⟩ : ∃ n, n = l.length := ⟨_, rfl⟩
  rw [← hn] at hc1 hc2 hl ⊢
  have HN := Lib.hid hn
  have HL := Lib.hid hl
  clear h g hn hl hc1 hc2
  go_enter Tryz.func10, Tryz.ntmps10
  go_wp2_with fail
  go_loopw [5, 13] (fun _ k wr => ∃ (m q : Nat), k = .int .i64 m ∧ m ≤ n ∧ wr = w.drewN q) (fun _ k _ => n - (RowKit.intOf k).toNat)
  case atStart => exact ⟨0, 0, rfl, Nat.zero_le _, (World.drewN_zero _).symm⟩
  case round =>
    obtain ⟨m, q, rfl, hm, rfl⟩ := hrel
    by_cases hlt : m < n
    · obtain ⟨x, hx⟩ : ∃ x, l[m]? = some x := ⟨l[m]'(HN.out ▸ hlt), List.getElem?_eq_getElem _⟩
      obtain ⟨ad1, rfl, d0, d1, d2⟩ := H.out.at_ hx
      obtain ⟨ad2, rfl, e0, e1, e2⟩ := G.out.at_ hx
      obtain ⟨xk, xn, xs⟩ := x
      simp only at d0 d1 d2 e0 e1 e2
      have hw64 := wi_next hlt (Nat.le_trans HL.out (by decide))
      have b0 : (0 : Int) ≤ (m : Int) := Int.natCast_nonneg m
      have b1 : (m : Int) < (n : Int) := Int.ofNat_lt.2 hlt
      clear hx
      go_wp2_with fail
      go_quiet (fail)
      go_wp2_with fail
      go_roundw
      case rel => exact ⟨m + 1, _, by go_num, hlt, rfl⟩
      case measure => simp [RowKit.intOf]; omega
    · go_wp2_with fail
      go_ret
      exact ⟨rfl, ⟨rfl, rfl, rfl, Nat.le_refl _, fun _ _ => rfl⟩⟩
theorem LoadP.both {w w1 w2 : World} {l : List UInt8} {e1 e2 : Ending} (h1 : LoadP w l e1 w1) (h2 : LoadP w1 l e2 w2) :
    ∃ (v1 v2 : Value) (z : Int) (vs : List VV), e1 = .returned (.tuple #[v1, .int .i64 z]) ∧ e2 = .returned (.tuple #[v2, .int .i64 z]) ∧ HoldsV w1 v1 vs ∧ HoldsV w2 v2 vs ∧ Below w.heap.size w w1 ∧ Below w1.heap.size w1 w2 ∧ (vs = [] ∨ loadV l = some vs) := by
  obtain ⟨⟨v1, h1⟩, b1⟩ := h1
  obtain ⟨⟨v2, h2⟩, b2⟩ := h2
  rcases h1 with ⟨vs, e, hv, rfl⟩ | ⟨e, rfl, rfl⟩
  · rcases h2 with ⟨vs', e', hv', rfl⟩ | ⟨e', _, _⟩
    · rw [e] at e'
      cases e'
      exact ⟨v1, v2, 0, vs, rfl, rfl, hv, hv', b1, b2, .inr e⟩
    · rw [e] at e'; cases e'
  · rcases h2 with ⟨vs', e', _, _⟩ | ⟨e', rfl, rfl⟩
    · rw [e] at e'; cases e'
    · exact ⟨_, _, 8, [], rfl, rfl, holdsV_nil _, holdsV_nil _, b1, b2, .inl rfl⟩
theorem loaded_len {l : List UInt8} {vs : List VV} (h : vs = [] ∨ loadV l = some vs) (hl : l.length ≤ 5000) : vs.length ≤ 1000000 := by
  rcases h with rfl | h
  · simp
  · unfold loadV at h
    split at h
    · simp at h
      have := readV_len l
      rw [h] at this; omega
    · cases h
end Go.Proofs.YtfmhdnefcapjgaaGreatDoor
/- Digits of base 16, plain: a word's sixteen, its last few, and their value. Conditions: none. -/
set_option maxRecDepth 100000
namespace Go.Proofs.YtfmhdnefcapjgaaGreatDoor

/-- a digit -/
def hexd (n : Nat) : UInt8 := if n < 10 then UInt8.ofNat (48 + n) else UInt8.ofNat (87 + n)
/-- the last k digits, highest first -/
def hexN : Nat → Nat → List UInt8
  | 0, _ => []
  | k + 1, u => hexd (u / 16 ^ k % 16) :: hexN k u
theorem hexN_len (k u : Nat) : (hexN k u).length = k := by
  induction k with
  | zero => rfl
  | succ k ih => simp [hexN, ih]
theorem hexN_zero (u : Nat) : hexN 0 u = [] := rfl
theorem hexN_succ (k u : Nat) : hexN (k + 1) u = hexd (u / 16 ^ k % 16) :: hexN k u := rfl
theorem hexN_at (k u j : Nat) (hj : j < k) : (hexN k u)[j]? = some (hexd (u / 16 ^ (k - 1 - j) % 16)) := by
  induction k generalizing j with
  | zero => omega
  | succ k ih =>
    rw [hexN_succ]
    cases j with
    | zero => rfl
    | succ j =>
      rw [List.getElem?_cons_succ, ih j (by omega), show k + 1 - 1 - (j + 1) = k - 1 - j by omega]
/-- digits ahead of a number that is small are 0 -/
theorem hexN_pad (u n : Nat) (d : Nat) (h : u < 16 ^ n) : hexN (n + d) u = List.replicate d 48 ++ hexN n u := by
  induction d with
  | zero => rfl
  | succ d ih =>
    have h2 : u / 16 ^ (n + d) = 0 := Nat.div_eq_of_lt (Nat.lt_of_lt_of_le h (Nat.pow_le_pow_right (by decide) (by omega)))
    rw [← Nat.add_assoc, hexN_succ, h2, ih]
    rfl
theorem hexd_inj : ∀ a < 16, ∀ b < 16, hexd a = hexd b → a = b := by decide
/-- the value of a digit, 99 of none -/
def hexV (c : UInt8) : Nat := if 48 ≤ c.toNat ∧ c.toNat ≤ 57 then c.toNat - 48 else if 97 ≤ c.toNat ∧ c.toNat ≤ 102 then c.toNat - 87 else 99
theorem hexV_d : ∀ a < 16, hexV (hexd a) = a := by decide
theorem hexd_V (c : UInt8) (h : hexV c ≠ 99) : hexV c < 16 ∧ hexd (hexV c) = c := by
  have hc : c.toNat < 256 := c.toNat_lt
  unfold hexV at h ⊢
  by_cases h1 : 48 ≤ c.toNat ∧ c.toNat ≤ 57
  · rw [if_pos h1] at h ⊢
    refine ⟨by omega, ?_⟩
    unfold hexd
    rw [if_pos (by omega), show 48 + (c.toNat - 48) = c.toNat by omega]
    exact UInt8.ofNat_toNat
  · rw [if_neg h1] at h ⊢
    by_cases h2 : 97 ≤ c.toNat ∧ c.toNat ≤ 102
    · rw [if_pos h2] at h ⊢
      refine ⟨by omega, ?_⟩
      unfold hexd
      rw [if_neg (by omega), show 87 + (c.toNat - 87) = c.toNat by omega]
      exact UInt8.ofNat_toNat
    · rw [if_neg h2] at h; exact absurd rfl h
/-- a word's text without the beginning tells the word -/
theorem hexN_inj (k : Nat) (u v : Nat) (hu : u < 16 ^ k) (hv : v < 16 ^ k) (h : hexN k u = hexN k v) : u = v := by
  induction k generalizing u v with
  | zero => rw [Nat.pow_zero] at hu hv; omega
  | succ k ih =>
    have hp := Nat.pow_pos (n := k) (show 0 < 16 by decide)
    rw [hexN_succ, hexN_succ] at h
    obtain ⟨h1, h2⟩ := List.cons.inj h
    rw [Nat.pow_succ] at hu hv
    have a1 : u / 16 ^ k < 16 := Nat.div_lt_of_lt_mul hu
    have a2 : v / 16 ^ k < 16 := Nat.div_lt_of_lt_mul hv
    rw [Nat.mod_eq_of_lt a1, Nat.mod_eq_of_lt a2] at h1
    have h3 := hexd_inj _ a1 _ a2 h1
    have mods : ∀ n x, hexN n x = hexN n (x % 16 ^ n) := by
      intro n
      have gen : ∀ m ≤ n, ∀ x, hexN m x = hexN m (x % 16 ^ n) := by
        intro m
        induction m with
        | zero => intro _ x; rfl
        | succ m ihm =>
          intro hm x
          rw [hexN_succ, hexN_succ, ihm (by omega) x]
          congr 2
          obtain ⟨e, rfl⟩ : ∃ e, n = m + 1 + e := ⟨n - (m + 1), by omega⟩
          rw [show 16 ^ (m + 1 + e) = 16 ^ m * (16 * 16 ^ e) by rw [Nat.pow_add, Nat.pow_succ, Nat.mul_assoc], Nat.mod_mul_right_div_self, Nat.mod_mul_right_mod]
      exact fun x => gen n (Nat.le_refl _) x
    rw [mods k u, mods k v] at h2
    have h4 := ih (u % 16 ^ k) (v % 16 ^ k) (Nat.mod_lt _ hp) (Nat.mod_lt _ hp) h2
    have e1 := Nat.div_add_mod u (16 ^ k)
    have e2 := Nat.div_add_mod v (16 ^ k)
    rw [← e1, ← e2, h3, h4]
end Go.Proofs.YtfmhdnefcapjgaaGreatDoor
/- The number of sixteen digits of base 16, byte by byte, plain. Conditions: none. -/
set_option maxRecDepth 100000
namespace Go.Proofs.YtfmhdnefcapjgaaGreatDoor

theorem hexd_val : ∀ v < 16, (48 ≤ (hexd v).toNat ∧ (hexd v).toNat ≤ 57 ∧ v = (hexd v).toNat - 48) ∨ (97 ≤ (hexd v).toNat ∧ (hexd v).toNat ≤ 102 ∧ v = (hexd v).toNat - 87 ∧ ((hexd v).toNat ||| 32) = (hexd v).toNat ∧ ¬ (hexd v).toNat ≤ 57) := by decide
/-- what is known of the number so far: if the bytes are a word's digits, it is their beginning's -/
def SoHex (bs : List UInt8) (k : Nat) (a : Nat) : Prop := ∀ c < 18446744073709551616, bs = hexN 16 c → k ≤ 16 ∧ a = c / 16 ^ (16 - k)
theorem soHex_start (bs : List UInt8) : SoHex bs 0 0 := fun c hc _ => ⟨by omega, by rw [Nat.div_eq_of_lt]; exact Nat.lt_of_lt_of_le hc (by decide)⟩
/-- what a word's digits say of the byte at k -/
theorem hex_byte {bs : List UInt8} {k a : Nat} (h : SoHex bs k a) (hk : k < bs.length) {c : Nat} (hc : c < 18446744073709551616) (e : bs = hexN 16 c) :
    k < 16 ∧ a < 1152921504606846976 ∧ ∃ v < 16, bs[k] = hexd v ∧ 16 * a + v = c / 16 ^ (16 - (k + 1)) := by
  obtain ⟨_, h2⟩ := h c hc e
  have hk2 : k < 16 := by rw [e, hexN_len] at hk; exact hk
  have hb : bs[k]? = some (hexd (c / 16 ^ (15 - k) % 16)) := by rw [e]; exact hexN_at 16 c k hk2
  rw [List.getElem?_eq_getElem hk] at hb
  have hs : 16 ^ (16 - k) = 16 ^ (15 - k) * 16 := by rw [← Nat.pow_succ]; congr 1; omega
  have ha : a = c / 16 ^ (15 - k) / 16 := by rw [h2, hs, Nat.div_div_eq_div_mul]
  refine ⟨hk2, ?_, _, Nat.mod_lt _ (by decide), Option.some.inj hb, ?_⟩
  · have := Nat.div_le_self c (16 ^ (15 - k)); omega
  · rw [show 16 - (k + 1) = 15 - k by omega]; omega
theorem soHex_next {bs : List UInt8} {k a d : Nat} (h : SoHex bs k a) (hk : k < bs.length) (hd : ∀ v < 16, bs[k] = hexd v → v = d) : SoHex bs (k + 1) (16 * a + d) := by
  intro c hc e
  obtain ⟨h1, _, v, hv, h3, h4⟩ := hex_byte h hk hc e
  exact ⟨by omega, by rw [← hd v hv h3]; exact h4⟩
theorem soHex_end {bs : List UInt8} {a : Nat} (h : SoHex bs bs.length a) {c : Nat} (hc : c < 18446744073709551616) (e : bs = hexN 16 c) : a = c := by
  obtain ⟨_, h2⟩ := h c hc e
  rw [e, hexN_len, Nat.sub_self, Nat.pow_zero, Nat.div_one] at h2
  exact h2
/-- bytes that are no word's digits -/
def NoHex (bs : List UInt8) : Prop := ∀ c < 18446744073709551616, bs ≠ hexN 16 c
theorem noHex_big {bs : List UInt8} {k a : Nat} (h : SoHex bs k a) (hk : k < bs.length) (ha : 1152921504606846976 ≤ a) : NoHex bs := fun c hc e => by
  have := (hex_byte h hk hc e).2.1; omega
theorem noHex_byte {bs : List UInt8} {k a : Nat} (h : SoHex bs k a) (hk : k < bs.length) (hb : ∀ v < 16, bs[k] ≠ hexd v) : NoHex bs := fun c hc e => by
  obtain ⟨_, _, v, hv, h3, _⟩ := hex_byte h hk hc e
  exact hb v hv h3
theorem soHex_wrap {bs : List UInt8} {k a d : Nat} (h : SoHex bs k a) (hk : k < bs.length) (hd : ∀ v < 16, bs[k] = hexd v → v = d) : SoHex bs (k + 1) (16 * a % 18446744073709551616 + d) := by
  intro c hc e
  obtain ⟨_, h2, _⟩ := hex_byte h hk hc e
  rw [Nat.mod_eq_of_lt (by omega)]
  exact soHex_next h hk hd c hc e
theorem or_low (x d : Nat) (hd : d < 16) : 16 * x ||| d = 16 * x + d := (Nat.two_pow_add_eq_or_of_lt (i := 4) hd x).symm
theorem hexV_le (c : UInt8) : hexV c < 16 ∨ hexV c = 99 := by
  by_cases h : hexV c = 99
  · exact .inr h
  · exact .inl (hexd_V c h).1
theorem hexd_eq (k : Nat) (hk : k < 16) (c : UInt8) : hexd k = c ↔ k = hexV c := by
  constructor
  · intro e; rw [← e, hexV_d k hk]
  · intro e
    rw [e]
    refine (hexd_V c ?_).2
    omega
end Go.Proofs.YtfmhdnefcapjgaaGreatDoor
