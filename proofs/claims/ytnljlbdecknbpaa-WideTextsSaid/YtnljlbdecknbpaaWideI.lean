/- Contracts of Cmp on both sides. Conditions: none. -/
import Derived.Test.YtnljlbdecknbpaaWideH
set_option maxRecDepth 100000
namespace Go.Proofs.Ytnljlbdecknbpaa
open Go.RowKit

def cmpW (A B : Int) : Int := if A < B then -1 else if B < A then 1 else 0
theorem box2 (w : World) (o o' : Obj) (n : Nat) : Below w.heap.size w (((w.alloc o).alloc o').drewN n) := by
  have h := two_new w o o'
  exact ⟨h.os, h.tape, h.output, h.size, h.block⟩
set_option maxHeartbeats 1600000 in
theorem refCmp_any (h l h' l' : Int) (w : World) (l0 : 0 ≤ l) (l1 : l < 18446744073709551616) (m0 : 0 ≤ l') (m1 : l' < 18446744073709551616) : Calls Try.prog 16 #[.agg #[.int .i64 h, .int .u64 l], .agg #[.int .i64 h', .int .u64 l']] w fun e w' => e = .returned (.int .i64 (cmpW (h * 18446744073709551616 + l) (h' * 18446744073709551616 + l'))) ∧ Below w.heap.size w w' := by
  obtain ⟨R, hR⟩ : ∃ R, R = cmpW (h * 18446744073709551616 + l) (h' * 18446744073709551616 + l') := ⟨_, rfl⟩
  rw [← hR]
  by_cases c1 : h < h'
  · have hr : R = -1 := by rw [hR]; unfold cmpW; rw [if_pos (by omega)]
    subst hr
    go_enter Try.func16, Try.ntmps16
    go_wp2_with fail
    go_ret
    exact ⟨rfl, two_new _ _ _⟩
  · by_cases c2 : h = h'
    · subst c2
      have t0 : (h == h) = true := by simp
      by_cases c3 : l < l'
      · have hr : R = -1 := by rw [hR]; unfold cmpW; rw [if_pos (by omega)]
        subst hr
        clear c1
        have c1 : decide (h < h) = false := decide_eq_false (by omega)
        go_enter Try.func16, Try.ntmps16
        go_wp2_with fail
        go_ret
        exact ⟨rfl, two_new _ _ _⟩
      · have c4 : decide (h < h) = false := decide_eq_false (by omega)
        by_cases c5 : l = l'
        · subst c5
          have hr : R = 0 := by rw [hR]; unfold cmpW; rw [if_neg (by omega), if_neg (by omega)]
          subst hr
          clear c1 c3
          have c3 : decide (l < l) = false := decide_eq_false (by omega)
          go_enter Try.func16, Try.ntmps16
          go_wp2_with fail
          go_ret
          exact ⟨rfl, two_new _ _ _⟩
        · have hr : R = 1 := by rw [hR]; unfold cmpW; rw [if_neg (by omega), if_pos (by omega)]
          subst hr
          clear c1
          have t1 : (l == l') = false := by simpa using c5
          go_enter Try.func16, Try.ntmps16
          go_wp2_with fail
          go_ret
          exact ⟨rfl, two_new _ _ _⟩
    · have t0 : (h == h') = false := by simpa using c2
      have hr : R = 1 := by rw [hR]; unfold cmpW; rw [if_neg (by omega), if_pos (by omega)]
      subst hr
      go_enter Try.func16, Try.ntmps16
      go_wp2_with fail
      go_ret
      exact ⟨rfl, two_new _ _ _⟩
theorem nan64_any (x : Int) (w : World) : Calls Try.prog 46 #[.int .u64 x] w fun e w' => e = .returned (.bool false) ∧ w = w' := by
  have t0 : (x != x) = false := by simp
  go_enter Try.func46, Try.ntmps46
  go_wp2_with fail
  go_ret
  exact ⟨rfl, rfl⟩
set_option maxHeartbeats 800000 in
theorem compare64_any (x y : Int) (w : World) : Calls Try.prog 35 #[.int .u64 x, .int .u64 y] w fun e w' => e = .returned (.int .i64 (cmpW x y)) ∧ w = w' := by
  obtain ⟨R, hR⟩ : ∃ R, R = cmpW x y := ⟨_, rfl⟩
  rw [← hR]
  have hr : (x < y ∧ R = -1) ∨ (¬ x < y ∧ y < x ∧ R = 1) ∨ (¬ x < y ∧ ¬ y < x ∧ R = 0) := by rw [hR]; unfold cmpW; split <;> simp_all; split <;> simp_all <;> omega
  rcases hr with ⟨h1, rfl⟩ | ⟨h1, h2, rfl⟩ | ⟨h1, h2, rfl⟩
  all_goals
    clear hR
    go_enter Try.func35, Try.ntmps35
    go_wp2_with fail
    refine (nan64_any _ _).mono ?_
    rintro e w' ⟨rfl, rfl⟩
    go_wp2_with fail
    refine (nan64_any _ _).mono ?_
    rintro e w' ⟨rfl, rfl⟩
    go_wp2_with fail
    go_ret
    exact ⟨rfl, rfl⟩
theorem or_pick (x y : Int) (w : World) (b : Nat) (hx : w.cell? ⟨b, 0, none⟩ = some (.int .i64 x)) (hy : w.cell? ⟨b, 1, none⟩ = some (.int .i64 y)) : Calls Try.prog 33 #[.slice (some ⟨b, 0, none⟩) 2 2] w fun e w' => e = .returned (.int .i64 (if x = 0 then y else x)) ∧ w = w' := by
  obtain ⟨R, hR⟩ : ∃ R, R = if x = 0 then y else x := ⟨_, rfl⟩
  rw [← hR]
  have HR := Lib.hid hR
  clear hR
  go_enter Try.func33, Try.ntmps33
  go_wp2_with fail
  go_loop [8] (fun i => ∃ k : Nat, i = .int .i64 (k : Int) ∧ (k = 0 ∨ (k = 1 ∧ x = 0) ∨ (k = 2 ∧ x = 0 ∧ y = 0))) (fun i => 2 - (intOf i).toNat)
  case atStart => exact ⟨0, rfl, .inl rfl⟩
  case round =>
    obtain ⟨k, rfl, hk⟩ := hrel
    rcases hk with rfl | ⟨rfl, h0⟩ | ⟨rfl, h0, h1⟩
    · by_cases h : x = 0
      · have t0 : (x != 0) = false := by simpa using h
        go_wp2_with fail
        go_round
        case rel => exact ⟨1, rfl, .inr (.inl ⟨rfl, h⟩)⟩
        case measure => first | (simp [intOf]; done) | (simp [intOf]; omega)
      · have t0 : (x != 0) = true := by simpa using h
        have hr := HR.out
        rw [if_neg h] at hr
        subst hr
        go_wp2_with fail
        go_ret
        exact ⟨rfl, rfl⟩
    · have hr := HR.out
      rw [if_pos h0] at hr
      subst hr
      by_cases h : R = 0
      · have t0 : (R != 0) = false := by simpa using h
        go_wp2_with fail
        go_round
        case rel => exact ⟨2, rfl, .inr (.inr ⟨rfl, h0, h⟩)⟩
        case measure => first | (simp [intOf]; done) | (simp [intOf]; omega)
      · have t0 : (R != 0) = true := by simpa using h
        go_wp2_with fail
        go_ret
        exact ⟨rfl, rfl⟩
    · have hr := HR.out
      rw [if_pos h0, h1] at hr
      subst hr
      go_wp2_with fail
      go_ret
      exact ⟨rfl, rfl⟩
/-- two new boxes -/
def c2 (w : World) (a0 a1 b0 b1 : Value) : World := (w.alloc (.cells #[a0, a1] 24)).alloc (.cells #[b0, b1] 24)
theorem c2_size (w : World) (a0 a1 b0 b1 : Value) : (c2 w a0 a1 b0 b1).heap.size = w.heap.size + 2 := by unfold c2; simp
theorem c2_all {w w' : World} {a0 a1 b0 b1 : Value} (hb : Below (w.heap.size + 2) (c2 w a0 a1 b0 b1) w') :
    w'.cell? ⟨w.heap.size, 0, none⟩ = some a0 ∧ w'.cell? ⟨w.heap.size, 1, none⟩ = some a1 ∧ w'.cell? ⟨w.heap.size + 1, 0, none⟩ = some b0 ∧ w'.cell? ⟨w.heap.size + 1, 1, none⟩ = some b1 ∧ Below (w.heap.size + 2) (c2 w a0 a1 b0 b1) w' := by
  refine ⟨?_, ?_, ?_, ?_, hb⟩
  · rw [hb.cell (p := ⟨w.heap.size, 0, none⟩) (by simp)]; unfold c2; go_simp
  · rw [hb.cell (p := ⟨w.heap.size, 1, none⟩) (by simp)]; unfold c2; go_simp
  · rw [hb.cell (p := ⟨w.heap.size + 1, 0, none⟩) (by simp)]; unfold c2; go_simp
  · rw [hb.cell (p := ⟨w.heap.size + 1, 1, none⟩) (by simp)]; unfold c2; go_simp
theorem c2_keep {w w' w1 : World} {a0 a1 b0 b1 : Value} (hk : Below w'.heap.size w' w1)
    (h : w'.cell? ⟨w.heap.size, 0, none⟩ = some a0 ∧ w'.cell? ⟨w.heap.size, 1, none⟩ = some a1 ∧ w'.cell? ⟨w.heap.size + 1, 0, none⟩ = some b0 ∧ w'.cell? ⟨w.heap.size + 1, 1, none⟩ = some b1 ∧ Below (w.heap.size + 2) (c2 w a0 a1 b0 b1) w') :
    w1.cell? ⟨w.heap.size, 0, none⟩ = some a0 ∧ w1.cell? ⟨w.heap.size, 1, none⟩ = some a1 ∧ w1.cell? ⟨w.heap.size + 1, 0, none⟩ = some b0 ∧ w1.cell? ⟨w.heap.size + 1, 1, none⟩ = some b1 ∧ Below (w.heap.size + 2) (c2 w a0 a1 b0 b1) w1 := by
  have hz := h.2.2.2.2.size
  rw [c2_size] at hz
  exact c2_all (h.2.2.2.2.trans (hk.mono hz))
theorem c2_done {w w' : World} {a0 a1 b0 b1 : Value} (hb : Below (w.heap.size + 2) (c2 w a0 a1 b0 b1) w') : Below w.heap.size w w' := (two_new w _ _).trans (hb.mono (by omega))
set_option maxHeartbeats 1600000 in
theorem cmp_any (h l h' l' : Int) (w : World) (l0 : 0 ≤ l) (l1 : l < 18446744073709551616) (m0 : 0 ≤ l') (m1 : l' < 18446744073709551616) : Calls Try.prog 15 #[.agg #[.int .i64 h, .int .u64 l], .agg #[.int .i64 h', .int .u64 l']] w fun e w' => e = .returned (.int .i64 (cmpW (h * 18446744073709551616 + l) (h' * 18446744073709551616 + l'))) ∧ Below w.heap.size w w' := by
  have K1 := fun w => Try.cmp_Compare_int h h' w
  have K2 := fun w => compare64_any l l' w
  have HR : (if Lib.compareInt h h' = 0 then cmpW l l' else Lib.compareInt h h') = cmpW (h * 18446744073709551616 + l) (h' * 18446744073709551616 + l') := by
    unfold Lib.compareInt cmpW
    split <;> split <;> (try split) <;> (try split) <;> (try split) <;> omega
  have K3 := fun b w => or_pick (Lib.compareInt h h') (cmpW l l') w b
  rw [HR] at K3
  generalize cmpW (h * 18446744073709551616 + l) (h' * 18446744073709551616 + l') = R at K3 ⊢
  clear HR
  generalize Lib.compareInt h h' = X at K1 K3
  generalize cmpW l l' = Y at K2 K3
  go_enter Try.func15, Try.ntmps15
  go_wp2_with fail
  have HS := c2_all (w := w) (a0 := .int .i64 h) (a1 := .int .u64 l) (b0 := .int .i64 h') (b1 := .int .u64 l') (Below.refl _ _).drew
  go_region_held3 (fun w' => w'.cell? ⟨w.heap.size, 0, none⟩ = some (.int .i64 h) ∧ w'.cell? ⟨w.heap.size, 1, none⟩ = some (.int .u64 l) ∧ w'.cell? ⟨w.heap.size + 1, 0, none⟩ = some (.int .i64 h') ∧ w'.cell? ⟨w.heap.size + 1, 1, none⟩ = some (.int .u64 l') ∧ Below (w.heap.size + 2) (c2 w (.int .i64 h) (.int .u64 l) (.int .i64 h') (.int .u64 l')) w')
    (first | exact HS | assumption | (refine c2_keep ((Below.refl _ _).alloc (Nat.le_refl _) _) (by first | assumption | exact HS)))
    (first | (go_at_call 34; refine (K1 _).mono ?_; rintro e w1 ⟨rfl, rfl⟩) | (go_at_call 35; refine (K2 _).mono ?_; rintro e w1 ⟨rfl, rfl⟩) | (go_at_call 33; refine (K3 _ _ (by go_simp) (by go_simp)).mono ?_; rintro e w1 ⟨rfl, rfl⟩))
  rename_i hHeld
  go_wp2_with fail
  go_ret
  exact ⟨rfl, c2_done hHeld.2.2.2.2⟩
end Go.Proofs.Ytnljlbdecknbpaa
