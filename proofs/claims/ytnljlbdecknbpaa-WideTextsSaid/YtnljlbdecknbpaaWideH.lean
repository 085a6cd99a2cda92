/- Contract of the reference's Sub. Conditions: none. -/
import Derived.Test.YtnljlbdecknbpaaWideC
import Derived.Test.YtnljlbdecknbpaaWideB
set_option maxRecDepth 100000
namespace Go.Proofs.Ytnljlbdecknbpaa
open Go.RowKit

/-- three new boxes -/
def w3 (w : World) (a0 a1 b0 b1 c0 c1 : Value) : World := ((w.alloc (.cells #[a0, a1] 24)).alloc (.cells #[b0, b1] 24)).alloc (.cells #[c0, c1] 24)
theorem w3_size (w : World) (a0 a1 b0 b1 c0 c1 : Value) : (w3 w a0 a1 b0 b1 c0 c1).heap.size = w.heap.size + 3 := by unfold w3; simp
theorem w3_below (w : World) (a0 a1 b0 b1 c0 c1 : Value) : Below w.heap.size w (w3 w a0 a1 b0 b1 c0 c1) := three_new _ _ _ _
theorem w3_all {w w' : World} {a0 a1 b0 b1 c0 c1 : Value} (hb : Below (w.heap.size + 3) (w3 w a0 a1 b0 b1 c0 c1) w') :
    w'.cell? ⟨w.heap.size, 0, none⟩ = some a0 ∧ w'.cell? ⟨w.heap.size, 1, none⟩ = some a1 ∧ w'.cell? ⟨w.heap.size + 1, 0, none⟩ = some b0 ∧ w'.cell? ⟨w.heap.size + 1, 1, none⟩ = some b1 ∧ Below (w.heap.size + 3) (w3 w a0 a1 b0 b1 c0 c1) w' := by
  refine ⟨?_, ?_, ?_, ?_, hb⟩
  · rw [hb.cell (p := ⟨w.heap.size, 0, none⟩) (by simp)]; unfold w3; go_simp
  · rw [hb.cell (p := ⟨w.heap.size, 1, none⟩) (by simp)]; unfold w3; go_simp
  · rw [hb.cell (p := ⟨w.heap.size + 1, 0, none⟩) (by simp)]; unfold w3; go_simp
  · rw [hb.cell (p := ⟨w.heap.size + 1, 1, none⟩) (by simp)]; unfold w3; go_simp
theorem w3_res {w w' : World} {a0 a1 b0 b1 c0 c1 : Value} (hb : Below (w.heap.size + 3) (w3 w a0 a1 b0 b1 c0 c1) w') :
    w'.cell? ⟨w.heap.size + 1 + 1, 0, none⟩ = some c0 ∧ w'.cell? ⟨w.heap.size + 1 + 1, 1, none⟩ = some c1 ∧ w'.frozen? ⟨w.heap.size + 1 + 1, 0, none⟩ = false ∧ w'.frozen? ⟨w.heap.size + 1 + 1, 1, none⟩ = false := by
  refine ⟨?_, ?_, ?_, ?_⟩
  · rw [hb.cell (p := ⟨w.heap.size + 1 + 1, 0, none⟩) (by simp)]; unfold w3; go_simp
  · rw [hb.cell (p := ⟨w.heap.size + 1 + 1, 1, none⟩) (by simp)]; unfold w3; go_simp
  · rw [hb.frozen (p := ⟨w.heap.size + 1 + 1, 0, none⟩) (by simp)]; unfold w3; go_simp
  · rw [hb.frozen (p := ⟨w.heap.size + 1 + 1, 1, none⟩) (by simp)]; unfold w3; go_simp
theorem w3_next {w w' w1 : World} {a0 a1 b0 b1 c0 c1 : Value} (hk : Below w'.heap.size w' w1) (h : Below (w.heap.size + 3) (w3 w a0 a1 b0 b1 c0 c1) w') : Below (w.heap.size + 3) (w3 w a0 a1 b0 b1 c0 c1) w1 := by
  have hz := h.size
  rw [w3_size] at hz
  exact h.trans (hk.mono hz)
theorem w3_keep {w w' w1 : World} {a0 a1 b0 b1 c0 c1 : Value} (hk : Below w'.heap.size w' w1)
    (h : w'.cell? ⟨w.heap.size, 0, none⟩ = some a0 ∧ w'.cell? ⟨w.heap.size, 1, none⟩ = some a1 ∧ w'.cell? ⟨w.heap.size + 1, 0, none⟩ = some b0 ∧ w'.cell? ⟨w.heap.size + 1, 1, none⟩ = some b1 ∧ Below (w.heap.size + 3) (w3 w a0 a1 b0 b1 c0 c1) w') :
    w1.cell? ⟨w.heap.size, 0, none⟩ = some a0 ∧ w1.cell? ⟨w.heap.size, 1, none⟩ = some a1 ∧ w1.cell? ⟨w.heap.size + 1, 0, none⟩ = some b0 ∧ w1.cell? ⟨w.heap.size + 1, 1, none⟩ = some b1 ∧ Below (w.heap.size + 3) (w3 w a0 a1 b0 b1 c0 c1) w1 := w3_all (w3_next hk h.2.2.2.2)
theorem w3_done {w w' : World} {a0 a1 b0 b1 c0 c1 : Value} (hb : Below (w.heap.size + 3) (w3 w a0 a1 b0 b1 c0 c1) w') (u v : Value) : Below w.heap.size w ((w'.setCell ⟨w.heap.size + 1 + 1, 0, none⟩ u).setCell ⟨w.heap.size + 1 + 1, 1, none⟩ v) :=
  (((w3_below w a0 a1 b0 b1 c0 c1).trans (hb.mono (by omega))).setCell (by simp; omega) _).setCell (by simp; omega) _

set_option maxHeartbeats 1600000 in
theorem refSub_any (h l h' l' : Int) (w : World) (h0 : -9223372036854775808 ≤ h) (h1 : h < 9223372036854775808) (l0 : 0 ≤ l) (l1 : l < 18446744073709551616) (k0 : -9223372036854775808 ≤ h') (k1 : h' < 9223372036854775808) (m0 : 0 ≤ l') (m1 : l' < 18446744073709551616) : Calls Try.prog 12 #[.agg #[.int .i64 h, .int .u64 l], .agg #[.int .i64 h', .int .u64 l']] w fun e w' => e = .returned (.tuple #[wv (ansW (h * 18446744073709551616 + l - (h' * 18446744073709551616 + l'))), .bool (fitW (h * 18446744073709551616 + l - (h' * 18446744073709551616 + l')))]) ∧ Below w.heap.size w w' := by
  obtain ⟨N, hN⟩ : ∃ N, N = h * 18446744073709551616 + l - (h' * 18446744073709551616 + l') := ⟨_, rfl⟩
  rw [← hN]
  have L := fun w => least_any h' l' w k0 k1
  by_cases hl : h' * 18446744073709551616 + l' = -170141183460469231731687303715884105728 ∧ l' = 0
  · rw [decide_eq_true hl.1, decide_eq_true hl.2, Bool.and_true] at L
    by_cases hp : h < 0
    · obtain ⟨u, hu⟩ : ∃ u, IntKind.u64.wrap h = u := ⟨_, rfl⟩
      obtain ⟨v, hv⟩ : ∃ v, IntKind.u64.wrap (u + 9223372036854775808) = v := ⟨_, rfl⟩
      obtain ⟨G, hG⟩ : ∃ S, IntKind.i64.wrap v = S := ⟨_, rfl⟩
      have hu' := hu
      have hv' := hv
      have hG' := hG
      rw [IntKind.wrap_u64] at hu' hv'
      rw [IntKind.wrap_i64] at hG'
      have e : G * 18446744073709551616 + l = N := by omega
      rw [← tuple_yes ⟨fit_of e l0 l1 (by omega) (by omega), w_of e l0 l1⟩]
      have t0 : decide (0 ≤ h) = false := decide_eq_false (by omega)
      clear hu' hv' hG' e hl hN
      go_enter Try.func12, Try.ntmps12
      go_wp2_with fail
      refine (L _).mono ?_
      rintro e w1 ⟨rfl, b1⟩
      have hA := w3_all (w := w) (a0 := .int .i64 h) (a1 := .int .u64 l) (b0 := .int .i64 h') (b1 := .int .u64 l') (c0 := .int .i64 0) (c1 := .int .u64 0) (w3_next b1 (Below.refl _ _))
      have hR := w3_res hA.2.2.2.2
      have hr1 := fun u => (set_two hR.1 hR.2.1 u u).1
      have hr2 := fun u v => (set_two hR.1 hR.2.1 u v).2
      have HB := Lib.hid (w3_done hA.2.2.2.2)
      clear b1
      go_wp2_with fail
      refine bodyPost_ret (v := .tuple #[.agg #[.int .i64 G, .int .u64 l], .bool true]) (by simp [results, Try.results12, go_sem, hr1, hr2]) rfl ⟨rfl, HB.out _ _⟩
    · have hf : fitW N = false := by rw [fit_not]; omega
      rw [← tuple_no hf]
      have t0 : decide (0 ≤ h) = true := decide_eq_true (by omega)
      clear hl hN hf
      go_enter Try.func12, Try.ntmps12
      go_wp2_with fail
      refine (L _).mono ?_
      rintro e w1 ⟨rfl, b1⟩
      have hA := w3_all (w := w) (a0 := .int .i64 h) (a1 := .int .u64 l) (b0 := .int .i64 h') (b1 := .int .u64 l') (c0 := .int .i64 0) (c1 := .int .u64 0) (w3_next b1 (Below.refl _ _))
      have hR := w3_res hA.2.2.2.2
      have hr1 := fun u => (set_two hR.1 hR.2.1 u u).1
      have hr2 := fun u v => (set_two hR.1 hR.2.1 u v).2
      have HB := Lib.hid (w3_done hA.2.2.2.2)
      clear b1
      go_wp2_with fail
      refine bodyPost_ret (v := .tuple #[.agg #[.int .i64 0, .int .u64 0], .bool false]) (by simp [results, Try.results12, go_sem, hr1, hr2]) rfl ⟨rfl, HB.out _ _⟩
  · have hb : (decide (h' * 18446744073709551616 + l' = -170141183460469231731687303715884105728) && decide (l' = 0)) = false := by
      rw [Bool.eq_false_iff]; intro hx; rw [Bool.and_eq_true, decide_eq_true_iff, decide_eq_true_iff] at hx; exact hl hx
    rw [hb] at L
    obtain ⟨B, hB⟩ : ∃ B, B = h' * 18446744073709551616 + l' := ⟨_, rfl⟩
    have hfb : fitW (-B) = true := fit_iff.2 (by omega)
    have hs := w_split (-B)
    have hh := fit_hi hfb
    have hw : IntKind.i64.wrap (hiW (-B)) = hiW (-B) := by rw [IntKind.wrap_i64]; omega
    have T := fun w => turned_wrap h' l' w m0 m1
    rw [← hB] at T hN
    rw [hw] at T
    have A := fun w => refAdd_any h l (hiW (-B)) (loW (-B)) w h0 h1 l0 l1 hh.1 hh.2 hs.2.1 hs.2.2
    rw [show h * 18446744073709551616 + l + (hiW (-B) * 18446744073709551616 + loW (-B)) = N by omega] at A
    generalize hiW (-B) = X at T A
    generalize loW (-B) = Y at T A
    clear hw hs hh hfb hB hN hb hl
    unfold wv at A ⊢
    generalize hiW (ansW N) = P at A ⊢
    generalize loW (ansW N) = Q at A ⊢
    generalize fitW N = R at A ⊢
    go_enter Try.func12, Try.ntmps12
    go_wp2_with fail
    refine (L _).mono ?_
    rintro e w1 ⟨rfl, b1⟩
    have HS := w3_all (w := w) (a0 := .int .i64 h) (a1 := .int .u64 l) (b0 := .int .i64 h') (b1 := .int .u64 l') (c0 := .int .i64 0) (c1 := .int .u64 0) (w3_next b1 (Below.refl _ _))
    clear b1
    go_wp2_with fail
    have HD := w3_all HS.2.2.2.2.drew
    go_region_with (first | (go_at_call 32; refine (T _).mono ?_; rintro e w2 ⟨rfl, hb1⟩; have hHeld := w3_keep hb1 HD; clear hb1) | (go_at_call 10; refine (A _).mono ?_; rintro e w3 ⟨rfl, hb2⟩; have hHeld2 := w3_keep hb2 hHeld; have hR := w3_res hHeld2.2.2.2.2; clear hb2))
    all_goals
      clear HS HD
      have hr1 := fun u => (set_two hR.1 hR.2.1 u u).1
      have hr2 := fun u v => (set_two hR.1 hR.2.1 u v).2
      have HB := Lib.hid (w3_done hHeld2.2.2.2.2)
      go_wp2_with fail
      refine bodyPost_ret (v := .tuple #[.agg #[.int .i64 P, .int .u64 Q], .bool R]) (by simp [results, Try.results12, go_sem, hr1, hr2]) rfl ⟨rfl, HB.out _ _⟩
end Go.Proofs.Ytnljlbdecknbpaa
