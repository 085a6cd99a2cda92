/- Contracts of Neg on both sides. Conditions: none. -/
import Derived.Test.YtnljlbdecknbpaaWideD
import Derived.Test.YtnljlbdecknbpaaWideH
set_option maxRecDepth 100000
namespace Go.Proofs.Ytnljlbdecknbpaa
open Go.RowKit

theorem r2_res {w w' : World} {a0 a1 c0 c1 : Value} {t : TypeId} (hb : Below (w.heap.size + 2) ((w.alloc (.cells #[a0, a1] 24)).alloc (.cells #[c0, c1] t)) w') :
    w'.cell? ⟨w.heap.size, 0, none⟩ = some a0 ∧ w'.cell? ⟨w.heap.size, 1, none⟩ = some a1 ∧ w'.cell? ⟨w.heap.size + 1, 0, none⟩ = some c0 ∧ w'.cell? ⟨w.heap.size + 1, 1, none⟩ = some c1 ∧ w'.frozen? ⟨w.heap.size + 1, 0, none⟩ = false ∧ w'.frozen? ⟨w.heap.size + 1, 1, none⟩ = false := by
  refine ⟨?_, ?_, ?_, ?_, ?_, ?_⟩
  · rw [hb.cell (p := ⟨w.heap.size, 0, none⟩) (by simp)]; go_simp
  · rw [hb.cell (p := ⟨w.heap.size, 1, none⟩) (by simp)]; go_simp
  · rw [hb.cell (p := ⟨w.heap.size + 1, 0, none⟩) (by simp)]; go_simp
  · rw [hb.cell (p := ⟨w.heap.size + 1, 1, none⟩) (by simp)]; go_simp
  · rw [hb.frozen (p := ⟨w.heap.size + 1, 0, none⟩) (by simp)]; go_simp
  · rw [hb.frozen (p := ⟨w.heap.size + 1, 1, none⟩) (by simp)]; go_simp
theorem r2_next {w w' w1 : World} {a0 a1 c0 c1 : Value} {t : TypeId} (hb : Below (w.heap.size + 2) ((w.alloc (.cells #[a0, a1] 24)).alloc (.cells #[c0, c1] t)) w') (hk : Below w'.heap.size w' w1) : Below (w.heap.size + 2) ((w.alloc (.cells #[a0, a1] 24)).alloc (.cells #[c0, c1] t)) w1 := by
  have hz := hb.size
  simp only [World.size_alloc] at hz
  exact hb.trans (hk.mono hz)
theorem r2_done {w w' : World} {a0 a1 c0 c1 : Value} {t : TypeId} (hb : Below (w.heap.size + 2) ((w.alloc (.cells #[a0, a1] 24)).alloc (.cells #[c0, c1] t)) w') (u v : Value) : Below w.heap.size w ((w'.setCell ⟨w.heap.size + 1, 0, none⟩ u).setCell ⟨w.heap.size + 1, 1, none⟩ v) :=
  (((two_new w _ _).trans (hb.mono (by omega))).setCell (by simp) _).setCell (by simp) _
set_option maxHeartbeats 800000 in
theorem neg_any (h l : Int) (w : World) (h0 : -9223372036854775808 ≤ h) (h1 : h < 9223372036854775808) (l0 : 0 ≤ l) (l1 : l < 18446744073709551616) : Calls Try.prog 13 #[.agg #[.int .i64 h, .int .u64 l]] w fun e w' => e = .returned (.tuple #[wv (ansW (-(h * 18446744073709551616 + l))), .bool (fitW (-(h * 18446744073709551616 + l)))]) ∧ Below w.heap.size w w' := by
  have K := fun w => sub_any 0 0 h l w (by decide) (by decide) (by decide) (by decide) h0 h1 l0 l1
  rw [show (0 : Int) * 18446744073709551616 + 0 - (h * 18446744073709551616 + l) = -(h * 18446744073709551616 + l) by omega] at K
  unfold wv at K ⊢
  generalize hiW (ansW (-(h * 18446744073709551616 + l))) = P at K ⊢
  generalize loW (ansW (-(h * 18446744073709551616 + l))) = Q at K ⊢
  generalize fitW (-(h * 18446744073709551616 + l)) = R at K ⊢
  go_enter Try.func13, Try.ntmps13
  go_wp2_with fail
  refine (K _).mono ?_
  rintro e w1 ⟨rfl, b1⟩
  have hA := r2_next (w := w) (a0 := .int .i64 h) (a1 := .int .u64 l) (c0 := .int .i64 0) (c1 := .int .u64 0) (t := 24) (Below.refl _ _) b1
  have hR := r2_res hA
  have hr1 := fun u => (set_two hR.2.2.1 hR.2.2.2.1 u u).1
  have hr2 := fun u v => (set_two hR.2.2.1 hR.2.2.2.1 u v).2
  have HB := Lib.hid (r2_done hA)
  clear b1 K
  go_wp2_with fail
  refine bodyPost_ret (v := .tuple #[.agg #[.int .i64 P, .int .u64 Q], .bool R]) (by simp [results, Try.results13, go_sem, hr1, hr2]) rfl ⟨rfl, HB.out _ _⟩
set_option maxHeartbeats 800000 in
theorem refNeg_any (h l : Int) (w : World) (h0 : -9223372036854775808 ≤ h) (h1 : h < 9223372036854775808) (l0 : 0 ≤ l) (l1 : l < 18446744073709551616) : Calls Try.prog 14 #[.agg #[.int .i64 h, .int .u64 l]] w fun e w' => e = .returned (.tuple #[wv (ansW (-(h * 18446744073709551616 + l))), .bool (fitW (-(h * 18446744073709551616 + l)))]) ∧ Below w.heap.size w w' := by
  obtain ⟨B, hB⟩ : ∃ B, B = h * 18446744073709551616 + l := ⟨_, rfl⟩
  have L := fun w => least_any h l w h0 h1
  have T := fun w => turned_wrap h l w l0 l1
  rw [← hB] at L T ⊢
  by_cases hl : B = -170141183460469231731687303715884105728
  · have hl0 : l = 0 := by omega
    rw [decide_eq_true hl, decide_eq_true hl0, Bool.and_true] at L
    have hf : fitW (-B) = false := by rw [fit_not]; omega
    rw [← tuple_no hf]
    clear hl hl0 hf hB T
    go_enter Try.func14, Try.ntmps14
    go_wp2_with fail
    refine (L _).mono ?_
    rintro e w1 ⟨rfl, b1⟩
    have hA := r2_next (w := w) (a0 := .int .i64 h) (a1 := .int .u64 l) (c0 := .int .i64 0) (c1 := .int .u64 0) (t := 24) (Below.refl _ _) b1
    have hR := r2_res hA
    have hr1 := fun u => (set_two hR.2.2.1 hR.2.2.2.1 u u).1
    have hr2 := fun u v => (set_two hR.2.2.1 hR.2.2.2.1 u v).2
    have HB := Lib.hid (r2_done hA)
    clear b1 L
    go_wp2_with fail
    refine bodyPost_ret (v := .tuple #[.agg #[.int .i64 0, .int .u64 0], .bool false]) (by simp [results, Try.results14, go_sem, hr1, hr2]) rfl ⟨rfl, HB.out _ _⟩
  · have hf : fitW (-B) = true := fit_iff.2 (by omega)
    have hh := fit_hi hf
    have hw : IntKind.i64.wrap (hiW (-B)) = hiW (-B) := by rw [IntKind.wrap_i64]; omega
    rw [hw] at T
    rw [decide_eq_false hl, Bool.false_and] at L
    rw [← tuple_yes ⟨hf, rfl, rfl⟩]
    generalize hiW (-B) = P at T ⊢
    generalize loW (-B) = Q at T ⊢
    clear hl hf hB hh hw
    go_enter Try.func14, Try.ntmps14
    go_wp2_with fail
    refine (L _).mono ?_
    rintro e w1 ⟨rfl, b1⟩
    have hA := r2_next (w := w) (a0 := .int .i64 h) (a1 := .int .u64 l) (c0 := .int .i64 0) (c1 := .int .u64 0) (t := 24) (Below.refl _ _) b1
    have hR := r2_res hA
    clear b1 L
    go_wp2_with fail
    refine (T _).mono ?_
    rintro e w2 ⟨rfl, b2⟩
    replace hA := r2_next hA b2
    clear hR
    have hR := r2_res hA
    have hr1 := fun u => (set_two hR.2.2.1 hR.2.2.2.1 u u).1
    have hr2 := fun u v => (set_two hR.2.2.1 hR.2.2.2.1 u v).2
    have HB := Lib.hid (r2_done hA)
    clear b2 T
    go_wp2_with fail
    refine bodyPost_ret (v := .tuple #[.agg #[.int .i64 P, .int .u64 Q], .bool true]) (by simp [results, Try.results14, go_sem, hr1, hr2]) rfl ⟨rfl, HB.out _ _⟩
end Go.Proofs.Ytnljlbdecknbpaa
