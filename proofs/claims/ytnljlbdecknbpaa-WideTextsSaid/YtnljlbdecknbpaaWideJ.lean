/- Contracts of Fits on both sides. Conditions: none. -/
import Derived.Test.YtnljlbdecknbpaaWideA
set_option maxRecDepth 100000
namespace Go.Proofs.Ytnljlbdecknbpaa
open Go.RowKit

def fit64 (N : Int) : Bool := decide (-9223372036854775808 ≤ N ∧ N < 9223372036854775808)
def int64 (N : Int) : Int := if fit64 N then N else 0
theorem fit64_iff {N : Int} : fit64 N = true ↔ -9223372036854775808 ≤ N ∧ N < 9223372036854775808 := by unfold fit64; exact decide_eq_true_iff
theorem fit64_not {N : Int} : fit64 N = false ↔ N < -9223372036854775808 ∨ 9223372036854775808 ≤ N := by unfold fit64; rw [decide_eq_false_iff_not]; omega
theorem c1_all {w w' : World} {a0 a1 : Value} (hb : Below (w.heap.size + 1) (w.alloc (.cells #[a0, a1] 24)) w') :
    w'.cell? ⟨w.heap.size, 0, none⟩ = some a0 ∧ w'.cell? ⟨w.heap.size, 1, none⟩ = some a1 ∧ Below (w.heap.size + 1) (w.alloc (.cells #[a0, a1] 24)) w' := by
  refine ⟨?_, ?_, hb⟩
  · rw [hb.cell (p := ⟨w.heap.size, 0, none⟩) (by simp)]; go_simp
  · rw [hb.cell (p := ⟨w.heap.size, 1, none⟩) (by simp)]; go_simp
theorem c1_keep {w w' w1 : World} {a0 a1 : Value} (hk : Below w'.heap.size w' w1) (h : w'.cell? ⟨w.heap.size, 0, none⟩ = some a0 ∧ w'.cell? ⟨w.heap.size, 1, none⟩ = some a1 ∧ Below (w.heap.size + 1) (w.alloc (.cells #[a0, a1] 24)) w') :
    w1.cell? ⟨w.heap.size, 0, none⟩ = some a0 ∧ w1.cell? ⟨w.heap.size, 1, none⟩ = some a1 ∧ Below (w.heap.size + 1) (w.alloc (.cells #[a0, a1] 24)) w1 := by
  have hz := h.2.2.size
  rw [World.size_alloc] at hz
  exact c1_all (h.2.2.trans (hk.mono hz))
theorem c1_done {w w' : World} {a0 a1 : Value} (hb : Below (w.heap.size + 1) (w.alloc (.cells #[a0, a1] 24)) w') : Below w.heap.size w w' := ((Below.refl _ _).alloc (Nat.le_refl _) _).trans (hb.mono (by omega))
set_option maxHeartbeats 1600000 in
theorem fits_any (h l : Int) (w : World) (l0 : 0 ≤ l) (l1 : l < 18446744073709551616) : Calls Try.prog 18 #[.agg #[.int .i64 h, .int .u64 l]] w fun e w' => e = .returned (.tuple #[.int .i64 (int64 (h * 18446744073709551616 + l)), .bool (fit64 (h * 18446744073709551616 + l))]) ∧ Below w.heap.size w w' := by
  obtain ⟨N, hN⟩ : ∃ N, N = h * 18446744073709551616 + l := ⟨_, rfl⟩
  rw [← hN]
  obtain ⟨n, hn⟩ : ∃ n, IntKind.i64.wrap l = n := ⟨_, rfl⟩
  have hn' := hn
  rw [IntKind.wrap_i64] at hn'
  have K := fun w => of_any n w (by omega) (by omega)
  have hs := w_split n
  have hlo : loW n = l := by omega
  unfold wv at K
  rw [hlo] at K
  by_cases hf : fit64 N = true
  · have hb := fit64_iff.1 hf
    have hnN : n = N := by omega
    have hh : hiW n = h := by omega
    unfold int64
    rw [hf, if_pos rfl, ← hnN]
    rw [hh] at K
    have t0 : (h == h) = true := by simp
    have t1 : (l == l) = true := by simp
    clear hn' hs hlo hf hb hh hN hnN
    go_enter Try.func18, Try.ntmps18
    go_wp2_with fail
    have HS := c1_all (w := w) (a0 := .int .i64 h) (a1 := .int .u64 l) (Below.refl _ _).drew
    go_region_held3 (fun w' => w'.cell? ⟨w.heap.size, 0, none⟩ = some (.int .i64 h) ∧ w'.cell? ⟨w.heap.size, 1, none⟩ = some (.int .u64 l) ∧ Below (w.heap.size + 1) (w.alloc (.cells #[.int .i64 h, .int .u64 l] 24)) w')
      (first | exact HS | (refine c1_keep (by assumption) (by first | assumption | exact HS)))
      (first | (go_at_call 20; refine (K _).mono ?_; rintro e w1 ⟨rfl, hb1⟩))
    rename_i hHeld
    go_wp2_with fail
    go_ret2
    exact ⟨rfl, c1_done hHeld.2.2⟩
  · have hf := Bool.eq_false_iff.2 hf
    have hb := fit64_not.1 hf
    have hh : hiW n ≠ h := by omega
    unfold int64
    rw [hf, if_neg (by decide)]
    generalize hiW n = X at K hh
    have t0 : (X == h) = false := by simpa using hh
    clear hn' hs hlo hf hb hh hN
    go_enter Try.func18, Try.ntmps18
    go_wp2_with fail
    have HS := c1_all (w := w) (a0 := .int .i64 h) (a1 := .int .u64 l) (Below.refl _ _).drew
    go_region_held3 (fun w' => w'.cell? ⟨w.heap.size, 0, none⟩ = some (.int .i64 h) ∧ w'.cell? ⟨w.heap.size, 1, none⟩ = some (.int .u64 l) ∧ Below (w.heap.size + 1) (w.alloc (.cells #[.int .i64 h, .int .u64 l] 24)) w')
      (first | exact HS | (refine c1_keep (by assumption) (by first | assumption | exact HS)))
      (first | (go_at_call 20; refine (K _).mono ?_; rintro e w1 ⟨rfl, hb1⟩))
    rename_i hHeld
    go_wp2_with fail
    go_ret2
    exact ⟨rfl, c1_done hHeld.2.2⟩
set_option maxHeartbeats 1600000 in
theorem refFits_any (h l : Int) (w : World) (l0 : 0 ≤ l) (l1 : l < 18446744073709551616) : Calls Try.prog 19 #[.agg #[.int .i64 h, .int .u64 l]] w fun e w' => e = .returned (.tuple #[.int .i64 (int64 (h * 18446744073709551616 + l)), .bool (fit64 (h * 18446744073709551616 + l))]) ∧ Below w.heap.size w w' := by
  obtain ⟨N, hN⟩ : ∃ N, N = h * 18446744073709551616 + l := ⟨_, rfl⟩
  rw [← hN]
  obtain ⟨n, hn⟩ : ∃ n, IntKind.i64.wrap l = n := ⟨_, rfl⟩
  have hn' := hn
  rw [IntKind.wrap_i64] at hn'
  have K := fun w => refOf_any n w (by omega) (by omega)
  have hs := w_split n
  have hlo : loW n = l := by omega
  unfold wv at K
  rw [hlo] at K
  by_cases hf : fit64 N = true
  · have hb := fit64_iff.1 hf
    have hnN : n = N := by omega
    have hh : hiW n = h := by omega
    unfold int64
    rw [hf, if_pos rfl, ← hnN]
    rw [hh] at K
    have t0 : (h == h) = true := by simp
    have t1 : (l == l) = true := by simp
    clear hn' hs hlo hf hb hh hN hnN
    go_enter Try.func19, Try.ntmps19
    go_wp2_with fail
    have HS := c1_all (w := w) (a0 := .int .i64 h) (a1 := .int .u64 l) (Below.refl _ _).drew
    go_region_held3 (fun w' => w'.cell? ⟨w.heap.size, 0, none⟩ = some (.int .i64 h) ∧ w'.cell? ⟨w.heap.size, 1, none⟩ = some (.int .u64 l) ∧ Below (w.heap.size + 1) (w.alloc (.cells #[.int .i64 h, .int .u64 l] 24)) w')
      (first | exact HS | (refine c1_keep (by assumption) (by first | assumption | exact HS)))
      (first | (go_at_call 21; refine (K _).mono ?_; rintro e w1 ⟨rfl, hb1⟩))
    rename_i hHeld
    go_wp2_with fail
    go_ret2
    exact ⟨rfl, c1_done hHeld.2.2⟩
  · have hf := Bool.eq_false_iff.2 hf
    have hb := fit64_not.1 hf
    have hh : hiW n ≠ h := by omega
    unfold int64
    rw [hf, if_neg (by decide)]
    generalize hiW n = X at K hh
    have t0 : (X == h) = false := by simpa using hh
    clear hn' hs hlo hf hb hh hN
    go_enter Try.func19, Try.ntmps19
    go_wp2_with fail
    have HS := c1_all (w := w) (a0 := .int .i64 h) (a1 := .int .u64 l) (Below.refl _ _).drew
    go_region_held3 (fun w' => w'.cell? ⟨w.heap.size, 0, none⟩ = some (.int .i64 h) ∧ w'.cell? ⟨w.heap.size, 1, none⟩ = some (.int .u64 l) ∧ Below (w.heap.size + 1) (w.alloc (.cells #[.int .i64 h, .int .u64 l] 24)) w')
      (first | exact HS | (refine c1_keep (by assumption) (by first | assumption | exact HS)))
      (first | (go_at_call 21; refine (K _).mono ?_; rintro e w1 ⟨rfl, hb1⟩))
    rename_i hHeld
    go_wp2_with fail
    go_ret2
    exact ⟨rfl, c1_done hHeld.2.2⟩
end Go.Proofs.Ytnljlbdecknbpaa
