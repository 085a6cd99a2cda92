/- Numbers of 128 bits as two words; contracts of below, Of, least, turned, on both sides. Conditions: none. -/
import Derived.Test.YtnljlbdecknbpaaOrs
import Derived.Test.YtnljlbdecknbpaaShelf
import Derived.Outline
import Derived.Deep.RegionHeld3
import Derived.BigQuiet
set_option maxRecDepth 100000
namespace Go.Proofs.Ytnljlbdecknbpaa
open Go.RowKit

def hiW (N : Int) : Int := N / 18446744073709551616
def loW (N : Int) : Int := N % 18446744073709551616
theorem w_split (N : Int) : hiW N * 18446744073709551616 + loW N = N ∧ 0 ≤ loW N ∧ loW N < 18446744073709551616 := by
  unfold hiW loW; omega
theorem w_of {N h l : Int} (e : h * 18446744073709551616 + l = N) (h0 : 0 ≤ l) (h1 : l < 18446744073709551616) : hiW N = h ∧ loW N = l := by
  unfold hiW loW; omega
abbrev wv (N : Int) : Value := .agg #[.int .i64 (hiW N), .int .u64 (loW N)]
abbrev sv (N : Int) : Value := .agg #[.int .u64 (hiW N), .int .u64 (loW N)]
def fitW (N : Int) : Bool := decide (-170141183460469231731687303715884105728 ≤ N ∧ N < 170141183460469231731687303715884105728)
def ansW (N : Int) : Int := if fitW N then N else 0
theorem fit_iff {N : Int} : fitW N = true ↔ -170141183460469231731687303715884105728 ≤ N ∧ N < 170141183460469231731687303715884105728 := by unfold fitW; exact decide_eq_true_iff
theorem fit_not {N : Int} : fitW N = false ↔ N < -170141183460469231731687303715884105728 ∨ 170141183460469231731687303715884105728 ≤ N := by unfold fitW; rw [decide_eq_false_iff_not]; omega
theorem fit_hi {N : Int} (h : fitW N = true) : -9223372036854775808 ≤ hiW N ∧ hiW N < 9223372036854775808 := by
  have := fit_iff.1 h; unfold hiW; omega
theorem fit_of {h l N : Int} (e : h * 18446744073709551616 + l = N) (h0 : 0 ≤ l) (h1 : l < 18446744073709551616) (h2 : -9223372036854775808 ≤ h) (h3 : h < 9223372036854775808) : fitW N = true := fit_iff.2 (by omega)

theorem below_any (h l : Int) (w : World) : Calls Try.prog 29 #[.agg #[.int .i64 h, .int .u64 l]] w fun e w' => e = .returned (.bool (decide (h < 0))) ∧ Below w.heap.size w w' := by
  go_enter Try.func29, Try.ntmps29
  go_wp2_with fail
  go_ret
  exact ⟨rfl, (Below.refl _ _).alloc (Nat.le_refl _) _⟩
theorem of_any (n : Int) (w : World) (h0 : -9223372036854775808 ≤ n) (h1 : n < 9223372036854775808) : Calls Try.prog 20 #[.int .i64 n] w fun e w' => e = .returned (wv n) ∧ Below w.heap.size w w' := by
  go_enter Try.func20, Try.ntmps20
  go_wp2_with fail
  refine bodyPost_ret (v := wv n) ?_ rfl ⟨rfl, (Below.refl _ _).alloc (Nat.le_refl _) _⟩
  simp [results, Try.results20, go_sem, hiW, loW, IntKind.wrap_u64]
  omega
theorem refOf_any (n : Int) (w : World) (h0 : -9223372036854775808 ≤ n) (h1 : n < 9223372036854775808) : Calls Try.prog 21 #[.int .i64 n] w fun e w' => e = .returned (wv n) ∧ Below w.heap.size w w' := by
  by_cases h : n < 0
  · have HR : hiW n = -1 ∧ loW n = IntKind.u64.wrap n := by rw [IntKind.wrap_u64]; unfold hiW loW; omega
    go_enter Try.func21, Try.ntmps21
    go_wp2_with fail
    refine bodyPost_ret (v := wv n) ?_ rfl ⟨rfl, (Below.refl _ _).alloc (Nat.le_refl _) _⟩
    simp [results, Try.results21, go_sem, HR]
  · have HR : hiW n = 0 ∧ loW n = n := by unfold hiW loW; omega
    go_enter Try.func21, Try.ntmps21
    go_wp2_with fail
    refine bodyPost_ret (v := wv n) ?_ rfl ⟨rfl, (Below.refl _ _).alloc (Nat.le_refl _) _⟩
    simp [results, Try.results21, go_sem, HR]
theorem least_any (h l : Int) (w : World) (h0 : -9223372036854775808 ≤ h) (h1 : h < 9223372036854775808) : Calls Try.prog 31 #[.agg #[.int .i64 h, .int .u64 l]] w fun e w' => e = .returned (.bool (decide (h * 18446744073709551616 + l = -170141183460469231731687303715884105728) && decide (l = 0))) ∧ Below w.heap.size w w' := by
  obtain ⟨b, hb⟩ : ∃ b, b = (decide (h * 18446744073709551616 + l = -170141183460469231731687303715884105728) && decide (l = 0)) := ⟨_, rfl⟩
  rw [← hb]
  by_cases hl : l = 0
  · subst hl
    have HR : (IntKind.u64.wrap h == 9223372036854775808) = b := by
      rw [hb, decide_eq_true (rfl : (0 : Int) = 0), Bool.and_true, IntKind.wrap_u64, Bool.eq_iff_iff, beq_iff_eq, decide_eq_true_iff]; omega
    clear hb
    go_enter Try.func31, Try.ntmps31
    go_wp2_with fail
    go_ret
    exact ⟨rfl, (Below.refl _ _).alloc (Nat.le_refl _) _⟩
  · have t0 : (l == 0) = false := by simpa using hl
    rw [decide_eq_false hl, Bool.and_false] at hb
    subst hb
    go_enter Try.func31, Try.ntmps31
    go_wp2_with fail
    go_ret
    exact ⟨rfl, (Below.refl _ _).alloc (Nat.le_refl _) _⟩
theorem not_int (x : Int) (h0 : 0 ≤ x) (h1 : x < 18446744073709551616) : bits .xor .u64 IntKind.u64.max x = 18446744073709551615 - x := by
  obtain ⟨n, rfl⟩ := Int.eq_ofNat_of_zero_le h0
  exact not_u64 n (by omega)
theorem two_new (w : World) (o o' : Obj) : Below w.heap.size w ((w.alloc o).alloc o') := ((Below.refl _ _).alloc (Nat.le_refl _) _).alloc (by simp) _
theorem turned_wrap (h l : Int) (w : World) (l0 : 0 ≤ l) (l1 : l < 18446744073709551616) : Calls Try.prog 32 #[.agg #[.int .i64 h, .int .u64 l]] w fun e w' => e = .returned (.agg #[.int .i64 (IntKind.i64.wrap (hiW (-(h * 18446744073709551616 + l)))), .int .u64 (loW (-(h * 18446744073709551616 + l)))]) ∧ Below w.heap.size w w' := by
  have hs : IntKind.u64.signed = false := rfl
  obtain ⟨u, hu⟩ : ∃ u, IntKind.u64.wrap h = u := ⟨_, rfl⟩
  have hu' := hu
  rw [IntKind.wrap_u64] at hu'
  have e1 := not_int l l0 l1
  have e3 := not_int u (by omega) (by omega)
  by_cases hl : l = 0
  · subst hl
    obtain ⟨R, hR⟩ : ∃ R, IntKind.i64.wrap (IntKind.u64.wrap (18446744073709551615 - u + 1)) = R := ⟨_, rfl⟩
    have HR : R = IntKind.i64.wrap (hiW (-(h * 18446744073709551616 + 0))) ∧ 0 = loW (-(h * 18446744073709551616 + 0)) := by
      rw [← hR, IntKind.wrap_i64, IntKind.wrap_i64, IntKind.wrap_u64]; unfold hiW loW; omega
    have e2 : IntKind.u64.wrap 18446744073709551616 = 0 := rfl
    rw [← HR.1, ← HR.2]
    clear HR hu'
    go_enter Try.func32, Try.ntmps32
    go_wp2_with fail
    refine bodyPost_ret (v := .agg #[.int .i64 R, .int .u64 0]) ?_ rfl ⟨rfl, two_new _ _ _⟩
    simp [results, Try.results32, go_sem]
  · obtain ⟨L, hL⟩ : ∃ L, L = 18446744073709551616 - l := ⟨_, rfl⟩
    have t0 : (L == 0) = false := by rw [beq_eq_false_iff_ne]; omega
    obtain ⟨R, hR⟩ : ∃ R, IntKind.i64.wrap (18446744073709551615 - u) = R := ⟨_, rfl⟩
    have e2 : IntKind.u64.wrap (18446744073709551615 - l + 1) = L := by rw [IntKind.wrap_u64]; omega
    have HR : R = IntKind.i64.wrap (hiW (-(h * 18446744073709551616 + l))) ∧ L = loW (-(h * 18446744073709551616 + l)) := by
      rw [← hR, IntKind.wrap_i64, IntKind.wrap_i64]; unfold hiW loW; omega
    rw [← HR.1, ← HR.2]
    clear HR hu' hL
    go_enter Try.func32, Try.ntmps32
    go_wp2_with fail
    refine bodyPost_ret (v := .agg #[.int .i64 R, .int .u64 L]) ?_ rfl ⟨rfl, two_new _ _ _⟩
    simp [results, Try.results32, go_sem]
end Go.Proofs.Ytnljlbdecknbpaa
