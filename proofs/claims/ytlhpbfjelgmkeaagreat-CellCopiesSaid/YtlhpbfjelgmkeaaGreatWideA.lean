/- Numbers of 128 bits as two words; contracts of below, Of, least, turned, on both sides. Conditions: none. -/
import Derived.Test.YtlhpbfjelgmkeaaGreatOrs
import Derived.Test.YtlhpbfjelgmkeaaGreatShelf
import Derived.Outline
import Derived.Deep.RegionHeld3
import Derived.BigQuiet
set_option maxRecDepth 100000
namespace Go.Proofs.YtlhpbfjelgmkeaaGreat.Wide
open Go.RowKit

def hiW (N : Int) : Int := N / 18446744073709551616
def loW (N : Int) : Int := N % 18446744073709551616
theorem w_split (N : Int) : hiW N * 18446744073709551616 + loW N = N ∧ 0 ≤ loW N ∧ loW N < 18446744073709551616 := by
  unfold hiW loW; omega
theorem w_of {N h l : Int} (e : h * 18446744073709551616 + l = N) (h0 : 0 ≤ l) (h1 : l < 18446744073709551616) : hiW N = h ∧ loW N = l := by
  unfold hiW loW; omega
abbrev wv (N : Int) : Value := .agg #[.int .i64 (hiW N), .int .u64 (loW N)]
abbrev sv (N : Int) : Value := .agg #[.int .u64 (hiW N), .int .u64 (loW N)]
def fitW (N : Int) : Bool := decide (-170141183460469231731687303715884105728 ≤ N ∧ N < 170141183460469231731687303715884105728)
def ansW (N : Int) : Int := if fitW N then N else 0
theorem fit_iff {N : Int} : fitW N = true ↔ -170141183460469231731687303715884105728 ≤ N ∧ N < 170141183460469231731687303715884105728 := by unfold fitW; exact decide_eq_true_iff
theorem fit_not {N : Int} : fitW N = false ↔ N < -170141183460469231731687303715884105728 ∨ 170141183460469231731687303715884105728 ≤ N := by unfold fitW; rw [decide_eq_false_iff_not]; omega
theorem fit_hi {N : Int} (h : fitW N = true) : -9223372036854775808 ≤ hiW N ∧ hiW N < 9223372036854775808 := by
  have := fit_iff.1 h; unfold hiW; omega
theorem fit_of {h l N : Int} (e : h * 18446744073709551616 + l = N) (h0 : 0 ≤ l) (h1 : l < 18446744073709551616) (h2 : -9223372036854775808 ≤ h) (h3 : h < 9223372036854775808) : fitW N = true := fit_iff.2 (by omega)

theorem below_any (h l : Int) (w : World) : Calls Tryz.prog 200 #[.agg #[.int .i64 h, .int .u64 l]] w fun e w' => e = .returned (.bool (decide (h < 0))) ∧ Below w.heap.size w w' := by
  go_enter Tryz.func200, Tryz.ntmps200
  go_wp2_with fail
  go_ret
  exact ⟨rfl, (Below.refl _ _).alloc (Nat.le_refl _) _⟩
theorem of_any (n : Int) (w : World) (h0 : -9223372036854775808 ≤ n) (h1 : n < 9223372036854775808) : Calls Tryz.prog 35 #[.int .i64 n] w fun e w' => e = .returned (wv n) ∧ Below w.heap.size w w' := by
  go_enter Tryz.func35, Tryz.ntmps35
  go_wp2_with fail
  refine bodyPost_ret (v := wv n) ?_ rfl ⟨rfl, (Below.refl _ _).alloc (Nat.le_refl _) _⟩
  simp [results, Tryz.results35, go_sem, hiW, loW, IntKind.wrap_u64]
  omega
theorem not_int (x : Int) (h0 : 0 ≤ x) (h1 : x < 18446744073709551616) : bits .xor .u64 IntKind.u64.max x = 18446744073709551615 - x := by
  obtain ⟨n, rfl⟩ := Int.eq_ofNat_of_zero_le h0
  exact not_u64 n (by omega)
theorem two_new (w : World) (o o' : Obj) : Below w.heap.size w ((w.alloc o).alloc o') := ((Below.refl _ _).alloc (Nat.le_refl _) _).alloc (by simp) _
end Go.Proofs.YtlhpbfjelgmkeaaGreat.Wide
