/- Contracts of the methods of digest's place and Node. Conditions: none. -/
import Derived.Test.YtahaoodklfmddaaDigFew
import Derived.Test.YtahaoodklfmddaaDigCmp
import Derived.Laws.Rows
set_option maxRecDepth 100000
namespace Go.Proofs.Ytahaoodklfmddaa
open Go.RowKit Go.Maps Go.Sort

theorem grow_two (w : World) (x y : Obj) : ∃ os', (w.alloc x).alloc y = grow w os' := ⟨_, by rw [alloc_eq_grow, alloc_eq_grow, grow_grow]⟩
theorem place_any (a u c : Int) (w : World) : Calls Try.prog 28 #[.agg #[.int .i64 a, .int .u64 u, .int .i64 c]] w fun e w' => e = .returned (.agg #[.int .i64 a, .int .u64 u]) ∧ ∃ os', w' = grow w os' := by
  go_enter Try.func28, Try.ntmps28
  go_wp2_with fail
  refine bodyPost_ret (results_cell_row rfl _ _ (w.heap.size + 1) 67 _ (0, 0) _ rfl (heap_alloc2_new w _ _) Try.underlying67 rfl (by kernel_rfl)) rfl ?_
  exact ⟨rfl, grow_two w _ _⟩
theorem parent_any {a u : Int} (ha : 0 ≤ a ∧ a ≤ 64) (hu : 0 ≤ u ∧ u < 18446744073709551616) (w : World) : Calls Try.prog 73 #[.agg #[.int .i64 a, .int .u64 u]] w fun e w' => e = .returned (.agg #[.int .i64 (a + 1), .int .u64 (u / 2)]) ∧ ∃ os', w' = grow w os' := by
  have w1 : IntKind.i64.wrap (a + 1) = a + 1 := by rw [IntKind.wrap_i64]; omega
  have w2 : IntKind.u64.wrap (u / 2) = u / 2 := by rw [IntKind.wrap_u64]; omega
  have td : u.tdiv 2 = u / 2 := Int.tdiv_eq_ediv_of_nonneg hu.1
  clear ha hu
  go_enter Try.func73, Try.ntmps73
  go_wp2_with fail
  refine bodyPost_ret (results_cell_row rfl _ _ (w.heap.size + 1) 67 _ (0, 0) _ rfl (heap_alloc2_new w _ _) Try.underlying67 rfl (by kernel_rfl)) rfl ?_
  exact ⟨rfl, grow_two w _ _⟩
end Go.Proofs.Ytahaoodklfmddaa
