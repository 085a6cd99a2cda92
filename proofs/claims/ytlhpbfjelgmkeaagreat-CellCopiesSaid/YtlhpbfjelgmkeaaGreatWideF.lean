/- Contracts of Add and Sub where the signs need no second look. Conditions: none. -/
import Derived.Test.YtlhpbfjelgmkeaaGreatWideB
set_option maxRecDepth 100000
namespace Go.Proofs.YtlhpbfjelgmkeaaGreat.Wide
open Go.RowKit
set_option maxHeartbeats 1600000 in
theorem add_ok2 {h l h' l' u u' S C T D G : Int} (w : World) (b b' : Bool) (t0 : (b == b') = false)
    (hu : IntKind.u64.wrap h = u) (hu' : IntKind.u64.wrap h' = u') (hG : IntKind.i64.wrap T = G)
    (c1 : ∀ w, (callFunc 199 #[.int .u64 l, .int .u64 l', .int .u64 0]).run Tryz.prog w = .ok (.value (.tuple #[.int .u64 S, .int .u64 C])) w)
    (c2 : ∀ w, (callFunc 199 #[.int .u64 u, .int .u64 u', .int .u64 C]).run Tryz.prog w = .ok (.value (.tuple #[.int .u64 T, .int .u64 D])) w)
    (KB : ∀ (x y : Int) (v : Bool), (x = h ∧ y = l ∧ v = b) ∨ (x = h' ∧ y = l' ∧ v = b') → ∀ w, Calls Tryz.prog 200 #[.agg #[.int .i64 x, .int .u64 y]] w fun e w' => e = .returned (.bool v) ∧ Below w.heap.size w w') :
    Calls Tryz.prog 198 #[.agg #[.int .i64 h, .int .u64 l], .agg #[.int .i64 h', .int .u64 l']] w fun e w' => e = .returned (.tuple #[.agg #[.int .i64 G, .int .u64 S], .bool true]) ∧ Below w.heap.size w w' := by
  all_goals
    go_enter Tryz.func198, Tryz.ntmps198
    go_wp2_with fail
    have HS := w4_all (w4_start w (.int .i64 h) (.int .u64 l) (.int .i64 h') (.int .u64 l') (.int .i64 0) (.int .u64 0) (.int .i64 G) (.int .u64 S))
    go_region_with (first | (go_at_call 200; refine (KB _ _ _ (by first | exact .inl ⟨rfl, rfl, rfl⟩ | exact .inr ⟨rfl, rfl, rfl⟩) _).mono ?_; rintro e w1 ⟨rfl, hb1⟩; first | (have hHeld' := w4_keep hb1 hHeld) | (have hHeld := w4_keep hb1 HS)))
    all_goals
      clear HS KB c1 c2
      have hR := w4_res hHeld'.2.2.2.2.2.2
      have hr1 := fun u => (set_two hR.1 hR.2.1 u u).1
      have hr2 := fun u v => (set_two hR.1 hR.2.1 u v).2
      have HB := Lib.hid (w4_done hHeld'.2.2.2.2.2.2)
      go_wp2_with fail
      refine bodyPost_ret (v := .tuple #[.agg #[.int .i64 G, .int .u64 S], .bool true]) (by simp [results, Tryz.results198, go_sem, hr1, hr2]) rfl ⟨rfl, HB.out _ _⟩
end Go.Proofs.YtlhpbfjelgmkeaaGreat.Wide
