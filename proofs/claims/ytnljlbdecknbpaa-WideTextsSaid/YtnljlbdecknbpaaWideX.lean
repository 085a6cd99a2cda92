/- The walk of WideSums. Conditions: none. -/
import Derived.Test.YtnljlbdecknbpaaWideKeep
import Derived.Test.YtnljlbdecknbpaaWideI
set_option maxRecDepth 100000
namespace Go.Proofs.Ytnljlbdecknbpaa
open Go.RowKit

theorem c2_next {w w' w1 : World} {a0 a1 b0 b1 : Value} (h : Below (w.heap.size + 2) (c2 w a0 a1 b0 b1) w') (hk : Below w'.heap.size w' w1) : Below (w.heap.size + 2) (c2 w a0 a1 b0 b1) w1 := by
  have hz := h.size
  rw [c2_size] at hz
  exact h.trans (hk.mono hz)
theorem c2_alloc {w w' : World} {a0 a1 b0 b1 : Value} (h : Below (w.heap.size + 2) (c2 w a0 a1 b0 b1) w') (o : Obj) : Below (w.heap.size + 2) (c2 w a0 a1 b0 b1) (w'.alloc o) := by
  have hz := h.size
  rw [c2_size] at hz
  exact h.alloc hz o
theorem keep_two {W w' : World} {g : Nat} {x y : Value} (hb : Below W.heap.size W w') (h : W.cell? ⟨g, 0, none⟩ = some x ∧ W.cell? ⟨g, 1, none⟩ = some y) : w'.cell? ⟨g, 0, none⟩ = some x ∧ w'.cell? ⟨g, 1, none⟩ = some y := ⟨keep_cell hb h.1, keep_cell hb h.2⟩
theorem keep_alloc {W : World} {g : Nat} {x y : Value} (h : W.cell? ⟨g, 0, none⟩ = some x ∧ W.cell? ⟨g, 1, none⟩ = some y) (o : Obj) : (W.alloc o).cell? ⟨g, 0, none⟩ = some x ∧ (W.alloc o).cell? ⟨g, 1, none⟩ = some y := keep_two ((Below.refl _ _).alloc (Nat.le_refl _) o) h
theorem new_two (w : World) (x y : Value) (t : TypeId) : (w.alloc (.cells #[x, y] t)).cell? ⟨w.heap.size, 0, none⟩ = some x ∧ (w.alloc (.cells #[x, y] t)).cell? ⟨w.heap.size, 1, none⟩ = some y := by
  constructor <;> go_simp
set_option maxHeartbeats 3200000 in
theorem sums_walk (h l h' l' : Int) (h0 : -9223372036854775808 ≤ h) (h1 : h < 9223372036854775808) (l0 : 0 ≤ l) (l1 : l < 18446744073709551616) (k0 : -9223372036854775808 ≤ h') (k1 : h' < 9223372036854775808) (m0 : 0 ≤ l') (m1 : l' < 18446744073709551616) (w : World) : Calls Try.prog 3 #[.agg #[.int .i64 h, .int .u64 l], .agg #[.int .i64 h', .int .u64 l']] w fun e w' => e = .returned (.bool true) ∧ Below w.heap.size w w' := by
  have K1 := fun w => add_any h l h' l' w h0 h1 l0 l1 k0 k1 m0 m1
  have K2 := fun w => refAdd_any h l h' l' w h0 h1 l0 l1 k0 k1 m0 m1
  have K3 := fun w => sub_any h l h' l' w h0 h1 l0 l1 k0 k1 m0 m1
  have K4 := fun w => refSub_any h l h' l' w h0 h1 l0 l1 k0 k1 m0 m1
  have K5 := fun w => neg_any h l w h0 h1 l0 l1
  have K6 := fun w => refNeg_any h l w h0 h1 l0 l1
  have K7 := fun w => cmp_any h l h' l' w l0 l1 m0 m1
  have K8 := fun w => refCmp_any h l h' l' w l0 l1 m0 m1
  unfold wv at K1 K2 K3 K4 K5 K6
  generalize hiW (ansW (h * 18446744073709551616 + l + (h' * 18446744073709551616 + l'))) = P at K1 K2
  generalize loW (ansW (h * 18446744073709551616 + l + (h' * 18446744073709551616 + l'))) = Q at K1 K2
  generalize fitW (h * 18446744073709551616 + l + (h' * 18446744073709551616 + l')) = o1 at K1 K2
  generalize hiW (ansW (h * 18446744073709551616 + l - (h' * 18446744073709551616 + l'))) = R at K3 K4
  generalize loW (ansW (h * 18446744073709551616 + l - (h' * 18446744073709551616 + l'))) = S at K3 K4
  generalize fitW (h * 18446744073709551616 + l - (h' * 18446744073709551616 + l')) = o2 at K3 K4
  generalize hiW (ansW (-(h * 18446744073709551616 + l))) = U at K5 K6
  generalize loW (ansW (-(h * 18446744073709551616 + l))) = V at K5 K6
  generalize fitW (-(h * 18446744073709551616 + l)) = o3 at K5 K6
  generalize cmpW (h * 18446744073709551616 + l) (h' * 18446744073709551616 + l') = z at K7 K8
  clear h0 h1 l0 l1 k0 k1 m0 m1
  go_enter Try.func3, Try.ntmps3
  go_wp2_with fail
  refine (K1 _).mono ?_
  rintro e w1 ⟨rfl, b1⟩
  have d1 := c2_all (w := w) (a0 := .int .i64 h) (a1 := .int .u64 l) (b0 := .int .i64 h') (b1 := .int .u64 l') (c2_next (Below.refl _ _) b1)
  have e1 := c2_alloc d1.2.2.2.2 (.cells #[.int .i64 P, .int .u64 Q] 24)
  have d1' := c2_all e1
  have f1 := new_two w1 (.int .i64 P) (.int .u64 Q) 24
  clear b1 K1
  go_wp2_with fail
  refine (K2 _).mono ?_
  rintro e w2 ⟨rfl, b2⟩
  have d2 := c2_all (c2_next e1 b2)
  replace f1 := keep_two b2 f1
  have e2 := c2_alloc d2.2.2.2.2 (.cells #[.int .i64 P, .int .u64 Q] 24)
  have d2' := c2_all e2
  replace f1 := keep_alloc f1 (.cells #[.int .i64 P, .int .u64 Q] 24)
  have f2 := new_two w2 (.int .i64 P) (.int .u64 Q) 24
  clear b2 K2 d1 d1' e1
  go_wp2_with fail
  refine (K3 _).mono ?_
  rintro e w3 ⟨rfl, b3⟩
  have d3 := c2_all (c2_next e2 b3)
  replace f1 := keep_two b3 f1
  replace f2 := keep_two b3 f2
  have e3 := c2_alloc d3.2.2.2.2 (.cells #[.int .i64 R, .int .u64 S] 24)
  have d3' := c2_all e3
  replace f1 := keep_alloc f1 (.cells #[.int .i64 R, .int .u64 S] 24)
  replace f2 := keep_alloc f2 (.cells #[.int .i64 R, .int .u64 S] 24)
  have f3 := new_two w3 (.int .i64 R) (.int .u64 S) 24
  clear b3 K3 d2 d2' e2
  go_wp2_with fail
  refine (K4 _).mono ?_
  rintro e w4 ⟨rfl, b4⟩
  have d4 := c2_all (c2_next e3 b4)
  replace f1 := keep_two b4 f1
  replace f2 := keep_two b4 f2
  replace f3 := keep_two b4 f3
  have e4 := c2_alloc d4.2.2.2.2 (.cells #[.int .i64 R, .int .u64 S] 24)
  have d4' := c2_all e4
  replace f1 := keep_alloc f1 (.cells #[.int .i64 R, .int .u64 S] 24)
  replace f2 := keep_alloc f2 (.cells #[.int .i64 R, .int .u64 S] 24)
  replace f3 := keep_alloc f3 (.cells #[.int .i64 R, .int .u64 S] 24)
  have f4 := new_two w4 (.int .i64 R) (.int .u64 S) 24
  clear b4 K4 d3 d3' e3
  go_wp2_with fail
  refine (K5 _).mono ?_
  rintro e w5 ⟨rfl, b5⟩
  have d5 := c2_all (c2_next e4 b5)
  replace f1 := keep_two b5 f1
  replace f2 := keep_two b5 f2
  replace f3 := keep_two b5 f3
  replace f4 := keep_two b5 f4
  have e5 := c2_alloc d5.2.2.2.2 (.cells #[.int .i64 U, .int .u64 V] 24)
  have d5' := c2_all e5
  replace f1 := keep_alloc f1 (.cells #[.int .i64 U, .int .u64 V] 24)
  replace f2 := keep_alloc f2 (.cells #[.int .i64 U, .int .u64 V] 24)
  replace f3 := keep_alloc f3 (.cells #[.int .i64 U, .int .u64 V] 24)
  replace f4 := keep_alloc f4 (.cells #[.int .i64 U, .int .u64 V] 24)
  have f5 := new_two w5 (.int .i64 U) (.int .u64 V) 24
  clear b5 K5 d4 d4' e4
  go_wp2_with fail
  refine (K6 _).mono ?_
  rintro e w6 ⟨rfl, b6⟩
  have d6 := c2_all (c2_next e5 b6)
  replace f1 := keep_two b6 f1
  replace f2 := keep_two b6 f2
  replace f3 := keep_two b6 f3
  replace f4 := keep_two b6 f4
  replace f5 := keep_two b6 f5
  have e6 := c2_alloc d6.2.2.2.2 (.cells #[.int .i64 U, .int .u64 V] 24)
  have d6' := c2_all e6
  replace f1 := keep_alloc f1 (.cells #[.int .i64 U, .int .u64 V] 24)
  replace f2 := keep_alloc f2 (.cells #[.int .i64 U, .int .u64 V] 24)
  replace f3 := keep_alloc f3 (.cells #[.int .i64 U, .int .u64 V] 24)
  replace f4 := keep_alloc f4 (.cells #[.int .i64 U, .int .u64 V] 24)
  replace f5 := keep_alloc f5 (.cells #[.int .i64 U, .int .u64 V] 24)
  have f6 := new_two w6 (.int .i64 U) (.int .u64 V) 24
  clear b6 K6 d5 d5' e5
  go_wp2_with fail
  have HF := And.intro d6'.1 (And.intro d6'.2.1 (And.intro d6'.2.2.1 (And.intro d6'.2.2.2.1 (And.intro f1.1 (And.intro f1.2 (And.intro f2.1 (And.intro f2.2 (And.intro f3.1 (And.intro f3.2 (And.intro f4.1 (And.intro f4.2 (And.intro f5.1 (And.intro f5.2 (And.intro f6.1 f6.2))))))))))))))
  have HB := c2_done e6
  clear d6 d6' e6 f1 f2 f3 f4 f5 f6
  generalize w1.heap.size = g1 at HF ⊢
  generalize w2.heap.size = g2 at HF ⊢
  generalize w3.heap.size = g3 at HF ⊢
  generalize w4.heap.size = g4 at HF ⊢
  generalize w5.heap.size = g5 at HF ⊢
  generalize w6.heap.size = g6 at HF ⊢
  generalize w6.alloc (.cells #[.int .i64 U, .int .u64 V] 24) = W at HF HB ⊢
  have HS := k16_keep HF (Below.refl _ _).drew
  go_region_held3 (fun w' => w'.cell? ⟨w.heap.size, 0, none⟩ = some (.int .i64 h) ∧ w'.cell? ⟨w.heap.size, 1, none⟩ = some (.int .u64 l) ∧ w'.cell? ⟨w.heap.size + 1, 0, none⟩ = some (.int .i64 h') ∧ w'.cell? ⟨w.heap.size + 1, 1, none⟩ = some (.int .u64 l') ∧ w'.cell? ⟨g1, 0, none⟩ = some (.int .i64 P) ∧ w'.cell? ⟨g1, 1, none⟩ = some (.int .u64 Q) ∧ w'.cell? ⟨g2, 0, none⟩ = some (.int .i64 P) ∧ w'.cell? ⟨g2, 1, none⟩ = some (.int .u64 Q) ∧ w'.cell? ⟨g3, 0, none⟩ = some (.int .i64 R) ∧ w'.cell? ⟨g3, 1, none⟩ = some (.int .u64 S) ∧ w'.cell? ⟨g4, 0, none⟩ = some (.int .i64 R) ∧ w'.cell? ⟨g4, 1, none⟩ = some (.int .u64 S) ∧ w'.cell? ⟨g5, 0, none⟩ = some (.int .i64 U) ∧ w'.cell? ⟨g5, 1, none⟩ = some (.int .u64 V) ∧ w'.cell? ⟨g6, 0, none⟩ = some (.int .i64 U) ∧ w'.cell? ⟨g6, 1, none⟩ = some (.int .u64 V) ∧ Below W.heap.size W w')
    (first | exact HS | (refine k16_next HF (by assumption) (by first | assumption | exact HS)))
    (first | (go_at_call 15; refine (K7 _).mono ?_; rintro e w1 ⟨rfl, hb1⟩) | (go_at_call 16; refine (K8 _).mono ?_; rintro e w1 ⟨rfl, hb1⟩) | (go_at_call 17; refine (lives_any _).mono ?_; rintro e w1 ⟨rfl, hb1⟩))
  rename_i hHeld
  have HB2 := Lib.hid (HB.trans (hHeld.2.2.2.2.2.2.2.2.2.2.2.2.2.2.2.2.mono HB.size))
  clear hHeld HB
  go_wp2_with fail
  go_ret
  exact ⟨rfl, HB2.out⟩
end Go.Proofs.Ytnljlbdecknbpaa
