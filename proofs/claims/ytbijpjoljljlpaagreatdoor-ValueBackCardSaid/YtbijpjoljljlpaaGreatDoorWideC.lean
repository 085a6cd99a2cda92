/- What sums and differences of two words say, and Add on the reference's side. Conditions: none. -/
import Derived.Test.YtbijpjoljljlpaaGreatDoorWideA
set_option maxRecDepth 100000
namespace Go.Proofs.YtbijpjoljljlpaaGreatDoor.Wide
open Go.RowKit

theorem add_math {h l h' l' u u' S C T D G N : Int} (h0 : -9223372036854775808 ≤ h) (h1 : h < 9223372036854775808) (k0 : -9223372036854775808 ≤ h') (k1 : h' < 9223372036854775808)
    (hU : h % 18446744073709551616 = u) (hU' : h' % 18446744073709551616 = u') (e1 : l + l' = C * 18446744073709551616 + S) (s0 : 0 ≤ S) (s1 : S < 18446744073709551616) (hc : C = 0 ∨ C = 1)
    (e2 : u + u' + C = D * 18446744073709551616 + T) (t0 : 0 ≤ T) (t1 : T < 18446744073709551616) (hG : (T + 9223372036854775808) % 18446744073709551616 - 9223372036854775808 = G)
    (hN : N = h * 18446744073709551616 + l + (h' * 18446744073709551616 + l')) :
    ((h < 0 ↔ h' < 0) ∧ ¬(G < 0 ↔ h < 0) → fitW N = false) ∧ (¬((h < 0 ↔ h' < 0) ∧ ¬(G < 0 ↔ h < 0)) → fitW N = true ∧ hiW N = G ∧ loW N = S) := by
  constructor
  · intro hx
    rw [fit_not]
    omega
  · intro hx
    have e : G * 18446744073709551616 + S = N := by omega
    have hg0 : -9223372036854775808 ≤ G := by omega
    have hg1 : G < 9223372036854775808 := by omega
    exact ⟨fit_of e s0 s1 hg0 hg1, w_of e s0 s1⟩
theorem sub_math {h l h' l' u u' S C T D G N : Int} (h0 : -9223372036854775808 ≤ h) (h1 : h < 9223372036854775808) (k0 : -9223372036854775808 ≤ h') (k1 : h' < 9223372036854775808)
    (hU : h % 18446744073709551616 = u) (hU' : h' % 18446744073709551616 = u') (e1 : l - l' = S - C * 18446744073709551616) (s0 : 0 ≤ S) (s1 : S < 18446744073709551616) (hc : C = 0 ∨ C = 1)
    (e2 : u - u' - C = T - D * 18446744073709551616) (t0 : 0 ≤ T) (t1 : T < 18446744073709551616) (hG : (T + 9223372036854775808) % 18446744073709551616 - 9223372036854775808 = G)
    (hN : N = h * 18446744073709551616 + l - (h' * 18446744073709551616 + l')) :
    (¬(h < 0 ↔ h' < 0) ∧ ¬(G < 0 ↔ h < 0) → fitW N = false) ∧ (¬(¬(h < 0 ↔ h' < 0) ∧ ¬(G < 0 ↔ h < 0)) → fitW N = true ∧ hiW N = G ∧ loW N = S) := by
  constructor
  · intro hx
    rw [fit_not]
    omega
  · intro hx
    have e : G * 18446744073709551616 + S = N := by omega
    have hg0 : -9223372036854775808 ≤ G := by omega
    have hg1 : G < 9223372036854775808 := by omega
    exact ⟨fit_of e s0 s1 hg0 hg1, w_of e s0 s1⟩
theorem tuple_yes {N g s : Int} (h : fitW N = true ∧ hiW N = g ∧ loW N = s) : Value.tuple #[.agg #[.int .i64 g, .int .u64 s], .bool true] = .tuple #[wv (ansW N), .bool (fitW N)] := by
  unfold ansW; rw [h.1, if_pos rfl]; unfold wv; rw [h.2.1, h.2.2]
theorem tuple_no {N : Int} (h : fitW N = false) : Value.tuple #[.agg #[.int .i64 0, .int .u64 0], .bool false] = .tuple #[wv (ansW N), .bool (fitW N)] := by
  unfold ansW; rw [h, if_neg (by decide)]; rfl

theorem three_new (w : World) (o o' o'' : Obj) : Below w.heap.size w (((w.alloc o).alloc o').alloc o'') := (((Below.refl _ _).alloc (Nat.le_refl _) _).alloc (by simp) _).alloc (by simp; omega) _
theorem iff_of_dec {p q : Prop} [Decidable p] [Decidable q] : (decide p == decide q) = true ↔ (p ↔ q) := by
  rw [beq_iff_eq, decide_eq_decide]
end Go.Proofs.YtbijpjoljljlpaaGreatDoor.Wide
