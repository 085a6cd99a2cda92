/- What sums and differences of two words say, and Add on the reference's side. Conditions: none. -/
import Derived.Test.YtnljlbdecknbpaaWideA
set_option maxRecDepth 100000
namespace Go.Proofs.Ytnljlbdecknbpaa
open Go.RowKit

theorem add_math {h l h' l' u u' S C T D G N : Int} (h0 : -9223372036854775808 ≤ h) (h1 : h < 9223372036854775808) (k0 : -9223372036854775808 ≤ h') (k1 : h' < 9223372036854775808)
    (hU : h % 18446744073709551616 = u) (hU' : h' % 18446744073709551616 = u') (e1 : l + l' = C * 18446744073709551616 + S) (s0 : 0 ≤ S) (s1 : S < 18446744073709551616) (hc : C = 0 ∨ C = 1)
    (e2 : u + u' + C = D * 18446744073709551616 + T) (t0 : 0 ≤ T) (t1 : T < 18446744073709551616) (hG : (T + 9223372036854775808) % 18446744073709551616 - 9223372036854775808 = G)
    (hN : N = h * 18446744073709551616 + l + (h' * 18446744073709551616 + l')) :
    ((h < 0 ↔ h' < 0) ∧ ¬(G < 0 ↔ h < 0) → fitW N = false) ∧ (¬((h < 0 ↔ h' < 0) ∧ ¬(G < 0 ↔ h < 0)) → fitW N = true ∧ hiW N = G ∧ loW N = S) := by
  constructor
  · intro hx
    rw [fit_not]
    omega
  · intro hx
    have e : G * 18446744073709551616 + S = N := by omega
    have hg0 : -9223372036854775808 ≤ G := by omega
    have hg1 : G < 9223372036854775808 := by omega
    exact ⟨fit_of e s0 s1 hg0 hg1, w_of e s0 s1⟩
theorem sub_math {h l h' l' u u' S C T D G N : Int} (h0 : -9223372036854775808 ≤ h) (h1 : h < 9223372036854775808) (k0 : -9223372036854775808 ≤ h') (k1 : h' < 9223372036854775808)
    (hU : h % 18446744073709551616 = u) (hU' : h' % 18446744073709551616 = u') (e1 : l - l' = S - C * 18446744073709551616) (s0 : 0 ≤ S) (s1 : S < 18446744073709551616) (hc : C = 0 ∨ C = 1)
    (e2 : u - u' - C = T - D * 18446744073709551616) (t0 : 0 ≤ T) (t1 : T < 18446744073709551616) (hG : (T + 9223372036854775808) % 18446744073709551616 - 9223372036854775808 = G)
    (hN : N = h * 18446744073709551616 + l - (h' * 18446744073709551616 + l')) :
    (¬(h < 0 ↔ h' < 0) ∧ ¬(G < 0 ↔ h < 0) → fitW N = false) ∧ (¬(¬(h < 0 ↔ h' < 0) ∧ ¬(G < 0 ↔ h < 0)) → fitW N = true ∧ hiW N = G ∧ loW N = S) := by
  constructor
  · intro hx
    rw [fit_not]
    omega
  · intro hx
    have e : G * 18446744073709551616 + S = N := by omega
    have hg0 : -9223372036854775808 ≤ G := by omega
    have hg1 : G < 9223372036854775808 := by omega
    exact ⟨fit_of e s0 s1 hg0 hg1, w_of e s0 s1⟩
theorem tuple_yes {N g s : Int} (h : fitW N = true ∧ hiW N = g ∧ loW N = s) : Value.tuple #[.agg #[.int .i64 g, .int .u64 s], .bool true] = .tuple #[wv (ansW N), .bool (fitW N)] := by
  unfold ansW; rw [h.1, if_pos rfl]; unfold wv; rw [h.2.1, h.2.2]
theorem tuple_no {N : Int} (h : fitW N = false) : Value.tuple #[.agg #[.int .i64 0, .int .u64 0], .bool false] = .tuple #[wv (ansW N), .bool (fitW N)] := by
  unfold ansW; rw [h, if_neg (by decide)]; rfl

theorem three_new (w : World) (o o' o'' : Obj) : Below w.heap.size w (((w.alloc o).alloc o').alloc o'') := (((Below.refl _ _).alloc (Nat.le_refl _) _).alloc (by simp) _).alloc (by simp; omega) _
set_option maxHeartbeats 1600000 in
theorem refAdd_walk {h l h' l' u u' S V T G C : Int} (w : World) (b1 b2 b3 : Bool) (hu : IntKind.u64.wrap h = u) (hu' : IntKind.u64.wrap h' = u') (hS : IntKind.u64.wrap (l + l') = S)
    (hC : (S < l ∧ C = 1) ∨ (¬ S < l ∧ C = 0)) (hV : IntKind.u64.wrap (u + u') = V) (hT : IntKind.u64.wrap (V + C) = T) (hG : IntKind.i64.wrap T = G)
    (e1 : decide (h < 0) = b1) (e2 : decide (h' < 0) = b2) (e3 : decide (G < 0) = b3) :
    Calls Try.prog 10 #[.agg #[.int .i64 h, .int .u64 l], .agg #[.int .i64 h', .int .u64 l']] w fun e w' => e = .returned (if (b1 == b2) && (b3 != b1) then .tuple #[.agg #[.int .i64 0, .int .u64 0], .bool false] else .tuple #[.agg #[.int .i64 G, .int .u64 S], .bool true]) ∧ Below w.heap.size w w' := by
  rw [show (b3 != b1) = (!b3 == b1) from rfl]
  cases t0 : (b1 == b2)
  rotate_left
  cases t1 : (!b3 == b1)
  all_goals
    rcases hC with ⟨hc, rfl⟩ | ⟨hc, rfl⟩
  all_goals
    (try rw [Int.add_zero] at hT)
    simp only [Bool.true_and, Bool.false_and, reduceIte, Bool.false_eq_true]
    go_enter Try.func10, Try.ntmps10
    go_wp2_with fail
    first
      | refine bodyPost_ret (v := .tuple #[.agg #[.int .i64 0, .int .u64 0], .bool false]) (by simp [results, Try.results10, go_sem]; done) rfl ⟨rfl, three_new _ _ _ _⟩
      | refine bodyPost_ret (v := .tuple #[.agg #[.int .i64 G, .int .u64 S], .bool true]) (by simp [results, Try.results10, go_sem]; done) rfl ⟨rfl, three_new _ _ _ _⟩

theorem iff_of_dec {p q : Prop} [Decidable p] [Decidable q] : (decide p == decide q) = true ↔ (p ↔ q) := by
  rw [beq_iff_eq, decide_eq_decide]
theorem refAdd_any (h l h' l' : Int) (w : World) (h0 : -9223372036854775808 ≤ h) (h1 : h < 9223372036854775808) (l0 : 0 ≤ l) (l1 : l < 18446744073709551616) (k0 : -9223372036854775808 ≤ h') (k1 : h' < 9223372036854775808) (m0 : 0 ≤ l') (m1 : l' < 18446744073709551616) : Calls Try.prog 10 #[.agg #[.int .i64 h, .int .u64 l], .agg #[.int .i64 h', .int .u64 l']] w fun e w' => e = .returned (.tuple #[wv (ansW (h * 18446744073709551616 + l + (h' * 18446744073709551616 + l'))), .bool (fitW (h * 18446744073709551616 + l + (h' * 18446744073709551616 + l')))]) ∧ Below w.heap.size w w' := by
  obtain ⟨u, hu⟩ : ∃ u, IntKind.u64.wrap h = u := ⟨_, rfl⟩
  obtain ⟨u', hu'⟩ : ∃ u, IntKind.u64.wrap h' = u := ⟨_, rfl⟩
  obtain ⟨S, hS⟩ : ∃ S, IntKind.u64.wrap (l + l') = S := ⟨_, rfl⟩
  obtain ⟨V, hV⟩ : ∃ V, IntKind.u64.wrap (u + u') = V := ⟨_, rfl⟩
  obtain ⟨C, hC⟩ : ∃ C : Int, (S < l ∧ C = 1) ∨ (¬ S < l ∧ C = 0) := by
    by_cases h : S < l
    · exact ⟨1, .inl ⟨h, rfl⟩⟩
    · exact ⟨0, .inr ⟨h, rfl⟩⟩
  obtain ⟨T, hT⟩ : ∃ T, IntKind.u64.wrap (V + C) = T := ⟨_, rfl⟩
  obtain ⟨G, hG⟩ : ∃ G, IntKind.i64.wrap T = G := ⟨_, rfl⟩
  refine (refAdd_walk w _ _ _ hu hu' hS hC hV hT hG rfl rfl rfl).mono fun e w' ⟨he, hb⟩ => ⟨?_, hb⟩
  rw [he]
  rw [IntKind.wrap_u64] at hu hu' hS hV hT
  rw [IntKind.wrap_i64] at hG
  have hm := add_math (D := (u + u' + C - T) / 18446744073709551616) h0 h1 k0 k1 hu hu' (S := S) (C := C) (l := l) (l' := l') (by omega) (by omega) (by omega) (by omega) (T := T) (by omega) (by omega) (by omega) hG rfl
  by_cases hE : h < 0 ↔ h' < 0
  · by_cases hF : G < 0 ↔ h < 0
    · rw [← tuple_yes (hm.2 (fun hx => hx.2 hF)), iff_of_dec.2 hE]
      rw [show (decide (G < 0) != decide (h < 0)) = false by rw [bne, iff_of_dec.2 hF]; rfl]
      rfl
    · rw [← tuple_no (hm.1 ⟨hE, hF⟩), iff_of_dec.2 hE]
      rw [show (decide (G < 0) != decide (h < 0)) = true by rw [bne, Bool.not_eq_true', Bool.eq_false_iff]; exact fun hx => hF (iff_of_dec.1 hx)]
      rfl
  · rw [← tuple_yes (hm.2 (fun hx => hE hx.1))]
    rw [show (decide (h < 0) == decide (h' < 0)) = false by rw [Bool.eq_false_iff]; exact fun hx => hE (iff_of_dec.1 hx)]
    rfl
end Go.Proofs.Ytnljlbdecknbpaa
