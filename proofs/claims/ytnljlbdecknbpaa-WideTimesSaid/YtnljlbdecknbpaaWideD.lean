/- Contracts of Add and Sub, whole. Conditions: none. -/
import Derived.Test.YtnljlbdecknbpaaWideC
import Derived.Test.YtnljlbdecknbpaaWideF
import Derived.Test.YtnljlbdecknbpaaWideG
set_option maxRecDepth 100000
namespace Go.Proofs.Ytnljlbdecknbpaa
open Go.RowKit

theorem dec_ne {p q : Prop} [Decidable p] [Decidable q] (h : ¬(p ↔ q)) : decide p ≠ decide q := fun e => h (decide_eq_decide.1 e)
theorem kb2 {h l h' l' : Int} {b1 b2 : Bool} (K1 : ∀ w, Calls Try.prog 29 #[.agg #[.int .i64 h, .int .u64 l]] w fun e w' => e = .returned (.bool b1) ∧ Below w.heap.size w w') (K2 : ∀ w, Calls Try.prog 29 #[.agg #[.int .i64 h', .int .u64 l']] w fun e w' => e = .returned (.bool b2) ∧ Below w.heap.size w w') (x y : Int) (v : Bool) (hc : (x = h ∧ y = l ∧ v = b1) ∨ (x = h' ∧ y = l' ∧ v = b2)) (w : World) : Calls Try.prog 29 #[.agg #[.int .i64 x, .int .u64 y]] w fun e w' => e = .returned (.bool v) ∧ Below w.heap.size w w' := by
  rcases hc with ⟨rfl, rfl, rfl⟩ | ⟨rfl, rfl, rfl⟩
  · exact K1 w
  · exact K2 w
theorem kb3 {h l h' l' g s : Int} {b1 b2 b3 : Bool} (K1 : ∀ w, Calls Try.prog 29 #[.agg #[.int .i64 h, .int .u64 l]] w fun e w' => e = .returned (.bool b1) ∧ Below w.heap.size w w') (K2 : ∀ w, Calls Try.prog 29 #[.agg #[.int .i64 h', .int .u64 l']] w fun e w' => e = .returned (.bool b2) ∧ Below w.heap.size w w') (K3 : ∀ w, Calls Try.prog 29 #[.agg #[.int .i64 g, .int .u64 s]] w fun e w' => e = .returned (.bool b3) ∧ Below w.heap.size w w') (x y : Int) (v : Bool) (hc : (x = h ∧ y = l ∧ v = b1) ∨ (x = h' ∧ y = l' ∧ v = b2) ∨ (x = g ∧ y = s ∧ v = b3)) (w : World) : Calls Try.prog 29 #[.agg #[.int .i64 x, .int .u64 y]] w fun e w' => e = .returned (.bool v) ∧ Below w.heap.size w w' := by
  rcases hc with ⟨rfl, rfl, rfl⟩ | ⟨rfl, rfl, rfl⟩ | ⟨rfl, rfl, rfl⟩
  · exact K1 w
  · exact K2 w
  · exact K3 w
theorem add_any (h l h' l' : Int) (w : World) (h0 : -9223372036854775808 ≤ h) (h1 : h < 9223372036854775808) (l0 : 0 ≤ l) (l1 : l < 18446744073709551616) (k0 : -9223372036854775808 ≤ h') (k1 : h' < 9223372036854775808) (m0 : 0 ≤ l') (m1 : l' < 18446744073709551616) : Calls Try.prog 9 #[.agg #[.int .i64 h, .int .u64 l], .agg #[.int .i64 h', .int .u64 l']] w fun e w' => e = .returned (.tuple #[wv (ansW (h * 18446744073709551616 + l + (h' * 18446744073709551616 + l'))), .bool (fitW (h * 18446744073709551616 + l + (h' * 18446744073709551616 + l')))]) ∧ Below w.heap.size w w' := by
  obtain ⟨u, hu⟩ : ∃ u, IntKind.u64.wrap h = u := ⟨_, rfl⟩
  obtain ⟨u', hu'⟩ : ∃ u, IntKind.u64.wrap h' = u := ⟨_, rfl⟩
  have hU := hu
  have hU' := hu'
  rw [IntKind.wrap_u64] at hU hU'
  obtain ⟨S, hS⟩ : ∃ S, S = (l + l') % 18446744073709551616 := ⟨_, rfl⟩
  obtain ⟨C, hC⟩ : ∃ S, S = (l + l') / 18446744073709551616 := ⟨_, rfl⟩
  obtain ⟨T, hT⟩ : ∃ S, S = (u + u' + C) % 18446744073709551616 := ⟨_, rfl⟩
  obtain ⟨D, hD⟩ : ∃ S, S = (u + u' + C) / 18446744073709551616 := ⟨_, rfl⟩
  have c1 := fun w => add64_run (x := l) (y := l') (c := 0) (s := S) (d := C) l0 m0 (.inl rfl) (by omega) (by omega) (by omega) w
  have c2 := fun w => add64_run (x := u) (y := u') (c := C) (s := T) (d := D) (by omega) (by omega) (by omega) (by omega) (by omega) (by omega) w
  obtain ⟨G, hG⟩ : ∃ S, IntKind.i64.wrap T = S := ⟨_, rfl⟩
  have hG' := hG
  rw [IntKind.wrap_i64] at hG'
  have hm := add_math (N := h * 18446744073709551616 + l + (h' * 18446744073709551616 + l')) (D := D) h0 h1 k0 k1 hU hU' (S := S) (C := C) (l := l) (l' := l') (by omega) (by omega) (by omega) (by omega) (T := T) (by omega) (by omega) (by omega) hG' rfl
  generalize h * 18446744073709551616 + l + (h' * 18446744073709551616 + l') = N at hm ⊢
  have K1 := below_any h l
  have K2 := below_any h' l'
  have K3 := below_any G S
  by_cases hE : h < 0 ↔ h' < 0
  · rw [← decide_eq_decide.2 hE] at K2
    by_cases hF : G < 0 ↔ h < 0
    · rw [decide_eq_decide.2 hF] at K3
      rw [← tuple_yes (hm.2 (fun hx => hx.2 hF))]
      exact add_ok1 w _ hu hu' hG c1 c2 (kb3 K1 K2 K3)
    · rw [← tuple_no (hm.1 ⟨hE, hF⟩)]
      exact add_no w _ _ (bne_fact (dec_ne hF)).1 hu hu' hG c1 c2 (kb3 K1 K2 K3)
  · rw [← tuple_yes (hm.2 (fun hx => hE hx.1))]
    exact add_ok2 w _ _ (bne_fact (dec_ne hE)).2.2 hu hu' hG c1 c2 (kb2 K1 K2)
theorem sub_any (h l h' l' : Int) (w : World) (h0 : -9223372036854775808 ≤ h) (h1 : h < 9223372036854775808) (l0 : 0 ≤ l) (l1 : l < 18446744073709551616) (k0 : -9223372036854775808 ≤ h') (k1 : h' < 9223372036854775808) (m0 : 0 ≤ l') (m1 : l' < 18446744073709551616) : Calls Try.prog 11 #[.agg #[.int .i64 h, .int .u64 l], .agg #[.int .i64 h', .int .u64 l']] w fun e w' => e = .returned (.tuple #[wv (ansW (h * 18446744073709551616 + l - (h' * 18446744073709551616 + l'))), .bool (fitW (h * 18446744073709551616 + l - (h' * 18446744073709551616 + l')))]) ∧ Below w.heap.size w w' := by
  obtain ⟨u, hu⟩ : ∃ u, IntKind.u64.wrap h = u := ⟨_, rfl⟩
  obtain ⟨u', hu'⟩ : ∃ u, IntKind.u64.wrap h' = u := ⟨_, rfl⟩
  have hU := hu
  have hU' := hu'
  rw [IntKind.wrap_u64] at hU hU'
  obtain ⟨S, hS⟩ : ∃ S, S = (l - l') % 18446744073709551616 := ⟨_, rfl⟩
  obtain ⟨C, hC⟩ : ∃ C, C * 18446744073709551616 = S - (l - l') := ⟨(S - (l - l')) / 18446744073709551616, by omega⟩
  obtain ⟨T, hT⟩ : ∃ S, S = (u - u' - C) % 18446744073709551616 := ⟨_, rfl⟩
  obtain ⟨D, hD⟩ : ∃ D, D * 18446744073709551616 = T - (u - u' - C) := ⟨(T - (u - u' - C)) / 18446744073709551616, by omega⟩
  have c1 := fun w => sub64_run (x := l) (y := l') (b := 0) (s := S) (d := C) l0 l1 m0 m1 (.inl rfl) (by omega) (by omega) (by omega) w
  have c2 := fun w => sub64_run (x := u) (y := u') (b := C) (s := T) (d := D) (by omega) (by omega) (by omega) (by omega) (by omega) (by omega) (by omega) (by omega) w
  obtain ⟨G, hG⟩ : ∃ S, IntKind.i64.wrap T = S := ⟨_, rfl⟩
  have hG' := hG
  rw [IntKind.wrap_i64] at hG'
  have hm := sub_math (N := h * 18446744073709551616 + l - (h' * 18446744073709551616 + l')) (D := D) h0 h1 k0 k1 hU hU' (S := S) (C := C) (l := l) (l' := l') (by omega) (by omega) (by omega) (by omega) (T := T) (by omega) (by omega) (by omega) hG' rfl
  generalize h * 18446744073709551616 + l - (h' * 18446744073709551616 + l') = N at hm ⊢
  have K1 := below_any h l
  have K2 := below_any h' l'
  have K3 := below_any G S
  by_cases hE : h < 0 ↔ h' < 0
  · rw [← decide_eq_decide.2 hE] at K2
    rw [← tuple_yes (hm.2 (fun hx => hx.1 hE))]
    exact sub_ok2 w _ hu hu' hG c1 c2 (kb2 K1 K2)
  · by_cases hF : G < 0 ↔ h < 0
    · rw [decide_eq_decide.2 hF] at K3
      rw [← tuple_yes (hm.2 (fun hx => hx.2 hF))]
      exact sub_ok1 w _ _ (bne_fact (dec_ne hE)).1 hu hu' hG c1 c2 (kb3 K1 K2 K3)
    · rw [decide_eq_decide.2 (show G < 0 ↔ h' < 0 by omega)] at K3
      rw [← tuple_no (hm.1 ⟨hE, hF⟩)]
      exact sub_no w _ _ (bne_fact (dec_ne hE)).1 (bne_fact (dec_ne hE)).2.1 hu hu' hG c1 c2 (kb3 K1 K2 K3)
end Go.Proofs.Ytnljlbdecknbpaa
