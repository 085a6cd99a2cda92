/- Contracts of cut and grown. Conditions: none. -/
import Derived.Test.YtnljlbdecknbpaaWideL
import Derived.Test.YtnljlbdecknbpaaWideM
import Derived.Test.YtnljlbdecknbpaaDiv64
set_option maxRecDepth 100000
namespace Go.Proofs.Ytnljlbdecknbpaa
open Go.RowKit

set_option maxHeartbeats 800000 in
theorem cut_any (H L : Nat) (w : World) (h1 : H < 18446744073709551616) (l1 : L < 18446744073709551616) : Calls Try.prog 50 #[.agg #[.int .u64 (H : Int), .int .u64 (L : Int)]] w fun e w' => e = .returned (.tuple #[sv (((H * 18446744073709551616 + L) / 10 : Nat) : Int), .int .u8 (((H * 18446744073709551616 + L) % 10 : Nat) : Int)]) ∧ Below w.heap.size w w' := by
  have K := fun w => div_any (H % 10) L 10 w l1 (by decide) (by omega)
  rw [quo_gen H 18446744073709551616 L 10 (by decide), rem_gen H 18446744073709551616 L 10]
  have hQ2 : (H % 10 * 18446744073709551616 + L) / 10 < 18446744073709551616 := Nat.div_lt_of_lt_mul (by omega)
  have hr2 : (H % 10 * 18446744073709551616 + L) % 10 < 10 := Nat.mod_lt _ (by decide)
  have e1 : ((H : Int) % 10) = ((H % 10 : Nat) : Int) := (Int.natCast_emod H 10).symm
  have e2 : ((H : Int) / 10) = ((H / 10 : Nat) : Int) := (Int.natCast_ediv H 10).symm
  generalize (H % 10 * 18446744073709551616 + L) / 10 = Q at hQ2 K ⊢
  generalize (H % 10 * 18446744073709551616 + L) % 10 = R at hr2 K ⊢
  generalize H % 10 = H' at K e1
  generalize H / 10 = H'' at e2 ⊢
  have e : (H'' : Int) * 18446744073709551616 + (Q : Int) = ((H'' * 18446744073709551616 + Q : Nat) : Int) := by omega
  have hw := w_of e (by omega) (by omega)
  unfold sv
  rw [hw.1, hw.2]
  clear hw e
  go_enter Try.func50, Try.ntmps50
  go_wp2_with fail
  refine (K _).mono ?_
  rintro e w1 ⟨rfl, n, hn⟩
  have b1 : Below ((w.alloc (.cells #[.int .u64 (H : Int), .int .u64 (L : Int)] 51)).alloc (.cells #[.int .u64 0, .int .u64 0] 51)).heap.size ((w.alloc (.cells #[.int .u64 (H : Int), .int .u64 (L : Int)] 51)).alloc (.cells #[.int .u64 0, .int .u64 0] 51)) w1 := by rw [hn]; exact below_drewN (Below.refl _ _) n
  clear hn
  replace b1 := g2_next (w := w) (Below.refl _ _) b1
  have hS := g2_res b1
  have hr1 := fun u => (set_two hS.2.2.1 hS.2.2.2.1 u u).1
  have hr2 := fun u v => (set_two hS.2.2.1 hS.2.2.2.1 u v).2
  have HB := Lib.hid (g2_done b1)
  clear b1 K
  go_wp2_with fail
  refine bodyPost_ret (v := .tuple #[.agg #[.int .u64 (H'' : Int), .int .u64 (Q : Int)], .int .u8 (R : Int)]) (by simp [results, Try.results50, go_sem, hr1, hr2]) rfl ⟨rfl, HB.out _ _⟩
theorem grown_math {H L d a b c e : Nat} (l1 : L < 18446744073709551616) (hd : d < 10)
    (ha : L * 10 / 18446744073709551616 = a) (hb : L * 10 % 18446744073709551616 = b) (hc : H * 10 / 18446744073709551616 = c) (he : H * 10 % 18446744073709551616 = e) :
    ∃ s m t n : Nat, b + d = m * 18446744073709551616 + s ∧ s < 18446744073709551616 ∧ m ≤ 1 ∧ e + a + m = n * 18446744073709551616 + t ∧ t < 18446744073709551616 ∧ n ≤ 1 ∧
      ((c = 0 ∧ n = 0) ↔ (H * 18446744073709551616 + L) * 10 + d < 340282366920938463463374607431768211456) ∧ (c = 0 ∧ n = 0 → t * 18446744073709551616 + s = (H * 18446744073709551616 + L) * 10 + d) := by
  refine ⟨(b + d) % 18446744073709551616, (b + d) / 18446744073709551616, (e + a + (b + d) / 18446744073709551616) % 18446744073709551616, (e + a + (b + d) / 18446744073709551616) / 18446744073709551616, ?_⟩
  refine ⟨by omega, by omega, by omega, by omega, by omega, by omega, by omega, by omega⟩
set_option maxHeartbeats 800000 in
theorem grown_any (H L d : Nat) (w : World) (h1 : H < 18446744073709551616) (l1 : L < 18446744073709551616) (hd : d < 10) : Calls Try.prog 49 #[.agg #[.int .u64 (H : Int), .int .u64 (L : Int)], .int .u8 (d : Int)] w fun e w' => ∃ T S : Nat, e = .returned (.tuple #[.agg #[.int .u64 (T : Int), .int .u64 (S : Int)], .bool (decide ((H * 18446744073709551616 + L) * 10 + d < 340282366920938463463374607431768211456))]) ∧ T < 18446744073709551616 ∧ S < 18446744073709551616 ∧ ((H * 18446744073709551616 + L) * 10 + d < 340282366920938463463374607431768211456 → T * 18446744073709551616 + S = (H * 18446744073709551616 + L) * 10 + d) ∧ Below w.heap.size w w' := by
  have K1 := fun w => Try.bits_Mul64 L 10 l1 (by decide) w
  have K2 := fun w => Try.bits_Mul64 H 10 h1 (by decide) w
  obtain ⟨a, ha⟩ : ∃ a, L * 10 / 18446744073709551616 = a := ⟨_, rfl⟩
  obtain ⟨b, hb⟩ : ∃ a, L * 10 % 18446744073709551616 = a := ⟨_, rfl⟩
  obtain ⟨c, hc⟩ : ∃ a, H * 10 / 18446744073709551616 = a := ⟨_, rfl⟩
  obtain ⟨e, he⟩ : ∃ a, H * 10 % 18446744073709551616 = a := ⟨_, rfl⟩
  rw [ha, hb] at K1
  rw [hc, he] at K2
  obtain ⟨s, m, t, n, g1, g2, g3, g4, g5, g6, g7, g8⟩ := grown_math l1 hd ha hb hc he
  have c1 := fun w => add64_run (x := (b : Int)) (y := (d : Int)) (c := 0) (s := (s : Int)) (d := (m : Int)) (by omega) (by omega) (.inl rfl) (by omega) (by omega) (by omega) w
  have c2 := fun w => add64_run (x := (e : Int)) (y := (a : Int)) (c := (m : Int)) (s := (t : Int)) (d := (n : Int)) (by omega) (by omega) (by omega) (by omega) (by omega) (by omega) w
  have T0 : ((c : Int) == 0 && (n : Int) == 0) = decide ((H * 18446744073709551616 + L) * 10 + d < 340282366920938463463374607431768211456) := by
    rw [← decide_eq_decide.2 g7, Bool.eq_iff_iff, Bool.and_eq_true, beq_iff_eq, beq_iff_eq, decide_eq_true_iff]
    omega
  generalize decide ((H * 18446744073709551616 + L) * 10 + d < 340282366920938463463374607431768211456) = ok at T0 ⊢
  have HG := Lib.hid (And.intro g5 (And.intro g2 (fun hx => g8 (g7.2 hx))))
  clear g1 g2 g3 g4 g5 g6 g7 g8 ha hb hc he
  by_cases hc0 : c = 0
  · subst hc0
    have T1 : ((n : Int) == 0) = ok := by rw [← T0]; rfl
    clear T0
    go_enter Try.func49, Try.ntmps49
    go_wp2_with fail
    refine (K1 _).mono ?_
    rintro e' w' ⟨rfl, rfl⟩
    go_wp2_with fail
    refine (K2 _).mono ?_
    rintro e' w' ⟨rfl, rfl⟩
    go_wp2_with fail
    refine bodyPost_ret (v := .tuple #[.agg #[.int .u64 (t : Int), .int .u64 (s : Int)], .bool ok]) (by simp [results, Try.results49, go_sem]) rfl ⟨t, s, rfl, HG.out.1, HG.out.2.1, HG.out.2.2, two_new _ _ _⟩
  · have t0 : ((c : Int) == 0) = false := by rw [beq_eq_false_iff_ne]; omega
    have T1 : ok = false := by rw [← T0, t0]; rfl
    subst T1
    clear T0
    go_enter Try.func49, Try.ntmps49
    go_wp2_with fail
    refine (K1 _).mono ?_
    rintro e' w' ⟨rfl, rfl⟩
    go_wp2_with fail
    refine (K2 _).mono ?_
    rintro e' w' ⟨rfl, rfl⟩
    go_wp2_with fail
    refine bodyPost_ret (v := .tuple #[.agg #[.int .u64 (t : Int), .int .u64 (s : Int)], .bool false]) (by simp [results, Try.results49, go_sem]) rfl ⟨t, s, rfl, HG.out.1, HG.out.2.1, HG.out.2.2, two_new _ _ _⟩
end Go.Proofs.Ytnljlbdecknbpaa
