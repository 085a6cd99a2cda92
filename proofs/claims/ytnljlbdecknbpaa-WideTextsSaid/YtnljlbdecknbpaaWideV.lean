/- The examples of the chapter hold in any world. Conditions: none. -/
import Derived.Test.YtnljlbdecknbpaaWideS
import Derived.Test.YtnljlbdecknbpaaWideQ
import Derived.Test.YtnljlbdecknbpaaWideN
import Derived.Test.YtnljlbdecknbpaaWideK
import Derived.Test.YtnljlbdecknbpaaWideJ
set_option maxRecDepth 100000
namespace Go.Proofs.Ytnljlbdecknbpaa
open Go.RowKit

theorem lit_digs : printL (-18446744073709551616) = [45, 49, 56, 52, 52, 54, 55, 52, 52, 48, 55, 51, 55, 48, 57, 53, 53, 49, 54, 49, 54] := by
  have h : canD [49, 56, 52, 52, 54, 55, 52, 52, 48, 55, 51, 55, 48, 57, 53, 53, 49, 54, 49, 54] := by
    refine ⟨by simp, ?_, fun e => by simp at e⟩
    intro c hc
    simp only [List.mem_cons, List.not_mem_nil, or_false] at hc
    unfold isD
    rcases hc with rfl | rfl | rfl | rfl | rfl | rfl | rfl | rfl | rfl | rfl | rfl | rfl | rfl | rfl | rfl | rfl | rfl | rfl | rfl | rfl <;> decide
  have hb := digs_back _ h
  rw [show valD [49, 56, 52, 52, 54, 55, 52, 52, 48, 55, 51, 55, 48, 57, 53, 53, 49, 54, 49, 54] = 18446744073709551616 by decide] at hb
  rw [print_neg (by decide), show (-18446744073709551616 : Int).natAbs = 18446744073709551616 by decide, hb]
theorem lit_zero : NoText [45, 48] := by
  intro M hf e
  rcases Int.lt_or_le M 0 with hm | hm
  · rw [print_neg hm] at e
    have h := (List.cons.inj e).2
    have : digs 0 = [48] := by rw [digs_small (by decide)]; rfl
    rw [← this] at h
    have := digs_inj h
    omega
  · rw [print_pos hm] at e
    exact digs_no45 M.natAbs (by rw [← e]; rfl)
theorem of_wv (N : Int) (f : Nat) (w : World) {Q : Ending → World → Prop} (h : ∀ h l, h * 18446744073709551616 + l = N → 0 ≤ l → l < 18446744073709551616 → Calls Try.prog f #[.agg #[.int .i64 h, .int .u64 l]] w Q) : Calls Try.prog f #[wv N] w Q := h _ _ (w_split N).1 (w_split N).2.1 (w_split N).2.2
set_option maxHeartbeats 1600000 in
theorem lives_any (w : World) : Calls Try.prog 17 #[] w fun e w' => e = .returned (.bool true) ∧ Below w.heap.size w w' := by
  have K1 := fun w => of_any 9223372036854775807 w (by decide) (by decide)
  have K2 := fun w => of_any 1 w (by decide) (by decide)
  rw [show wv 9223372036854775807 = .agg #[.int .i64 0, .int .u64 9223372036854775807] from rfl] at K1
  rw [show wv 1 = .agg #[.int .i64 0, .int .u64 1] from rfl] at K2
  have K3 := fun w => add_any 0 9223372036854775807 0 1 w (by decide) (by decide) (by decide) (by decide) (by decide) (by decide) (by decide) (by decide)
  rw [show wv (ansW (0 * 18446744073709551616 + 9223372036854775807 + (0 * 18446744073709551616 + 1))) = .agg #[.int .i64 0, .int .u64 9223372036854775808] from rfl, show fitW (0 * 18446744073709551616 + 9223372036854775807 + (0 * 18446744073709551616 + 1)) = true from rfl] at K3
  have K4 := fun w => fits_any 0 9223372036854775808 w (by decide) (by decide)
  rw [show int64 (0 * 18446744073709551616 + 9223372036854775808) = 0 from rfl, show fit64 (0 * 18446744073709551616 + 9223372036854775808) = false from rfl] at K4
  have K5 : ∀ w, Calls Try.prog 24 #[.string ⟨#[45, 48]⟩] w fun e w' => e = .returned (.tuple #[.agg #[.int .i64 0, .int .u64 0], .bool false]) ∧ Below w.heap.size w w' := fun w => by
    refine (parse_any ⟨#[45, 48]⟩ (by decide) w).mono ?_
    rintro e w' ⟨N, b, rfl, hb, h1, h2⟩
    cases b with
    | true => exact absurd (h1 rfl).2 (lit_zero N (h1 rfl).1)
    | false => rw [(h2 rfl).1]; exact ⟨rfl, hb⟩
  have K6 := fun w => mul_any (-9223372036854775808) 2 w (by decide) (by decide) (by decide) (by decide)
  rw [show wv (-9223372036854775808 * 2) = .agg #[.int .i64 (-1), .int .u64 0] from rfl] at K6
  have K7 := fun w => print_any (-1) 0 w (by decide) (by decide) (by decide) (by decide)
  rw [show (-1 : Int) * 18446744073709551616 + 0 = -18446744073709551616 from rfl, lit_digs] at K7
  go_enter Try.func17, Try.ntmps17
  go_wp2_with fail
  refine (K1 _).mono ?_
  rintro e w1 ⟨rfl, b1⟩
  go_wp2_with fail
  refine (K2 _).mono ?_
  rintro e w2 ⟨rfl, b2⟩
  replace b2 := b1.trans (b2.mono b1.size)
  clear b1
  go_wp2_with fail
  refine (K3 _).mono ?_
  rintro e w3 ⟨rfl, b3⟩
  replace b3 := b2.trans (b3.mono b2.size)
  clear b2
  go_wp2_with fail
  refine (K4 _).mono ?_
  rintro e w4 ⟨rfl, b4⟩
  replace b4 := o1_next (Below.refl _ _) b4
  go_wp2_with fail
  refine (K5 _).mono ?_
  rintro e w5 ⟨rfl, b5⟩
  replace b5 := o1_next b4 b5
  clear b4
  have hres := p1_res (p1_alloc b5 (.cells #[.int .i64 0, .int .u64 0] 24))
  clear K1 K2 K3 K4 K5
  go_wp2_with fail
  refine (K6 _).mono ?_
  rintro e w6 ⟨rfl, b6⟩
  replace b6 := o1_next (p1_alloc b5 (.cells #[.int .i64 0, .int .u64 0] 24)) b6
  clear b5 hres
  go_wp2_with fail
  refine (K7 _).mono ?_
  rintro e w7 ⟨rfl, b7⟩
  replace b7 := o1_next b6 b7
  have HB := Lib.hid (b3.trans ((o1_done b7).mono b3.size))
  clear b6 b7 b3
  go_wp2_with fail
  go_ret
  exact ⟨rfl, HB.out⟩
end Go.Proofs.Ytnljlbdecknbpaa
