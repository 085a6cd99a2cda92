/- Contract of lives: the document's examples of layer 3. Conditions: none. -/
import Derived.Test.YtifngjpgbjjacaaFieldG
set_option maxRecDepth 100000
namespace Go.Proofs.Ytifngjpgbjjacaa
open Go.RowKit

theorem powP_pmod (x k : Nat) (h : k < 2 ^ 61) : powP x k = pmod 2305843009213693951 61 x k := (pmod_eq _ 61 x k h).symm
theorem pow2_val : powP 2 2305843009213693949 = 1152921504606846976 := by
  rw [powP_pmod _ _ (by decide +kernel)]; decide +kernel
theorem inv2_lit (w : World) : Calls Try.prog 18 #[.int .u64 2] w fun e w' => e = .returned (.tuple #[.int .u64 1152921504606846976, .bool true]) ∧ Below w.heap.size w w' :=
  (inverse_any 2 w (by decide)).mono fun e w' ⟨h, b⟩ => ⟨by rw [h, if_neg (by decide), pow2_val]; rfl, b⟩
theorem md1_lit (w : World) : Calls Try.prog 20 #[.int .u64 9223372036854775808, .int .u64 6, .int .u64 3] w fun e w' => e = .returned (.tuple #[.int .u64 0, .bool false]) ∧ ∃ n, w' = w.drewN n :=
  (mulDiv_any 9223372036854775808 6 3 w (by decide) (by decide) (by decide)).mono fun e w' ⟨h, b⟩ => ⟨by rw [h]; rfl, b⟩
theorem md2_lit (w : World) : Calls Try.prog 20 #[.int .u64 9223372036854775808, .int .u64 6, .int .u64 8] w fun e w' => e = .returned (.tuple #[.int .u64 6917529027641081856, .bool true]) ∧ ∃ n, w' = w.drewN n :=
  (mulDiv_any 9223372036854775808 6 8 w (by decide) (by decide) (by decide)).mono fun e w' ⟨h, b⟩ => ⟨by rw [h]; rfl, b⟩
theorem mul1_lit (w : World) : Calls Try.prog 13 #[.int .u64 1152921504606846976, .int .u64 2] w fun e w' => e = .returned (.int .u64 1) ∧ Below w.heap.size w w' :=
  (mul_nat 1152921504606846976 2 w (by decide) (by decide)).mono fun e w' ⟨h, b⟩ => ⟨by rw [h]; rfl, b⟩
theorem hash1_lit (w : World) : Calls Try.prog 22 #[.agg #[.int .u64 1, .int .u64 5], .int .u64 2305843009213693950] w fun e w' => e = .returned (.int .u64 4) ∧ Below w.heap.size w w' :=
  (hash_any 1 5 2305843009213693950 w (by decide) (by decide) (by decide)).mono fun e w' ⟨h, b⟩ => ⟨by rw [h]; rfl, b⟩
theorem below_drewN (w : World) (n : Nat) : Below w.heap.size w (w.drewN n) := ⟨rfl, rfl, rfl, Nat.le_refl _, fun _ _ => rfl⟩
set_option maxHeartbeats 1600000 in
theorem lives_any (w : World) : Calls Try.prog 17 #[] w fun e w' => e = .returned (.bool true) ∧ Below w.heap.size w w' := by
  go_enter Try.func17, Try.ntmps17
  go_wp2_with fail
  refine (inv2_lit _).mono ?_
  rintro e w1 ⟨rfl, b1⟩
  go_wp2_with fail
  refine (md1_lit _).mono ?_
  rintro e w2 ⟨rfl, n1, h1⟩
  have H1 := Lib.hid h1
  clear h1
  go_wp2_with fail
  refine (md2_lit _).mono ?_
  rintro e w3 ⟨rfl, n2, h2⟩
  have H2 := Lib.hid h2
  clear h2
  go_wp2_with fail
  refine (mul1_lit _).mono ?_
  rintro e w4 ⟨rfl, b4⟩
  go_wp2_with fail
  refine (hash1_lit _).mono ?_
  rintro e w5 ⟨rfl, b5⟩
  go_wp2_with fail
  go_ret
  refine ⟨rfl, ?_⟩
  have c1 := b1.trans ((H1.out ▸ below_drewN w1 n1).mono b1.size)
  have c2 := c1.trans ((H2.out ▸ below_drewN w2 n2).mono c1.size)
  have c3 := c2.trans (b4.mono c2.size)
  exact c3.trans (b5.mono c3.size)
end Go.Proofs.Ytifngjpgbjjacaa
