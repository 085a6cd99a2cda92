/- The walks of FieldRules and FieldHashes. Conditions: none (each a uint64). -/
import Derived.Test.YtifngjpgbjjacaaFieldW
set_option maxRecDepth 100000
namespace Go.Proofs.Ytifngjpgbjjacaa
open Go.RowKit

def addP (x y : Nat) : Nat := (x + y) % 2305843009213693951
theorem addP_lt (x y : Nat) : addP x y < 2305843009213693951 := Nat.mod_lt _ (by decide)
theorem add_nat (x y : Nat) (w : World) (h1 : x < 18446744073709551616) (h3 : y < 18446744073709551616) : Calls Try.prog 11 #[.int .u64 (x : Int), .int .u64 (y : Int)] w fun e w' => e = .returned (.int .u64 (addP x y : Int)) ∧ w = w' :=
  (add_any x y w (by omega) (by omega) (by omega) (by omega)).mono fun e w' ⟨h, b⟩ => ⟨by rw [h]; unfold addP; exact ret_int (by omega), b⟩
theorem of_nat (x : Nat) (w : World) (h1 : x < 18446744073709551616) : Calls Try.prog 9 #[.int .u64 (x : Int)] w fun e w' => e = .returned (.int .u64 ((x % 2305843009213693951 : Nat) : Int)) ∧ w = w' :=
  (of_any x w (by omega) (by omega)).mono fun e w' ⟨h, b⟩ => ⟨by rw [h]; exact ret_int (by omega), b⟩

theorem good_yes (x : Nat) (h : x < 2305843009213693951) (w : World) : Calls Try.prog 8 #[.int .u64 (x : Int)] w fun e w' => e = .returned (.bool true) ∧ w = w' :=
  (good_any x w).mono fun e w' ⟨he, b⟩ => ⟨by rw [he, decide_eq_true (by omega)], b⟩
theorem rule_dist (a b c : Nat) : mulP a (addP b c) = addP (mulP a b) (mulP a c) := by
  unfold mulP addP
  rw [Nat.mul_mod, Nat.mod_mod, ← Nat.mul_mod, Nat.mul_add, Nat.add_mod]
theorem rule_assoc (a b c : Nat) : mulP a (mulP b c) = mulP (mulP a b) c := by
  unfold mulP
  rw [Nat.mul_mod, Nat.mod_mod, ← Nat.mul_mod, Nat.mul_mod (a * b % _), Nat.mod_mod, ← Nat.mul_mod, Nat.mul_assoc]
theorem rule_inv (a n : Nat) (hn : fN = n + 1) (h : a % 2305843009213693951 ≠ 0) : mulP a (powP a n) = 1 := by
  have hf := fermat a h
  unfold mulP powP
  rw [Nat.mul_mod, Nat.mod_mod, ← Nat.mul_mod, Nat.mul_comm, ← Nat.pow_succ]
  rw [hn] at hf
  exact hf
theorem rule_pow (a k m : Nat) : powP a (k + m) = mulP (powP a k) (powP a m) := by
  unfold mulP powP
  rw [Nat.pow_add, Nat.mul_mod]

set_option maxHeartbeats 6400000 in
theorem rules_walk (a b c : Nat) (h1 : a < 18446744073709551616) (h2 : b < 18446744073709551616) (h3 : c < 18446744073709551616) (w : World) : Calls Try.prog 5 #[.int .u64 (a : Int), .int .u64 (b : Int), .int .u64 (c : Int)] w fun e w' => e = .returned (.bool true) ∧ Below w.heap.size w w' := by
  have D1 := add_nat (mulP a b) (mulP a c)
  rw [← rule_dist] at D1
  have D2 := mul_nat (mulP a b) c
  rw [← rule_assoc] at D2
  obtain ⟨k, hk⟩ : ∃ n : Nat, n = b % 1000 := ⟨_, rfl⟩
  obtain ⟨m, hm⟩ : ∃ n : Nat, n = c % 1000 := ⟨_, rfl⟩
  have ek : (b : Int) % 1000 = (k : Int) := by omega
  have em : (c : Int) % 1000 = (m : Int) := by omega
  have k1 : k < 1000 := by omega
  have m1 : m < 1000 := by omega
  clear hk hm
  have D3 := mul_nat (powP a k) (powP a m)
  rw [← rule_pow] at D3
  have l1 := addP_lt b c
  have l2 := mulP_lt a b
  have l3 := mulP_lt a c
  have l4 := mulP_lt b c
  have G := good_yes _ l4
  have l5 := powP_lt a k
  have l6 := powP_lt a m
  have hin := inverse_any a
  have hof := of_nat a
  have HI := Lib.hid (rule_inv a 2305843009213693949 (by decide +kernel))
  by_cases h0 : a % 2305843009213693951 = 0
  · rw [if_pos h0, decide_eq_false (by simpa using h0)] at hin
    rw [h0] at hof
    clear h0 HI
    go_enter Try.func5, Try.ntmps5
    go_wp2_with fail
    refine (add_nat b c _ h2 h3).mono ?_
    rintro e w' ⟨rfl, rfl⟩
    go_wp2_with fail
    refine (mul_nat a (addP b c) _ h1 (by omega)).mono ?_
    rintro e w1 ⟨rfl, b1⟩
    go_wp2_with fail
    refine (mul_nat a b _ h1 h2).mono ?_
    rintro e w2 ⟨rfl, b2⟩
    go_wp2_with fail
    refine (mul_nat a c _ h1 h3).mono ?_
    rintro e w3 ⟨rfl, b3⟩
    go_wp2_with fail
    refine (D1 _ (by omega) (by omega)).mono ?_
    rintro e w' ⟨rfl, rfl⟩
    go_wp2_with fail
    refine (mul_nat b c _ h2 h3).mono ?_
    rintro e w4 ⟨rfl, b4⟩
    go_wp2_with fail
    refine (mul_nat a (mulP b c) _ h1 (by omega)).mono ?_
    rintro e w5 ⟨rfl, b5⟩
    go_wp2_with fail
    refine (mul_nat a b _ h1 h2).mono ?_
    rintro e w6 ⟨rfl, b6⟩
    go_wp2_with fail
    refine (D2 _ (by omega) h3).mono ?_
    rintro e w7 ⟨rfl, b7⟩
    go_wp2_with fail
    refine (hin _ h1).mono ?_
    rintro e w8 ⟨rfl, b8⟩
    go_wp2_with fail
    refine (hof _ h1).mono ?_
    rintro e w' ⟨rfl, rfl⟩
    go_wp2_with fail
    refine (pow_any a (k + m) _ h1 (by omega)).mono ?_
    rintro e w9 ⟨rfl, b9⟩
    go_wp2_with fail
    refine (pow_any a k _ h1 (by omega)).mono ?_
    rintro e w10 ⟨rfl, b10⟩
    go_wp2_with fail
    refine (pow_any a m _ h1 (by omega)).mono ?_
    rintro e w11 ⟨rfl, b11⟩
    go_wp2_with fail
    refine (D3 _ (by omega) (by omega)).mono ?_
    rintro e w12 ⟨rfl, b12⟩
    go_wp2_with fail
    refine (mul_nat b c _ h2 h3).mono ?_
    rintro e w13 ⟨rfl, b13⟩
    go_wp2_with fail
    refine (G _).mono ?_
    rintro e w' ⟨rfl, rfl⟩
    go_wp2_with fail
    refine (lives_any _).mono ?_
    rintro e w14 ⟨rfl, b14⟩
    go_wp2_with fail
    go_ret
    have c2 := b1.trans (b2.mono b1.size)
    have c3 := c2.trans (b3.mono c2.size)
    have c4 := c3.trans (b4.mono c3.size)
    have c5 := c4.trans (b5.mono c4.size)
    have c6 := c5.trans (b6.mono c5.size)
    have c7 := c6.trans (b7.mono c6.size)
    have c8 := c7.trans (b8.mono c7.size)
    have c9 := c8.trans (b9.mono c8.size)
    have c10 := c9.trans (b10.mono c9.size)
    have c11 := c10.trans (b11.mono c10.size)
    have c12 := c11.trans (b12.mono c11.size)
    have c13 := c12.trans (b13.mono c12.size)
    have c14 := c13.trans (b14.mono c13.size)
    exact ⟨rfl, c14⟩
  · rw [if_neg h0, decide_eq_true h0] at hin
    have D4 := mul_nat a (powP a 2305843009213693949)
    rw [HI.out h0] at D4
    have l7 := powP_lt a 2305843009213693949
    obtain ⟨z, hz⟩ : ∃ n : Nat, n = a % 2305843009213693951 := ⟨_, rfl⟩
    rw [← hz] at hof
    generalize powP a 2305843009213693949 = I at hin D4 l7
    have t0 : ((z : Int) != 0) = true := by simp; omega
    clear h0 HI hz
    go_enter Try.func5, Try.ntmps5
    go_wp2_with fail
    refine (add_nat b c _ h2 h3).mono ?_
    rintro e w' ⟨rfl, rfl⟩
    go_wp2_with fail
    refine (mul_nat a (addP b c) _ h1 (by omega)).mono ?_
    rintro e w1 ⟨rfl, b1⟩
    go_wp2_with fail
    refine (mul_nat a b _ h1 h2).mono ?_
    rintro e w2 ⟨rfl, b2⟩
    go_wp2_with fail
    refine (mul_nat a c _ h1 h3).mono ?_
    rintro e w3 ⟨rfl, b3⟩
    go_wp2_with fail
    refine (D1 _ (by omega) (by omega)).mono ?_
    rintro e w' ⟨rfl, rfl⟩
    go_wp2_with fail
    refine (mul_nat b c _ h2 h3).mono ?_
    rintro e w4 ⟨rfl, b4⟩
    go_wp2_with fail
    refine (mul_nat a (mulP b c) _ h1 (by omega)).mono ?_
    rintro e w5 ⟨rfl, b5⟩
    go_wp2_with fail
    refine (mul_nat a b _ h1 h2).mono ?_
    rintro e w6 ⟨rfl, b6⟩
    go_wp2_with fail
    refine (D2 _ (by omega) h3).mono ?_
    rintro e w7 ⟨rfl, b7⟩
    go_wp2_with fail
    refine (hin _ h1).mono ?_
    rintro e w8 ⟨rfl, b8⟩
    go_wp2_with fail
    refine (hof _ h1).mono ?_
    rintro e w' ⟨rfl, rfl⟩
    go_wp2_with fail
    refine (D4 _ h1 (by omega)).mono ?_
    rintro e w9 ⟨rfl, b9⟩
    go_wp2_with fail
    refine (pow_any a (k + m) _ h1 (by omega)).mono ?_
    rintro e w10 ⟨rfl, b10⟩
    go_wp2_with fail
    refine (pow_any a k _ h1 (by omega)).mono ?_
    rintro e w11 ⟨rfl, b11⟩
    go_wp2_with fail
    refine (pow_any a m _ h1 (by omega)).mono ?_
    rintro e w12 ⟨rfl, b12⟩
    go_wp2_with fail
    refine (D3 _ (by omega) (by omega)).mono ?_
    rintro e w13 ⟨rfl, b13⟩
    go_wp2_with fail
    refine (mul_nat b c _ h2 h3).mono ?_
    rintro e w14 ⟨rfl, b14⟩
    go_wp2_with fail
    refine (G _).mono ?_
    rintro e w' ⟨rfl, rfl⟩
    go_wp2_with fail
    refine (lives_any _).mono ?_
    rintro e w15 ⟨rfl, b15⟩
    go_wp2_with fail
    go_ret
    have c2 := b1.trans (b2.mono b1.size)
    have c3 := c2.trans (b3.mono c2.size)
    have c4 := c3.trans (b4.mono c3.size)
    have c5 := c4.trans (b5.mono c4.size)
    have c6 := c5.trans (b6.mono c5.size)
    have c7 := c6.trans (b7.mono c6.size)
    have c8 := c7.trans (b8.mono c7.size)
    have c9 := c8.trans (b9.mono c8.size)
    have c10 := c9.trans (b10.mono c9.size)
    have c11 := c10.trans (b11.mono c10.size)
    have c12 := c11.trans (b12.mono c11.size)
    have c13 := c12.trans (b13.mono c12.size)
    have c14 := c13.trans (b14.mono c13.size)
    have c15 := c14.trans (b15.mono c14.size)
    exact ⟨rfl, c15⟩
end Go.Proofs.Ytifngjpgbjjacaa
