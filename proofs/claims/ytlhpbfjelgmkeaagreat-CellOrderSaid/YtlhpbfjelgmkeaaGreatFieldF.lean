/- Contracts of the reference's Divide and MulDiv, of field.MulDiv, and of both Hashes. Conditions: none (each a uint64). -/
import Derived.Test.YtlhpbfjelgmkeaaGreatFieldE
set_option maxRecDepth 100000
namespace Go.Proofs.YtlhpbfjelgmkeaaGreat
open Go.RowKit

theorem ret_three {k : IntKind} {a b c d : Int} {e : Bool} (h : a = b) (h2 : c = d) : Ending.returned (.tuple #[.int k a, .int k c, .bool e]) = .returned (.tuple #[.int k b, .int k d, .bool e]) := by rw [h, h2]

def mdQ (a b c : Nat) : Nat := if c ≤ a * b / 18446744073709551616 then 0 else a * b / c
def mdB (a b c : Nat) : Bool := decide (a * b / 18446744073709551616 < c)
theorem md_words (a b : Nat) : a * b / 18446744073709551616 * 18446744073709551616 + a * b % 18446744073709551616 = a * b := by omega

set_option maxHeartbeats 1600000 in
theorem mulDiv_any (a b c : Nat) (w : World) (h1 : a < 18446744073709551616) (h2 : b < 18446744073709551616) (h3 : c < 18446744073709551616) : Calls Tryz.prog 136 #[.int .u64 (a : Int), .int .u64 (b : Int), .int .u64 (c : Int)] w fun e w' => e = .returned (.tuple #[.int .u64 (mdQ a b c : Int), .bool (mdB a b c)]) ∧ ∃ n, w' = w.drewN n := by
  have hW := md_words a b
  have hQ : mdQ a b c = if c ≤ a * b / 18446744073709551616 then 0 else a * b / c := rfl
  have hB : mdB a b c = decide (a * b / 18446744073709551616 < c) := rfl
  have hl : a * b % 18446744073709551616 < 18446744073709551616 := Nat.mod_lt _ (by decide)
  have HM := Tryz.bits_Mul64 a b h1 h2
  obtain ⟨H, hH⟩ : ∃ n : Nat, n = a * b / 18446744073709551616 := ⟨_, rfl⟩
  obtain ⟨L, hL⟩ : ∃ n : Nat, n = a * b % 18446744073709551616 := ⟨_, rfl⟩
  rw [← hH, ← hL] at HM hW
  rw [← hH] at hQ hB
  rw [← hL] at hl
  rw [← hW] at hQ
  by_cases hc : c ≤ H
  · have t0 : decide ((c : Int) ≤ (H : Int)) = true := decide_eq_true (by omega)
    rw [hQ, hB, if_pos hc, decide_eq_false (by omega)]
    clear hQ hB hW hH hL
    go_enter Tryz.func136, Tryz.ntmps136
    go_wp2_with fail
    refine (HM _).mono ?_
    rintro e w' ⟨rfl, rfl⟩
    clear HM
    go_wp2_with fail
    go_ret2
    exact ⟨rfl, 0, (World.drewN_zero _).symm⟩
  · have t0 : decide ((c : Int) ≤ (H : Int)) = false := decide_eq_false (by omega)
    rw [hQ, hB, if_neg hc, decide_eq_true (by omega)]
    have HD := div_any H L c
    obtain ⟨A, hA⟩ : ∃ n : Nat, n = (H * 18446744073709551616 + L) / c := ⟨_, rfl⟩
    obtain ⟨B, hB'⟩ : ∃ n : Nat, n = (H * 18446744073709551616 + L) % c := ⟨_, rfl⟩
    rw [← hA]
    rw [← hA, ← hB'] at HD
    clear hA hB'
    clear hQ hB hW hH hL
    go_enter Tryz.func136, Tryz.ntmps136
    go_wp2_with fail
    refine (HM _).mono ?_
    rintro e w' ⟨rfl, rfl⟩
    clear HM
    go_wp2_with fail
    refine (HD _ hl h3 (by omega)).mono ?_
    rintro e w1 ⟨rfl, n, rfl⟩
    clear HD
    go_wp2_with fail
    go_ret2
    exact ⟨rfl, n, rfl⟩
end Go.Proofs.YtlhpbfjelgmkeaaGreat
